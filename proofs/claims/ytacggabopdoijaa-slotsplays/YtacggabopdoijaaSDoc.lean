/- The walks of the document's own Put, Page and Drop (layer 9). -/
import Derived.Test.YtacggabopdoijaaSLog
import Derived.Deep.RegionWith
import Derived.BigRegion
namespace Go.Proofs.Ytacggabopdoijaa
open Go.RowKit

theorem Try.sizeD : (Try.prog.info? 42).map (fun i => i.size) = some 4 := by kernel_rfl
/-- A call's two boxes: what was handed in, and the answer. -/
structure Bx (w w2 : World) (fb rb : Nat) (X : Array Value) : Prop where
  x : w2.heap[fb]? = some (.cells X 42 (0, 0))
  r : w2.heap[rb]? = some (.cells #[.int .i64 0, .slice none 0 0, .int .i64 0, .slice none 0 0] 42 (0, 0))
  lo : w.heap.size ≤ fb ∧ w.heap.size ≤ rb ∧ fb ≠ rb
  bel : Below w.heap.size w w2
section
variable {fb rb : Nat} {w w2 w3 : World} {X : Array Value}
theorem Bx.made (w : World) (X : Array Value) :
    Bx w ((w.alloc (.cells X 42)).alloc (.cells #[.int .i64 0, .slice none 0 0, .int .i64 0, .slice none 0 0] 42)) w.heap.size (w.heap.size + 1) X := by
  refine ⟨?_, ?_, by omega, ((Below.refl _ w).alloc (Nat.le_refl _) _).alloc (by simp) _⟩
  · rw [Below.heap_alloc _ _ _ (by simp)]; exact heap_alloc_new w _
  · have := heap_alloc_new (w.alloc (.cells X 42)) (.cells #[.int .i64 0, .slice none 0 0, .int .i64 0, .slice none 0 0] 42)
    simpa using this
theorem Bx.below (h : Bx w w2 fb rb X) (hb : Below w2.heap.size w2 w3) : Bx w w3 fb rb X :=
  ⟨(hb.block fb (Array.getElem?_eq_some_iff.1 h.x).1).trans h.x, (hb.block rb (Array.getElem?_eq_some_iff.1 h.r).1).trans h.r, h.lo, h.bel.trans (hb.mono h.bel.size)⟩
theorem Bx.xc (h : Bx w w2 fb rb X) (j : Nat) : w2.cell? ⟨fb, j, none⟩ = X[j]? := cell_of_row w2 fb j _ _ _ h.x
theorem Bx.r0 (h : Bx w w2 fb rb X) : w2.cell? ⟨rb, 0, none⟩ = some (.int .i64 0) := by rw [cell_of_row w2 rb 0 _ _ _ h.r]; rfl
theorem Bx.r1 (h : Bx w w2 fb rb X) : w2.cell? ⟨rb, 1, none⟩ = some (.slice none 0 0) := by rw [cell_of_row w2 rb 1 _ _ _ h.r]; rfl
theorem Bx.r2 (h : Bx w w2 fb rb X) : w2.cell? ⟨rb, 2, none⟩ = some (.int .i64 0) := by rw [cell_of_row w2 rb 2 _ _ _ h.r]; rfl
theorem Bx.r3 (h : Bx w w2 fb rb X) : w2.cell? ⟨rb, 3, none⟩ = some (.slice none 0 0) := by rw [cell_of_row w2 rb 3 _ _ _ h.r]; rfl
theorem Bx.fr (h : Bx w w2 fb rb X) (j : Nat) : w2.frozen? ⟨rb, j, none⟩ = false := frozen_of_row w2 rb j _ _ h.r
theorem Bx.fx (h : Bx w w2 fb rb X) (j : Nat) : w2.frozen? ⟨fb, j, none⟩ = false := frozen_of_row w2 fb j _ _ h.x
theorem Bx.set (h : Bx w w2 fb rb X) (j : Nat) (u : Value) : Bx w (w2.setCell ⟨fb, j, none⟩ u) fb rb (X.setIfInBounds j u) := by
  obtain ⟨l1, l2, l3⟩ := h.lo
  exact ⟨heap_setCell_same w2 fb j _ _ u h.x, by rw [Below.heap_setCell _ _ _ _ (Ne.symm l3)]; exact h.r, h.lo, h.bel.setCell (p := ⟨fb, j, none⟩) l1 _⟩
theorem Bx.fin (h : Bx w w2 fb rb X) (u0 u1 u2 u3 : Value) : Below w.heap.size w ((((w2.setCell ⟨rb, 0, none⟩ u0).setCell ⟨rb, 1, none⟩ u1).setCell ⟨rb, 2, none⟩ u2).setCell ⟨rb, 3, none⟩ u3) := res4_below h.bel h.lo.2.1
end

theorem Try.info72 : (Try.prog.info? 72).map (fun i => (i.zero, i.size, i.bytes)) = some (some (.agg #[.int .i64 0, .slice none 0 0]), 2, 32) := by kernel_rfl
theorem pgc_one {C : Nat} {w : World} {vL : Value} {L : List Pt} (h : LogAt C w vL L) : ∀ u ∈ pgc L, u.oneCell' = true := by
  intro u hu
  obtain ⟨t, ht, hu⟩ := List.mem_flatMap.1 hu
  simp at hu
  rcases hu with rfl | rfl
  · rfl
  · exact row_one (h.each t ht).1
theorem frst_all {x : List Bool} {n : Nat} (h : n < frst x) : hasB x (n : Int) = true := by
  rw [hasB_nat]
  have h1 : n < x.length := Nat.lt_of_lt_of_le h (frst_le x)
  have h2 := List.not_of_lt_findIdx (p := fun b : Bool => !b) (xs := x) h
  rw [List.getD_eq_getElem?_getD, List.getElem?_eq_getElem h1, Option.getD_some]
  simpa using h2
theorem frst_not (x : List Bool) : hasB x (frst x : Int) = false := by
  rcases Nat.lt_or_ge (frst x) x.length with h | h
  · exact frst_has h
  · exact hasB_no (by simp only [mayB, decide_eq_false_iff_not]; omega)
theorem Same.at_in {x : List Bool} {pg : Nat → List Nat} {L : List Pt} (h : Same x pg L) {n : Int} (hn : hasB x n = true) : atI L n = (ix L n : Int) ∧ ix L n < L.length := by
  have h1 := h.has n
  rw [hn] at h1
  have h2 := of_decide_eq_true h1.symm
  exact ⟨by rw [atI, if_pos h2], h2⟩
theorem Same.at_out {x : List Bool} {pg : Nat → List Nat} {L : List Pt} (h : Same x pg L) {n : Int} (hn : hasB x n = false) : atI L n = -1 := by
  have h1 := h.has n
  rw [hn] at h1
  rw [atI, if_neg (of_decide_eq_false h1.symm)]
/-- What the document's Put answers, and leaves. -/
def DocPut (C m k q : Nat) (zs x : List Bool) (pg : Nat → List Nat) (b : List Nat) (L : List Pt) (vz : Value) (w : World) (e : Ending) (w' : World) : Prop :=
  ∃ vL' L', e = .returned (.tuple #[.agg #[.int .i64 (m : Int), vz, .int .i64 (puK q zs k x : Nat), vL'], .int .i64 (puN q zs k x : Nat), .int .i64 (puE q zs k x : Nat)]) ∧ LogAt C w' vL' L' ∧ Same (puX q zs k x) (puG q zs k x pg b) L' ∧ L'.length ≤ L.length + 1 ∧ Below w.heap.size w w'
theorem DocPut.err {C m k q : Nat} {zs x : List Bool} {pg : Nat → List Nat} {b : List Nat} {L : List Pt} {vz vL : Value} {w w' : World} {e : Ending} {E K : Nat} (he : puE q zs k x = E) (h0 : E ≠ 0) (hk : puK q zs k x = K)
    (h1 : e = .returned (.tuple #[.agg #[.int .i64 (m : Int), vz, .int .i64 (K : Int), vL], .int .i64 0, .int .i64 (E : Int)])) (h2 : LogAt C w' vL L) (h3 : Same x pg L) (h4 : Below w.heap.size w w') : DocPut C m k q zs x pg b L vz w e w' := by
  subst he
  subst hk
  obtain ⟨e3, e4, e5⟩ := pu_err (pg := pg) (page := b) h0
  refine ⟨vL, L, by rw [h1, e3]; rfl, h2, by rw [e4, e5]; exact h3, by omega, h4⟩
set_option maxRecDepth 100000 in
set_option maxHeartbeats 4000000 in
theorem refPut_any {C m k q : Nat} {a0 : Option Addr} {L0 c0 : Nat} {zs x : List Bool} {pg : Nat → List Nat} {vL vb : Value} {L : List Pt} {b : List Nat} (w : World) (h : LogAt C w vL L) (hL : L.length ≤ 900) (hz : BoolsAt w a0 L0 c0 zs) (hk : k < 800000000) (hC : C ≤ w.heap.size) (hs : Same x pg L) (hx : x.length = m) (hm : m ≤ 128) (hb : SrcAt w vb q 1 (bv b)) (hq : q ≤ maxLen) :
    Calls Try.prog 35 #[.agg #[.int .i64 (m : Int), .slice a0 L0 c0, .int .i64 (k : Int), vL], vb] w (DocPut C m k q zs x pg b L (.slice a0 L0 c0) w) := by
  have hbl := src_len hb
  obtain ⟨av, cv, rfl⟩ := src_slice hb
  unfold maxLen at hq
  have HS0 : Hid (SrcAt w (.slice av q cv) q 1 (bv b)) := hb
  have HSM : Hid (Same x pg L) := hs
  clear hb hs
  obtain ⟨aL, cL, rfl⟩ := row_slice h.row
  have hbx := Bx.made w #[.int .i64 (m : Int), .slice a0 L0 c0, .int .i64 (k : Int), .slice aL L.length cL]
  have HBX : Hid (Bx w _ w.heap.size (w.heap.size + 1) #[.int .i64 (m : Int), .slice a0 L0 c0, .int .i64 (k : Int), .slice aL L.length cL]) := hbx
  have HBO : Hid (BoolsAt _ a0 L0 c0 zs) := hz.below hbx.bel
  have HLG : Hid (LogAt C _ (.slice aL L.length cL) L) := h.below hbx.bel
  clear hbx h hz
  by_cases h4 : q = 4096
  · subst h4
    have hfl := frst_le x
    go_enter Try.func35, Try.ntmps35
    go_upto_region 1 with (fail)
    generalize (w.alloc (.cells #[.int .i64 (m : Int), .slice a0 L0 c0, .int .i64 (k : Int), .slice aL L.length cL] 42)).alloc (.cells #[.int .i64 0, .slice none 0 0, .int .i64 0, .slice none 0 0] 42) = w1 at *
    generalize hrb : w.heap.size + 1 = rb at *
    generalize hfb : w.heap.size = fb at *
    have HFB : Hid (w.heap.size = fb) := hfb
    clear hrb hfb
    have HXX := HBX
    have nfr : fb ≠ rb := HBX.out.lo.2.2
    have x0 : w1.cell? ⟨fb, 0, none⟩ = some (.int .i64 (m : Int)) := (HXX.out.xc 0).trans rfl
    have x1 : w1.cell? ⟨fb, 1, none⟩ = some (.slice a0 L0 c0) := (HXX.out.xc 1).trans rfl
    have x2 : w1.cell? ⟨fb, 2, none⟩ = some (.int .i64 (k : Int)) := (HXX.out.xc 2).trans rfl
    have x3 : w1.cell? ⟨fb, 3, none⟩ = some (.slice aL L.length cL) := (HXX.out.xc 3).trans rfl
    have r0 := HXX.out.r0
    have r1 := HXX.out.r1
    have r2 := HXX.out.r2
    have r3 := HXX.out.r3
    have f0 := HXX.out.fr 0
    have f1 := HXX.out.fr 1
    have f2 := HXX.out.fr 2
    have f3 := HXX.out.fr 3
    have fx := HXX.out.fx 2
    go_wp2_with fail
    clear HXX x0 x1 x2 x3 r0 r1 r2 r3 f0 f1 f2 f3 fx
    have HW1 : Hid (Below w1.heap.size w1 w1) := Below.refl _ _
    obtain ⟨n0, hn0⟩ : ∃ n0, frst x = n0 := ⟨_, rfl⟩
    have HN0 : Hid (frst x = n0) := hn0
    rw [hn0, hx] at hfl
    clear hn0
    go_loopg [7] (n0 + 1) (fun gk i wr => ∃ n : Nat, n ≤ n0 ∧ gk = n0 + 1 - n ∧ i = .int .i64 n ∧ Below w1.heap.size w1 wr)
    case atStart => exact ⟨0, Nat.zero_le _, rfl, rfl, HW1.out⟩
    case round =>
      obtain ⟨n, hn, rfl, rfl, hB⟩ := hrel
      have HB : Hid (Below w1.heap.size w1 wr) := hB
      clear hB HW1
      have HXX : Hid (Bx w wr fb rb #[.int .i64 (m : Int), .slice a0 L0 c0, .int .i64 (k : Int), .slice aL L.length cL]) := HBX.out.below HB.out
      have x0 : wr.cell? ⟨fb, 0, none⟩ = some (.int .i64 (m : Int)) := (HXX.out.xc 0).trans rfl
      have x1 : wr.cell? ⟨fb, 1, none⟩ = some (.slice a0 L0 c0) := (HXX.out.xc 1).trans rfl
      have x2 : wr.cell? ⟨fb, 2, none⟩ = some (.int .i64 (k : Int)) := (HXX.out.xc 2).trans rfl
      have x3 : wr.cell? ⟨fb, 3, none⟩ = some (.slice aL L.length cL) := (HXX.out.xc 3).trans rfl
      have r0 := HXX.out.r0
      have r1 := HXX.out.r1
      have r2 := HXX.out.r2
      have r3 := HXX.out.r3
      have f0 := HXX.out.fr 0
      have f1 := HXX.out.fr 1
      have f2 := HXX.out.fr 2
      have f3 := HXX.out.fr 3
      have fx := HXX.out.fx 2
      by_cases hlt : n < n0
      · obtain ⟨e1, e2⟩ := HSM.out.at_in (frst_all (x := x) (n := n) (by rw [HN0.out]; exact hlt))
        have HE1 : Hid (atI L (n : Int) = (ix L (n : Int) : Int)) := e1
        generalize ix L (n : Int) = ii at *
        clear e1
        go_wp2_with fail
        refine (refAt_any (n : Int) _ (HLG.out.below HB.out) (by omega)).mono ?_
        rw [HE1.out]
        rintro e w2 ⟨rfl, b2⟩
        have HB2 : Hid (Below w1.heap.size w1 w2) := HB.out.trans (b2.mono HB.out.size)
        clear b2 r0 r1 r2 r3 f0 f1 f2 f3 fx x0 x1 x2 x3
        go_wp2
        go_roundg (n0 + 1 - (n + 1))
        case measure => omega
        case rel => exact ⟨n + 1, by omega, rfl, by go_num, HB2.out⟩
      · have e : n = n0 := by omega
        subst e
        have HE1 : Hid (atI L (n : Int) = -1) := by have := HSM.out.at_out (frst_not x); rw [HN0.out] at this; exact this
        go_wp2_with fail
        refine (refAt_any (n : Int) _ (HLG.out.below HB.out) (by omega)).mono ?_
        rw [HE1.out]
        rintro e w2 ⟨rfl, b2⟩
        have HB2 : Hid (Below w1.heap.size w1 w2) := HB.out.trans (b2.mono HB.out.size)
        clear b2 r0 r1 r2 r3 f0 f1 f2 f3 fx x0 x1 x2 x3 HXX
        have HX2 : Hid (Bx w w2 fb rb #[.int .i64 (m : Int), .slice a0 L0 c0, .int .i64 (k : Int), .slice aL L.length cL]) := HBX.out.below HB2.out
        have HL2 : Hid (LogAt C w2 (.slice aL L.length cL) L) := HLG.out.below HB2.out
        have HBO2 : Hid (BoolsAt w2 a0 L0 c0 zs) := HBO.out.below HB2.out
        have HXX := HX2
        have x0 : w2.cell? ⟨fb, 0, none⟩ = some (.int .i64 (m : Int)) := (HXX.out.xc 0).trans rfl
        have x1 : w2.cell? ⟨fb, 1, none⟩ = some (.slice a0 L0 c0) := (HXX.out.xc 1).trans rfl
        have x2 : w2.cell? ⟨fb, 2, none⟩ = some (.int .i64 (k : Int)) := (HXX.out.xc 2).trans rfl
        have x3 : w2.cell? ⟨fb, 3, none⟩ = some (.slice aL L.length cL) := (HXX.out.xc 3).trans rfl
        have r0 := HXX.out.r0
        have r1 := HXX.out.r1
        have r2 := HXX.out.r2
        have r3 := HXX.out.r3
        have f0 := HXX.out.fr 0
        have f1 := HXX.out.fr 1
        have f2 := HXX.out.fr 2
        have f3 := HXX.out.fr 3
        have fx := HXX.out.fx 2
        clear HXX
        by_cases hnm : n < m
        · have i2 : ¬ (m : Int) ≤ (n : Int) := by omega
          have HFB1 : Hid (frstB x = true) := by show _ = _; rw [frstB, HN0.out]; exact decide_eq_true (by omega)
          go_wp2_with fail
          refine (refAsks_any (k := k) _ HBO2.out (by omega)).mono ?_
          rintro e w3 ⟨rfl, b3⟩
          have HX3 : Hid (Bx w w3 fb rb #[.int .i64 (m : Int), .slice a0 L0 c0, .int .i64 (k : Int), .slice aL L.length cL]) := HX2.out.below b3
          have HL3 : Hid (LogAt C w3 (.slice aL L.length cL) L) := HL2.out.below b3
          have hak := askN_le zs k
          clear b3 r0 r1 r2 r3 f0 f1 f2 f3 fx x0 x1 x2 x3
          have HXX := HX3
          have x0 : w3.cell? ⟨fb, 0, none⟩ = some (.int .i64 (m : Int)) := (HXX.out.xc 0).trans rfl
          have x1 : w3.cell? ⟨fb, 1, none⟩ = some (.slice a0 L0 c0) := (HXX.out.xc 1).trans rfl
          have x2 : w3.cell? ⟨fb, 2, none⟩ = some (.int .i64 (k : Int)) := (HXX.out.xc 2).trans rfl
          have x3 : w3.cell? ⟨fb, 3, none⟩ = some (.slice aL L.length cL) := (HXX.out.xc 3).trans rfl
          have r0 := HXX.out.r0
          have r1 := HXX.out.r1
          have r2 := HXX.out.r2
          have r3 := HXX.out.r3
          have f0 := HXX.out.fr 0
          have f1 := HXX.out.fr 1
          have f2 := HXX.out.fr 2
          have f3 := HXX.out.fr 3
          have fx := HXX.out.fx 2
          clear HXX
          cases hab : askB zs k with
          | true =>
            obtain ⟨e1, e2⟩ := pu_bad HFB1.out hab
            have E1 : Hid (puE 4096 zs k x = 12) := e1
            have E2 : Hid (puK 4096 zs k x = k + askN zs k) := e2
            clear e1 e2
            generalize askN zs k = ak at *
            go_wp2
            have HB4 := HX3.out.set 2 (.int .i64 ((k : Int) + (ak : Int)))
            have HL4 : LogAt C (w3.setCell ⟨fb, 2, none⟩ (.int .i64 ((k : Int) + (ak : Int)))) (.slice aL L.length cL) L := HL3.out.tag HX3.out.x (fun g hg => Below.heap_setCell _ _ _ _ hg)
            refine bodyPost_ret (results_cell_tmp2 Try.results35 _ _ rb _ _ _ _ rfl (res4_kept HB4.r) Try.underlying42 rfl Try.sizeD) rfl (DocPut.err E1.out (by decide) E2.out rfl (HL4.tag HB4.r (fun g hg => res4_block hg)) HSM.out (HB4.fin _ _ _ _))
          | false =>
            obtain ⟨e1, e2⟩ := pu_fine HFB1.out hab
            obtain ⟨e3, e4, e5⟩ := pu_ok (pg := pg) (page := b) e1
            rw [HN0.out] at e3 e4 e5
            have HWR : Hid (∀ v, Same (puX 4096 zs k x) (puG 4096 zs k x pg b) (L ++ [⟨(n : Int), v, b⟩])) := by
              intro v
              rw [e4, e5]
              exact HSM.out.put (by omega) (by have := frst_not x; rw [HN0.out] at this; exact this) v b
            have E1 : Hid (puE 4096 zs k x = 0 ∧ puK 4096 zs k x = k + 8 ∧ puN 4096 zs k x = n) := ⟨e1, e2, e3⟩
            have HAN : Hid (askN zs k = 8) := (ask_fine (ask_all hab)).2
            have HBL : Hid (b.length = 4096) := hbl
            obtain ⟨i2', hi2, hz0, hz1, hz2⟩ := info_parts Try.info5
            obtain ⟨j0, hj, hy0, hy1, hy2⟩ := info_parts Try.info72
            rw [HAN.out]
            have HSW : Hid (∀ {w9 : World}, Below w.heap.size w w9 → SrcAt w9 (.slice av 4096 cv) 4096 1 (bv b)) := fun hb => HS0.out.later hb
            clear e1 e2 e3 e4 e5 hbl hab hak HX2 HL2 HBO2 HLG HBO HBX HB HB2 HS0
            go_upto_region 12 with (fail)
            have hb4 := HX3.out.set 2 (.int .i64 ((k : Int) + 8))
            have HL4 : Hid (LogAt C (w3.setCell ⟨fb, 2, none⟩ (.int .i64 ((k : Int) + 8))) (.slice aL L.length cL) L) := HL3.out.tag HX3.out.x (fun g hg => Below.heap_setCell _ _ _ _ hg)
            have HS4 : Hid (SrcAt (w3.setCell ⟨fb, 2, none⟩ (.int .i64 ((k : Int) + 8))) (.slice av 4096 cv) 4096 1 (bv b)) := HSW.out hb4.bel
            generalize w3.setCell ⟨fb, 2, none⟩ (.int .i64 ((k : Int) + 8)) = w4 at *
            have HX4 : Hid (Bx w w4 fb rb #[.int .i64 (m : Int), .slice a0 L0 c0, .int .i64 ((k : Int) + 8), .slice aL L.length cL]) := hb4
            have x3' : w4.cell? ⟨fb, 3, none⟩ = some (.slice aL L.length cL) := (hb4.xc 3).trans rfl
            have n1 : fb < w4.heap.size := (Array.getElem?_eq_some_iff.1 hb4.x).1
            have n2 : fb ≠ w4.heap.size := by omega
            have HCW : Hid (C ≤ w4.heap.size) := by have := hb4.bel.size; have := HFB.out; show _ ≤ _; omega
            have ba : Below w4.heap.size w4 (w4.alloc (.cells #[] 72)) := (Below.refl _ w4).alloc (Nat.le_refl _) _
            have HSL : Hid (SrcAt (w4.alloc (.cells #[] 72)) (.slice aL L.length cL) L.length 2 (pgc L)) := src_row (HL4.out.below ba).row
            have HON : Hid (∀ u ∈ pgc L, u.oneCell' = true) := pgc_one HL4.out
            clear hb4 x0 x1 x2 x3 r0 r1 r2 r3 f0 f1 f2 f3 fx ba hC HX3 HL3 HSW
            go_wp2_with (at_builtin; refine wpList_append_src rfl _ _ 40 rfl w4.heap.size 72 j0 (.agg #[.int .i64 0, .slice none 0 0]) 2 32 Try.underlying40 hj hy0 hy1 hy2 rfl (by decide) _ _ _ rfl (World.ownsRow_made w4 #[] 0 (Nat.le_refl _) (by unfold maxLen; omega) rfl) _ L.length (pgc L) rfl HSL.out HON.out ?c3 ?c4 ?c5 ?_)
            case c3 => unfold maxLen; omega
            case c4 => omega
            case c5 => simp
            intro v5 w5 own5 gr5
            have b5 : Below w4.heap.size w4 w5 := ((Below.refl _ w4).alloc (Nat.le_refl _) _).grown gr5 (by simp) (fun i hi => by simp [Value.ownBlock] at hi; omega)
            have own5' : w5.ownsRow w4.heap.size 72 2 v5 L.length (pgc L) := by simpa using own5
            have HO5 : Hid (w5.ownsRow w4.heap.size 72 2 v5 L.length (pgc L)) := own5'
            have HB5 : Hid (Below w4.heap.size w4 w5) := b5
            obtain ⟨a5, c5, rfl⟩ := row_slice own5'
            have HS5 : Hid (SrcAt (w5.alloc (.cells #[] 5)) (.slice av 4096 cv) 4096 1 (bv b)) := HS4.out.later (b5.alloc b5.size _)
            clear own5 gr5 b5 own5' x3' n1 n2
            go_wp2_with (at_builtin; refine wpList_append_src rfl _ _ 28 rfl w5.heap.size 5 i2' (.int .u8 0) 1 1 Try.underlying28 hi2 hz0 hz1 hz2 rfl (by decide) _ _ _ rfl (World.ownsRow_made w5 #[] 0 (Nat.le_refl _) (by unfold maxLen; omega) rfl) _ 4096 (bv b) rfl HS5.out (bv_one _) ?d3 ?d4 ?d5 ?_)
            case d3 => unfold maxLen; omega
            case d4 => omega
            case d5 => simp
            intro v6 w6 own6 gr6
            have b6 : Below w5.heap.size w5 w6 := ((Below.refl _ w5).alloc (Nat.le_refl _) _).grown gr6 (by simp) (fun i hi => by simp [Value.ownBlock] at hi; omega)
            have own6' : w6.ownsRow w5.heap.size 5 1 v6 4096 (bv b) := by simpa using own6
            have HO6 : Hid (w6.ownsRow w5.heap.size 5 1 v6 4096 (bv b)) := own6'
            have HB6 : Hid (Below w5.heap.size w5 w6) := b6
            have HO56 : Hid (w6.ownsRow w4.heap.size 72 2 (.slice a5 L.length c5) L.length (pgc L)) := row_below HO5.out b6
            have HLT : Hid (∀ j, (Value.slice a5 L.length c5).ownBlock = some j → w4.heap.size ≤ j ∧ j < w5.heap.size) := fun j hj => HO5.out.lt j hj
            obtain ⟨a6, c6, rfl⟩ := row_slice own6'
            have HS6 : Hid (w4.heap.size ≤ w6.heap.size) := Nat.le_trans HB5.out.size b6.size
            clear own6 gr6 b6 own6'
            go_wp2_with (at_builtin; refine wpList_append_src rfl _ _ 40 rfl w4.heap.size 72 j0 (.agg #[.int .i64 0, .slice none 0 0]) 2 32 Try.underlying40 hj hy0 hy1 hy2 rfl (by decide) _ _ _ rfl (HO56.out.alloc _) _ 1 [.int .i64 (n : Int), .slice a6 4096 c6] rfl (two_new w6 _ _ _) ?e2 ?e3 ?e4 ?e5 ?_)
            case e2 =>
              intro u hu
              simp at hu
              rcases hu with rfl | rfl <;> rfl
            case e3 => unfold maxLen; omega
            case e4 => omega
            case e5 => have := HS6.out; simp; omega
            intro v7 w7 own7 gr7
            have b7 : Below w4.heap.size w4 w7 := ((HB5.out.trans (HB6.out.mono HB5.out.size)).alloc HS6.out _).grown gr7 (by have := HS6.out; simp; omega) (fun i hi => (HLT.out i hi).1)
            have HO7 : Hid (w7.ownsRow w4.heap.size 72 2 v7 (L.length + 1) (pgc L ++ [.int .i64 (n : Int), .slice a6 4096 c6])) := own7
            have HR7 : Hid (w7.ownsRow w5.heap.size 5 1 (.slice a6 4096 c6) 4096 (bv b)) := by
              have h1 := HO6.out.alloc (.cells #[.int .i64 (n : Int), .slice a6 4096 c6] 72)
              refine ⟨h1.1, ?_⟩
              rcases h1.2 with h2 | ⟨g, cap, cur, h2, h3, h4, r⟩
              · exact .inl h2
              · refine .inr ⟨g, cap, cur, h2, h3, ?_, r⟩
                rw [gr7.block g (Array.getElem?_eq_some_iff.1 h4).1 (fun e => by have := (HLT.out g e.symm).2; omega)]
                exact h4
            have HB7 : Hid (Below w4.heap.size w4 w7) := b7
            have HX7 : Hid (Bx w w7 fb rb #[.int .i64 (m : Int), .slice a0 L0 c0, .int .i64 ((k : Int) + 8), .slice aL L.length cL]) := HX4.out.below b7
            obtain ⟨a7, c7, rfl⟩ := row_slice own7
            have HXX := HX7
            have x0 : w7.cell? ⟨fb, 0, none⟩ = some (.int .i64 (m : Int)) := (HXX.out.xc 0).trans rfl
            have x1 : w7.cell? ⟨fb, 1, none⟩ = some (.slice a0 L0 c0) := (HXX.out.xc 1).trans rfl
            have x2 : w7.cell? ⟨fb, 2, none⟩ = some (.int .i64 ((k : Int) + 8)) := (HXX.out.xc 2).trans rfl
            have x3 : w7.cell? ⟨fb, 3, none⟩ = some (.slice aL L.length cL) := (HXX.out.xc 3).trans rfl
            have r0 := HXX.out.r0
            have r1 := HXX.out.r1
            have r2 := HXX.out.r2
            have r3 := HXX.out.r3
            have f0 := HXX.out.fr 0
            have f1 := HXX.out.fr 1
            have f2 := HXX.out.fr 2
            have f3 := HXX.out.fr 3
            have fx := HXX.out.fx 2
            have fx3 := HX7.out.fx 3
            clear own7 gr7 b7 HXX
            go_wp2
            have hb8 := HX7.out.set 3 (.slice a7 (L.length + 1) c7)
            refine bodyPost_ret (results_cell_tmp2 Try.results35 _ _ rb _ _ _ _ rfl (res4_kept hb8.r) Try.underlying42 rfl Try.sizeD) rfl ⟨_, L ++ [⟨(n : Int), .slice a6 4096 c6, b⟩], by rw [E1.out.1, E1.out.2.1, E1.out.2.2]; rfl, ⟨?_, ?_⟩, HWR.out _, by simp, hb8.fin _ _ _ _⟩
            · rw [pgc_app, List.length_append]
              exact rowMono (row_tag (row_tag HO7.out HX7.out.x (by decide) (fun g hg => Below.heap_setCell _ _ _ _ hg)) hb8.r (by decide) (fun g hg => res4_block hg)) HCW.out
            · intro t ht
              rw [List.mem_append, List.mem_singleton] at ht
              rcases ht with ht | rfl
              · have h1 := (HL4.out.below HB7.out).each t ht
                exact ⟨row_tag (row_tag h1.1 HX7.out.x (by decide) (fun g hg => Below.heap_setCell _ _ _ _ hg)) hb8.r (by decide) (fun g hg => res4_block hg), h1.2⟩
              · exact ⟨rowMono (row_tag (row_tag HR7.out HX7.out.x (by decide) (fun g hg => Below.heap_setCell _ _ _ _ hg)) hb8.r (by decide) (fun g hg => res4_block hg)) (by have := HCW.out; have := HB5.out.size; omega), HBL.out⟩
        · have i2 : (m : Int) ≤ (n : Int) := by omega
          have HFB1 : Hid (frstB x = false) := by show _ = _; rw [frstB, HN0.out]; exact decide_eq_false (by omega)
          obtain ⟨e1, e2⟩ := pu_full (zs := zs) (k := k) HFB1.out
          have E1 : Hid (puE 4096 zs k x = 11) := e1
          have E2 : Hid (puK 4096 zs k x = k) := e2
          clear e1 e2
          go_wp2
          refine bodyPost_ret (results_cell_tmp2 Try.results35 _ _ rb _ _ _ _ rfl (res4_kept HX2.out.r) Try.underlying42 rfl Try.sizeD) rfl (DocPut.err E1.out (by decide) E2.out rfl (HL2.out.tag HX2.out.r (fun g hg => res4_block hg)) HSM.out (HX2.out.fin _ _ _ _))
  · have h6 : ((q : Int) != 4096) = true := by rw [bne_iff_ne]; omega
    obtain ⟨e1, e2⟩ := pu_arg (zs := zs) (k := k) (x := x) h4
    have E1 : Hid (puE q zs k x = 1) := e1
    have E2 : Hid (puK q zs k x = k) := e2
    clear e1 e2 h4
    go_enter Try.func35, Try.ntmps35
    go_upto_region 1 with (fail)
    generalize (w.alloc (.cells #[.int .i64 (m : Int), .slice a0 L0 c0, .int .i64 (k : Int), .slice aL L.length cL] 42)).alloc (.cells #[.int .i64 0, .slice none 0 0, .int .i64 0, .slice none 0 0] 42) = w1 at *
    generalize hrb : w.heap.size + 1 = rb at *
    generalize hfb : w.heap.size = fb at *
    have HFB : Hid (w.heap.size = fb) := hfb
    clear hrb hfb
    have HXX := HBX
    have nfr : fb ≠ rb := HBX.out.lo.2.2
    have x0 : w1.cell? ⟨fb, 0, none⟩ = some (.int .i64 (m : Int)) := (HXX.out.xc 0).trans rfl
    have x1 : w1.cell? ⟨fb, 1, none⟩ = some (.slice a0 L0 c0) := (HXX.out.xc 1).trans rfl
    have x2 : w1.cell? ⟨fb, 2, none⟩ = some (.int .i64 (k : Int)) := (HXX.out.xc 2).trans rfl
    have x3 : w1.cell? ⟨fb, 3, none⟩ = some (.slice aL L.length cL) := (HXX.out.xc 3).trans rfl
    have r0 := HXX.out.r0
    have r1 := HXX.out.r1
    have r2 := HXX.out.r2
    have r3 := HXX.out.r3
    have f0 := HXX.out.fr 0
    have f1 := HXX.out.fr 1
    have f2 := HXX.out.fr 2
    have f3 := HXX.out.fr 3
    have fx := HXX.out.fx 2
    go_wp2
    refine bodyPost_ret (results_cell_tmp2 Try.results35 _ _ rb _ _ _ _ rfl (res4_kept HBX.out.r) Try.underlying42 rfl Try.sizeD) rfl (DocPut.err E1.out (by decide) E2.out rfl (HLG.out.tag HBX.out.r (fun g hg => res4_block hg)) HSM.out (HBX.out.fin _ _ _ _))
end Go.Proofs.Ytacggabopdoijaa
