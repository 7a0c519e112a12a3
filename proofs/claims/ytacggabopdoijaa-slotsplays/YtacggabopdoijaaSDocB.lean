/- The walks of the document's own Page and Drop (layer 9). -/
import Derived.Test.YtacggabopdoijaaSDoc
namespace Go.Proofs.Ytacggabopdoijaa
open Go.RowKit

/-- What the document's Page answers. -/
def DocPage (C m k : Nat) (zs x : List Bool) (pg : Nat → List Nat) (n : Int) (vz vL : Value) (w : World) (e : Ending) (w' : World) : Prop :=
  ∃ v, e = .returned (.tuple #[.agg #[.int .i64 (m : Int), vz, .int .i64 (pgK x zs k n : Nat), vL], v, .int .i64 (pgE x zs k n : Nat)]) ∧ w'.ownsRow C 5 1 v (pgB x zs k pg n).length (bv (pgB x zs k pg n)) ∧ Below w.heap.size w w'
set_option maxRecDepth 100000 in
set_option maxHeartbeats 4000000 in
theorem refPage_any {C m k : Nat} {a0 : Option Addr} {L0 c0 : Nat} {zs x : List Bool} {pg : Nat → List Nat} {vL : Value} {L : List Pt} (n : Int) (w : World) (h : LogAt C w vL L) (hL : L.length ≤ 900) (hz : BoolsAt w a0 L0 c0 zs) (hk : k < 800000000) (hs : Same x pg L) :
    Calls Try.prog 36 #[.agg #[.int .i64 (m : Int), .slice a0 L0 c0, .int .i64 (k : Int), vL], .int .i64 n] w (DocPage C m k zs x pg n (.slice a0 L0 c0) vL w) := by
  have HSM : Hid (Same x pg L) := hs
  clear hs
  obtain ⟨aL, cL, rfl⟩ := row_slice h.row
  have hbx := Bx.made w #[.int .i64 (m : Int), .slice a0 L0 c0, .int .i64 (k : Int), .slice aL L.length cL]
  have HBX : Hid (Bx w _ w.heap.size (w.heap.size + 1) #[.int .i64 (m : Int), .slice a0 L0 c0, .int .i64 (k : Int), .slice aL L.length cL]) := hbx
  have HBO : Hid (BoolsAt _ a0 L0 c0 zs) := hz.below hbx.bel
  have HLG : Hid (LogAt C _ (.slice aL L.length cL) L) := h.below hbx.bel
  clear hbx h hz
  cases hin : hasB x n with
  | false =>
    obtain ⟨e1, e2, e3⟩ := pg_none (zs := zs) (k := k) (pg := pg) hin
    have HE : Hid (pgE x zs k n = 6 ∧ pgK x zs k n = k ∧ pgB x zs k pg n = []) := ⟨e1, e2, e3⟩
    have HA : Hid (atI L n = -1) := HSM.out.at_out hin
    clear e1 e2 e3 hin
    go_enter Try.func36, Try.ntmps36
    go_upto_region 1 with (fail)
    generalize (w.alloc (.cells #[.int .i64 (m : Int), .slice a0 L0 c0, .int .i64 (k : Int), .slice aL L.length cL] 42)).alloc (.cells #[.int .i64 0, .slice none 0 0, .int .i64 0, .slice none 0 0] 42) = w1 at *
    generalize hrb : w.heap.size + 1 = rb at *
    generalize hfb : w.heap.size = fb at *
    have HFB : Hid (w.heap.size = fb) := hfb
    clear hrb hfb
    have HXX := HBX
    have nfr : fb ≠ rb := HBX.out.lo.2.2
    have x0 : w1.cell? ⟨fb, 0, none⟩ = some (.int .i64 (m : Int)) := (HXX.out.xc 0).trans rfl
    have x1 : w1.cell? ⟨fb, 1, none⟩ = some (.slice a0 L0 c0) := (HXX.out.xc 1).trans rfl
    have x2 : w1.cell? ⟨fb, 2, none⟩ = some (.int .i64 (k : Int)) := (HXX.out.xc 2).trans rfl
    have x3 : w1.cell? ⟨fb, 3, none⟩ = some (.slice aL L.length cL) := (HXX.out.xc 3).trans rfl
    have r0 := HXX.out.r0
    have r1 := HXX.out.r1
    have r2 := HXX.out.r2
    have r3 := HXX.out.r3
    have f0 := HXX.out.fr 0
    have f1 := HXX.out.fr 1
    have f2 := HXX.out.fr 2
    have f3 := HXX.out.fr 3
    have fx := HXX.out.fx 2
    go_wp2_with fail
    refine (refAt_any n _ HLG.out (by omega)).mono ?_
    rw [HA.out]
    rintro e w2 ⟨rfl, b2⟩
    have HX2 : Hid (Bx w w2 fb rb #[.int .i64 (m : Int), .slice a0 L0 c0, .int .i64 (k : Int), .slice aL L.length cL]) := HBX.out.below b2
    clear HXX x0 x1 x2 x3 r0 r1 r2 r3 f0 f1 f2 f3 fx b2
    have HXX := HX2
    have x0 : w2.cell? ⟨fb, 0, none⟩ = some (.int .i64 (m : Int)) := (HXX.out.xc 0).trans rfl
    have x1 : w2.cell? ⟨fb, 1, none⟩ = some (.slice a0 L0 c0) := (HXX.out.xc 1).trans rfl
    have x2 : w2.cell? ⟨fb, 2, none⟩ = some (.int .i64 (k : Int)) := (HXX.out.xc 2).trans rfl
    have x3 : w2.cell? ⟨fb, 3, none⟩ = some (.slice aL L.length cL) := (HXX.out.xc 3).trans rfl
    have r0 := HXX.out.r0
    have r1 := HXX.out.r1
    have r2 := HXX.out.r2
    have r3 := HXX.out.r3
    have f0 := HXX.out.fr 0
    have f1 := HXX.out.fr 1
    have f2 := HXX.out.fr 2
    have f3 := HXX.out.fr 3
    have fx := HXX.out.fx 2
    clear HXX
    go_wp2
    refine bodyPost_ret (results_cell_tmp2 Try.results36 _ _ rb _ _ _ _ rfl (res4_kept HX2.out.r) Try.underlying42 rfl Try.sizeD) rfl ⟨_, by rw [HE.out.1, HE.out.2.1]; rfl, by rw [HE.out.2.2]; exact World.ownsRow_nil _ _ _ _, HX2.out.fin _ _ _ _⟩
  | true =>
    obtain ⟨e1, e2⟩ := HSM.out.at_in hin
    have HA : Hid (atI L n = (ix L n : Int)) := e1
    have HIX : Hid ((L[ix L n]'e2).b = pg n.toNat) := by
      have := HSM.out.pgs _ (List.getElem_mem e2)
      rw [ix_get e2] at this
      exact this
    obtain ⟨ii, hii⟩ : ∃ ii, ix L n = ii := ⟨_, rfl⟩
    have hil : ii < L.length := by omega
    have HT : Hid (L[ii].b = pg n.toNat) := by
      have := HIX.out
      simp only [hii] at this
      exact this
    have HIN : Hid (hasB x n = true) := hin
    rw [hii] at HA
    clear e1 hii e2 HIX hin
    have i0 : ¬ (ii : Int) < 0 := by omega
    have i0' : (0 : Int) ≤ (ii : Int) := by omega
    have i1 : (ii : Int) < (L.length : Int) := by omega
    go_enter Try.func36, Try.ntmps36
    go_upto_region 1 with (fail)
    generalize (w.alloc (.cells #[.int .i64 (m : Int), .slice a0 L0 c0, .int .i64 (k : Int), .slice aL L.length cL] 42)).alloc (.cells #[.int .i64 0, .slice none 0 0, .int .i64 0, .slice none 0 0] 42) = w1 at *
    generalize hrb : w.heap.size + 1 = rb at *
    generalize hfb : w.heap.size = fb at *
    have HFB : Hid (w.heap.size = fb) := hfb
    clear hrb hfb
    have HXX := HBX
    have nfr : fb ≠ rb := HBX.out.lo.2.2
    have x0 : w1.cell? ⟨fb, 0, none⟩ = some (.int .i64 (m : Int)) := (HXX.out.xc 0).trans rfl
    have x1 : w1.cell? ⟨fb, 1, none⟩ = some (.slice a0 L0 c0) := (HXX.out.xc 1).trans rfl
    have x2 : w1.cell? ⟨fb, 2, none⟩ = some (.int .i64 (k : Int)) := (HXX.out.xc 2).trans rfl
    have x3 : w1.cell? ⟨fb, 3, none⟩ = some (.slice aL L.length cL) := (HXX.out.xc 3).trans rfl
    have r0 := HXX.out.r0
    have r1 := HXX.out.r1
    have r2 := HXX.out.r2
    have r3 := HXX.out.r3
    have f0 := HXX.out.fr 0
    have f1 := HXX.out.fr 1
    have f2 := HXX.out.fr 2
    have f3 := HXX.out.fr 3
    have fx := HXX.out.fx 2
    go_wp2_with fail
    refine (refAt_any n _ HLG.out (by omega)).mono ?_
    rw [HA.out]
    rintro e w2 ⟨rfl, b2⟩
    have HX2 : Hid (Bx w w2 fb rb #[.int .i64 (m : Int), .slice a0 L0 c0, .int .i64 (k : Int), .slice aL L.length cL]) := HBX.out.below b2
    have HL2 : Hid (LogAt C w2 (.slice aL L.length cL) L) := HLG.out.below b2
    have HBO2 : Hid (BoolsAt w2 a0 L0 c0 zs) := HBO.out.below b2
    clear HXX x0 x1 x2 x3 r0 r1 r2 r3 f0 f1 f2 f3 fx b2 HLG HBO HBX
    have HXX := HX2
    have x0 : w2.cell? ⟨fb, 0, none⟩ = some (.int .i64 (m : Int)) := (HXX.out.xc 0).trans rfl
    have x1 : w2.cell? ⟨fb, 1, none⟩ = some (.slice a0 L0 c0) := (HXX.out.xc 1).trans rfl
    have x2 : w2.cell? ⟨fb, 2, none⟩ = some (.int .i64 (k : Int)) := (HXX.out.xc 2).trans rfl
    have x3 : w2.cell? ⟨fb, 3, none⟩ = some (.slice aL L.length cL) := (HXX.out.xc 3).trans rfl
    have r0 := HXX.out.r0
    have r1 := HXX.out.r1
    have r2 := HXX.out.r2
    have r3 := HXX.out.r3
    have f0 := HXX.out.fr 0
    have f1 := HXX.out.fr 1
    have f2 := HXX.out.fr 2
    have f3 := HXX.out.fr 3
    have fx := HXX.out.fx 2
    clear HXX
    go_wp2_with fail
    refine (refAsks_any (k := k) _ HBO2.out (by omega)).mono ?_
    rintro e w3 ⟨rfl, b3⟩
    have HX3 : Hid (Bx w w3 fb rb #[.int .i64 (m : Int), .slice a0 L0 c0, .int .i64 (k : Int), .slice aL L.length cL]) := HX2.out.below b3
    have HL3 : Hid (LogAt C w3 (.slice aL L.length cL) L) := HL2.out.below b3
    have hak := askN_le zs k
    clear b3 r0 r1 r2 r3 f0 f1 f2 f3 fx x0 x1 x2 x3 HX2 HL2 HBO2
    have HXX := HX3
    have x0 : w3.cell? ⟨fb, 0, none⟩ = some (.int .i64 (m : Int)) := (HXX.out.xc 0).trans rfl
    have x1 : w3.cell? ⟨fb, 1, none⟩ = some (.slice a0 L0 c0) := (HXX.out.xc 1).trans rfl
    have x2 : w3.cell? ⟨fb, 2, none⟩ = some (.int .i64 (k : Int)) := (HXX.out.xc 2).trans rfl
    have x3 : w3.cell? ⟨fb, 3, none⟩ = some (.slice aL L.length cL) := (HXX.out.xc 3).trans rfl
    have r0 := HXX.out.r0
    have r1 := HXX.out.r1
    have r2 := HXX.out.r2
    have r3 := HXX.out.r3
    have f0 := HXX.out.fr 0
    have f1 := HXX.out.fr 1
    have f2 := HXX.out.fr 2
    have f3 := HXX.out.fr 3
    have fx := HXX.out.fx 2
    clear HXX
    cases hab : askB zs k with
    | true =>
      obtain ⟨e1, e2, e3⟩ := pg_bad (pg := pg) HIN.out hab
      have HE : Hid (pgE x zs k n = 12 ∧ pgK x zs k n = k + askN zs k ∧ pgB x zs k pg n = []) := ⟨e1, e2, e3⟩
      clear e1 e2 e3 hab
      generalize askN zs k = ak at *
      go_wp2
      have HB4 := HX3.out.set 2 (.int .i64 ((k : Int) + (ak : Int)))
      refine bodyPost_ret (results_cell_tmp2 Try.results36 _ _ rb _ _ _ _ rfl (res4_kept HB4.r) Try.underlying42 rfl Try.sizeD) rfl ⟨_, by rw [HE.out.1, HE.out.2.1]; rfl, by rw [HE.out.2.2]; exact World.ownsRow_nil _ _ _ _, HB4.fin _ _ _ _⟩
    | false =>
      obtain ⟨e1, e2, e3⟩ := pg_fine (pg := pg) HIN.out hab
      have HE : Hid (pgE x zs k n = 0 ∧ pgK x zs k n = k + 8 ∧ pgB x zs k pg n = pg n.toNat) := ⟨e1, e2, e3⟩
      have HAN : Hid (askN zs k = 8) := (ask_fine (ask_all hab)).2
      rw [HAN.out]
      clear e1 e2 e3 hab hak
      go_upto_region 8 with (fail)
      have hb4 := HX3.out.set 2 (.int .i64 ((k : Int) + 8))
      have HL4 : Hid (LogAt C (w3.setCell ⟨fb, 2, none⟩ (.int .i64 ((k : Int) + 8))) (.slice aL L.length cL) L) := HL3.out.tag HX3.out.x (fun g hg => Below.heap_setCell _ _ _ _ hg)
      generalize w3.setCell ⟨fb, 2, none⟩ (.int .i64 ((k : Int) + 8)) = w4 at *
      have HX4 : Hid (Bx w w4 fb rb #[.int .i64 (m : Int), .slice a0 L0 c0, .int .i64 ((k : Int) + 8), .slice aL L.length cL]) := hb4
      clear hb4 x0 x1 x2 x3 r0 r1 r2 r3 f0 f1 f2 f3 fx HX3 HL3
      have HXX := HX4
      have x0 : w4.cell? ⟨fb, 0, none⟩ = some (.int .i64 (m : Int)) := (HXX.out.xc 0).trans rfl
      have x1 : w4.cell? ⟨fb, 1, none⟩ = some (.slice a0 L0 c0) := (HXX.out.xc 1).trans rfl
      have x2 : w4.cell? ⟨fb, 2, none⟩ = some (.int .i64 ((k : Int) + 8)) := (HXX.out.xc 2).trans rfl
      have x3 : w4.cell? ⟨fb, 3, none⟩ = some (.slice aL L.length cL) := (HXX.out.xc 3).trans rfl
      have r0 := HXX.out.r0
      have r1 := HXX.out.r1
      have r2 := HXX.out.r2
      have r3 := HXX.out.r3
      have f0 := HXX.out.fr 0
      have f1 := HXX.out.fr 1
      have f2 := HXX.out.fr 2
      have f3 := HXX.out.fr 3
      have fx := HXX.out.fx 2
      clear HXX
      obtain ⟨g, rfl, cg0, cg1, hg1, hg2⟩ := row_at2 HL4.out.row hil
      rw [(pgc_at L ii hil).2] at cg1
      have heach := HL4.out.each L[ii] (List.getElem_mem _)
      have HTB := HT.out
      generalize L[ii] = t at *
      obtain ⟨av, cv, hav⟩ := row_slice heach.1
      rw [hav] at cg1
      have HEA : Hid (w4.ownsRow C 5 1 (.slice av 4096 cv) 4096 (bv (pg n.toNat)) ∧ (pg n.toNat).length = 4096) := by rw [← hav, ← HTB]; exact heach
      have nfg : g ≠ rb := by
        intro e
        subst e
        rcases HL4.out.row.2 with ⟨h1, _⟩ | ⟨g', cap, cur, h1, _, h3, _⟩
        · simp at h1
        · simp only [Value.slice.injEq, Option.some.injEq, Addr.mk.injEq, and_true, true_and] at h1
          obtain ⟨rfl, _⟩ := h1
          rw [HX4.out.r] at h3
          simp at h3
      clear heach hav HTB cg0
      have HXD : Hid (Bx w w4.drew fb rb #[.int .i64 (m : Int), .slice a0 L0 c0, .int .i64 ((k : Int) + 8), .slice (some ⟨g, 0, none⟩) L.length cL]) := HX4.out.below (drew_below _ _)
      go_region
      all_goals
        go_wp2
        refine bodyPost_ret (results_cell_tmp2 Try.results36 _ _ rb _ _ _ _ rfl (res4_kept HXD.out.r) Try.underlying42 rfl Try.sizeD) rfl ⟨_, by rw [HE.out.1, HE.out.2.1]; rfl, ?_, HXD.out.fin _ _ _ _⟩
        rw [HE.out.2.2, HEA.out.2]
        exact row_tag HEA.out.1.drew HXD.out.r (by decide) (fun g hg => res4_block hg)
/-- What the document's Drop answers, and leaves. -/
def DocDrop (C m k : Nat) (x : List Bool) (pg : Nat → List Nat) (n : Int) (L : List Pt) (vz : Value) (w : World) (e : Ending) (w' : World) : Prop :=
  ∃ vL' L', e = .returned (.tuple #[.agg #[.int .i64 (m : Int), vz, .int .i64 (k : Int), vL'], .bool (hasB x n)]) ∧ LogAt C w' vL' L' ∧ Same (putL x n false) pg L' ∧ L'.length ≤ L.length ∧ Below w.heap.size w w'
theorem src_take {w : World} {C g c l i : Nat} {L : List Pt} (h : w.ownsRow C 72 2 (.slice (some ⟨g, 0, none⟩) l c) l (pgc L)) (hi : i ≤ L.length) (hl : L.length = l) (hg : g < w.heap.size) : SrcAt w (.slice (some ⟨g, 0, none⟩) i c) i 2 (pgc (L.take i)) := by
  refine .inr ⟨_, _, rfl, by rw [pgc_len, List.length_take]; omega, fun j u hj => ⟨hg, ?_⟩⟩
  rw [pgc_take L i hi, List.getElem?_take] at hj
  split at hj
  · rename_i hlt
    rw [add_lit', Nat.zero_add, h.cellAt j (by omega)]
    exact hj
  · cases hj
theorem src_drop {w : World} {C g c l i : Nat} {L : List Pt} (h : w.ownsRow C 72 2 (.slice (some ⟨g, 0, none⟩) l c) l (pgc L)) (hi : i ≤ L.length) (hl : L.length = l) (hg : g < w.heap.size) : SrcAt w (.slice (if c = i then some ⟨g, 0, none⟩ else some ⟨g, i * 2, none⟩) (l - i) (c - i)) (l - i) 2 (pgc (L.drop i)) := by
  have hlen : (pgc (L.drop i)).length = (l - i) * 2 := by rw [pgc_len, List.length_drop, hl]
  by_cases e : c = i
  · rw [if_pos e]
    have hc := (row_cap h).1
    have h0 : l - i = 0 := by omega
    refine .inr ⟨_, _, rfl, hlen, fun j u hj => ?_⟩
    have := (List.getElem?_eq_some_iff.1 hj).1
    omega
  · rw [if_neg e]
    refine .inr ⟨_, _, rfl, hlen, fun j u hj => ⟨hg, ?_⟩⟩
    have hjl := (List.getElem?_eq_some_iff.1 hj).1
    rw [pgc_drop L i hi, List.getElem?_drop] at hj
    rw [add_lit', h.cellAt (i * 2 + j) (by omega)]
    exact hj
set_option maxRecDepth 100000 in
set_option maxHeartbeats 4000000 in
theorem refDrop_any {C m k : Nat} {a0 : Option Addr} {L0 c0 : Nat} {x : List Bool} {pg : Nat → List Nat} {vL : Value} {L : List Pt} {zs : List Bool} (n : Int) (w : World) (h : LogAt C w vL L) (hL : L.length ≤ 900) (hz : BoolsAt w a0 L0 c0 zs) (_hC : C ≤ w.heap.size) (hs : Same x pg L) :
    Calls Try.prog 38 #[.agg #[.int .i64 (m : Int), .slice a0 L0 c0, .int .i64 (k : Int), vL], .int .i64 n] w (DocDrop C m k x pg n L (.slice a0 L0 c0) w) := by
  have HSM : Hid (Same x pg L) := hs
  clear hs
  obtain ⟨aL, cL, rfl⟩ := row_slice h.row
  have hbx := Bx.made w #[.int .i64 (m : Int), .slice a0 L0 c0, .int .i64 (k : Int), .slice aL L.length cL]
  have HBX : Hid (Bx w _ w.heap.size (w.heap.size + 1) #[.int .i64 (m : Int), .slice a0 L0 c0, .int .i64 (k : Int), .slice aL L.length cL]) := hbx
  have HBO : Hid (BoolsAt _ a0 L0 c0 zs) := hz.below hbx.bel
  have HLG : Hid (LogAt C _ (.slice aL L.length cL) L) := h.below hbx.bel
  clear hbx h hz
  cases hin : hasB x n with
  | false =>
    have HE : Hid (putL x n false = x ∧ hasB x n = false) := ⟨putL_same hin, hin⟩
    have HA : Hid (atI L n = -1) := HSM.out.at_out hin
    clear hin
    go_enter Try.func38, Try.ntmps38
    go_upto_region 1 with (fail)
    generalize (w.alloc (.cells #[.int .i64 (m : Int), .slice a0 L0 c0, .int .i64 (k : Int), .slice aL L.length cL] 42)).alloc (.cells #[.int .i64 0, .slice none 0 0, .int .i64 0, .slice none 0 0] 42) = w1 at *
    generalize hrb : w.heap.size + 1 = rb at *
    generalize hfb : w.heap.size = fb at *
    have HFB : Hid (w.heap.size = fb) := hfb
    clear hrb hfb
    have HXX := HBX
    have nfr : fb ≠ rb := HBX.out.lo.2.2
    have x0 : w1.cell? ⟨fb, 0, none⟩ = some (.int .i64 (m : Int)) := (HXX.out.xc 0).trans rfl
    have x1 : w1.cell? ⟨fb, 1, none⟩ = some (.slice a0 L0 c0) := (HXX.out.xc 1).trans rfl
    have x2 : w1.cell? ⟨fb, 2, none⟩ = some (.int .i64 (k : Int)) := (HXX.out.xc 2).trans rfl
    have x3 : w1.cell? ⟨fb, 3, none⟩ = some (.slice aL L.length cL) := (HXX.out.xc 3).trans rfl
    have r0 := HXX.out.r0
    have r1 := HXX.out.r1
    have r2 := HXX.out.r2
    have r3 := HXX.out.r3
    have f0 := HXX.out.fr 0
    have f1 := HXX.out.fr 1
    have f2 := HXX.out.fr 2
    have f3 := HXX.out.fr 3
    have fx := HXX.out.fx 2
    go_wp2_with fail
    refine (refAt_any n _ HLG.out (by omega)).mono ?_
    rw [HA.out]
    rintro e w2 ⟨rfl, b2⟩
    have HX2 : Hid (Bx w w2 fb rb #[.int .i64 (m : Int), .slice a0 L0 c0, .int .i64 (k : Int), .slice aL L.length cL]) := HBX.out.below b2
    have HL2 : Hid (LogAt C w2 (.slice aL L.length cL) L) := HLG.out.below b2
    clear HXX x0 x1 x2 x3 r0 r1 r2 r3 f0 f1 f2 f3 fx b2
    have HXX := HX2
    have x0 : w2.cell? ⟨fb, 0, none⟩ = some (.int .i64 (m : Int)) := (HXX.out.xc 0).trans rfl
    have x1 : w2.cell? ⟨fb, 1, none⟩ = some (.slice a0 L0 c0) := (HXX.out.xc 1).trans rfl
    have x2 : w2.cell? ⟨fb, 2, none⟩ = some (.int .i64 (k : Int)) := (HXX.out.xc 2).trans rfl
    have x3 : w2.cell? ⟨fb, 3, none⟩ = some (.slice aL L.length cL) := (HXX.out.xc 3).trans rfl
    have r0 := HXX.out.r0
    have r1 := HXX.out.r1
    have r2 := HXX.out.r2
    have r3 := HXX.out.r3
    have f0 := HXX.out.fr 0
    have f1 := HXX.out.fr 1
    have f2 := HXX.out.fr 2
    have f3 := HXX.out.fr 3
    have fx := HXX.out.fx 2
    clear HXX
    go_wp2
    refine bodyPost_ret (results_cell_tmp Try.results38 _ _ rb _ _ _ _ rfl (res4_kept HX2.out.r) Try.underlying42 rfl Try.sizeD) rfl ⟨_, L, by rw [HE.out.2]; rfl, HL2.out.tag HX2.out.r (fun g hg => res4_block hg), by rw [HE.out.1]; exact HSM.out, Nat.le_refl _, HX2.out.fin _ _ _ _⟩
  | true =>
    obtain ⟨e1, e2⟩ := HSM.out.at_in hin
    have HA : Hid (atI L n = (ix L n : Int)) := e1
    have HIX : Hid ((L[ix L n]'e2).n = n) := ix_get e2
    obtain ⟨ii, hii⟩ : ∃ ii, ix L n = ii := ⟨_, rfl⟩
    have hil : ii < L.length := by omega
    have HT : Hid (L[ii].n = n) := by
      have := HIX.out
      simp only [hii] at this
      exact this
    have HIN : Hid (hasB x n = true) := hin
    rw [hii] at HA
    clear e1 hii e2 HIX hin
    have HSD : Hid (Same (putL x n false) pg (L.take ii ++ L.drop (ii + 1))) := by have := HSM.out.drop hil; rw [HT.out] at this; exact this
    have i0 : ¬ (ii : Int) < 0 := by omega
    have i0' : (0 : Int) ≤ (ii : Int) := by omega
    have i1 : (ii : Int) ≤ (L.length : Int) := by omega
    have i3 : (0 : Int) ≤ (ii : Int) + 1 := by omega
    have i4 : (ii : Int) + 1 ≤ (L.length : Int) := by omega
    obtain ⟨j0, hj, hy0, hy1, hy2⟩ := info_parts Try.info72
    go_enter Try.func38, Try.ntmps38
    go_upto_region 1 with (fail)
    generalize (w.alloc (.cells #[.int .i64 (m : Int), .slice a0 L0 c0, .int .i64 (k : Int), .slice aL L.length cL] 42)).alloc (.cells #[.int .i64 0, .slice none 0 0, .int .i64 0, .slice none 0 0] 42) = w1 at *
    generalize hrb : w.heap.size + 1 = rb at *
    generalize hfb : w.heap.size = fb at *
    have HFB : Hid (w.heap.size = fb) := hfb
    clear hrb hfb
    have HXX := HBX
    have nfr : fb ≠ rb := HBX.out.lo.2.2
    have x0 : w1.cell? ⟨fb, 0, none⟩ = some (.int .i64 (m : Int)) := (HXX.out.xc 0).trans rfl
    have x1 : w1.cell? ⟨fb, 1, none⟩ = some (.slice a0 L0 c0) := (HXX.out.xc 1).trans rfl
    have x2 : w1.cell? ⟨fb, 2, none⟩ = some (.int .i64 (k : Int)) := (HXX.out.xc 2).trans rfl
    have x3 : w1.cell? ⟨fb, 3, none⟩ = some (.slice aL L.length cL) := (HXX.out.xc 3).trans rfl
    have r0 := HXX.out.r0
    have r1 := HXX.out.r1
    have r2 := HXX.out.r2
    have r3 := HXX.out.r3
    have f0 := HXX.out.fr 0
    have f1 := HXX.out.fr 1
    have f2 := HXX.out.fr 2
    have f3 := HXX.out.fr 3
    have fx := HXX.out.fx 2
    go_wp2_with fail
    refine (refAt_any n _ HLG.out (by omega)).mono ?_
    rw [HA.out]
    rintro e w2 ⟨rfl, b2⟩
    have HX2 : Hid (Bx w w2 fb rb #[.int .i64 (m : Int), .slice a0 L0 c0, .int .i64 (k : Int), .slice aL L.length cL]) := HBX.out.below b2
    have HL2 : Hid (LogAt C w2 (.slice aL L.length cL) L) := HLG.out.below b2
    clear HXX x0 x1 x2 x3 r0 r1 r2 r3 f0 f1 f2 f3 fx b2 HLG HBO HBX
    obtain ⟨g, rfl, _, _, hg1, hg2⟩ := row_at2 HL2.out.row hil
    obtain ⟨hc1, hc2⟩ := row_cap HL2.out.row
    unfold maxLen at hc2
    have i5 : (ii : Int) ≤ (cL : Int) := by omega
    have x3 : w2.cell? ⟨fb, 3, none⟩ = some (.slice (some ⟨g, 0, none⟩) L.length cL) := (HX2.out.xc 3).trans rfl
    have n1 : fb < w2.heap.size := (Array.getElem?_eq_some_iff.1 HX2.out.x).1
    have n2 : fb ≠ w2.heap.size := by omega
    have ba : Below w2.heap.size w2 (w2.alloc (.cells #[] 72)) := (Below.refl _ w2).alloc (Nat.le_refl _) _
    have HSL : Hid (SrcAt (w2.alloc (.cells #[] 72)) (.slice (some ⟨g, 0, none⟩) ii cL) ii 2 (pgc (L.take ii))) := src_take (HL2.out.below ba).row (by omega) rfl (by simp; omega)
    have HON : Hid (∀ u ∈ pgc L, u.oneCell' = true) := pgc_one HL2.out
    have HON1 : Hid (∀ u ∈ pgc (L.take ii), u.oneCell' = true) := fun u hu => HON.out u (by rw [pgc_take L ii (by omega)] at hu; exact List.mem_of_mem_take hu)
    have HON2 : Hid (∀ u ∈ pgc (L.drop (ii + 1)), u.oneCell' = true) := fun u hu => HON.out u (by rw [pgc_drop L (ii + 1) (by omega)] at hu; exact List.mem_of_mem_drop hu)
    have HCW : Hid (C ≤ w2.heap.size) := by have := HX2.out.bel.size; have := HFB.out; show _ ≤ _; omega
    clear ba
    go_wp2_with (at_builtin; refine wpList_append_src rfl _ _ 40 rfl w2.heap.size 72 j0 (.agg #[.int .i64 0, .slice none 0 0]) 2 32 Try.underlying40 hj hy0 hy1 hy2 rfl (by decide) _ _ _ rfl (World.ownsRow_made w2 #[] 0 (Nat.le_refl _) (by unfold maxLen; omega) rfl) _ ii (pgc (L.take ii)) rfl HSL.out HON1.out ?c3 ?c4 ?c5 ?_)
    case c3 => unfold maxLen; omega
    case c4 => omega
    case c5 => simp
    intro v5 w5 own5 gr5
    have b5 : Below w2.heap.size w2 w5 := ((Below.refl _ w2).alloc (Nat.le_refl _) _).grown gr5 (by simp) (fun i hi => by simp [Value.ownBlock] at hi; omega)
    have own5' : w5.ownsRow w2.heap.size 72 2 v5 ii (pgc (L.take ii)) := by simpa using own5
    have HO5 : Hid (w5.ownsRow w2.heap.size 72 2 v5 ii (pgc (L.take ii))) := own5'
    have HB5 : Hid (Below w2.heap.size w2 w5) := b5
    obtain ⟨a5, c5, rfl⟩ := row_slice own5'
    have HX5 : Hid (Bx w w5 fb rb #[.int .i64 (m : Int), .slice a0 L0 c0, .int .i64 (k : Int), .slice (some ⟨g, 0, none⟩) L.length cL]) := HX2.out.below b5
    have HL5 : Hid (LogAt C w5 (.slice (some ⟨g, 0, none⟩) L.length cL) L) := HL2.out.below b5
    have HS5 : Hid (SrcAt w5 (.slice (if cL = ii + 1 then some ⟨g, 0, none⟩ else some ⟨g, (ii + 1) * 2, none⟩) (L.length - (ii + 1)) (cL - (ii + 1))) (L.length - (ii + 1)) 2 (pgc (L.drop (ii + 1)))) := src_drop HL5.out.row (by omega) rfl (by have := b5.size; omega)
    have HLT : Hid (∀ j, (Value.slice a5 ii c5).ownBlock = some j → w2.heap.size ≤ j ∧ j < w5.heap.size) := fun j hj => HO5.out.lt j hj
    have x3' : w5.cell? ⟨fb, 3, none⟩ = some (.slice (some ⟨g, 0, none⟩) L.length cL) := (HX5.out.xc 3).trans rfl
    have fx3 := HX5.out.fx 3
    clear own5 gr5 b5 own5' x3 n1 n2
    have i6 : (ii : Int) + 1 ≤ (cL : Int) := by omega
    have HE3 : Hid (ii + (L.length - (ii + 1)) ≤ maxLen) := by show _ ≤ _; unfold maxLen; omega
    have HE4 : Hid ((ii + (L.length - (ii + 1))) * 32 ≤ 140737488355328) := by show _ ≤ _; omega
    go_wp2_with (at_builtin; refine wpList_append_src rfl _ _ 40 rfl w2.heap.size 72 j0 (.agg #[.int .i64 0, .slice none 0 0]) 2 32 Try.underlying40 hj hy0 hy1 hy2 rfl (by decide) _ _ _ rfl HO5.out _ (L.length - (ii + 1)) (pgc (L.drop (ii + 1))) rfl HS5.out HON2.out HE3.out HE4.out HB5.out.size ?_)
    all_goals
      intro v7 w7 own7 gr7
      have b7 : Below w2.heap.size w2 w7 := HB5.out.grown gr7 HB5.out.size (fun i hi => (HLT.out i hi).1)
      have HO7 : Hid (w7.ownsRow w2.heap.size 72 2 v7 (ii + (L.length - (ii + 1))) (pgc (L.take ii) ++ pgc (L.drop (ii + 1)))) := own7
      have HL7 : Hid (LogAt C w7 (.slice (some ⟨g, 0, none⟩) L.length cL) L) := HL2.out.below b7
      have HX7 : Hid (Bx w w7 fb rb #[.int .i64 (m : Int), .slice a0 L0 c0, .int .i64 (k : Int), .slice (some ⟨g, 0, none⟩) L.length cL]) := HX2.out.below b7
      obtain ⟨a7, c7, rfl⟩ := row_slice own7
      have y0 : w7.cell? ⟨fb, 0, none⟩ = some (.int .i64 (m : Int)) := (HX7.out.xc 0).trans rfl
      have y1 : w7.cell? ⟨fb, 1, none⟩ = some (.slice a0 L0 c0) := (HX7.out.xc 1).trans rfl
      have y2 : w7.cell? ⟨fb, 2, none⟩ = some (.int .i64 (k : Int)) := (HX7.out.xc 2).trans rfl
      have y3 : w7.cell? ⟨fb, 3, none⟩ = some (.slice (some ⟨g, 0, none⟩) L.length cL) := (HX7.out.xc 3).trans rfl
      have r0 := HX7.out.r0
      have r1 := HX7.out.r1
      have r2 := HX7.out.r2
      have r3 := HX7.out.r3
      have f0 := HX7.out.fr 0
      have f1 := HX7.out.fr 1
      have f2 := HX7.out.fr 2
      have f3 := HX7.out.fr 3
      have fy3 := HX7.out.fx 3
      clear own7 gr7 b7 x3' fx3
      go_wp2
      have hb8 := HX7.out.set 3 (.slice a7 (ii + (L.length - (ii + 1))) c7)
      refine bodyPost_ret (results_cell_tmp Try.results38 _ _ rb _ _ _ _ rfl (res4_kept hb8.r) Try.underlying42 rfl Try.sizeD) rfl ⟨_, L.take ii ++ L.drop (ii + 1), by rw [HIN.out]; rfl, ⟨?_, ?_⟩, HSD.out, by simp; omega, hb8.fin _ _ _ _⟩
      · have e1 : (L.take ii ++ L.drop (ii + 1)).length = ii + (L.length - (ii + 1)) := by simp; omega
        rw [pgc_app, e1]
        exact rowMono (row_tag (row_tag HO7.out HX7.out.x (by decide) (fun g hg => Below.heap_setCell _ _ _ _ hg)) hb8.r (by decide) (fun g hg => res4_block hg)) HCW.out
      · intro t ht
        have ht' : t ∈ L := by
          rcases List.mem_append.1 ht with h1 | h1
          · exact List.mem_of_mem_take h1
          · exact List.mem_of_mem_drop h1
        have h1 := HL7.out.each t ht'
        exact ⟨row_tag (row_tag h1.1 HX7.out.x (by decide) (fun g hg => Below.heap_setCell _ _ _ _ hg)) hb8.r (by decide) (fun g hg => res4_block hg), h1.2⟩
end Go.Proofs.Ytacggabopdoijaa
