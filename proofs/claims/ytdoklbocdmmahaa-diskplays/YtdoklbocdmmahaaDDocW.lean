/- The walk of the document's own Write (layer 8). -/
import Derived.Test.YtdoklbocdmmahaaDDoc
namespace Go.Proofs.Ytdoklbocdmmahaa
open Go.RowKit

theorem Try.info65 : (Try.prog.info? 65).map (fun i => (i.zero, i.size, i.bytes)) = some (some (.agg #[.int .i64 0, .slice none 0 0]), 2, 32) := by kernel_rfl
theorem wc_one {C : Nat} {w : World} {vL : Value} {L : List Wt} (h : LogAt C w vL L) : ∀ u ∈ wc L, u.oneCell' = true := by
  intro u hu
  obtain ⟨t, ht, hu⟩ := List.mem_flatMap.1 hu
  simp at hu
  rcases hu with rfl | rfl
  · rfl
  · exact row_one (h.each t ht).1
/-- What a write makes of the log. -/
def Wrote (m : Nat) (zs : List Bool) (k : Nat) (n : Int) (b : List Nat) (L L' : List Wt) : Prop :=
  L'.length ≤ L.length + 1 ∧ ∀ P : List Nat, P.length = m * 512 → AsLog m P L → AsLog m (wrD m zs k P n b) L'
theorem Wrote.none {m k : Nat} {zs : List Bool} {n : Int} {b : List Nat} {L : List Wt} (h : acE m zs k n b.length ≠ 0) : Wrote m zs k n b L L :=
  ⟨by omega, fun P _ hP => by rw [wrD, if_neg h]; exact hP⟩
theorem Wrote.done {m k i : Nat} {zs : List Bool} {b : List Nat} {L : List Wt} {v : Value} (h : acE m zs k (i : Int) b.length = 0) : Wrote m zs k (i : Int) b L (L ++ [⟨(i : Int), v, b⟩]) := by
  obtain ⟨h1, h2, _⟩ := ac_ok h
  refine ⟨by simp, fun P hl hP => ?_⟩
  rw [wrD, if_pos h, Int.toNat_natCast]
  exact hP.write hl (by have := of_decide_eq_true h1; omega) h2
/-- What the document's Write answers, and leaves. -/
def DocWrote (C m k : Nat) (zs : List Bool) (n : Int) (b : List Nat) (L : List Wt) (vz : Value) (k' x : Nat) (w : World) (e : Ending) (w' : World) : Prop :=
  ∃ vL' L', e = .returned (.tuple #[.agg #[.int .i64 (m : Int), vz, .int .i64 (k' : Nat), vL'], .int .i64 (x : Nat)]) ∧ LogAt C w' vL' L' ∧ Wrote m zs k n b L L' ∧ Below w.heap.size w w'
set_option maxRecDepth 100000 in
set_option maxHeartbeats 4000000 in
theorem refWrite_any {C m k q : Nat} {a0 : Option Addr} {L0 c0 : Nat} {zs : List Bool} {vL vb : Value} {L : List Wt} {b : List Nat} (n : Int) (w : World) (h : LogAt C w vL L) (hL : L.length ≤ 1000) (hz : BoolsAt w a0 L0 c0 zs) (hk : k < 1000000000) (hC : C ≤ w.heap.size) (hb : SrcAt w vb q 1 (bv b)) (hq : q ≤ maxLen) :
    Calls Try.prog 16 #[.agg #[.int .i64 (m : Int), .slice a0 L0 c0, .int .i64 (k : Int), vL], .int .i64 n, vb] w (DocWrote C m k zs n b L (.slice a0 L0 c0) (acK m k n q) (acE m zs k n q) w) := by
  have hbl := src_len hb
  obtain ⟨av, cv, rfl⟩ := src_slice hb
  have HQM : Hid (q ≤ maxLen) := hq
  unfold maxLen at hq
  have HS0 : Hid (SrcAt w (.slice av q cv) q 1 (bv b)) := hb
  clear hb
  obtain ⟨aL, cL, hvL⟩ := row_slice h.row
  have HL0 : Hid (LogAt C w (.slice aL L.length cL) L) := by rw [← hvL]; exact h
  subst hvL
  have hbx := Bx.made w #[.int .i64 (m : Int), .slice a0 L0 c0, .int .i64 (k : Int), .slice aL L.length cL]
  have HBX : Hid (Bx w _ w.heap.size (w.heap.size + 1) #[.int .i64 (m : Int), .slice a0 L0 c0, .int .i64 (k : Int), .slice aL L.length cL]) := hbx
  have HBO : Hid (BoolsAt _ a0 L0 c0 zs) := hz.below hbx.bel
  have HLG : Hid (LogAt C _ (.slice aL L.length cL) L) := h.below hbx.bel
  clear hbx h hz
  cases hin : inD m n with
  | false =>
    obtain ⟨e1, e2, _⟩ := ac_no (g := 0) (k := k) (s := q) (zs := zs) hin
    have HWR : Hid (Wrote m zs k n b L L) := Wrote.none (by rw [hbl, e1]; omega)
    rw [e1, e2]
    have hno := inD_no hin
    clear e1 e2 hin
    by_cases n0 : 0 ≤ n
    · have n1 : (m : Int) ≤ n := by omega
      clear hno
      go_enter Try.func16, Try.ntmps16
      go_upto_region 1 with (fail)
      generalize (w.alloc (.cells #[.int .i64 (m : Int), .slice a0 L0 c0, .int .i64 (k : Int), .slice aL L.length cL] 39)).alloc (.cells #[.int .i64 0, .slice none 0 0, .int .i64 0, .slice none 0 0] 39) = w1 at *
      generalize hrb : w.heap.size + 1 = rb at *
      generalize hfb : w.heap.size = fb at *
      have HFB : Hid (w.heap.size = fb) := hfb
      clear hrb hfb
      have HXX := HBX
      have nfr : fb ≠ rb := HBX.out.lo.2.2
      have x0 : w1.cell? ⟨fb, 0, none⟩ = some (.int .i64 (m : Int)) := (HXX.out.xc 0).trans rfl
      have x1 : w1.cell? ⟨fb, 1, none⟩ = some (.slice a0 L0 c0) := (HXX.out.xc 1).trans rfl
      have x2 : w1.cell? ⟨fb, 2, none⟩ = some (.int .i64 (k : Int)) := (HXX.out.xc 2).trans rfl
      have x3 : w1.cell? ⟨fb, 3, none⟩ = some (.slice aL L.length cL) := (HXX.out.xc 3).trans rfl
      have r0 := HXX.out.r0
      have r1 := HXX.out.r1
      have r2 := HXX.out.r2
      have r3 := HXX.out.r3
      have f0 := HXX.out.fr 0
      have f1 := HXX.out.fr 1
      have f2 := HXX.out.fr 2
      have f3 := HXX.out.fr 3
      have fx := HXX.out.fx 2
      go_wp2
      refine bodyPost_ret (results_cell_tmp Try.results16 _ _ rb _ _ _ _ rfl (res4_kept HBX.out.r) Try.underlying39 rfl Try.sizeD) rfl ⟨_, L, rfl, HLG.out.tag HBX.out.r (fun g hg => res4_block hg), HWR.out, HBX.out.fin _ _ _ _⟩
    · clear hno
      go_enter Try.func16, Try.ntmps16
      go_upto_region 1 with (fail)
      generalize (w.alloc (.cells #[.int .i64 (m : Int), .slice a0 L0 c0, .int .i64 (k : Int), .slice aL L.length cL] 39)).alloc (.cells #[.int .i64 0, .slice none 0 0, .int .i64 0, .slice none 0 0] 39) = w1 at *
      generalize hrb : w.heap.size + 1 = rb at *
      generalize hfb : w.heap.size = fb at *
      have HFB : Hid (w.heap.size = fb) := hfb
      clear hrb hfb
      have HXX := HBX
      have nfr : fb ≠ rb := HBX.out.lo.2.2
      have x0 : w1.cell? ⟨fb, 0, none⟩ = some (.int .i64 (m : Int)) := (HXX.out.xc 0).trans rfl
      have x1 : w1.cell? ⟨fb, 1, none⟩ = some (.slice a0 L0 c0) := (HXX.out.xc 1).trans rfl
      have x2 : w1.cell? ⟨fb, 2, none⟩ = some (.int .i64 (k : Int)) := (HXX.out.xc 2).trans rfl
      have x3 : w1.cell? ⟨fb, 3, none⟩ = some (.slice aL L.length cL) := (HXX.out.xc 3).trans rfl
      have r0 := HXX.out.r0
      have r1 := HXX.out.r1
      have r2 := HXX.out.r2
      have r3 := HXX.out.r3
      have f0 := HXX.out.fr 0
      have f1 := HXX.out.fr 1
      have f2 := HXX.out.fr 2
      have f3 := HXX.out.fr 3
      have fx := HXX.out.fx 2
      go_wp2
      refine bodyPost_ret (results_cell_tmp Try.results16 _ _ rb _ _ _ _ rfl (res4_kept HBX.out.r) Try.underlying39 rfl Try.sizeD) rfl ⟨_, L, rfl, HLG.out.tag HBX.out.r (fun g hg => res4_block hg), HWR.out, HBX.out.fin _ _ _ _⟩
  | true =>
    obtain ⟨i, rfl, hi⟩ := inD_yes hin
    have i1 : (i : Int) < (m : Int) := by omega
    have i0 : (0 : Int) ≤ (i : Int) := by omega
    by_cases h5 : q = 512
    · subst h5
      cases hf : fa zs k with
      | true =>
        obtain ⟨e1, e2, _⟩ := ac_fail (g := 0) hin hf
        have HWR : Hid (Wrote m zs k (i : Int) b L L) := Wrote.none (by rw [hbl, e1]; omega)
        rw [e1, e2]
        have HF : Hid (fa zs k = true) := hf
        clear e1 e2 hin hf
        go_enter Try.func16, Try.ntmps16
        go_upto_region 1 with (fail)
        generalize (w.alloc (.cells #[.int .i64 (m : Int), .slice a0 L0 c0, .int .i64 (k : Int), .slice aL L.length cL] 39)).alloc (.cells #[.int .i64 0, .slice none 0 0, .int .i64 0, .slice none 0 0] 39) = w1 at *
        generalize hrb : w.heap.size + 1 = rb at *
        generalize hfb : w.heap.size = fb at *
        have HFB : Hid (w.heap.size = fb) := hfb
        clear hrb hfb
        have HXX := HBX
        have nfr : fb ≠ rb := HBX.out.lo.2.2
        have x0 : w1.cell? ⟨fb, 0, none⟩ = some (.int .i64 (m : Int)) := (HXX.out.xc 0).trans rfl
        have x1 : w1.cell? ⟨fb, 1, none⟩ = some (.slice a0 L0 c0) := (HXX.out.xc 1).trans rfl
        have x2 : w1.cell? ⟨fb, 2, none⟩ = some (.int .i64 (k : Int)) := (HXX.out.xc 2).trans rfl
        have x3 : w1.cell? ⟨fb, 3, none⟩ = some (.slice aL L.length cL) := (HXX.out.xc 3).trans rfl
        have r0 := HXX.out.r0
        have r1 := HXX.out.r1
        have r2 := HXX.out.r2
        have r3 := HXX.out.r3
        have f0 := HXX.out.fr 0
        have f1 := HXX.out.fr 1
        have f2 := HXX.out.fr 2
        have f3 := HXX.out.fr 3
        have fx := HXX.out.fx 2
        go_wp2_with fail
        refine (refFails_any k _ HBO.out).mono ?_
        rintro e w' ⟨rfl, rfl⟩
        rw [HF.out]
        go_wp2
        have HB2 := HBX.out.set 2 (.int .i64 ((k : Int) + 1))
        have HL2 : LogAt C (w1.setCell ⟨fb, 2, none⟩ (.int .i64 ((k : Int) + 1))) (.slice aL L.length cL) L := HLG.out.tag HBX.out.x (fun g hg => Below.heap_setCell _ _ _ _ hg)
        refine bodyPost_ret (results_cell_tmp Try.results16 _ _ rb _ _ _ _ rfl (res4_kept HB2.r) Try.underlying39 rfl Try.sizeD) rfl ⟨_, L, rfl, HL2.tag HB2.r (fun g hg => res4_block hg), HWR.out, HB2.fin _ _ _ _⟩
      | false =>
        obtain ⟨e1, e2, _⟩ := ac_fine (g := 0) (k := k) (zs := zs) hi hf
        have HWR : Hid (∀ v, Wrote m zs k (i : Int) b L (L ++ [⟨(i : Int), v, b⟩])) := fun v => Wrote.done (by rw [hbl]; exact e1)
        rw [e1, e2]
        have HF : Hid (fa zs k = false) := hf
        have HBL : Hid (b.length = 512) := hbl
        obtain ⟨i2, hi2, hz0, hz1, hz2⟩ := info_parts Try.info5
        obtain ⟨j0, hj, hy0, hy1, hy2⟩ := info_parts Try.info65
        clear e1 e2 hin hf hbl
        go_enter Try.func16, Try.ntmps16
        go_upto_region 1 with (fail)
        generalize (w.alloc (.cells #[.int .i64 (m : Int), .slice a0 L0 c0, .int .i64 (k : Int), .slice aL L.length cL] 39)).alloc (.cells #[.int .i64 0, .slice none 0 0, .int .i64 0, .slice none 0 0] 39) = w1 at *
        generalize hrb : w.heap.size + 1 = rb at *
        generalize hfb : w.heap.size = fb at *
        have HFB : Hid (w.heap.size = fb) := hfb
        clear hrb hfb
        have HXX := HBX
        have nfr : fb ≠ rb := HBX.out.lo.2.2
        have x0 : w1.cell? ⟨fb, 0, none⟩ = some (.int .i64 (m : Int)) := (HXX.out.xc 0).trans rfl
        have x1 : w1.cell? ⟨fb, 1, none⟩ = some (.slice a0 L0 c0) := (HXX.out.xc 1).trans rfl
        have x2 : w1.cell? ⟨fb, 2, none⟩ = some (.int .i64 (k : Int)) := (HXX.out.xc 2).trans rfl
        have x3 : w1.cell? ⟨fb, 3, none⟩ = some (.slice aL L.length cL) := (HXX.out.xc 3).trans rfl
        have r0 := HXX.out.r0
        have r1 := HXX.out.r1
        have r2 := HXX.out.r2
        have r3 := HXX.out.r3
        have f0 := HXX.out.fr 0
        have f1 := HXX.out.fr 1
        have f2 := HXX.out.fr 2
        have f3 := HXX.out.fr 3
        have fx := HXX.out.fx 2
        go_wp2_with fail
        refine (refFails_any k _ HBO.out).mono ?_
        rintro e w' ⟨rfl, rfl⟩
        rw [HF.out]
        go_upto_region 9 with (fail)
        have hb2 := HBX.out.set 2 (.int .i64 ((k : Int) + 1))
        generalize w1.setCell ⟨fb, 2, none⟩ (.int .i64 ((k : Int) + 1)) = w2 at *
        have HB2 : Hid (Bx w w2 fb rb #[.int .i64 (m : Int), .slice a0 L0 c0, .int .i64 ((k : Int) + 1), .slice aL L.length cL]) := hb2
        have HL2 : Hid (LogAt C w2 (.slice aL L.length cL) L) := HL0.out.below hb2.bel
        have HS2 : Hid (SrcAt w2 (.slice av 512 cv) 512 1 (bv b)) := HS0.out.later hb2.bel
        have x3' : w2.cell? ⟨fb, 3, none⟩ = some (.slice aL L.length cL) := (hb2.xc 3).trans rfl
        have n1 : fb < w2.heap.size := (Array.getElem?_eq_some_iff.1 hb2.x).1
        have n2 : fb ≠ w2.heap.size := by omega
        have HLO : Hid (rb < w2.heap.size) := (Array.getElem?_eq_some_iff.1 hb2.r).1
        have hcw : C ≤ w2.heap.size := by have := hb2.bel.size; have := HFB.out; omega
        have HCW : Hid (C ≤ w2.heap.size) := hcw
        have ba : Below w2.heap.size w2 (w2.alloc (.cells #[] 65)) := (Below.refl _ w2).alloc (Nat.le_refl _) _
        have HSL : Hid (SrcAt (w2.alloc (.cells #[] 65)) (.slice aL L.length cL) L.length 2 (wc L)) := src_row (HL2.out.below ba).row
        have HON : Hid (∀ u ∈ wc L, u.oneCell' = true) := wc_one HL2.out
        clear hb2 HXX x0 x1 x2 x3 r0 r1 r2 r3 f0 f1 f2 f3 fx ba hcw HLG HBO HBX HL0 HS0 hC
        go_wp2_with (at_builtin; refine wpList_append_src rfl _ _ 37 rfl w2.heap.size 65 j0 (.agg #[.int .i64 0, .slice none 0 0]) 2 32 Try.underlying37 hj hy0 hy1 hy2 rfl (by decide) _ _ _ rfl (World.ownsRow_made w2 #[] 0 (Nat.le_refl _) (by unfold maxLen; omega) rfl) _ L.length (wc L) rfl HSL.out HON.out ?c3 ?c4 ?c5 ?_)
        case c3 => unfold maxLen; omega
        case c4 => omega
        case c5 => simp
        intro v3 w3 own3 gr3
        have b3 : Below w2.heap.size w2 w3 := ((Below.refl _ w2).alloc (Nat.le_refl _) _).grown gr3 (by simp) (fun i hi => by simp [Value.ownBlock] at hi; omega)
        have own3' : w3.ownsRow w2.heap.size 65 2 v3 L.length (wc L) := by simpa using own3
        have HO3 : Hid (w3.ownsRow w2.heap.size 65 2 v3 L.length (wc L)) := own3'
        have HB3 : Hid (Below w2.heap.size w2 w3) := b3
        obtain ⟨a3, c3, rfl⟩ := row_slice own3'
        have HS3 : Hid (SrcAt (w3.alloc (.cells #[] 5)) (.slice av 512 cv) 512 1 (bv b)) := HS2.out.later (b3.alloc b3.size _)
        clear own3 gr3 b3 own3' x3' n1 n2
        go_wp2_with (at_builtin; refine wpList_append_src rfl _ _ 25 rfl w3.heap.size 5 i2 (.int .u8 0) 1 1 Try.underlying25 hi2 hz0 hz1 hz2 rfl (by decide) _ _ _ rfl (World.ownsRow_made w3 #[] 0 (Nat.le_refl _) (by unfold maxLen; omega) rfl) _ 512 (bv b) rfl HS3.out (bv_one _) ?d3 ?d4 ?d5 ?_)
        case d3 => unfold maxLen; omega
        case d4 => omega
        case d5 => simp
        intro v4 w4 own4 gr4
        have b4 : Below w3.heap.size w3 w4 := ((Below.refl _ w3).alloc (Nat.le_refl _) _).grown gr4 (by simp) (fun i hi => by simp [Value.ownBlock] at hi; omega)
        have own4' : w4.ownsRow w3.heap.size 5 1 v4 512 (bv b) := by simpa using own4
        have HO4 : Hid (w4.ownsRow w3.heap.size 5 1 v4 512 (bv b)) := own4'
        have HB4 : Hid (Below w3.heap.size w3 w4) := b4
        have HO34 : Hid (w4.ownsRow w2.heap.size 65 2 (.slice a3 L.length c3) L.length (wc L)) := row_below HO3.out b4
        have HLT : Hid (∀ j, (Value.slice a3 L.length c3).ownBlock = some j → w2.heap.size ≤ j ∧ j < w3.heap.size) := fun j hj => HO3.out.lt j hj
        obtain ⟨a4, c4, rfl⟩ := row_slice own4'
        have HS4 : Hid (w2.heap.size ≤ w4.heap.size) := Nat.le_trans HB3.out.size b4.size
        clear own4 gr4 b4 own4'
        go_wp2_with (at_builtin; refine wpList_append_src rfl _ _ 37 rfl w2.heap.size 65 j0 (.agg #[.int .i64 0, .slice none 0 0]) 2 32 Try.underlying37 hj hy0 hy1 hy2 rfl (by decide) _ _ _ rfl (HO34.out.alloc _) _ 1 [.int .i64 (i : Int), .slice a4 512 c4] rfl (two_new w4 _ _ _) ?e2 ?e3 ?e4 ?e5 ?_)
        case e2 =>
          intro u hu
          simp at hu
          rcases hu with rfl | rfl <;> rfl
        case e3 => unfold maxLen; omega
        case e4 => omega
        case e5 => have := HS4.out; simp; omega
        intro v5 w5 own5 gr5
        have b5 : Below w2.heap.size w2 w5 := ((HB3.out.trans (HB4.out.mono HB3.out.size)).alloc HS4.out _).grown gr5 (by have := HS4.out; simp; omega) (fun i hi => (HLT.out i hi).1)
        have HO5 : Hid (w5.ownsRow w2.heap.size 65 2 v5 (L.length + 1) (wc L ++ [.int .i64 (i : Int), .slice a4 512 c4])) := own5
        have HR5 : Hid (w5.ownsRow w3.heap.size 5 1 (.slice a4 512 c4) 512 (bv b)) := by
          have h1 := HO4.out.alloc (.cells #[.int .i64 (i : Int), .slice a4 512 c4] 65)
          refine ⟨h1.1, ?_⟩
          rcases h1.2 with h2 | ⟨g, cap, cur, h2, h3, h4, r⟩
          · exact .inl h2
          · refine .inr ⟨g, cap, cur, h2, h3, ?_, r⟩
            rw [gr5.block g (Array.getElem?_eq_some_iff.1 h4).1 (fun e => by have := (HLT.out g e.symm).2; omega)]
            exact h4
        have HB5 : Hid (Below w2.heap.size w2 w5) := b5
        have HX5 : Hid (Bx w w5 fb rb #[.int .i64 (m : Int), .slice a0 L0 c0, .int .i64 ((k : Int) + 1), .slice aL L.length cL]) := HB2.out.below b5
        obtain ⟨a5, c5, rfl⟩ := row_slice own5
        have HXX := HX5
        have x0 : w5.cell? ⟨fb, 0, none⟩ = some (.int .i64 (m : Int)) := (HXX.out.xc 0).trans rfl
        have x1 : w5.cell? ⟨fb, 1, none⟩ = some (.slice a0 L0 c0) := (HXX.out.xc 1).trans rfl
        have x2 : w5.cell? ⟨fb, 2, none⟩ = some (.int .i64 ((k : Int) + 1)) := (HXX.out.xc 2).trans rfl
        have x3 : w5.cell? ⟨fb, 3, none⟩ = some (.slice aL L.length cL) := (HXX.out.xc 3).trans rfl
        have r0 := HXX.out.r0
        have r1 := HXX.out.r1
        have r2 := HXX.out.r2
        have r3 := HXX.out.r3
        have f0 := HXX.out.fr 0
        have f1 := HXX.out.fr 1
        have f2 := HXX.out.fr 2
        have f3 := HXX.out.fr 3
        have fx := HXX.out.fx 2
        have fx3 := HX5.out.fx 3
        clear own5 gr5 b5 HXX
        go_wp2
        have hb6 := HX5.out.set 3 (.slice a5 (L.length + 1) c5)
        refine bodyPost_ret (results_cell_tmp Try.results16 _ _ rb _ _ _ _ rfl (res4_kept hb6.r) Try.underlying39 rfl Try.sizeD) rfl ⟨_, L ++ [⟨(i : Int), .slice a4 512 c4, b⟩], rfl, ⟨?_, ?_⟩, HWR.out _, hb6.fin _ _ _ _⟩
        · rw [wc_snoc, List.length_append]
          exact rowMono (row_tag (row_tag HO5.out HX5.out.x (by decide) (fun g hg => Below.heap_setCell _ _ _ _ hg)) hb6.r (by decide) (fun g hg => res4_block hg)) HCW.out
        · intro t ht
          rw [List.mem_append, List.mem_singleton] at ht
          rcases ht with ht | rfl
          · have h1 := (HL2.out.below HB5.out).each t ht
            exact ⟨row_tag (row_tag h1.1 HX5.out.x (by decide) (fun g hg => Below.heap_setCell _ _ _ _ hg)) hb6.r (by decide) (fun g hg => res4_block hg), h1.2⟩
          · exact ⟨rowMono (row_tag (row_tag HR5.out HX5.out.x (by decide) (fun g hg => Below.heap_setCell _ _ _ _ hg)) hb6.r (by decide) (fun g hg => res4_block hg)) (by have := HCW.out; have := HB3.out.size; omega), HBL.out⟩
    · obtain ⟨e1, e2, _⟩ := ac_size (g := 0) (k := k) (zs := zs) hin h5
      have HWR : Hid (Wrote m zs k (i : Int) b L L) := Wrote.none (by rw [hbl, e1]; omega)
      rw [e1, e2]
      have h6 : ((q : Int) != 512) = true := by rw [bne_iff_ne]; omega
      clear e1 e2 hin h5
      go_enter Try.func16, Try.ntmps16
      go_upto_region 1 with (fail)
      generalize (w.alloc (.cells #[.int .i64 (m : Int), .slice a0 L0 c0, .int .i64 (k : Int), .slice aL L.length cL] 39)).alloc (.cells #[.int .i64 0, .slice none 0 0, .int .i64 0, .slice none 0 0] 39) = w1 at *
      generalize hrb : w.heap.size + 1 = rb at *
      generalize hfb : w.heap.size = fb at *
      have HFB : Hid (w.heap.size = fb) := hfb
      clear hrb hfb
      have HXX := HBX
      have nfr : fb ≠ rb := HBX.out.lo.2.2
      have x0 : w1.cell? ⟨fb, 0, none⟩ = some (.int .i64 (m : Int)) := (HXX.out.xc 0).trans rfl
      have x1 : w1.cell? ⟨fb, 1, none⟩ = some (.slice a0 L0 c0) := (HXX.out.xc 1).trans rfl
      have x2 : w1.cell? ⟨fb, 2, none⟩ = some (.int .i64 (k : Int)) := (HXX.out.xc 2).trans rfl
      have x3 : w1.cell? ⟨fb, 3, none⟩ = some (.slice aL L.length cL) := (HXX.out.xc 3).trans rfl
      have r0 := HXX.out.r0
      have r1 := HXX.out.r1
      have r2 := HXX.out.r2
      have r3 := HXX.out.r3
      have f0 := HXX.out.fr 0
      have f1 := HXX.out.fr 1
      have f2 := HXX.out.fr 2
      have f3 := HXX.out.fr 3
      have fx := HXX.out.fx 2
      go_wp2
      refine bodyPost_ret (results_cell_tmp Try.results16 _ _ rb _ _ _ _ rfl (res4_kept HBX.out.r) Try.underlying39 rfl Try.sizeD) rfl ⟨_, L, rfl, HLG.out.tag HBX.out.r (fun g hg => res4_block hg), HWR.out, HBX.out.fin _ _ _ _⟩
end Go.Proofs.Ytdoklbocdmmahaa
