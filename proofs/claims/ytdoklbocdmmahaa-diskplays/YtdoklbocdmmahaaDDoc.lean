/- The walk of the document's own Read (layer 8). -/
import Derived.Test.YtdoklbocdmmahaaDLog
import Derived.Deep.RegionWith
import Derived.BigRegion
namespace Go.Proofs.Ytdoklbocdmmahaa
open Go.RowKit

theorem Try.sizeD : (Try.prog.info? 39).map (fun i => i.size) = some 4 := by kernel_rfl
/-- A call's two boxes: what was handed in, and the answer. -/
structure Bx (w w2 : World) (fb rb : Nat) (X : Array Value) : Prop where
  x : w2.heap[fb]? = some (.cells X 39 (0, 0))
  r : w2.heap[rb]? = some (.cells #[.int .i64 0, .slice none 0 0, .int .i64 0, .slice none 0 0] 39 (0, 0))
  lo : w.heap.size ≤ fb ∧ w.heap.size ≤ rb ∧ fb ≠ rb
  bel : Below w.heap.size w w2
section
variable {fb rb : Nat} {w w2 w3 : World} {X : Array Value}
theorem Bx.made (w : World) (X : Array Value) :
    Bx w ((w.alloc (.cells X 39)).alloc (.cells #[.int .i64 0, .slice none 0 0, .int .i64 0, .slice none 0 0] 39)) w.heap.size (w.heap.size + 1) X := by
  refine ⟨?_, ?_, by omega, ((Below.refl _ w).alloc (Nat.le_refl _) _).alloc (by simp) _⟩
  · rw [Below.heap_alloc _ _ _ (by simp)]; exact heap_alloc_new w _
  · have := heap_alloc_new (w.alloc (.cells X 39)) (.cells #[.int .i64 0, .slice none 0 0, .int .i64 0, .slice none 0 0] 39)
    simpa using this
theorem Bx.below (h : Bx w w2 fb rb X) (hb : Below w2.heap.size w2 w3) : Bx w w3 fb rb X :=
  ⟨(hb.block fb (Array.getElem?_eq_some_iff.1 h.x).1).trans h.x, (hb.block rb (Array.getElem?_eq_some_iff.1 h.r).1).trans h.r, h.lo, h.bel.trans (hb.mono h.bel.size)⟩
theorem Bx.xc (h : Bx w w2 fb rb X) (j : Nat) : w2.cell? ⟨fb, j, none⟩ = X[j]? := cell_of_row w2 fb j _ _ _ h.x
theorem Bx.r0 (h : Bx w w2 fb rb X) : w2.cell? ⟨rb, 0, none⟩ = some (.int .i64 0) := by rw [cell_of_row w2 rb 0 _ _ _ h.r]; rfl
theorem Bx.r1 (h : Bx w w2 fb rb X) : w2.cell? ⟨rb, 1, none⟩ = some (.slice none 0 0) := by rw [cell_of_row w2 rb 1 _ _ _ h.r]; rfl
theorem Bx.r2 (h : Bx w w2 fb rb X) : w2.cell? ⟨rb, 2, none⟩ = some (.int .i64 0) := by rw [cell_of_row w2 rb 2 _ _ _ h.r]; rfl
theorem Bx.r3 (h : Bx w w2 fb rb X) : w2.cell? ⟨rb, 3, none⟩ = some (.slice none 0 0) := by rw [cell_of_row w2 rb 3 _ _ _ h.r]; rfl
theorem Bx.fr (h : Bx w w2 fb rb X) (j : Nat) : w2.frozen? ⟨rb, j, none⟩ = false := frozen_of_row w2 rb j _ _ h.r
theorem Bx.fx (h : Bx w w2 fb rb X) (j : Nat) : w2.frozen? ⟨fb, j, none⟩ = false := frozen_of_row w2 fb j _ _ h.x
theorem Bx.set (h : Bx w w2 fb rb X) (j : Nat) (u : Value) : Bx w (w2.setCell ⟨fb, j, none⟩ u) fb rb (X.setIfInBounds j u) := by
  obtain ⟨l1, l2, l3⟩ := h.lo
  exact ⟨heap_setCell_same w2 fb j _ _ u h.x, by rw [Below.heap_setCell _ _ _ _ (Ne.symm l3)]; exact h.r, h.lo, h.bel.setCell (p := ⟨fb, j, none⟩) l1 _⟩
theorem Bx.fin (h : Bx w w2 fb rb X) (u0 u1 u2 u3 : Value) : Below w.heap.size w ((((w2.setCell ⟨rb, 0, none⟩ u0).setCell ⟨rb, 1, none⟩ u1).setCell ⟨rb, 2, none⟩ u2).setCell ⟨rb, 3, none⟩ u3) := res4_below h.bel h.lo.2.1
end
set_option maxRecDepth 100000 in
set_option maxHeartbeats 2000000 in
theorem refRead_any {C m k : Nat} {a0 : Option Addr} {L0 c0 : Nat} {zs : List Bool} {vL : Value} {L : List Wt} (n : Int) (w : World) (h : LogAt C w vL L) (hL : L.length ≤ 1000) (hz : BoolsAt w a0 L0 c0 zs) (hk : k < 1000000000) :
    Calls Try.prog 14 #[.agg #[.int .i64 (m : Int), .slice a0 L0 c0, .int .i64 (k : Int), vL], .int .i64 n] w fun e w' => ∃ v, e = .returned (.tuple #[.agg #[.int .i64 (m : Int), .slice a0 L0 c0, .int .i64 (acK m k n 512 : Nat), vL], v, .int .i64 (acE m zs k n 512 : Nat)]) ∧
      w'.ownsRow w.heap.size 5 1 v (rdL m zs k L n).length (bv (rdL m zs k L n)) ∧ Below w.heap.size w w' := by
  obtain ⟨aL, cL, rfl⟩ := row_slice h.row
  have hbx := Bx.made w #[.int .i64 (m : Int), .slice a0 L0 c0, .int .i64 (k : Int), .slice aL L.length cL]
  have HBX : Hid (Bx w _ w.heap.size (w.heap.size + 1) #[.int .i64 (m : Int), .slice a0 L0 c0, .int .i64 (k : Int), .slice aL L.length cL]) := hbx
  have HBO : Hid (BoolsAt _ a0 L0 c0 zs) := hz.below hbx.bel
  have HLG : Hid (LogAt C _ (.slice aL L.length cL) L) := h.below hbx.bel
  clear hbx h hz
  cases hin : inD m n with
  | false =>
    obtain ⟨e1, e2, _⟩ := ac_no (g := 0) (k := k) (s := 512) (zs := zs) hin
    have e3 : rdL m zs k L n = [] := by rw [rdL, e1]; rfl
    rw [e1, e2, e3]
    have hno := inD_no hin
    clear e1 e2 e3 hin
    by_cases n0 : 0 ≤ n
    · have n1 : (m : Int) ≤ n := by omega
      clear hno
      go_enter Try.func14, Try.ntmps14
      go_upto_region 1 with (fail)
      generalize (w.alloc (.cells #[.int .i64 (m : Int), .slice a0 L0 c0, .int .i64 (k : Int), .slice aL L.length cL] 39)).alloc (.cells #[.int .i64 0, .slice none 0 0, .int .i64 0, .slice none 0 0] 39) = w1 at *
      generalize hrb : w.heap.size + 1 = rb at *
      generalize hfb : w.heap.size = fb at *
      have HFB : Hid (w.heap.size = fb) := hfb
      clear hrb hfb
      have HXX := HBX
      have nfr : fb ≠ rb := HBX.out.lo.2.2
      have x0 : w1.cell? ⟨fb, 0, none⟩ = some (.int .i64 (m : Int)) := (HXX.out.xc 0).trans rfl
      have x1 : w1.cell? ⟨fb, 1, none⟩ = some (.slice a0 L0 c0) := (HXX.out.xc 1).trans rfl
      have x2 : w1.cell? ⟨fb, 2, none⟩ = some (.int .i64 (k : Int)) := (HXX.out.xc 2).trans rfl
      have x3 : w1.cell? ⟨fb, 3, none⟩ = some (.slice aL L.length cL) := (HXX.out.xc 3).trans rfl
      have r0 := HXX.out.r0
      have r1 := HXX.out.r1
      have r2 := HXX.out.r2
      have r3 := HXX.out.r3
      have f0 := HXX.out.fr 0
      have f1 := HXX.out.fr 1
      have f2 := HXX.out.fr 2
      have f3 := HXX.out.fr 3
      have fx := HXX.out.fx 2
      go_wp2
      refine bodyPost_ret (results_cell_tmp2 Try.results14 _ _ rb _ _ _ _ rfl (res4_kept HBX.out.r) Try.underlying39 rfl Try.sizeD) rfl ⟨_, rfl, World.ownsRow_nil _ _ _ _, HBX.out.fin _ _ _ _⟩
    · clear hno
      go_enter Try.func14, Try.ntmps14
      go_upto_region 1 with (fail)
      generalize (w.alloc (.cells #[.int .i64 (m : Int), .slice a0 L0 c0, .int .i64 (k : Int), .slice aL L.length cL] 39)).alloc (.cells #[.int .i64 0, .slice none 0 0, .int .i64 0, .slice none 0 0] 39) = w1 at *
      generalize hrb : w.heap.size + 1 = rb at *
      generalize hfb : w.heap.size = fb at *
      have HFB : Hid (w.heap.size = fb) := hfb
      clear hrb hfb
      have HXX := HBX
      have nfr : fb ≠ rb := HBX.out.lo.2.2
      have x0 : w1.cell? ⟨fb, 0, none⟩ = some (.int .i64 (m : Int)) := (HXX.out.xc 0).trans rfl
      have x1 : w1.cell? ⟨fb, 1, none⟩ = some (.slice a0 L0 c0) := (HXX.out.xc 1).trans rfl
      have x2 : w1.cell? ⟨fb, 2, none⟩ = some (.int .i64 (k : Int)) := (HXX.out.xc 2).trans rfl
      have x3 : w1.cell? ⟨fb, 3, none⟩ = some (.slice aL L.length cL) := (HXX.out.xc 3).trans rfl
      have r0 := HXX.out.r0
      have r1 := HXX.out.r1
      have r2 := HXX.out.r2
      have r3 := HXX.out.r3
      have f0 := HXX.out.fr 0
      have f1 := HXX.out.fr 1
      have f2 := HXX.out.fr 2
      have f3 := HXX.out.fr 3
      have fx := HXX.out.fx 2
      go_wp2
      refine bodyPost_ret (results_cell_tmp2 Try.results14 _ _ rb _ _ _ _ rfl (res4_kept HBX.out.r) Try.underlying39 rfl Try.sizeD) rfl ⟨_, rfl, World.ownsRow_nil _ _ _ _, HBX.out.fin _ _ _ _⟩
  | true =>
    obtain ⟨i, rfl, hi⟩ := inD_yes hin
    have i1 : (i : Int) < (m : Int) := by omega
    have i0 : (0 : Int) ≤ (i : Int) := by omega
    cases hf : fa zs k with
    | true =>
      obtain ⟨e1, e2, _⟩ := ac_fail (g := 0) hin hf
      have e3 : rdL m zs k L (i : Int) = [] := by rw [rdL, e1]; rfl
      rw [e1, e2, e3]
      have HF : Hid (fa zs k = true) := hf
      clear e1 e2 e3 hin hf
      go_enter Try.func14, Try.ntmps14
      go_upto_region 1 with (fail)
      generalize (w.alloc (.cells #[.int .i64 (m : Int), .slice a0 L0 c0, .int .i64 (k : Int), .slice aL L.length cL] 39)).alloc (.cells #[.int .i64 0, .slice none 0 0, .int .i64 0, .slice none 0 0] 39) = w1 at *
      generalize hrb : w.heap.size + 1 = rb at *
      generalize hfb : w.heap.size = fb at *
      have HFB : Hid (w.heap.size = fb) := hfb
      clear hrb hfb
      have HXX := HBX
      have nfr : fb ≠ rb := HBX.out.lo.2.2
      have x0 : w1.cell? ⟨fb, 0, none⟩ = some (.int .i64 (m : Int)) := (HXX.out.xc 0).trans rfl
      have x1 : w1.cell? ⟨fb, 1, none⟩ = some (.slice a0 L0 c0) := (HXX.out.xc 1).trans rfl
      have x2 : w1.cell? ⟨fb, 2, none⟩ = some (.int .i64 (k : Int)) := (HXX.out.xc 2).trans rfl
      have x3 : w1.cell? ⟨fb, 3, none⟩ = some (.slice aL L.length cL) := (HXX.out.xc 3).trans rfl
      have r0 := HXX.out.r0
      have r1 := HXX.out.r1
      have r2 := HXX.out.r2
      have r3 := HXX.out.r3
      have f0 := HXX.out.fr 0
      have f1 := HXX.out.fr 1
      have f2 := HXX.out.fr 2
      have f3 := HXX.out.fr 3
      have fx := HXX.out.fx 2
      go_wp2_with fail
      refine (refFails_any k _ HBO.out).mono ?_
      rintro e w' ⟨rfl, rfl⟩
      rw [HF.out]
      go_wp2
      have HB2 := HBX.out.set 2 (.int .i64 ((k : Int) + 1))
      refine bodyPost_ret (results_cell_tmp2 Try.results14 _ _ rb _ _ _ _ rfl (res4_kept HB2.r) Try.underlying39 rfl Try.sizeD) rfl ⟨_, rfl, World.ownsRow_nil _ _ _ _, HB2.fin _ _ _ _⟩
    | false =>
      obtain ⟨e1, e2, _⟩ := ac_fine (g := 0) (k := k) (zs := zs) hi hf
      have e3 : rdL m zs k L (i : Int) = rp L (i : Int) := by rw [rdL, e1]; rfl
      have e4 : pkL m L (i : Int) = rp L (i : Int) := by rw [pkL, hin]; rfl
      rw [e1, e2, e3]
      have HF : Hid (fa zs k = false) := hf
      have HE4 : Hid (pkL m L (i : Int) = rp L (i : Int)) := e4
      clear e1 e2 e3 hin hf e4
      go_enter Try.func14, Try.ntmps14
      go_upto_region 1 with (fail)
      generalize (w.alloc (.cells #[.int .i64 (m : Int), .slice a0 L0 c0, .int .i64 (k : Int), .slice aL L.length cL] 39)).alloc (.cells #[.int .i64 0, .slice none 0 0, .int .i64 0, .slice none 0 0] 39) = w1 at *
      generalize hrb : w.heap.size + 1 = rb at *
      generalize hfb : w.heap.size = fb at *
      have HFB : Hid (w.heap.size = fb) := hfb
      clear hrb hfb
      have HXX := HBX
      have nfr : fb ≠ rb := HBX.out.lo.2.2
      have x0 : w1.cell? ⟨fb, 0, none⟩ = some (.int .i64 (m : Int)) := (HXX.out.xc 0).trans rfl
      have x1 : w1.cell? ⟨fb, 1, none⟩ = some (.slice a0 L0 c0) := (HXX.out.xc 1).trans rfl
      have x2 : w1.cell? ⟨fb, 2, none⟩ = some (.int .i64 (k : Int)) := (HXX.out.xc 2).trans rfl
      have x3 : w1.cell? ⟨fb, 3, none⟩ = some (.slice aL L.length cL) := (HXX.out.xc 3).trans rfl
      have r0 := HXX.out.r0
      have r1 := HXX.out.r1
      have r2 := HXX.out.r2
      have r3 := HXX.out.r3
      have f0 := HXX.out.fr 0
      have f1 := HXX.out.fr 1
      have f2 := HXX.out.fr 2
      have f3 := HXX.out.fr 3
      have fx := HXX.out.fx 2
      go_wp2_with fail
      refine (refFails_any k _ HBO.out).mono ?_
      rintro e w' ⟨rfl, rfl⟩
      rw [HF.out]
      go_upto_region 7 with (fail)
      have hb2 := HBX.out.set 2 (.int .i64 ((k : Int) + 1))
      have HL2 : Hid (LogAt C (w1.setCell ⟨fb, 2, none⟩ (.int .i64 ((k : Int) + 1))) (.slice aL L.length cL) L) := HLG.out.tag HBX.out.x (fun g hg => Below.heap_setCell _ _ _ _ hg)
      generalize w1.setCell ⟨fb, 2, none⟩ (.int .i64 ((k : Int) + 1)) = w2 at *
      have HB2 : Hid (Bx w w2 fb rb #[.int .i64 (m : Int), .slice a0 L0 c0, .int .i64 ((k : Int) + 1), .slice aL L.length cL]) := hb2
      clear hb2 HXX x0 x1 x2 x3 r0 r1 r2 r3 f0 f1 f2 f3 fx
      have HXX := HB2
      have x0 : w2.cell? ⟨fb, 0, none⟩ = some (.int .i64 (m : Int)) := (HXX.out.xc 0).trans rfl
      have x1 : w2.cell? ⟨fb, 1, none⟩ = some (.slice a0 L0 c0) := (HXX.out.xc 1).trans rfl
      have x2 : w2.cell? ⟨fb, 2, none⟩ = some (.int .i64 ((k : Int) + 1)) := (HXX.out.xc 2).trans rfl
      have x3 : w2.cell? ⟨fb, 3, none⟩ = some (.slice aL L.length cL) := (HXX.out.xc 3).trans rfl
      have r0 := HXX.out.r0
      have r1 := HXX.out.r1
      have r2 := HXX.out.r2
      have r3 := HXX.out.r3
      have f0 := HXX.out.fr 0
      have f1 := HXX.out.fr 1
      have f2 := HXX.out.fr 2
      have f3 := HXX.out.fr 3
      have fx := HXX.out.fx 2
      have HLD : Hid (LogAt C w2.drew (.slice aL L.length cL) L) := HL2.out.below (drew_below _ _)
      have HBD : Hid (Bx w w2.drew fb rb #[.int .i64 (m : Int), .slice a0 L0 c0, .int .i64 ((k : Int) + 1), .slice aL L.length cL]) := HB2.out.below (drew_below _ _)
      have HPK : Hid (∀ w : World, LogAt C w (.slice aL L.length cL) L → Calls Try.prog 17 #[.agg #[.int .i64 (m : Int), .slice a0 L0 c0, .int .i64 ((k : Int) + 1), .slice aL L.length cL], .int .i64 (i : Int)] w fun e w' => ∃ v, e = .returned v ∧ w'.ownsRow w.heap.size 5 1 v (rp L (i : Int)).length (bv (rp L (i : Int))) ∧ Below w.heap.size w w') := by
        intro w hl
        have := refPeek_any (m := m) (k := k + 1) (a0 := a0) (L0 := L0) (c0 := c0) (i : Int) w hl hL
        rw [HE4.out] at this
        exact this
      clear HXX
      go_region_with (go_at_call 17; refine (HPK.out _ HLD.out).mono ?_; rintro e w3 ⟨v3, rfl, own3, b3⟩; have HO3 : Hid _ := own3; have HB3 : Hid (Bx w w3 fb rb #[.int .i64 (m : Int), .slice a0 L0 c0, .int .i64 ((k : Int) + 1), .slice aL L.length cL]) := HBD.out.below b3; clear own3 b3; have y0 : w3.cell? ⟨fb, 0, none⟩ = some (.int .i64 (m : Int)) := (HB3.out.xc 0).trans rfl; have y1 : w3.cell? ⟨fb, 1, none⟩ = some (.slice a0 L0 c0) := (HB3.out.xc 1).trans rfl; have y2 : w3.cell? ⟨fb, 2, none⟩ = some (.int .i64 ((k : Int) + 1)) := (HB3.out.xc 2).trans rfl; have y3 : w3.cell? ⟨fb, 3, none⟩ = some (.slice aL L.length cL) := (HB3.out.xc 3).trans rfl; have s0 := HB3.out.r0; have s1 := HB3.out.r1; have s2 := HB3.out.r2; have s3 := HB3.out.r3; have t0 := HB3.out.fr 0; have t1 := HB3.out.fr 1; have t2 := HB3.out.fr 2; have t3 := HB3.out.fr 3)
      all_goals
        go_wp2
        refine bodyPost_ret (results_cell_tmp2 Try.results14 _ _ rb _ _ _ _ rfl (res4_kept HB3.out.r) Try.underlying39 rfl Try.sizeD) rfl ⟨_, rfl, ?_, HB3.out.fin _ _ _ _⟩
        exact rowMono (row_tag HO3.out HB3.out.r (by decide) (fun g hg => res4_block hg)) HB2.out.bel.size
end Go.Proofs.Ytdoklbocdmmahaa
