/- The walk of the law's own 'lives': the chapter's example is answered as the chapter says. -/
import Derived.Test.YteebjeifbccbnaaMNew
namespace Go.Proofs.Yteebjeifbccbnaa
open Go.RowKit

theorem repN_getD (n i : Nat) : (List.replicate n (0 : Nat)).getD i 0 = 0 := by
  rw [List.getD_eq_getElem?_getD, List.getElem?_replicate]
  split <;> rfl
theorem zero_put {P : List Nat} {o n : Nat} (h : o + n ≤ P.length) (h0 : ∀ i, P.getD i 0 = 0) (i : Nat) : (putAt P o (List.replicate n 0)).getD i 0 = 0 := by
  rw [putAt_getD (by simpa using h)]
  split
  · exact repN_getD _ _
  · exact h0 i
theorem seven_at {P : List Nat} {o : Nat} (h : o + 1 ≤ P.length) (hl : o + 8 ≤ P.length) (h0 : ∀ i, P.getD i 0 = 0) : getTo (putAt P o [7]) o 8 = 7 := by
  have e : seg (putAt P o [7]) o 8 = [7, 0, 0, 0, 0, 0, 0, 0] := by
    refine ext_getD ?_ ?_
    · rw [length_seg (by rw [length_putAt (by simpa using h)]; exact hl)]; rfl
    · intro i hi
      rw [length_seg (by rw [length_putAt (by simpa using h)]; exact hl)] at hi
      rw [seg_getD hi, putAt_getD (by simpa using h)]
      match i, hi with
      | 0, _ => simp
      | 1, _ | 2, _ | 3, _ | 4, _ | 5, _ | 6, _ | 7, _ =>
        rw [if_neg (by simp), h0]
        rfl
  rw [← seg_getTo, e]
  decide

set_option maxHeartbeats 1000000 in
theorem lives_any (w : World) :
    Calls Try.prog 13 #[] w fun e w' => e = .returned (.bool true) ∧ Below w.heap.size w w' := by
  go_enter Try.func13, Try.ntmps13
  go_wp2_with fail
  refine (ramNew_any 8 (by omega) (by omega) _).mono ?_
  rintro e w1 ⟨r, rfl, h1, b1⟩
  have hz0 := fun i => repN_getD (8 * 4096) i
  have hl0 : (List.replicate (8 * 4096) (0 : Nat)).length = 32768 := List.length_replicate
  generalize List.replicate (8 * 4096) (0 : Nat) = P0 at *
  rw [show down 8 = [7, 6, 5, 4, 3, 2, 1, 0] by decide, show List.replicate 8 (0 : Int) = [0, 0, 0, 0, 0, 0, 0, 0] by decide] at h1
  generalize w1.heap.size = E at *
  have HZ : Hid (∀ i, P0.getD i 0 = 0) := hz0
  have HL : Hid (P0.length = 32768) := hl0
  have H1 : Hid (RamAt w.heap.size E w1 r 8 0 0 [0, 0, 0, 0, 0, 0, 0, 0] [7, 6, 5, 4, 3, 2, 1, 0] P0) := h1
  have HB1 : Hid (Below w.heap.size w w1) := b1
  clear hz0 hl0 h1 b1
  go_wp2_with fail
  refine (ramTake_any 1 _ H1.out (by omega)).mono ?_
  rintro e w2 ⟨rfl, h2, t2⟩
  rw [show tkB [7, 6, 5, 4, 3, 2, 1, 0] 1 = true by decide, show tkO [0, 0, 0, 0, 0, 0, 0, 0] [7, 6, 5, 4, 3, 2, 1, 0] 1 = [1, 0, 0, 0, 0, 0, 0, 0] by decide, show tkS [7, 6, 5, 4, 3, 2, 1, 0] 1 = [7, 6, 5, 4, 3, 2, 1] by decide, show up 0 true = 1 by decide] at h2
  rw [show tkB [7, 6, 5, 4, 3, 2, 1, 0] 1 = true by decide, show tkN [7, 6, 5, 4, 3, 2, 1, 0] 1 = 0 by decide]
  have hp : tkP [7, 6, 5, 4, 3, 2, 1, 0] P0 1 = putAt P0 (0 * 4096) (List.replicate 4096 0) := by
    rw [tkP, if_pos (by decide), show tkN [7, 6, 5, 4, 3, 2, 1, 0] 1 = 0 by decide]
  rw [hp] at h2
  have hz1 := zero_put (P := P0) (o := 0 * 4096) (n := 4096) (by rw [HL.out]; omega) HZ.out
  have hl1 : (putAt P0 (0 * 4096) (List.replicate 4096 0)).length = 32768 := by rw [length_putAt (by rw [HL.out, List.length_replicate]; omega), HL.out]
  generalize putAt P0 (0 * 4096) (List.replicate 4096 0) = P1 at *
  have HZ1 : Hid (∀ i, P1.getD i 0 = 0) := hz1
  have HL1 : Hid (P1.length = 32768) := hl1
  have H2 : Hid (RamAt w.heap.size E w2 r 8 1 0 [1, 0, 0, 0, 0, 0, 0, 0] [7, 6, 5, 4, 3, 2, 1] P1) := h2
  have HB2 : Hid (Below w.heap.size w w2) := HB1.out.trans (t2.below HB1.out.size)
  clear hp hz1 hl1 h2 t2
  go_wp2_with fail
  have ba : Below w2.heap.size w2 (w2.alloc (.cells #[.int .u8 7] 5)) := (Below.refl _ w2).alloc (Nat.le_refl _) _
  refine (ramWrite_any (b := [7]) (L := 1) 0 8 _ (H2.out.below ba) (by omega) (by unfold maxLen; omega) rfl ?_ (by decide) ?_).mono ?_
  · refine .inr ⟨w2.heap.size, 0, rfl, by simp, ?_⟩
    intro j hj
    match j, hj with
    | 0, _ => simp
  · intro q hq _
    simp only [Option.some.injEq] at hq
    subst hq
    have := H2.out.hi
    show w2.heap.size ≠ r
    omega
  rintro e w3 ⟨rfl, h3, t3⟩
  have ht : thB [1, 0, 0, 0, 0, 0, 0, 0] 0 8 ((1 : Nat) : Int) = true := by decide
  have hw : wrP [1, 0, 0, 0, 0, 0, 0, 0] P1 0 8 [7] = putAt P1 8 [7] := by
    rw [wrP, if_pos (by decide)]; rfl
  rw [ht, hw, show up 0 true = 1 by decide] at h3
  rw [ht]
  have H3 : Hid (RamAt w.heap.size E w3 r 8 1 1 [1, 0, 0, 0, 0, 0, 0, 0] [7, 6, 5, 4, 3, 2, 1] (putAt P1 8 [7])) := h3
  have HB3 : Hid (Below w.heap.size w w3) := HB2.out.trans ((ba.mono HB2.out.size).trans (t3.below (by have := HB2.out.size; have := ba.size; omega)))
  clear ba h3 t3 ht hw
  go_wp2_with fail
  refine (ramWord_any 0 1 _ H3.out (by omega)).mono ?_
  rintro e w4 ⟨rfl, h4, t4⟩
  have hw : wdN [1, 0, 0, 0, 0, 0, 0, 0] (putAt P1 8 [7]) 0 1 = 7 := by
    rw [wdN, if_pos (by decide), show plc 0 (1 * 8) = 8 by decide]
    exact seven_at (by rw [HL1.out]; omega) (by rw [HL1.out]; omega) HZ1.out
  rw [hw, show wdB [1, 0, 0, 0, 0, 0, 0, 0] 0 1 = true by decide]
  have HB4 : Hid (Below w.heap.size w w4) := HB3.out.trans (t4.below HB3.out.size)
  clear hw h4 t4
  go_wp2
  go_ret
  exact ⟨rfl, HB4.out⟩
end Go.Proofs.Yteebjeifbccbnaa
