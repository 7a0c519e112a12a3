/- The walk of the law's own 'lives': the chapter's example is answered as the chapter says. -/
import Derived.Test.YtndeojiebpbgdaaLNew
namespace Go.Proofs.Ytndeojiebpbgdaa
open Go.RowKit

theorem BoolsAt.two (w : World) (x y : Bool) : BoolsAt (w.alloc (.cells #[.bool x, .bool y] 4)) (some ⟨w.heap.size, 0, none⟩) 2 2 [x, y] := by
  refine ⟨rfl, .inr ⟨_, rfl, fun i hi => ?_⟩⟩
  rw [add_lit', Nat.zero_add, cell_of_row _ w.heap.size i _ _ _ (heap_alloc_new w _)]
  match i, hi with
  | 0, _ | 1, _ => rfl

set_option maxHeartbeats 400000 in
theorem lives_any (w : World) :
    Calls Try.prog 10 #[] w fun e w' => e = .returned (.bool true) ∧ Below w.heap.size w w' := by
  have hb0 : Hid (Below w.heap.size w (w.alloc (.cells #[.bool true, .bool false] 4))) := (Below.refl _ w).alloc (Nat.le_refl _) _
  have hz0 : Hid _ := BoolsAt.two w true false
  go_enter Try.func10, Try.ntmps10
  go_wp2_with fail
  refine (new_any _ hz0.out (by omega)).mono ?_
  rintro e w1 ⟨b, rfl, h1, b1⟩
  have B1 : Hid (Below w.heap.size w w1) := hb0.out.trans (b1.mono hb0.out.size)
  have hE := hb0.out.size
  generalize w1.heap.size = E at *
  generalize hQ : (w.alloc (.cells #[.bool true, .bool false] 4)).heap.size = Q at *
  clear hz0 b1 hb0 hQ
  go_wp2_with fail
  refine (fails_any _ h1 (by omega)).mono ?_
  rintro e w2 ⟨rfl, h2, t2⟩
  rw [show fa [true, false] 0 = true by decide]
  go_wp2_with fail
  refine (fails_any _ h2 (by omega)).mono ?_
  rintro e w3 ⟨rfl, h3, t3⟩
  rw [show fa [true, false] (0 + 1) = false by decide]
  go_wp2_with fail
  refine (fails_any _ h3 (by omega)).mono ?_
  rintro e w4 ⟨rfl, h4, t4⟩
  rw [show fa [true, false] (0 + 1 + 1) = false by decide]
  go_wp2_with (go_at_call 7; refine (asked_any _ h4).mono ?_; rintro e w' ⟨rfl, rfl⟩)
  go_ret
  refine ⟨rfl, B1.out.trans ?_⟩
  have hh := h1.hi
  have hx := h1.lo
  have hy := h1.lt
  have tt := (t2.trans t3).trans t4
  exact (tt.below (by omega)).mono hE
end Go.Proofs.Ytndeojiebpbgdaa
