/- The walk of the law's own 'lives': the chapter's example is answered as the chapter says. -/
import Derived.Test.YtngehhpaegljcaaFNew
import Derived.Test.YtngehhpaegljcaaFTake
namespace Go.Proofs.Ytngehhpaegljcaa
open Go.RowKit

set_option maxHeartbeats 400000 in
theorem lives_any (w : World) :
    Calls Try.prog 14 #[] w fun e w' => e = .returned (.bool true) ∧ Below w.heap.size w w' := by
  go_enter Try.func14, Try.ntmps14
  go_wp2_with fail
  refine (new_any 8 (by omega) (by omega) _).mono ?_
  rintro e w1 ⟨p, rfl, h1, b1⟩
  rw [show down 8 = [7, 6, 5, 4, 3, 2, 1, 0] by decide, show List.replicate 8 (0 : Int) = [0, 0, 0, 0, 0, 0, 0, 0] by decide] at h1
  generalize w1.heap.size = E at *
  go_wp2_with fail
  refine (take_any 1 _ h1 (by omega)).mono ?_
  rintro e w2 ⟨rfl, h2, t2⟩
  rw [show tkB [7, 6, 5, 4, 3, 2, 1, 0] 1 = true by decide, show tkO [0, 0, 0, 0, 0, 0, 0, 0] [7, 6, 5, 4, 3, 2, 1, 0] 1 = [1, 0, 0, 0, 0, 0, 0, 0] by decide, show tkS [7, 6, 5, 4, 3, 2, 1, 0] 1 = [7, 6, 5, 4, 3, 2, 1] by decide, show up 0 true = 1 by decide] at h2
  rw [show tkB [7, 6, 5, 4, 3, 2, 1, 0] 1 = true by decide, show tkN [7, 6, 5, 4, 3, 2, 1, 0] 1 = 0 by decide]
  have b2 := b1.trans (t2.below b1.size)
  clear h1 t2
  go_wp2_with fail
  refine (take_any 2 _ h2 (by omega)).mono ?_
  rintro e w3 ⟨rfl, h3, t3⟩
  rw [show tkB [7, 6, 5, 4, 3, 2, 1] 2 = true by decide, show tkO [1, 0, 0, 0, 0, 0, 0, 0] [7, 6, 5, 4, 3, 2, 1] 2 = [1, 2, 0, 0, 0, 0, 0, 0] by decide, show tkS [7, 6, 5, 4, 3, 2, 1] 2 = [7, 6, 5, 4, 3, 2] by decide, show up 1 true = 2 by decide] at h3
  rw [show tkB [7, 6, 5, 4, 3, 2, 1] 2 = true by decide, show tkN [7, 6, 5, 4, 3, 2, 1] 2 = 1 by decide]
  have b3 := b2.trans (t3.below b2.size)
  clear h2 t3
  go_wp2_with fail
  refine (give_any 0 _ h3 (by omega)).mono ?_
  rintro e w4 ⟨rfl, h4, t4⟩
  rw [show gvB [1, 2, 0, 0, 0, 0, 0, 0] 0 = true by decide, show gvO [1, 2, 0, 0, 0, 0, 0, 0] 0 = [0, 2, 0, 0, 0, 0, 0, 0] by decide, show gvS [1, 2, 0, 0, 0, 0, 0, 0] [7, 6, 5, 4, 3, 2] 0 = [7, 6, 5, 4, 3, 2, 0] by decide, show up 2 true = 3 by decide] at h4
  rw [show gvB [1, 2, 0, 0, 0, 0, 0, 0] 0 = true by decide]
  have b4 := b3.trans (t4.below b3.size)
  clear h3 t4
  go_wp2_with fail
  refine (take_any 3 _ h4 (by omega)).mono ?_
  rintro e w5 ⟨rfl, h5, t5⟩
  rw [show tkB [7, 6, 5, 4, 3, 2, 0] 3 = true by decide, show tkN [7, 6, 5, 4, 3, 2, 0] 3 = 0 by decide]
  have b5 := b4.trans (t5.below b4.size)
  clear h4 h5 t5 b1 b2 b3 b4
  go_wp2
  go_ret
  exact ⟨rfl, b5⟩
end Go.Proofs.Ytngehhpaegljcaa
