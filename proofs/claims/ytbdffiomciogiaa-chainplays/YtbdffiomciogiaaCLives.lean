/- The walk of the law's own 'lives': the chapter's example is answered as the chapter says. -/
import Derived.Test.YtbdffiomciogiaaCNew
import Derived.Test.YtbdffiomciogiaaCOld
import Derived.Test.YtbdffiomciogiaaCPut
namespace Go.Proofs.Ytbdffiomciogiaa
open Go.RowKit

set_option maxHeartbeats 400000 in
theorem lives_any (w : World) :
    Calls Try.prog 11 #[] w fun e w' => e = .returned (.bool true) ∧ Below w.heap.size w w' := by
  go_enter Try.func11, Try.ntmps11
  go_wp2_with fail
  refine (new_any 5 _).mono ?_
  rintro e w1 ⟨p, rfl, h1, b1⟩
  rw [show szN 5 = 5 by decide] at h1
  generalize w1.heap.size = E at *
  go_wp2_with fail
  refine (push_any 4 _ h1).mono ?_
  rintro e w2 ⟨rfl, h2, t2⟩
  rw [show pushL 5 [] 4 = [4] by decide] at h2
  go_wp2_with fail
  refine (push_any 2 _ h2).mono ?_
  rintro e w3 ⟨rfl, h3, t3⟩
  rw [show pushL 5 [4] 2 = [4, 2] by decide] at h3
  go_wp2_with fail
  refine (push_any 4 _ h3).mono ?_
  rintro e w4 ⟨rfl, h4, t4⟩
  rw [show pushL 5 [4, 2] 4 = [2, 4] by decide] at h4
  go_wp2_with fail
  refine (oldest_any _ h4).mono ?_
  rintro e w5 ⟨rfl, q, rfl⟩
  rw [show oldN [2, 4] = 2 by decide, show oldB [2, 4] = true by decide]
  have b5 := (((b1.trans t2.below).trans t3.below).trans t4.below).trans (drewN_below _ _ q)
  clear h1 h2 h3 t2 t3 t4 b1
  go_wp2_with (go_at_call 10; refine (len_any _ (h4.drewN _)).mono ?_; rintro e w' ⟨rfl, rfl⟩)
  go_ret
  exact ⟨rfl, b5⟩
end Go.Proofs.Ytbdffiomciogiaa
