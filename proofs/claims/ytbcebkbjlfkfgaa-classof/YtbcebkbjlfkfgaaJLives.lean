/- The walk of the law's own 'lives': the chapter's example is answered as the chapter says. -/
import Derived.Test.YtbcebkbjlfkfgaaJWalk
namespace Go.Proofs.Ytbcebkbjlfkfgaa
open Go.RowKit

theorem lives_any (w : World) : Calls Try.prog 8 #[] w fun e w' => e = .returned (.bool true) ∧ w = w' := by
  have e1 : jSz 46 = 3008 := by decide
  have e2 : jFr 46 = 3 := by decide
  have e3 : jObj 46 (jFr 46) = 4 := by decide
  have H1 : Hid _ := size_yes 46 w (by omega)
  have H2 : Hid _ := frames_yes 46 w (by omega)
  have H3 : Hid _ := objects_yes 46 w (by omega)
  rw [e3] at H3
  rw [e2] at H2
  rw [e1] at H1
  clear e1 e2 e3
  go_enter Try.func8, Try.ntmps8
  go_wp2_with fail
  refine Calls.mono H1.out ?_
  rintro e w' ⟨rfl, rfl⟩
  go_wp2_with fail
  refine Calls.mono H2.out ?_
  rintro e w' ⟨rfl, rfl⟩
  go_wp2_with fail
  refine Calls.mono H3.out ?_
  rintro e w' ⟨rfl, rfl⟩
  go_wp2
  go_ret
  exact ⟨rfl, rfl⟩
end Go.Proofs.Ytbcebkbjlfkfgaa
