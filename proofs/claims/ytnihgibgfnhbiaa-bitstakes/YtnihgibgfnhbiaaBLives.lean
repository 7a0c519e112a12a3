/- The walk of the law's own 'lives': the chapter's example is answered as the chapter says. -/
import Derived.Test.YtnihgibgfnhbiaaBNew
import Derived.Test.YtnihgibgfnhbiaaBFirst
namespace Go.Proofs.Ytnihgibgfnhbiaa
open Go.RowKit

theorem below_grown {B : Nat} {a w w' : World} {r : Option Nat} (h : Below B a w) (hg : w.grownBy w' r) (hB : B ≤ w.heap.size) (hr : ∀ k, r = some k → B ≤ k) : Below B a w' := h.grown hg hB hr
theorem SetAt.p {B b g : Nat} {w : World} {x : List Bool} (h : SetAt B w b g x) : SetP B w (some ⟨b, 0, none⟩) (some g) x := .inr ⟨b, g, rfl, rfl, h⟩
/-- A step on a set of one's own: what lay there stays. -/
theorem SetP.step {B : Nat} {a w w' : World} {p : Option Addr} {r : Option Nat} {x : List Bool} (h : SetP B w p r x) (hb : Below B a w) (hB : B ≤ w.heap.size) (hg : w.grownBy w' r) : Below B a w' :=
  hb.grown hg hB fun k hk => (h.lt k hk).1

set_option maxHeartbeats 400000 in
theorem lives_any (w : World) :
    Calls Try.prog 12 #[] w fun e w' => e = .returned (.bool true) ∧ Below w.heap.size w w' := by
  go_enter Try.func12, Try.ntmps12
  go_wp2_with fail
  refine (new_any 3 _).mono ?_
  rintro e w1 ⟨b, g, rfl, h1, b1⟩
  have h1 := h1.p
  rw [show szN 3 = 3 by decide, show List.replicate 3 false = [false, false, false] from rfl] at h1
  go_wp2_with fail
  refine (take_any _ h1).mono ?_
  rintro e w2 ⟨rfl, h2, g2⟩
  have b2 := h1.step b1 b1.size g2
  rw [show putL [false, false, false] (frst [false, false, false]) true = [true, false, false] by decide] at h2
  rw [show frstN [false, false, false] = 0 by decide, show frstB [false, false, false] = true by decide]
  go_wp2_with fail
  refine (take_any _ h2).mono ?_
  rintro e w3 ⟨rfl, h3, g3⟩
  have b3 := h2.step b2 b2.size g3
  rw [show putL [true, false, false] (frst [true, false, false]) true = [true, true, false] by decide] at h3
  rw [show frstN [true, false, false] = 1 by decide, show frstB [true, false, false] = true by decide]
  go_wp2_with fail
  refine (drop_any _ _ h3).mono ?_
  rintro e w4 ⟨rfl, h4, g4⟩
  have b4 := h3.step b3 b3.size g4
  rw [show putL [true, true, false] 0 false = [false, true, false] by decide] at h4
  rw [show hasB [true, true, false] 0 = true by decide]
  go_wp2_with fail
  refine (take_any _ h4).mono ?_
  rintro e w5 ⟨rfl, h5, g5⟩
  have b5 := h4.step b4 b4.size g5
  rw [show putL [false, true, false] (frst [false, true, false]) true = [true, true, false] by decide] at h5
  rw [show frstN [false, true, false] = 0 by decide, show frstB [false, true, false] = true by decide]
  go_wp2_with fail
  refine (take_any _ h5).mono ?_
  rintro e w6 ⟨rfl, h6, g6⟩
  have b6 := h5.step b5 b5.size g6
  rw [show frstN [true, true, false] = 2 by decide, show frstB [true, true, false] = true by decide]
  clear h1 h2 h3 h4 h5 h6 g2 g3 g4 g5 g6
  go_wp2
  go_ret
  exact ⟨rfl, b6⟩
end Go.Proofs.Ytnihgibgfnhbiaa
