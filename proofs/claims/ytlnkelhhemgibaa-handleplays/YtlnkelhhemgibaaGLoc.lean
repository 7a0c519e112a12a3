/- What a loop over a function keeps beside its own variables: general. -/
import Derived.Test.YtlnkelhhemgibaaGRange
namespace Go.Proofs.Ytlnkelhhemgibaa
open Go.RowKit

/-- What a loop keeps beside its own variables, in blocks q to less than q + nv. -/
structure Loc (w : World) (q nv : Nat) (M : Nat → Prop) (W : World) : Prop where
  bel : Below q w W
  siz : q + nv ≤ W.heap.size
  out : ∀ i, M i → q + nv ≤ i
section
variable {w W W' : World} {q nv : Nat} {M M' : Nat → Prop}
theorem Loc.no (h : Loc w q nv M W) {i : Nat} (hi : i < q + nv) : ¬ M i := fun h1 => by have := h.out i h1; omega
theorem Loc.kept (h : Loc w q nv M W) (hk : Keeps (fun k => ¬ M k) W W') (hM : ∀ k, M' k → M k ∨ (W.heap.size ≤ k ∧ k < W'.heap.size)) : Loc w q nv M' W' := by
  have hs := h.siz
  refine ⟨h.bel.trans (hk.below (fun k hk2 => h.no (by omega)) (by omega)), Nat.le_trans hs hk.size, fun i h1 => ?_⟩
  rcases hM i h1 with h2 | h2
  · exact h.out i h2
  · omega
end
theorem Loc.own {w W W' : World} {q nv : Nat} {M : Nat → Prop} (h : Loc w q nv M W) (hk : Keeps (fun k => k < q) W W') : Loc w q nv M W' :=
  ⟨h.bel.trans (hk.below (fun _ hk2 => hk2) (by have := h.siz; omega)), Nat.le_trans h.siz hk.size, h.out⟩
theorem setCell_keeps (w : World) (q : Nat) (u : Value) : Keeps (fun i => i ≠ q) w (w.setCell ⟨q, 0, none⟩ u) := ⟨rfl, rfl, rfl, by simp, fun i _ h5 => Below.heap_setCell _ _ _ _ h5⟩

end Go.Proofs.Ytlnkelhhemgibaa
