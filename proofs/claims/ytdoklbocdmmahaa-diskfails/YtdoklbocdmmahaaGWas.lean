/- An array of N slices of bytes in a variable, the first k of which are set: what was told of each. -/
import Derived.Test.YtdoklbocdmmahaaGBytes
namespace Go.Proofs.Ytdoklbocdmmahaa
open Go.RowKit

/-- What was told of the first k (rows from E on). -/
structure WAt (tg : TypeId) (N : Nat) (w : World) (E wa k : Nat) (R : Nat → List Nat) : Prop where
  lo : E ≤ wa
  ne : tg ≠ 5
  head : ∃ cs : Array Value, w.heap[wa]? = some (.cells cs tg (0, 0)) ∧ cs.size = N ∧ ∀ n, n < k → ∃ v, cs[n]? = some v ∧ w.ownsRow E 5 1 v (R n).length (bv (R n))
section
variable {tg : TypeId} {w w' : World} {N E wa k : Nat} {R : Nat → List Nat}
theorem WAt.kept (h : WAt tg N w E wa k R) (hk : ∀ i, E ≤ i → i < w.heap.size → w'.heap[i]? = w.heap[i]?) : WAt tg N w' E wa k R := by
  obtain ⟨cs, h1, h2, h3⟩ := h.head
  refine ⟨h.lo, h.ne, cs, (hk wa h.lo (Array.getElem?_eq_some_iff.1 h1).1).trans h1, h2, fun n hn => ?_⟩
  obtain ⟨v, h4, h5⟩ := h3 n hn
  refine ⟨v, h4, h5.1, ?_⟩
  rcases h5.2 with h6 | ⟨g, cap, cur, h6, h7, h8, r⟩
  · exact .inl h6
  · exact .inr ⟨g, cap, cur, h6, h7, (hk g h7 (Array.getElem?_eq_some_iff.1 h8).1).trans h8, r⟩
theorem WAt.turns {B : Nat} (h : WAt tg N w E wa k R) (ht : Turns B E w w') : WAt tg N w' E wa k R := h.kept fun i h1 h2 => ht.block i h2 (.inr h1)
theorem WAt.below (h : WAt tg N w E wa k R) (hb : Below w.heap.size w w') : WAt tg N w' E wa k R := h.kept fun i _ h2 => hb.block i h2
theorem WAt.lt (h : WAt tg N w E wa k R) : wa < w.heap.size := by obtain ⟨cs, h1, _⟩ := h.head; exact (Array.getElem?_eq_some_iff.1 h1).1
theorem WAt.new (w : World) (E : Nat) (hE : E ≤ w.heap.size) (ht : tg ≠ 5) (R : Nat → List Nat) : WAt tg N (w.alloc (.cells (Array.replicate N (.slice none 0 0)) tg)) E w.heap.size 0 R :=
  ⟨hE, ht, _, heap_alloc_new w _, by simp, fun n hn => by omega⟩
theorem WAt.frozen (h : WAt tg N w E wa k R) (n : Nat) : w.frozen? ⟨wa, n, none⟩ = false := by
  obtain ⟨cs, h1, _⟩ := h.head
  exact frozen_of_row w wa n _ _ h1
theorem WAt.some (h : WAt tg N w E wa k R) {n : Nat} (hn : n < N) : ∃ v, w.cell? ⟨wa, n, none⟩ = .some v := by
  obtain ⟨cs, h1, h2, _⟩ := h.head
  exact ⟨cs[n]'(by omega), by rw [cell_of_row w wa n _ _ _ h1]; exact Array.getElem?_eq_getElem _⟩
theorem WAt.cell (h : WAt tg N w E wa k R) {n : Nat} (hn : n < k) : ∃ v, w.cell? ⟨wa, n, none⟩ = .some v ∧ w.ownsRow E 5 1 v (R n).length (bv (R n)) := by
  obtain ⟨cs, h1, h2, h3⟩ := h.head
  obtain ⟨v, h4, h5⟩ := h3 n hn
  exact ⟨v, by rw [cell_of_row w wa n _ _ _ h1]; exact h4, h5⟩
/-- Place j is set: k grows where j is the next one. -/
theorem WAt.set (h : WAt tg N w E wa k R) {j k' : Nat} {R' : Nat → List Nat} (hj : j < N) (hk : ∀ n, n < k' → n = j ∨ (n < k ∧ R' n = R n)) {v : Value} (hv : w.ownsRow E 5 1 v (R' j).length (bv (R' j))) : WAt tg N (w.setCell ⟨wa, j, none⟩ v) E wa k' R' := by
  obtain ⟨cs, h1, h2, h3⟩ := h.head
  have keep2 : ∀ {u v : Value} {l : List Nat}, w.ownsRow E 5 1 v l.length (bv l) → (w.setCell ⟨wa, j, none⟩ u).ownsRow E 5 1 v l.length (bv l) := by
    intro u v l h5
    refine ⟨h5.1, ?_⟩
    rcases h5.2 with h6 | ⟨g, cap, cur, h6, h7, h8, r⟩
    · exact .inl h6
    · refine .inr ⟨g, cap, cur, h6, h7, ?_, r⟩
      have hne : g ≠ wa := by
        intro e
        subst e
        rw [h1] at h8
        simp only [Option.some.injEq, Obj.cells.injEq] at h8
        exact h.ne h8.2.1
      rw [Below.heap_setCell _ _ _ _ hne]; exact h8
  refine ⟨h.lo, h.ne, _, heap_setCell_same w wa j _ _ _ h1, by simpa using h2, fun n hn => ?_⟩
  by_cases e : n = j
  · subst e
    exact ⟨v, by rw [Array.getElem?_setIfInBounds_self_of_lt (by omega)], keep2 hv⟩
  · rcases hk n hn with e2 | ⟨h4, h5⟩
    · exact absurd e2 e
    · obtain ⟨u, h6, h7⟩ := h3 n h4
      exact ⟨u, by rw [Array.getElem?_setIfInBounds_ne (Ne.symm e)]; exact h6, by rw [h5]; exact keep2 h7⟩
end
end Go.Proofs.Ytdoklbocdmmahaa
