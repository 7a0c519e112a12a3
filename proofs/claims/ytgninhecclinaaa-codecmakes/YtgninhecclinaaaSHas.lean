/- An array of N ints in a variable of one's own (HasAt): numbers from 0 on. -/
import Derived.Test.YtgninhecclinaaaGKit
namespace Go.Proofs.Ytgninhecclinaaa
open Go.RowKit

/-- The array in block b tells H. -/
structure HasAt (tg : TypeId) (N : Nat) (w : World) (b : Nat) (H : Nat → Nat) : Prop where
  head : ∃ cs : Array Value, w.heap[b]? = some (.cells cs tg (0, 0)) ∧ cs.size = N ∧ ∀ n, n < N → cs[n]? = some (.int .i64 (H n : Nat))
section
variable {tg : TypeId} {N b : Nat} {w w' : World} {H : Nat → Nat}
theorem HasAt.lt (h : HasAt tg N w b H) : b < w.heap.size := by obtain ⟨cs, h1, _⟩ := h.head; exact (Array.getElem?_eq_some_iff.1 h1).1
theorem HasAt.kept (h : HasAt tg N w b H) (hk : w'.heap[b]? = w.heap[b]?) : HasAt tg N w' b H := by obtain ⟨cs, h1, h2⟩ := h.head; exact ⟨cs, hk.trans h1, h2⟩
theorem HasAt.cell (h : HasAt tg N w b H) {n : Nat} (hn : n < N) : w.cell? ⟨b, n, none⟩ = some (.int .i64 (H n : Nat)) := by
  obtain ⟨cs, h1, h2, h3⟩ := h.head
  rw [cell_of_row w b n _ _ _ h1]; exact h3 n hn
theorem HasAt.frozen (h : HasAt tg N w b H) (n : Nat) : w.frozen? ⟨b, n, none⟩ = false := by
  obtain ⟨cs, h1, _⟩ := h.head
  exact frozen_of_row w b n _ _ h1
theorem HasAt.new (w : World) : HasAt tg N (w.alloc (.cells (Array.replicate N (.int .i64 0)) tg)) w.heap.size (fun _ => 0) :=
  ⟨_, heap_alloc_new w _, by simp, fun n hn => by simp [hn]⟩
theorem HasAt.set (h : HasAt tg N w b H) {n v : Nat} (hn : n < N) : HasAt tg N (w.setCell ⟨b, n, none⟩ (.int .i64 (v : Int))) b (fun j => if j = n then v else H j) := by
  obtain ⟨cs, h1, h2, h3⟩ := h.head
  refine ⟨_, heap_setCell_same w b n _ _ _ h1, by simpa using h2, fun j hj => ?_⟩
  by_cases e : j = n
  · subst e
    rw [Array.getElem?_setIfInBounds_self_of_lt (by omega), if_pos rfl]
  · rw [Array.getElem?_setIfInBounds_ne (Ne.symm e), if_neg e]
    exact h3 j hj
end
end Go.Proofs.Ytgninhecclinaaa
