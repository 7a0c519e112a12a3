/- An array of 12 ints in a variable of one's own: its making, reads and stores. -/
import Derived.Test.YtngehhpaegljcaaFTake
namespace Go.Proofs.Ytngehhpaegljcaa
open Go.RowKit

theorem Try.zero47 : (Try.prog.info? 47).map (fun i => i.zero) = some (some (.agg (Array.replicate 12 (.int .i64 0)))) := by kernel_rfl
theorem zero_whose (w : World) : (zeroValue 47).run Try.prog w = .ok (.agg (Array.replicate 12 (.int .i64 0))) w := by
  obtain ⟨i, hi, hz⟩ := Option.map_eq_some_iff.1 Try.zero47
  generalize (Array.replicate 12 (Value.int .i64 0)) = Z at *
  simp [zeroValue, typeInfo, hi, hz, go_sem]
structure WAt (b : Nat) (w : World) (W : List Int) : Prop where
  len : W.length = 12
  head : w.heap[b]? = some (.cells (zv W).toArray 47 (0, 0))
section
variable {b : Nat} {w w' : World} {W : List Int}
theorem zv_rep (n : Nat) : (zv (List.replicate n 0)).toArray = Array.replicate n (.int .i64 0) := by simp [zv]
theorem WAt.new (w : World) : WAt w.heap.size (w.alloc (.cells (Array.replicate 12 (.int .i64 0)) 47)) (List.replicate 12 0) := by
  refine ⟨List.length_replicate, ?_⟩
  rw [zv_rep]
  exact heap_alloc_new w _
theorem WAt.lt (h : WAt b w W) : b < w.heap.size := (Array.getElem?_eq_some_iff.1 h.head).1
theorem WAt.cell (h : WAt b w W) {n : Nat} (hn : n < 12) : w.cell? ⟨b, n, none⟩ = some (.int .i64 (W.getD n 0)) := by
  rw [cell_of_row w b n _ _ _ h.head]
  have := zv_at W n (by rw [h.len]; exact hn)
  simpa using this
theorem WAt.frozen (h : WAt b w W) (n : Nat) : w.frozen? ⟨b, n, none⟩ = false := by
  have := h.head
  simp [World.frozen?, this]
theorem WAt.keep (h : WAt b w W) (hk : w'.heap[b]? = w.heap[b]?) : WAt b w' W := ⟨h.len, hk.trans h.head⟩
theorem WAt.set (h : WAt b w W) (n : Nat) (v : Int) : WAt b (w.setCell ⟨b, n, none⟩ (.int .i64 v)) (W.set n v) := by
  refine ⟨by simp [h.len], ?_⟩
  show (w.heap.modify b _)[b]? = _
  rw [Array.getElem?_modify, if_pos rfl, h.head, zv_set]
  simp
end
theorem give_is {B E m t : Nat} {p : Option Addr} {O : List Int} {S : List Nat} (n : Int) (w : World) (h : FramesP B E w p m t O S) (ht : t < 1000) {b : Bool} (hb : gvB O n = b) :
    Calls Try.prog 7 #[.pointer p, .int .i64 n] w fun e w' => e = .returned (.bool b) ∧
      FramesP B E w' p m (up t b) (gvO O n) (gvS O S n) ∧ Turns B E w w' := by
  rw [← hb]; exact give_any n w h ht
theorem take_is {B E m t : Nat} {p : Option Addr} {O : List Int} {S : List Nat} (o : Int) (w : World) (h : FramesP B E w p m t O S) (ht : t < 1000) {b : Bool} {n : Nat} (hb : tkB S o = b) (hn : tkN S o = n) :
    Calls Try.prog 6 #[.pointer p, .int .i64 o] w fun e w' => e = .returned (.tuple #[.int .i64 (n : Nat), .bool b]) ∧
      FramesP B E w' p m (up t b) (tkO O S o) (tkS S o) ∧ Turns B E w w' := by
  rw [← hb, ← hn]; exact take_any o w h ht
end Go.Proofs.Ytngehhpaegljcaa
