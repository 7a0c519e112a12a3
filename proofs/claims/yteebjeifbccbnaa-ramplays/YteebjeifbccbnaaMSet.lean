/- The bytes of frames in memory (CellsAt, RamP), what turns them, and the walks of own, isThere, touch and touchWord. -/
import Derived.Test.YteebjeifbccbnaaMPlain
import Derived.Test.YteebjeifbccbnaaMNum
import Derived.Test.YteebjeifbccbnaaFTake
namespace Go.Proofs.Yteebjeifbccbnaa
open Go.RowKit

structure CellsAt (B F E : Nat) (w : World) (r g : Nat) (pf : Option Addr) (tg : TypeId) (vP : Value) (m t x : Nat) (O : List Int) (S P : List Nat) : Prop where
  fr : FramesP B F w pf m t O S
  head : w.heap[r]? = some (.cells #[.pointer pf, vP, .int .i64 (x : Int)] tg (0, 0))
  vp : m = 0 ∨ (vP = .slice (some ⟨g, 0, none⟩) m m ∧ w.heap[g]? = some (.cells (bv P).toArray 70 (0, 0)))
  len : P.length = m * 4096
  byte : ∀ x ∈ P, x < 256
  lo : B ≤ F ∧ F ≤ r ∧ F ≤ g ∧ r < E ∧ g < E ∧ r ≠ g
  hi : E ≤ w.heap.size
section
variable {B F E r g m t t' x : Nat} {w w' : World} {pf : Option Addr} {tg : TypeId} {vP : Value} {O O' : List Int} {S S' P : List Nat}
theorem CellsAt.c0 (h : CellsAt B F E w r g pf tg vP m t x O S P) : w.cell? ⟨r, 0, none⟩ = some (.pointer pf) := by rw [cell_of_row w r 0 _ _ _ h.head]; rfl
theorem CellsAt.c1 (h : CellsAt B F E w r g pf tg vP m t x O S P) : w.cell? ⟨r, 1, none⟩ = some vP := by rw [cell_of_row w r 1 _ _ _ h.head]; rfl
theorem CellsAt.c2 (h : CellsAt B F E w r g pf tg vP m t x O S P) : w.cell? ⟨r, 2, none⟩ = some (.int .i64 (x : Int)) := by rw [cell_of_row w r 2 _ _ _ h.head]; rfl
theorem CellsAt.f2 (h : CellsAt B F E w r g pf tg vP m t x O S P) : w.frozen? ⟨r, 2, none⟩ = false := frozen_of_row w r 2 _ _ h.head
theorem CellsAt.ol (h : CellsAt B F E w r g pf tg vP m t x O S P) : O.length = m := h.fr.good.len
theorem CellsAt.kept (h : CellsAt B F E w r g pf tg vP m t x O S P) (hs : w.heap.size ≤ w'.heap.size) (hk : ∀ i, i < E → w'.heap[i]? = w.heap[i]?) : CellsAt B F E w' r g pf tg vP m t x O S P := by
  obtain ⟨l0, l1, l2, l3, l4, l5⟩ := h.lo
  refine ⟨h.fr.kept hs (fun i hi => hk i (by omega)), (hk r l3).trans h.head, ?_, h.len, h.byte, h.lo, Nat.le_trans h.hi hs⟩
  rcases h.vp with h1 | ⟨h1, h2⟩
  · exact .inl h1
  · exact .inr ⟨h1, (hk g l4).trans h2⟩
theorem CellsAt.below (h : CellsAt B F E w r g pf tg vP m t x O S P) (hb : Below w.heap.size w w') : CellsAt B F E w' r g pf tg vP m t x O S P :=
  h.kept hb.size (fun i hi => hb.block i (Nat.lt_of_lt_of_le hi h.hi))
theorem CellsAt.setX (h : CellsAt B F E w r g pf tg vP m t x O S P) (y : Nat) : CellsAt B F E (w.setCell ⟨r, 2, none⟩ (.int .i64 (y : Int))) r g pf tg vP m t y O S P := by
  obtain ⟨l0, l1, l2, l3, l4, l5⟩ := h.lo
  refine ⟨h.fr.kept (by simp) (fun i hi => Below.heap_setCell _ _ _ _ (by show i ≠ r; omega)), ?_, ?_, h.len, h.byte, h.lo, by simpa using h.hi⟩
  · rw [heap_setCell_same w r 2 _ _ _ h.head]; rfl
  · rcases h.vp with h1 | ⟨h1, h2⟩
    · exact .inl h1
    · exact .inr ⟨h1, by rw [Below.heap_setCell _ _ _ _ (by show g ≠ r; omega)]; exact h2⟩
theorem CellsAt.setP (h : CellsAt B F E w r g pf tg vP m t x O S P) {P' : List Nat} (hl : P'.length = P.length) (hb : ∀ x ∈ P', x < 256) : CellsAt B F E (w.setRow g (bv P').toArray) r g pf tg vP m t x O S P' := by
  obtain ⟨l0, l1, l2, l3, l4, l5⟩ := h.lo
  refine ⟨h.fr.kept (by simp [World.setRow]) (fun i hi => setRow_other w g i _ (by omega)), ?_, ?_, by rw [hl]; exact h.len, hb, h.lo, by have := h.hi; simpa [World.setRow] using this⟩
  · rw [setRow_other w g r _ l5]; exact h.head
  · rcases h.vp with h1 | ⟨h1, h2⟩
    · exact .inl h1
    · exact .inr ⟨h1, setRow_heap w g _ _ _ _ h2⟩
theorem CellsAt.step (h : CellsAt B F E w r g pf tg vP m t x O S P) (hf : FramesP B F w' pf m t' O' S') (ht : Turns B F w w') : CellsAt B F E w' r g pf tg vP m t' x O' S' P := by
  obtain ⟨l0, l1, l2, l3, l4, l5⟩ := h.lo
  have hi := h.hi
  refine ⟨hf, (ht.block r (by omega) (.inr l1)).trans h.head, ?_, h.len, h.byte, h.lo, Nat.le_trans h.hi ht.size⟩
  rcases h.vp with h1 | ⟨h1, h2⟩
  · exact .inl h1
  · exact .inr ⟨h1, (ht.block g (by omega) (.inr l2)).trans h2⟩
theorem Turns.wide {B B' E E' : Nat} {w w' : World} (h : Turns B E w w') (hB : B' ≤ B) (hE : E ≤ E') : Turns B' E' w w' :=
  ⟨h.os, h.tape, h.output, h.size, fun k hk h2 => h.block k hk (h2.elim (fun h3 => .inl (by omega)) (fun h3 => .inr (by omega)))⟩
theorem Turns.setRow {B E g : Nat} {a w : World} (h : Turns B E a w) (h1 : B ≤ g) (h2 : g < E) (cs : Array Value) : Turns B E a (w.setRow g cs) := by
  refine ⟨h.os, h.tape, h.output, by have := h.size; simpa [World.setRow] using this, fun k hk hk2 => ?_⟩
  rw [setRow_other w g k cs (by omega)]
  exact h.block k hk hk2
end

theorem own_some (r : Nat) (w : World) : Calls Try.prog 24 #[.pointer (some ⟨r, 0, none⟩)] w fun e w' => e = .returned (.pointer (some ⟨r, 0, none⟩)) ∧ w = w' := by
  go_enter Try.func24, Try.ntmps24
  go_wp2
  go_ret
  exact ⟨rfl, rfl⟩
theorem own_nil (w : World) : Calls Try.prog 24 #[.pointer none] w fun e w' => e = .returned (.pointer (some ⟨w.heap.size, 0, none⟩)) ∧ w' = w.alloc (.cells #[.pointer none, .slice none 0 0, .int .i64 0] 69) := by
  go_enter Try.func24, Try.ntmps24
  go_wp2
  go_ret
  exact ⟨rfl, rfl⟩
def inB (a s : Int) : Bool := decide (0 ≤ a ∧ 0 ≤ s ∧ a + s ≤ 4096)
set_option maxHeartbeats 400000 in
theorem ramThere_any (a s : Int) (w : World) (h1 : s ≤ 9223372036854775807) (h2 : -9223372036854775808 ≤ s) :
    Calls Try.prog 43 #[.int .i64 a, .int .i64 s] w fun e w' => e = .returned (.bool (inB a s)) ∧ w = w' := by
  by_cases ha : 0 ≤ a
  · by_cases hs : 0 ≤ s
    · go_enter Try.func43, Try.ntmps43
      go_wp2
      go_ret
      refine ⟨retBool ?_, rfl⟩
      unfold inB
      apply decide_eq_decide.2
      omega
    · go_enter Try.func43, Try.ntmps43
      go_wp2
      go_ret
      exact ⟨retBool (decide_eq_false (by omega)).symm, rfl⟩
  · go_enter Try.func43, Try.ntmps43
    go_wp2
    go_ret
    exact ⟨retBool (decide_eq_false (by omega)).symm, rfl⟩
theorem ramThere_is {a s : Int} {b : Bool} (w : World) (h1 : s ≤ 9223372036854775807) (h2 : -9223372036854775808 ≤ s) (hb : inB a s = b) :
    Calls Try.prog 43 #[.int .i64 a, .int .i64 s] w fun e w' => e = .returned (.bool b) ∧ w = w' := by
  rw [← hb]; exact ramThere_any a s w h1 h2
end Go.Proofs.Yteebjeifbccbnaa
