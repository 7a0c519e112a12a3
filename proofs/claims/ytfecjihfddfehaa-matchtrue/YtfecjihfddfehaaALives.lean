/- The walk of lives: the chapter's example. -/
import Derived.Test.YtfecjihfddfehaaANew
import Derived.Lib.SmallJoins
namespace Go.Proofs.Ytfecjihfddfehaa
open Go.RowKit

def exB : List Nat := [97, 98, 99, 97, 98, 99, 97, 98, 100]
theorem ex_found : findI exB ((3 : Nat) : Int) = (5, 3) := by
  rw [find_yes (by decide)]
  decide
theorem ex_cut : exB.take 4096 = exB := List.take_of_length_le (by decide)
theorem ex_at (w : World) (g : Nat) (hg : g = w.heap.size) : ByAt (w.alloc (.cells #[.int .u8 97, .int .u8 98, .int .u8 99, .int .u8 97, .int .u8 98, .int .u8 99, .int .u8 97, .int .u8 98, .int .u8 100] 5 (9, 10))) (some ⟨g, 0, none⟩) 9 9 exB := by
  refine ⟨src_cell rfl (by subst hg; simp) fun j hj => ?_, by unfold maxLen; omega, Nat.le_refl _, by simp [exB]⟩
  rw [Go.Joins.cell_alloc_mark_at w _ _ _ g _ hg]
  have : j = 0 ∨ j = 1 ∨ j = 2 ∨ j = 3 ∨ j = 4 ∨ j = 5 ∨ j = 6 ∨ j = 7 ∨ j = 8 := by omega
  rcases this with rfl | rfl | rfl | rfl | rfl | rfl | rfl | rfl | rfl
  all_goals rfl

set_option maxHeartbeats 1000000 in
theorem lives_any (w : World) : Calls Try.prog 6 #[] w fun e w' => e = .returned (.bool true) ∧ Below w.heap.size w w' := by
  have HT : Hid _ := ex_at w w.heap.size rfl
  have HB : Hid _ := (Below.refl _ w).alloc (Nat.le_refl _) (.cells #[.int .u8 97, .int .u8 98, .int .u8 99, .int .u8 97, .int .u8 98, .int .u8 99, .int .u8 97, .int .u8 98, .int .u8 100] 5 (9, 10))
  have kc := fun (w : World) (C : Array Value) (n c g : Nat) (hg : g = w.heap.size) => Go.Joins.run_convert_bytes_const_at (P := Try.prog) w 22 5 C n c g hg Try.underlying22 Try.underlying5
  go_enter Try.func6, Try.ntmps6
  go_wp2_with fail
  have hp := new_any _ HT.out
  rw [ex_cut] at hp
  refine Calls.mono hp ?_
  rintro e w1 ⟨v1, rfl, hf, b1⟩
  have HF : Hid (FinP w1 v1 exB) := hf.fin
  have HB1 : Hid (Below w.heap.size w w1) := HB.out.trans (b1.mono HB.out.size)
  clear hf b1 hp HT HB
  go_wp2_with fail
  have hq := find_any (I := 3) _ HF.out
  rw [show (3 : Int) = ((3 : Nat) : Int) from rfl, ex_found] at hq
  refine Calls.mono hq ?_
  rintro e w2 ⟨rfl, m, rfl⟩
  have HB2 : Hid (∀ n, Below w.heap.size w (w1.drewN n)) := fun n => HB1.out.trans (drewN_below _ _ _)
  clear hq
  go_wp2
  go_ret
  exact ⟨rfl, HB2.out _⟩
end Go.Proofs.Ytfecjihfddfehaa
