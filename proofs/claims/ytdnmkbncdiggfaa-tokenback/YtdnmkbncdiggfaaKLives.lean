/- The walk of the law's own 'lives' (layer 11). -/
import Derived.Test.YtdnmkbncdiggfaaKPuts
import Derived.Test.YtdnmkbncdiggfaaKGrow
import Derived.Lib.SmallJoins
namespace Go.Proofs.Ytdnmkbncdiggfaa
open Go.RowKit

/-- The chapter's example. -/
def exD (p : Option Addr) (i : Nat) : Tk := if i = 0 then ⟨p, 2, 2, [97, 98], 0, 0⟩ else ⟨none, 0, 0, [], 4, 2⟩
theorem ex_all (p : Option Addr) : allT (exD p) 2 = true := by simp [allT, mayD, exD, mayT]
theorem ex_put (p : Option Addr) : putT (exD p) 2 = [1, 97, 98, 129, 2, 0] := by
  simp [putT, allT, catT, mayD, exD, mayT, tokB]
theorem ex_grow : growE [97, 98] [] 4 2 = 0 ∧ growA [97, 98] [] 4 2 = [97, 98, 97, 98, 97, 98] := by
  simp [growE, growA, mayT, growB, reach]
theorem ex_str1 : strB [1, 97, 98, 129, 2, 0] = ⟨#[1, 97, 98, 129, 2, 0]⟩ := by kernel_rfl
theorem ex_str2 : strB [97, 98, 97, 98, 97, 98] = ⟨#[97, 98, 97, 98, 97, 98]⟩ := by kernel_rfl
theorem ab_at (w : World) (g : Nat) (hg : g = w.heap.size) : ByAt (w.alloc (.cells #[.int .u8 97, .int .u8 98] 5 (2, 3))) (some ⟨g, 0, none⟩) 2 2 [97, 98] := by
  refine ⟨src_cell rfl (by subst hg; simp) fun j hj => ?_, by unfold maxLen; omega, Nat.le_refl _, by simp⟩
  rw [Go.Joins.cell_alloc_mark_at w _ _ _ g _ hg]
  obtain rfl | rfl : j = 0 ∨ j = 1 := by omega
  all_goals rfl
theorem ex_at (w : World) (g h : Nat) (hg : g = w.heap.size) (hh : h = w.heap.size + 1) :
    TksAt ((w.alloc (.cells #[.int .u8 97, .int .u8 98] 5 (2, 3))).alloc (.cells #[.slice (some ⟨g, 0, none⟩) 2 2, .int .i64 0, .int .i64 0, .slice none 0 0, .int .i64 4, .int .i64 2] 27)) (some ⟨h, 0, none⟩) 2 (exD (some ⟨g, 0, none⟩)) := by
  subst hg hh
  have hn := heap_alloc_new (w.alloc (.cells #[.int .u8 97, .int .u8 98] 5 (2, 3))) (.cells #[.slice (some ⟨w.heap.size, 0, none⟩) 2 2, .int .i64 0, .int .i64 0, .slice none 0 0, .int .i64 4, .int .i64 2] 27)
  have hsz : (w.alloc (.cells #[.int .u8 97, .int .u8 98] 5 (2, 3))).heap.size = w.heap.size + 1 := by simp
  rw [hsz] at hn
  refine .inr ⟨_, 0, rfl, by simp, fun i hi => ?_⟩
  have hab := (ab_at w _ rfl).later ((Below.refl _ _).alloc (Nat.le_refl _) (.cells #[.slice (some ⟨w.heap.size, 0, none⟩) 2 2, .int .i64 0, .int .i64 0, .slice none 0 0, .int .i64 4, .int .i64 2] 27))
  obtain rfl | rfl : i = 0 ∨ i = 1 := by omega
  · refine ⟨⟨hab, by simp [exD], by simp [exD]⟩, fun j hj => ?_⟩
    rw [cell_of_row _ (w.heap.size + 1) _ _ _ _ hn]
    obtain rfl | rfl | rfl : j = 0 ∨ j = 1 ∨ j = 2 := by omega
    all_goals rfl
  · refine ⟨⟨⟨.inl ⟨rfl, rfl, rfl⟩, by unfold maxLen; simp [exD], Nat.le_refl _, by simp [exD]⟩, by simp [exD], by simp [exD]⟩, fun j hj => ?_⟩
    rw [cell_of_row _ (w.heap.size + 1) _ _ _ _ hn]
    obtain rfl | rfl | rfl : j = 0 ∨ j = 1 ∨ j = 2 := by omega
    all_goals rfl

set_option maxHeartbeats 1000000 in
theorem lives_any (w : World) : Calls Try.prog 7 #[] w fun e w' => e = .returned (.bool true) ∧ Below w.heap.size w w' := by
  have HT : Hid (TksAt _ (some ⟨w.heap.size + 1, 0, none⟩) 2 (exD (some ⟨w.heap.size, 0, none⟩))) := ex_at w w.heap.size (w.heap.size + 1) rfl rfl
  have HB : Hid _ := ((Below.refl _ w).alloc (Nat.le_refl _) (.cells #[.int .u8 97, .int .u8 98] 5 (2, 3))).alloc (by simp) (.cells #[.slice (some ⟨w.heap.size, 0, none⟩) 2 2, .int .i64 0, .int .i64 0, .slice none 0 0, .int .i64 4, .int .i64 2] 27)
  have kc := fun (w : World) (C : Array Value) (n c g : Nat) (hg : g = w.heap.size) => Go.Joins.run_convert_bytes_const_at (P := Try.prog) w 24 5 C n c g hg Try.underlying24 Try.underlying5
  go_enter Try.func7, Try.ntmps7
  go_wp2_with fail
  have hp := puts_any (c := 2) _ HT.out (by omega)
  rw [ex_all, ex_put] at hp
  refine Calls.mono hp ?_
  rintro e w1 ⟨v1, rfl, own1, b1⟩
  obtain ⟨a1, c1, rfl⟩ := row_slice own1
  have HB1 : Hid (Below w.heap.size w w1) := HB.out.trans (b1.mono HB.out.size)
  have HO1 : Hid _ := src_row own1
  clear own1 b1 hp HT HB
  go_wp2_with fail
  have hab := ab_at w1 w1.heap.size rfl
  have hg := grow_any (n := 4) (d := 2) _ hab (by_nil _) (by omega)
  rw [ex_grow.1, ex_grow.2] at hg
  refine Calls.mono hg ?_
  rintro e w2 ⟨v2, rfl, own2, b2⟩
  obtain ⟨a2, c2, rfl⟩ := row_slice own2
  have hb2 : Below w1.heap.size w1 w2 := ((Below.refl _ w1).alloc (Nat.le_refl _) _).trans (b2.mono (by simp))
  have HB2 : Hid (Below w.heap.size w w2) := HB1.out.trans (hb2.mono HB1.out.size)
  have k2 := conv_src (src_row own2)
  have k1 := conv_src (SrcAt.later HO1.out hb2)
  rw [ex_str2] at k2
  rw [ex_str1] at k1
  simp only [List.length_cons, List.length_nil, Nat.zero_add, Nat.reduceAdd] at k1 k2
  clear own2 b2 hg hab hb2 HO1
  go_wp2
  go_ret
  exact ⟨rfl, HB2.out⟩
end Go.Proofs.Ytdnmkbncdiggfaa
