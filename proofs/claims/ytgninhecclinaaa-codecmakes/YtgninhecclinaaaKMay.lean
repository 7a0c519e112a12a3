/- The walks of token.May, token.Size, the document's May and Same, and the law's own 'great'. -/
import Derived.Test.YtgninhecclinaaaGBy
import Derived.Test.YtgninhecclinaaaGRes
import Derived.Test.YtgninhecclinaaaKPlain
namespace Go.Proofs.Ytgninhecclinaaa
open Go.RowKit
set_option maxHeartbeats 400000 in
theorem may_any {p : Option Addr} {l c : Nat} {n d : Int} (w : World) (hl : l ≤ maxLen) :
    Calls Try.prog 28 #[.agg #[.slice p l c, .int .i64 n, .int .i64 d]] w fun e w' => e = .returned (.bool (mayT l n d)) ∧ Below w.heap.size w w' := by
  unfold maxLen at hl
  have HB : Hid (Below w.heap.size w (w.alloc (.cells #[.slice p l c, .int .i64 n, .int .i64 d] 48))) := (Below.refl _ w).alloc (Nat.le_refl _) _
  by_cases h0 : 0 < l
  · have i0 : (0 : Int) < (l : Int) := by omega
    by_cases h1 : l ≤ 128
    · have i1 : (l : Int) ≤ 128 := by omega
      by_cases h2 : n = 0
      · subst h2
        by_cases h3 : d = 0
        · subst h3
          have E : Hid (mayT l 0 0 = true) := by show _ = _; rw [may_lit h0]; simp [h1]
          clear h0 h1
          go_enter Try.func28, Try.ntmps28
          go_wp2
          go_ret
          exact ⟨retBool E.out.symm, HB.out⟩
        · have i3 : (d == 0) = false := by rw [beq_eq_false_iff_ne]; exact h3
          have E : Hid (mayT l 0 d = false) := by show _ = _; rw [may_lit h0]; simp [h3]
          clear h0 h1 h3
          go_enter Try.func28, Try.ntmps28
          go_wp2
          go_ret
          exact ⟨retBool E.out.symm, HB.out⟩
      · have i2 : (n == 0) = false := by rw [beq_eq_false_iff_ne]; exact h2
        have E : Hid (mayT l n d = false) := by show _ = _; rw [may_lit h0]; simp [h2]
        clear h0 h1 h2
        go_enter Try.func28, Try.ntmps28
        go_wp2
        go_ret
        exact ⟨retBool E.out.symm, HB.out⟩
    · have i1 : ¬ (l : Int) ≤ 128 := by omega
      have E : Hid (mayT l n d = false) := by show _ = _; rw [may_lit h0]; simp [h1]
      clear h0 h1
      go_enter Try.func28, Try.ntmps28
      go_wp2
      go_ret
      exact ⟨retBool E.out.symm, HB.out⟩
  · obtain rfl : l = 0 := by omega
    clear h0
    by_cases h1 : 3 ≤ n
    · by_cases h2 : n ≤ 130
      · by_cases h3 : 1 ≤ d
        · by_cases h4 : d ≤ 4095
          · have E : Hid (mayT 0 n d = true) := by show _ = _; rw [may_copy]; simp [h1, h2, h3, h4]
            go_enter Try.func28, Try.ntmps28
            go_wp2
            go_ret
            exact ⟨retBool E.out.symm, HB.out⟩
          · have E : Hid (mayT 0 n d = false) := by show _ = _; rw [may_copy]; simp [h4]
            go_enter Try.func28, Try.ntmps28
            go_wp2
            go_ret
            exact ⟨retBool E.out.symm, HB.out⟩
        · have E : Hid (mayT 0 n d = false) := by show _ = _; rw [may_copy]; simp [h3]
          go_enter Try.func28, Try.ntmps28
          go_wp2
          go_ret
          exact ⟨retBool E.out.symm, HB.out⟩
      · have E : Hid (mayT 0 n d = false) := by show _ = _; rw [may_copy]; simp [h2]
        go_enter Try.func28, Try.ntmps28
        go_wp2
        go_ret
        exact ⟨retBool E.out.symm, HB.out⟩
    · have E : Hid (mayT 0 n d = false) := by show _ = _; rw [may_copy]; simp [h1]
      go_enter Try.func28, Try.ntmps28
      go_wp2
      go_ret
      exact ⟨retBool E.out.symm, HB.out⟩

theorem may_is {p : Option Addr} {l c : Nat} {n d : Int} {t : Bool} (w : World) (hl : l ≤ maxLen) (ht : mayT l n d = t) :
    Calls Try.prog 28 #[.agg #[.slice p l c, .int .i64 n, .int .i64 d]] w fun e w' => e = .returned (.bool t) ∧ Below w.heap.size w w' := by subst ht; exact may_any w hl

/-- A struct of three cells in a block. -/
theorem three_cells {w : World} {g : Nat} {u0 u1 u2 : Value} {t : TypeId} (h : w.heap[g]? = some (.cells #[u0, u1, u2] t (0, 0))) : w.cell? ⟨g, 0, none⟩ = some u0 ∧ w.cell? ⟨g, 1, none⟩ = some u1 ∧ w.cell? ⟨g, 2, none⟩ = some u2 := by
  refine ⟨?_, ?_, ?_⟩
  · rw [cell_of_row w g 0 _ _ _ h]; rfl
  · rw [cell_of_row w g 1 _ _ _ h]; rfl
  · rw [cell_of_row w g 2 _ _ _ h]; rfl
/-- A struct of three cells newly laid, and what stands behind. -/
theorem three_new {w w2 : World} {u0 u1 u2 : Value} {t : TypeId} (hb : Below (w.alloc (.cells #[u0, u1, u2] t)).heap.size (w.alloc (.cells #[u0, u1, u2] t)) w2) :
    w2.heap[w.heap.size]? = some (.cells #[u0, u1, u2] t (0, 0)) ∧ Below w.heap.size w w2 :=
  ⟨(hb.block _ (by simp)).trans (heap_alloc_new w _), ((Below.refl _ w).alloc (Nat.le_refl _) _).trans (hb.mono (by simp))⟩

set_option maxHeartbeats 400000 in
theorem size_any {p : Option Addr} {l c : Nat} {n d : Int} (w : World) (hl : l ≤ maxLen) :
    Calls Try.prog 55 #[.agg #[.slice p l c, .int .i64 n, .int .i64 d]] w fun e w' => e = .returned (.int .i64 (sizeT l n d : Nat)) ∧ Below w.heap.size w w' := by
  cases hm : mayT l n d with
  | false =>
    have HM : Hid (mayT l n d = false) := hm
    have HS : Hid (sizeT l n d = 0) := sizeT_no hm
    clear hm
    go_enter Try.func55, Try.ntmps55
    go_wp2_with fail
    refine (may_is _ hl HM.out).mono ?_
    rintro e w1 ⟨rfl, b1⟩
    have HB : Hid (Below w.heap.size w w1) := (three_new b1).2
    clear b1
    go_wp2
    go_ret
    exact ⟨retInt (by rw [HS.out]; rfl), HB.out⟩
  | true =>
    have HM : Hid (mayT l n d = true) := hm
    have hs := sizeT_yes hm
    have hn : 0 ≤ n ∧ n ≤ 130 ∧ l ≤ 128 := by rcases may_ways hm with ⟨_, _, rfl, _⟩ | ⟨_, N, D, rfl, rfl, _⟩ <;> omega
    have HS : Hid (((sizeT l n d : Nat) : Int) = l + n) := by show _ = _; rw [hs]; omega
    obtain ⟨n0, n1, n2⟩ := hn
    clear hm hs
    go_enter Try.func55, Try.ntmps55
    go_wp2_with fail
    refine (may_is _ hl HM.out).mono ?_
    rintro e w1 ⟨rfl, b1⟩
    have HB : Hid (Below w.heap.size w w1) := (three_new b1).2
    obtain ⟨c0, c1, c2⟩ := three_cells (three_new b1).1
    clear b1
    go_wp2
    go_ret
    exact ⟨retInt (by rw [HS.out]), HB.out⟩
theorem size_is {p : Option Addr} {l c s : Nat} {n d : Int} (w : World) (hl : l ≤ maxLen) (hs : sizeT l n d = s) :
    Calls Try.prog 55 #[.agg #[.slice p l c, .int .i64 n, .int .i64 d]] w fun e w' => e = .returned (.int .i64 (s : Nat)) ∧ Below w.heap.size w w' := by subst hs; exact size_any w hl



end Go.Proofs.Ytgninhecclinaaa
