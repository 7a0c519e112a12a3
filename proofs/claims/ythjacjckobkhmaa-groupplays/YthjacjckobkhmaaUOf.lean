/- The walks of group.Of, and of how full objects are, and how many are free. -/
import Derived.Test.YthjacjckobkhmaaUMap
namespace Go.Proofs.Ythjacjckobkhmaa
open Go.RowKit

set_option maxHeartbeats 400000 in
theorem of_any (u m : Int) (w : World) (hu : -100000000 ≤ u ∧ u ≤ 100000000) (hm : -100000000 ≤ m ∧ m ≤ 100000000) : Calls Try.prog 8 #[.int .i64 u, .int .i64 m] w fun e w' => e = .returned (.int .i64 (ofN u m)) ∧ w = w' := by
  by_cases h1 : m < 1
  · have H : Hid (ofN u m = 4) := ofN_full.2 (.inl h1)
    go_enter Try.func8, Try.ntmps8
    go_wp2
    go_ret
    exact ⟨retInt H.out.symm, rfl⟩
  · by_cases h2 : m ≤ u
    · have H : Hid (ofN u m = 4) := ofN_full.2 (.inr h2)
      go_enter Try.func8, Try.ntmps8
      go_wp2
      go_ret
      exact ⟨retInt H.out.symm, rfl⟩
    · by_cases h3 : u < 1
      · have H : Hid (ofN u m = 0) := ofN_empty.2 ⟨by omega, h3⟩
        go_enter Try.func8, Try.ntmps8
        go_wp2
        go_ret
        exact ⟨retInt H.out.symm, rfl⟩
      · have hd1 : m.tdiv 3 = m / 3 := Int.tdiv_eq_ediv_of_nonneg (by omega)
        have hd2 : (m - 1).tdiv 3 = (m - 1) / 3 := Int.tdiv_eq_ediv_of_nonneg (by omega)
        have hb1 : 0 ≤ m / 3 ∧ m / 3 ≤ 100000000 := by omega
        have hb2 : 0 ≤ (m - 1) / 3 ∧ (m - 1) / 3 ≤ 100000000 := by omega
        have e : ofN u m = if u ≤ m / 3 then 1 else if (m - 1) / 3 < m - u then 2 else 3 := by
          unfold ofN
          rw [if_neg (by omega), if_neg h3]
        generalize m / 3 = a at *
        generalize (m - 1) / 3 = c at *
        by_cases h4 : u ≤ a
        · have H : Hid (ofN u m = 1) := by rw [e, if_pos h4]; exact rfl
          clear e
          go_enter Try.func8, Try.ntmps8
          go_wp2
          go_ret
          exact ⟨retInt H.out.symm, rfl⟩
        · by_cases h5 : c < m - u
          · have H : Hid (ofN u m = 2) := by rw [e, if_neg h4, if_pos h5]; exact rfl
            clear e
            go_enter Try.func8, Try.ntmps8
            go_wp2
            go_ret
            exact ⟨retInt H.out.symm, rfl⟩
          · have H : Hid (ofN u m = 3) := by rw [e, if_neg h4, if_neg h5]; exact rfl
            clear e
            go_enter Try.func8, Try.ntmps8
            go_wp2
            go_ret
            exact ⟨retInt H.out.symm, rfl⟩

theorem cells_two {w : World} {g : Nat} {u0 u1 : Value} {t : TypeId} (h : w.heap[g]? = some (.cells #[u0, u1] t (0, 0))) : w.cell? ⟨g, 0, none⟩ = some u0 ∧ w.cell? ⟨g, 1, none⟩ = some u1 := by
  refine ⟨?_, ?_⟩ <;> simp [World.cell?, h]
/-- Two cells in a new block. -/
theorem two_cells (w : World) (u0 u1 : Value) (t : TypeId) : (w.alloc (.cells #[u0, u1] t)).cell? ⟨w.heap.size, 0, none⟩ = some u0 ∧ (w.alloc (.cells #[u0, u1] t)).cell? ⟨w.heap.size, 1, none⟩ = some u1 := cells_two (heap_alloc_new w _)
set_option maxHeartbeats 400000 in
theorem group_any (u m : Int) (w : World) (hu : 0 ≤ u ∧ u ≤ m ∧ m ≤ 100000000) : Calls Try.prog 25 #[.agg #[.int .i64 u, .int .i64 m]] w fun e w' => e = .returned (.int .i64 (ofN u m)) ∧ Below w.heap.size w w' := by
  have HO : Hid (∀ w, Calls Try.prog 8 #[.int .i64 u, .int .i64 m] w fun e w' => e = .returned (.int .i64 (ofN u m)) ∧ w = w') := fun w => of_any u m w (by omega) (by omega)
  obtain ⟨c0, c1⟩ := two_cells w (.int .i64 u) (.int .i64 m) 51
  have HB : Hid (Below w.heap.size w (w.alloc (.cells #[.int .i64 u, .int .i64 m] 51))) := (Below.refl _ w).alloc (Nat.le_refl _) _
  go_enter Try.func25, Try.ntmps25
  go_wp2_with fail
  refine (HO.out _).mono ?_
  rintro e w' ⟨rfl, rfl⟩
  go_wp2
  go_ret
  exact ⟨rfl, HB.out⟩
set_option maxHeartbeats 400000 in
theorem free_any (u m : Int) (w : World) (hu : 0 ≤ u ∧ u ≤ m ∧ m ≤ 100000000) : Calls Try.prog 26 #[.agg #[.int .i64 u, .int .i64 m]] w fun e w' => e = .returned (.int .i64 (m - u)) ∧ Below w.heap.size w w' := by
  obtain ⟨c0, c1⟩ := two_cells w (.int .i64 u) (.int .i64 m) 51
  have HB : Hid (Below w.heap.size w (w.alloc (.cells #[.int .i64 u, .int .i64 m] 51))) := (Below.refl _ w).alloc (Nat.le_refl _) _
  go_enter Try.func26, Try.ntmps26
  go_wp2
  go_ret
  exact ⟨rfl, HB.out⟩
end Go.Proofs.Ythjacjckobkhmaa
