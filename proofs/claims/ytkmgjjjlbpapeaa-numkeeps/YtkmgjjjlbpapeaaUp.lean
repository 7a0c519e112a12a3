/- The walks of num.Up and of the document's Up: each returns the number 'upZ', and leaves the world as it was. -/
import Derived.Test.YtkmgjjjlbpapeaaRows
import Derived.WalkKit
import Derived.WalkSpells
import Derived.WalkLawsBesides
namespace Go.Proofs.Ytkmgjjjlbpapeaa
open Go.RowKit

/-- The least multiple of b that isn't less than n; n itself where it can't be. -/
def upZ (n b : Int) : Int :=
  if n < 1 then n else if b < 1 then n else if n % b = 0 then n else if 4611686018427387904 < n - n % b + b then n else n - n % b + b

theorem upZ_low {n b : Int} (h : n < 1) : upZ n b = n := by simp [upZ, h]
theorem upZ_by {n b : Int} (h : b < 1) : upZ n b = n := by
  unfold upZ
  by_cases g : n < 1
  · rw [if_pos g]
  · rw [if_neg g, if_pos h]
theorem upZ_even {n b : Int} (h : n % b = 0) : upZ n b = n := by unfold upZ; simp [h]
theorem upZ_far {n b : Int} (h : 4611686018427387904 < n - n % b + b) : upZ n b = n := by unfold upZ; simp [h]
theorem upZ_up {n b : Int} (h1 : 1 ≤ n) (h2 : 1 ≤ b) (h3 : n % b ≠ 0) (h : n - n % b + b ≤ 4611686018427387904) : upZ n b = n - n % b + b := by
  unfold upZ; rw [if_neg (by omega), if_neg (by omega), if_neg h3, if_neg (by omega)]
theorem retInt {k : IntKind} {a b : Int} (h : a = b) : Ending.returned (.int k a) = .returned (.int k b) := by rw [h]

set_option maxHeartbeats 400000 in
theorem up_any (n b : Int) (w : World) (hn : -9223372036854775808 ≤ n ∧ n ≤ 9223372036854775807) (hb : -9223372036854775808 ≤ b ∧ b ≤ 9223372036854775807) :
    Calls Try.prog 22 #[.int .i64 n, .int .i64 b] w fun e w' => e = .returned (.int .i64 (upZ n b)) ∧ w = w' := by
  obtain ⟨hn1, hn2⟩ := hn
  obtain ⟨hb1, hb2⟩ := hb
  by_cases h1 : n < 1
  · go_enter Try.func22, Try.ntmps22
    go_wp2
    go_ret
    exact ⟨retInt (upZ_low h1).symm, rfl⟩
  · by_cases h2 : b < 1
    · go_enter Try.func22, Try.ntmps22
      go_wp2
      go_ret
      exact ⟨retInt (upZ_by h2).symm, rfl⟩
    · have m0 := Int.emod_nonneg n (b := b) (by omega)
      have m1 := Int.emod_lt_of_pos n (b := b) (by omega)
      by_cases h3 : n % b = 0
      · have h3' : (n % b == 0) = true := by simp [h3]
        have H3 : Hid (n % b = 0) := h3
        clear h3
        go_enter Try.func22, Try.ntmps22
        go_wp2
        go_ret
        exact ⟨retInt (upZ_even H3.out).symm, rfl⟩
      · have h3' : (n % b == 0) = false := by simp [h3]
        by_cases h4 : 4611686018427387904 < n - n % b + b
        · have h5 : 4611686018427387904 - (b - n % b) < n := by omega
          go_enter Try.func22, Try.ntmps22
          go_wp2
          go_ret
          exact ⟨retInt (upZ_far h4).symm, rfl⟩
        · have h5 : n ≤ 4611686018427387904 - (b - n % b) := by omega
          go_enter Try.func22, Try.ntmps22
          go_wp2
          go_ret
          exact ⟨retInt (by rw [upZ_up (by omega) (by omega) h3 (by omega)]; omega), rfl⟩

set_option maxHeartbeats 400000 in
theorem upRef_any (n b : Int) (w : World) (hn : -9223372036854775808 ≤ n ∧ n ≤ 9223372036854775807) (hb : -9223372036854775808 ≤ b ∧ b ≤ 9223372036854775807) :
    Calls Try.prog 23 #[.int .i64 n, .int .i64 b] w fun e w' => e = .returned (.int .i64 (upZ n b)) ∧ w = w' := by
  obtain ⟨hn1, hn2⟩ := hn
  obtain ⟨hb1, hb2⟩ := hb
  by_cases h1 : n < 1
  · go_enter Try.func23, Try.ntmps23
    go_wp2
    go_ret
    exact ⟨retInt (upZ_low h1).symm, rfl⟩
  · by_cases h2 : b < 1
    · go_enter Try.func23, Try.ntmps23
      go_wp2
      go_ret
      exact ⟨retInt (upZ_by h2).symm, rfl⟩
    · have m0 := Int.emod_nonneg n (b := b) (by omega)
      have m1 := Int.emod_lt_of_pos n (b := b) (by omega)
      have m2 : n % b ≤ n := by
        have := Int.mul_ediv_add_emod n b
        have q : 0 ≤ n / b := Int.ediv_nonneg (by omega) (by omega)
        have := Int.mul_nonneg (show 0 ≤ b by omega) q
        omega
      by_cases h6 : 4611686018427387904 < b
      · have e : upZ n b = n := by
          by_cases h3 : n % b = 0
          · exact upZ_even h3
          · exact upZ_far (by omega)
        have H : Hid (upZ n b = n) := e
        clear e
        go_enter Try.func23, Try.ntmps23
        go_wp2
        go_ret
        exact ⟨retInt H.out.symm, rfl⟩
      · by_cases h7 : 4611686018427387904 < n
        · have e : upZ n b = n := by
            by_cases h3 : n % b = 0
            · exact upZ_even h3
            · exact upZ_far (by omega)
          have H : Hid (upZ n b = n) := e
          clear e
          go_enter Try.func23, Try.ntmps23
          go_wp2
          go_ret
          exact ⟨retInt H.out.symm, rfl⟩
        · by_cases h3 : n % b = 0
          · have h3' : (n % b == 0) = true := by simp [h3]
            have H3 : Hid (n % b = 0) := h3
            clear h3
            go_enter Try.func23, Try.ntmps23
            go_wp2
            go_ret
            exact ⟨retInt (upZ_even H3.out).symm, rfl⟩
          · have h3' : (n % b == 0) = false := by simp [h3]
            by_cases h4 : 4611686018427387904 < n - n % b + b
            · have h5 : 4611686018427387904 - b < n - n % b := by omega
              go_enter Try.func23, Try.ntmps23
              go_wp2
              go_ret
              exact ⟨retInt (upZ_far h4).symm, rfl⟩
            · have h5 : n - n % b ≤ 4611686018427387904 - b := by omega
              go_enter Try.func23, Try.ntmps23
              go_wp2
              go_ret
              exact ⟨retInt (upZ_up (by omega) (by omega) h3 (by omega)).symm, rfl⟩
end Go.Proofs.Ytkmgjjjlbpapeaa
