/- The walks of num.Mask, Cut, Set and Bit. -/
import Derived.Test.YtkmgjjjlbpapeaaPut
import Derived.Test.YtkmgjjjlbpapeaaWords
import Derived.Test.YtkmgjjjlbpapeaaUp
namespace Go.Proofs.Ytkmgjjjlbpapeaa
open Go.RowKit

theorem maskVal {a : Nat} {v : Int} {D : Nat} (ha : a < 64) (hv : 1 ≤ v) (hD : D = 64 - wideN a v) : IntKind.u64.wrap (18446744073709551615 / 2 ^ D * 2 ^ a) = (maskZ a v : Nat) := by
  have hp : partOk a v = true := by simp only [partOk, decide_eq_true_eq]; omega
  have hl := mask_lt a v
  subst hD
  have e1 : (18446744073709551615 : Int) / 2 ^ (64 - wideN a v) = ((2 ^ wideN a v - 1 : Nat) : Int) := by
    rw [← onesShr (wideN a v) (by have := wide_le a v; omega)]
    simp
  rw [e1, IntKind.wrap_u64]
  have e2 : ((2 ^ wideN a v - 1 : Nat) : Int) * 2 ^ a = (maskZ a v : Nat) := by
    simp only [maskZ, hp, if_true]
    simp
  rw [e2]
  omega

set_option maxHeartbeats 400000 in
theorem mask_any (a v : Int) (w : World) (hv : v ≤ 9223372036854775807) :
    Calls Try.prog 15 #[.int .i64 a, .int .i64 v] w fun e w' => e = .returned (.int .u64 (maskZ a v : Nat)) ∧ w = w' := by
  by_cases h1 : a < 0
  · have E : Hid (maskZ a v = 0) := mask_zero (by simp only [partOk, decide_eq_false_iff_not]; omega)
    go_enter Try.func15, Try.ntmps15
    go_wp2
    go_ret
    exact ⟨retInt (by rw [E.out]; rfl), rfl⟩
  · by_cases h2 : 64 ≤ a
    · have E : Hid (maskZ a v = 0) := mask_zero (by simp only [partOk, decide_eq_false_iff_not]; omega)
      go_enter Try.func15, Try.ntmps15
      go_wp2
      go_ret
      exact ⟨retInt (by rw [E.out]; rfl), rfl⟩
    · by_cases h3 : v < 1
      · have E : Hid (maskZ a v = 0) := mask_zero (by simp only [partOk, decide_eq_false_iff_not]; omega)
        go_enter Try.func15, Try.ntmps15
        go_wp2
        go_ret
        exact ⟨retInt (by rw [E.out]; rfl), rfl⟩
      · obtain ⟨n, rfl⟩ := Int.eq_ofNat_of_zero_le (show 0 ≤ a by omega)
        by_cases h4 : 64 - (n : Int) < v
        · have E : Hid ((64 - (64 - (n : Int))).toNat = 64 - wideN n v) := by show _ = _; unfold wideN; omega
          go_enter Try.func15, Try.ntmps15
          go_wp2
          go_ret
          exact ⟨retInt (maskVal (by omega) (by omega) (by have := E.out; omega)), rfl⟩
        · have E : Hid ((64 - v).toNat = 64 - wideN n v) := by show _ = _; unfold wideN; omega
          go_enter Try.func15, Try.ntmps15
          go_wp2
          go_ret
          exact ⟨retInt (maskVal (by omega) (by omega) (by have := E.out; omega)), rfl⟩

set_option maxHeartbeats 400000 in
theorem cut_any (x : Nat) (X : Int) (hX : X = x) (a v : Int) (w : World) (hx : x < 18446744073709551616) (hv : v ≤ 9223372036854775807) :
    Calls Try.prog 17 #[.int .u64 X, .int .i64 a, .int .i64 v] w fun e w' => e = .returned (.int .u64 (cutZ x a v : Nat)) ∧ w = w' := by
  subst hX
  have hlt := mask_lt a v
  cases hp : partOk a v
  · have E0 : Hid (maskZ a v = 0) := mask_zero hp
    have E : Hid (cutZ x a v = 0) := cut_no x a v hp
    clear hp
    go_enter Try.func17, Try.ntmps17
    go_wp2_with (go_at_call 15; refine (mask_any _ _ _ hv).mono ?_; rintro e w' ⟨rfl, rfl⟩; rw [E0.out])
    go_ret
    exact ⟨retInt (by rw [E.out]; rfl), rfl⟩
  · have hpos := mask_pos hp
    have E : Hid ((x &&& maskZ a v) / 2 ^ a.toNat = cutZ x a v) := cut_of x a v hp
    have e2 := u64_and_nat x (maskZ a v) hx hlt
    simp only [partOk, decide_eq_true_eq] at hp
    obtain ⟨n, rfl⟩ := Int.eq_ofNat_of_zero_le hp.1
    have hn : n < 64 := by omega
    have E2 : Hid _ := e2
    generalize hm : maskZ n v = m at *
    have HM : Hid _ := hm
    clear hm hp e2
    go_enter Try.func17, Try.ntmps17
    go_wp2_with (go_at_call 15; refine (mask_any _ _ _ hv).mono ?_; rintro e w' ⟨rfl, rfl⟩; rw [HM.out])
    go_ret
    refine ⟨retInt ?_, rfl⟩
    rw [E2.out, ← E.out]
    simp

set_option maxHeartbeats 400000 in
theorem set_any (x : Nat) (a v : Int) (n : Nat) (w : World) (hx : x < 18446744073709551616) (_hn : n < 18446744073709551616) (hv : v ≤ 9223372036854775807) :
    Calls Try.prog 19 #[.int .u64 x, .int .i64 a, .int .i64 v, .int .u64 n] w fun e w' => e = .returned (.int .u64 (setZ x a v n : Nat)) ∧ w = w' := by
  have hlt := mask_lt a v
  cases hp : partOk a v
  · have E0 : Hid (maskZ a v = 0) := mask_zero hp
    have E : Hid (setZ x a v n = x) := set_no x a v n hx hp
    clear hp
    go_enter Try.func19, Try.ntmps19
    go_wp2_with (go_at_call 15; refine (mask_any _ _ _ hv).mono ?_; rintro e w' ⟨rfl, rfl⟩; rw [E0.out])
    go_ret
    exact ⟨retInt (by rw [E.out]), rfl⟩
  · have hpos := mask_pos hp
    have E : Hid _ := set_of x a v n hx
    have e2 := u64_andNot_nat x (maskZ a v) hx hlt
    have hy : n * 2 ^ a.toNat % 18446744073709551616 < 18446744073709551616 := Nat.mod_lt _ (by omega)
    have e3 := u64_and_nat (n * 2 ^ a.toNat % 18446744073709551616) (maskZ a v) hy hlt
    have e4 := u64_or_nat (x &&& (18446744073709551615 - maskZ a v)) ((n * 2 ^ a.toNat % 18446744073709551616) &&& maskZ a v) (Nat.lt_of_le_of_lt Nat.and_le_left hx) (Nat.lt_of_le_of_lt Nat.and_le_left hy)
    simp only [partOk, decide_eq_true_eq] at hp
    obtain ⟨k, rfl⟩ := Int.eq_ofNat_of_zero_le hp.1
    have hn : k < 64 := by omega
    have E2 : Hid _ := e2
    have E3 : Hid _ := e3
    have E4 : Hid _ := e4
    generalize hm : maskZ k v = m at *
    have HM : Hid _ := hm
    clear hm hp e2 e3 e4 hy
    go_enter Try.func19, Try.ntmps19
    go_wp2_with (go_at_call 15; refine (mask_any _ _ _ hv).mono ?_; rintro e w' ⟨rfl, rfl⟩; rw [HM.out])
    go_ret
    refine ⟨retInt ?_, rfl⟩
    have e0 : IntKind.u64.wrap ((n : Int) * 2 ^ k) = ((n * 2 ^ k % 18446744073709551616 : Nat) : Int) := by rw [IntKind.wrap_u64]; simp
    rw [e0, E2.out]
    have e3 := E3.out
    simp only [Int.toNat_natCast] at e3
    rw [e3]
    have e4 := E4.out
    simp only [Int.toNat_natCast] at e4
    rw [e4]
    have e := E.out
    simp only [Int.toNat_natCast] at e
    rw [e]

theorem bitMask (x : Nat) (a : Int) (hx : x < 18446744073709551616) : (bits .and .u64 (x : Int) (maskZ a 1 : Nat) != 0) = (decide (0 ≤ a ∧ a < 64) && x.testBit a.toNat) := by
  rw [u64_and_nat x (maskZ a 1) hx (mask_lt a 1)]
  by_cases h : 0 ≤ a ∧ a < 64
  · have hp : partOk a 1 = true := by simp only [partOk, decide_eq_true_eq]; omega
    have hw : wideN a 1 = 1 := by unfold wideN; omega
    have e : x &&& maskZ a 1 = if x.testBit a.toNat then 2 ^ a.toNat else 0 := by
      apply Nat.eq_of_testBit_eq
      intro i
      rw [Nat.testBit_and, testBit_mask]
      simp only [inZ, hp, hw, Bool.true_and]
      by_cases hi : i = a.toNat
      · subst hi
        cases x.testBit a.toNat <;> simp
      · have h2 : ¬ (a.toNat ≤ i ∧ i < a.toNat + 1) := by omega
        have h3 : (decide (a.toNat ≤ i) && decide (i < a.toNat + 1)) = false := by simp; omega
        rw [h3]
        split
        · rw [Nat.testBit_two_pow]; simp; omega
        · simp
    rw [e]
    have hne : ¬ ((2 : Int) ^ a.toNat = 0) := Int.ne_of_gt (Int.pow_pos (by omega))
    cases hb : x.testBit a.toNat <;> simp [h, hne]
  · have hp : partOk a 1 = false := by simp only [partOk, decide_eq_false_iff_not]; omega
    rw [mask_zero hp]
    simp [h]

set_option maxHeartbeats 400000 in
theorem bit_any (x : Nat) (a : Int) (w : World) (hx : x < 18446744073709551616) :
    Calls Try.prog 20 #[.int .u64 x, .int .i64 a] w fun e w' => e = .returned (.bool (decide (0 ≤ a ∧ a < 64) && x.testBit a.toNat)) ∧ w = w' := by
  have E : Hid _ := bitMask x a hx
  go_enter Try.func20, Try.ntmps20
  go_wp2_with (go_at_call 15; refine (mask_any _ _ _ (by omega)).mono ?_; rintro e w' ⟨rfl, rfl⟩)
  go_ret
  exact ⟨retBool E.out, rfl⟩
end Go.Proofs.Ytkmgjjjlbpapeaa
