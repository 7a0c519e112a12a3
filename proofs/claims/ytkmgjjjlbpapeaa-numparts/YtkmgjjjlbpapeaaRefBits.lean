/- The walks of the document's Bit, In and Of (layer 1). -/
import Derived.Test.YtkmgjjjlbpapeaaMask
namespace Go.Proofs.Ytkmgjjjlbpapeaa
open Go.RowKit

theorem bitEnd (x a : Nat) : (((x / 2 ^ a : Nat) : Int) % 2 == 1) = x.testBit a := by
  rw [Nat.testBit_eq_decide_div_mod_eq]
  have e : (((x / 2 ^ a : Nat) : Int) % 2 == 1) = decide (((x / 2 ^ a : Nat) : Int) % 2 = 1) := rfl
  rw [e]
  apply decide_eq_decide.2
  omega

set_option maxHeartbeats 400000 in
theorem refBit_any (x : Nat) (X : Int) (hX : X = x) (a : Int) (w : World) (hx : x < 18446744073709551616) :
    Calls Try.prog 21 #[.int .u64 X, .int .i64 a] w fun e w' => e = .returned (.bool (decide (0 ≤ a ∧ a < 64) && x.testBit a.toNat)) ∧ w = w' := by
  subst hX
  by_cases h1 : a < 0
  · go_enter Try.func21, Try.ntmps21
    go_wp2
    go_ret
    exact ⟨retBool (by rw [decide_eq_false (by omega)]; rfl), rfl⟩
  · by_cases h2 : 63 < a
    · go_enter Try.func21, Try.ntmps21
      go_wp2
      go_ret
      exact ⟨retBool (by rw [decide_eq_false (by omega)]; rfl), rfl⟩
    · obtain ⟨n, rfl⟩ := Int.eq_ofNat_of_zero_le (show 0 ≤ a by omega)
      go_enter Try.func21, Try.ntmps21
      go_wp2
      go_loop [0, 5] (fun t i => ∃ k : Nat, k ≤ n ∧ i = .int .i64 k ∧ t = .int .u64 (x / 2 ^ k : Nat)) (fun _ i => n - (intOf i).toNat)
      case atStart => exact ⟨0, Nat.zero_le _, rfl, by simp⟩
      case round =>
        obtain ⟨k, hk, rfl, rfl⟩ := hrel
        have hy : x / 2 ^ k < 18446744073709551616 := Nat.lt_of_le_of_lt (Nat.div_le_self _ _) hx
        have hs : x / 2 ^ (k + 1) = x / 2 ^ k / 2 := by rw [Nat.pow_succ, Nat.div_div_eq_div_mul]
        have HS : Hid _ := hs
        clear hs
        by_cases hlt : k < n
        · generalize hq : x / 2 ^ k = q at *
          have HQ : Hid _ := hq
          clear hq
          go_wp2
          go_round
          case rel => exact ⟨k + 1, by omega, by go_num, by rw [HS.out]; simp⟩
          case measure => simp [intOf]; omega
        · have e : k = n := by omega
          subst e
          have HB : Hid _ := bitEnd x k
          generalize hq : x / 2 ^ k = q at *
          have HQ : Hid _ := hq
          clear hq
          go_wp2
          go_ret
          exact ⟨retBool (by rw [HB.out, decide_eq_true (by omega)]; simp), rfl⟩

theorem inZ_eq {a v : Int} {i : Nat} (hi : i < 64) : inZ a v i = decide (0 ≤ a ∧ a < 64 ∧ 1 ≤ v ∧ a ≤ i ∧ i - a < v) := by
  rw [Bool.eq_iff_iff]
  simp only [inZ, partOk, Bool.and_eq_true, decide_eq_true_eq]
  have e : wideN a v = if v.toNat ≤ 64 - a.toNat then v.toNat else 64 - a.toNat := Nat.min_def
  rw [e]
  constructor
  · rintro ⟨⟨⟨h1, h2, h3⟩, h4⟩, h5⟩
    refine ⟨h1, h2, h3, by omega, ?_⟩
    split at h5 <;> omega
  · rintro ⟨h1, h2, h3, h4, h5⟩
    refine ⟨⟨⟨h1, h2, h3⟩, by omega⟩, ?_⟩
    split <;> omega

set_option maxHeartbeats 400000 in
theorem refIn_any (a v : Int) (i : Nat) (w : World) (hi : i < 64) :
    Calls Try.prog 27 #[.int .i64 a, .int .i64 v, .int .i64 i] w fun e w' => e = .returned (.bool (inZ a v i)) ∧ w = w' := by
  by_cases h1 : a < 0
  · have E : Hid (inZ a v i = false) := by show _ = _; rw [inZ_eq hi]; exact decide_eq_false (by omega)
    go_enter Try.func27, Try.ntmps27
    go_wp2
    go_ret
    exact ⟨retBool E.out.symm, rfl⟩
  · by_cases h2 : 64 ≤ a
    · have E : Hid (inZ a v i = false) := by show _ = _; rw [inZ_eq hi]; exact decide_eq_false (by omega)
      go_enter Try.func27, Try.ntmps27
      go_wp2
      go_ret
      exact ⟨retBool E.out.symm, rfl⟩
    · by_cases h3 : v < 1
      · have E : Hid (inZ a v i = false) := by show _ = _; rw [inZ_eq hi]; exact decide_eq_false (by omega)
        go_enter Try.func27, Try.ntmps27
        go_wp2
        go_ret
        exact ⟨retBool E.out.symm, rfl⟩
      · by_cases h4 : (i : Int) < a
        · have E : Hid (inZ a v i = false) := by show _ = _; rw [inZ_eq hi]; exact decide_eq_false (by omega)
          go_enter Try.func27, Try.ntmps27
          go_wp2
          go_ret
          exact ⟨retBool E.out.symm, rfl⟩
        · by_cases h5 : (i : Int) - a < v
          · have E : Hid (inZ a v i = true) := by show _ = _; rw [inZ_eq hi]; exact decide_eq_true (by omega)
            go_enter Try.func27, Try.ntmps27
            go_wp2
            go_ret
            exact ⟨retBool E.out.symm, rfl⟩
          · have E : Hid (inZ a v i = false) := by show _ = _; rw [inZ_eq hi]; exact decide_eq_false (by omega)
            go_enter Try.func27, Try.ntmps27
            go_wp2
            go_ret
            exact ⟨retBool E.out.symm, rfl⟩

/-- An array of 64 bools. -/
def arrB (f : Nat → Bool) : Array Value := ((List.range 64).map fun i => Value.bool (f i)).toArray
theorem size_arrB (f : Nat → Bool) : (arrB f).size = 64 := by simp [arrB]
theorem arrB_get (f : Nat → Bool) (i : Nat) (h : i < 64) : (arrB f)[i]? = some (.bool (f i)) := by simp [arrB, h]

/-- The last k of 64 bits, as a number. -/
def tailB (f : Nat → Bool) (k : Nat) : Nat := nb (fun j => f (64 - k + j)) k
theorem tailB_succ (f : Nat → Bool) (k : Nat) (h : k < 64) : tailB f (k + 1) = 2 * tailB f k + (if f (63 - k) then 1 else 0) := by
  unfold tailB
  rw [nb_head]
  have e : nb (fun i => f (64 - (k + 1) + (i + 1))) k = nb (fun j => f (64 - k + j)) k := nb_congr (fun i _ => by congr 1; omega)
  rw [e, show 64 - (k + 1) + 0 = 63 - k by omega]
theorem tailB_all (f : Nat → Bool) : tailB f 64 = nb f 64 := nb_congr (fun i _ => by congr 1; omega)
theorem tailB_lt (f : Nat → Bool) (k : Nat) (h : k < 64) : tailB f k < 9223372036854775808 :=
  Nat.lt_of_lt_of_le (nb_lt _ k) (show 2 ^ k ≤ 2 ^ 63 from Nat.pow_le_pow_right (by omega) (by omega))

set_option maxHeartbeats 400000 in
theorem refOf_any (f : Nat → Bool) (w : World) :
    Calls Try.prog 28 #[.agg (arrB f)] w fun e w' => e = .returned (.int .u64 (nb f 64 : Nat)) ∧ Below w.heap.size w w' := by
  have hcell : ∀ j, j < 64 → (w.alloc (Obj.cells (arrB f) 48)).cell? ⟨w.heap.size, j, none⟩ = some (.bool (f j)) := fun j hj => by
    rw [cell_of_row _ w.heap.size j (arrB f) 48 (0, 0) (heap_alloc_new _ _)]; exact arrB_get f j hj
  have HC : Hid _ := hcell
  clear hcell
  go_enter Try.func28, Try.ntmps28
  go_wp2
  go_loop [3, 4] (fun t i => ∃ k : Nat, k ≤ 64 ∧ i = .int .i64 (63 - (k : Int)) ∧ t = .int .u64 (tailB f k : Nat)) (fun _ i => (intOf i + 1).toNat)
  case atStart => exact ⟨0, by omega, rfl, rfl⟩
  case round =>
    obtain ⟨k, hk, rfl, rfl⟩ := hrel
    by_cases hlt : k < 64
    · have hc := HC.out (63 - k) (by omega)
      have hs := tailB_succ f k hlt
      have hq := tailB_lt f k hlt
      generalize hqq : tailB f k = q at *
      have HS : Hid _ := hs
      have HQ : Hid _ := hqq
      clear hs hqq
      cases hb : f (63 - k)
      · rw [hb] at hc HS
        clear hb
        go_wp2
        go_round
        case rel => exact ⟨k + 1, by omega, by go_num, by rw [HS.out]; simp; go_num⟩
        case measure => simp [intOf]; omega
      · rw [hb] at hc HS
        clear hb
        go_wp2
        go_round
        case rel => exact ⟨k + 1, by omega, by go_num, by rw [HS.out]; simp; go_num⟩
        case measure => simp [intOf]; omega
    · have e : k = 64 := by omega
      subst e
      have HT : Hid _ := tailB_all f
      generalize hqq : tailB f 64 = q at *
      clear hqq
      go_wp2
      go_ret
      exact ⟨retInt (by rw [HT.out]), (Below.refl _ _).alloc (Nat.le_refl _) _⟩
end Go.Proofs.Ytkmgjjjlbpapeaa
