/- Plain facts for 1.4: what is put is got, what is laid changes no other byte, what is set is cut. -/
import Derived.Test.YtkmgjjjlbpapeaaPlain
import Derived.Test.YtkmgjjjlbpapeaaWords
namespace Go.Proofs.Ytkmgjjjlbpapeaa

theorem getL_putN (s n : Nat) : getL (putN s n) = n % 256 ^ s := by
  induction s with
  | zero => simp [putN, getL, Nat.mod_one]
  | succ s ih =>
    rw [putN_succ, getL_append, ih, length_putN]
    simp only [getL, Nat.mul_zero, Nat.add_zero]
    rw [Nat.pow_succ, Nat.mod_mul]
theorem getTo_append (x y z : List Nat) {a k : Nat} (ha : a = x.length) (hk : k = y.length) : getTo (x ++ y ++ z) a k = getL y := by
  subst ha hk
  unfold getTo
  congr 1
  simp
theorem get_lay {b : List Nat} {a s n : Nat} (h : a + s ≤ b.length) : getTo (layN b a s n) a s = n % 256 ^ s := by
  unfold layN
  rw [getTo_append _ _ _ (by simp; omega) (by simp), getL_putN]
theorem get_put1 (s n : Nat) : getTo (putAll s [n, n]) 0 s = n % 256 ^ s := by
  have := getTo_append [] (putN s n) (putN s n) (a := 0) (k := s) rfl (by simp)
  rw [getL_putN] at this
  simpa [putAll] using this
theorem get_put2 (s n : Nat) : getTo (putAll s [n, n]) s s = n % 256 ^ s := by
  have := getTo_append (putN s n) (putN s n) [] (a := s) (k := s) (by simp) (by simp)
  rw [getL_putN] at this
  simpa [putAll] using this
theorem cut_low (n s : Nat) (hs : 1 ≤ s ∧ s ≤ 8) : cutZ n 0 (8 * (s : Int)) = n % 256 ^ s := by
  have hp : partOk 0 (8 * (s : Int)) = true := by simp only [partOk, decide_eq_true_eq]; omega
  have hw : wideN 0 (8 * (s : Int)) = 8 * s := by unfold wideN; omega
  simp only [cutZ, hp, if_true, hw]
  rw [Nat.pow_mul]
  simp
theorem lay_other {b : List Nat} {a s n i : Nat} (h : a + s ≤ b.length) (hi : i < b.length) (ho : i < a ∨ a + s ≤ i) : (layN b a s n)[i]'(by rw [length_layN h]; exact hi) = b[i] := by
  have e : (layN b a s n)[i]? = b[i]? := by
    unfold layN
    rcases ho with ho | ho
    · rw [List.append_assoc, List.getElem?_append_left (by simp; omega), List.getElem?_take_of_lt ho]
    · rw [List.getElem?_append_right (by simp; omega), List.getElem?_drop]
      congr 1
      simp
      omega
  rw [List.getElem?_eq_getElem (by rw [length_layN h]; exact hi), List.getElem?_eq_getElem hi] at e
  exact Option.some.inj e

theorem putN_lt (s n : Nat) : ∀ x ∈ putN s n, x < 256 := by
  intro x hx
  simp only [putN, List.mem_map] at hx
  obtain ⟨i, _, rfl⟩ := hx
  exact Nat.mod_lt _ (by omega)
theorem putAll_lt (s : Nat) (ns : List Nat) : ∀ x ∈ putAll s ns, x < 256 := by
  intro x hx
  simp only [putAll, List.mem_flatMap] at hx
  obtain ⟨n, _, h⟩ := hx
  exact putN_lt s n x h
theorem layN_lt {b : List Nat} (hb : ∀ x ∈ b, x < 256) (a s n : Nat) : ∀ x ∈ layN b a s n, x < 256 := by
  intro x hx
  simp only [layN, List.mem_append] at hx
  rcases hx with (hx | hx) | hx
  · exact hb x (List.mem_of_mem_take hx)
  · exact putN_lt s n x hx
  · exact hb x (List.mem_of_mem_drop hx)

theorem part_split (x a d : Nat) : x = x / 2 ^ (a + d) * 2 ^ (a + d) + x / 2 ^ a % 2 ^ d * 2 ^ a + x % 2 ^ a := by
  have h1 := Nat.div_add_mod x (2 ^ a)
  have h2 := Nat.div_add_mod (x / 2 ^ a) (2 ^ d)
  rw [Nat.div_div_eq_div_mul, ← Nat.pow_add] at h2
  have e : x / 2 ^ a * 2 ^ a = x / 2 ^ (a + d) * 2 ^ (a + d) + x / 2 ^ a % 2 ^ d * 2 ^ a := by
    conv => lhs; rw [← h2]
    rw [Nat.add_mul, Nat.pow_add 2 a d, Nat.mul_comm (2 ^ d), Nat.mul_assoc, Nat.mul_comm (2 ^ d)]
  rw [← e, Nat.mul_comm]
  exact h1.symm
theorem testBit_set (x : Nat) (a v : Int) (n i : Nat) : (setZ x a v n).testBit i = (decide (i < 64) && (if inZ a v i then n.testBit (i - a.toNat) else x.testBit i)) := by
  unfold setZ; rw [testBit_nb]
theorem set_mid {x : Nat} {a v : Int} {n : Nat} (h : partOk a v = true) : setZ x a v n / 2 ^ a.toNat % 2 ^ wideN a v = n % 2 ^ wideN a v := by
  have hw := wide_le a v
  have hp := h
  simp only [partOk, decide_eq_true_eq] at hp
  apply Nat.eq_of_testBit_eq
  intro i
  rw [Nat.testBit_mod_two_pow, Nat.testBit_mod_two_pow, Nat.testBit_div_two_pow, testBit_set]
  by_cases hi : i < wideN a v
  · have h1 : i + a.toNat < 64 := by omega
    have h2 : inZ a v (i + a.toNat) = true := by
      simp only [inZ, h, Bool.true_and, Bool.and_eq_true, decide_eq_true_eq]; omega
    simp [hi, h1, h2]
  · simp [hi]
theorem set_low {x : Nat} {a v : Int} {n : Nat} (h : partOk a v = true) : setZ x a v n % 2 ^ a.toNat = x % 2 ^ a.toNat := by
  have hp := h
  simp only [partOk, decide_eq_true_eq] at hp
  apply Nat.eq_of_testBit_eq
  intro i
  rw [Nat.testBit_mod_two_pow, Nat.testBit_mod_two_pow, testBit_set]
  by_cases hi : i < a.toNat
  · have h1 : i < 64 := by omega
    have h2 : inZ a v i = false := by
      have : ¬ a.toNat ≤ i := by omega
      simp [inZ, this]
    simp [hi, h1, h2]
  · simp [hi]
theorem set_high {x : Nat} {a v : Int} {n : Nat} (hx : x < 18446744073709551616) : setZ x a v n / 2 ^ (a.toNat + wideN a v) = x / 2 ^ (a.toNat + wideN a v) := by
  apply Nat.eq_of_testBit_eq
  intro i
  rw [Nat.testBit_div_two_pow, Nat.testBit_div_two_pow, testBit_set]
  have h2 : inZ a v (i + (a.toNat + wideN a v)) = false := by
    have : ¬ i + (a.toNat + wideN a v) < a.toNat + wideN a v := by omega
    simp [inZ, this]
  rw [h2]
  by_cases h1 : i + (a.toNat + wideN a v) < 64
  · simp [h1]
  · have h3 : x.testBit (i + (a.toNat + wideN a v)) = false := Nat.testBit_lt_two_pow (Nat.lt_of_lt_of_le (show x < 2 ^ 64 from hx) (Nat.pow_le_pow_right (by omega) (by omega)))
    simp [h1, h3]
/-- What is left of a word without a part. -/
theorem cut_rest {x : Nat} {a v : Int} (h : partOk a v = true) (hx : x < 18446744073709551616) :
    IntKind.u64.wrap ((x : Int) - IntKind.u64.wrap ((cutZ x a v : Nat) * 2 ^ a.toNat)) = ((x / 2 ^ (a.toNat + wideN a v) * 2 ^ (a.toNat + wideN a v) + x % 2 ^ a.toNat : Nat) : Int) := by
  have e := part_split x a.toNat (wideN a v)
  have ec : cutZ x a v = x / 2 ^ a.toNat % 2 ^ wideN a v := by simp only [cutZ, h, if_true]
  have em : ((cutZ x a v : Nat) : Int) * 2 ^ a.toNat = ((x / 2 ^ a.toNat % 2 ^ wideN a v * 2 ^ a.toNat : Nat) : Int) := by rw [ec]; simp
  rw [em, IntKind.wrap_u64, IntKind.wrap_u64]
  generalize x / 2 ^ a.toNat % 2 ^ wideN a v * 2 ^ a.toNat = m at *
  generalize x / 2 ^ (a.toNat + wideN a v) * 2 ^ (a.toNat + wideN a v) = u at *
  generalize x % 2 ^ a.toNat = l at *
  omega
theorem set_rest {x : Nat} {a v : Int} {n : Nat} (h : partOk a v = true) (hx : x < 18446744073709551616) :
    IntKind.u64.wrap ((setZ x a v n : Nat) - IntKind.u64.wrap ((cutZ (setZ x a v n) a v : Nat) * 2 ^ a.toNat)) = IntKind.u64.wrap ((x : Int) - IntKind.u64.wrap ((cutZ x a v : Nat) * 2 ^ a.toNat)) := by
  rw [cut_rest h hx, cut_rest h (set_lt x a v n), set_high hx, set_low h]
theorem set_cut {x : Nat} {a v : Int} {n : Nat} (h : partOk a v = true) : cutZ (setZ x a v n) a v = cutZ n 0 (min v (64 - a)) := by
  have hp := h
  simp only [partOk, decide_eq_true_eq] at hp
  have h0 : partOk 0 (min v (64 - a)) = true := by simp only [partOk, decide_eq_true_eq]; omega
  have hw : wideN 0 (min v (64 - a)) = wideN a v := by unfold wideN; omega
  simp only [cutZ, h, h0, if_true, hw]
  rw [set_mid h]
  simp
end Go.Proofs.Ytkmgjjjlbpapeaa
