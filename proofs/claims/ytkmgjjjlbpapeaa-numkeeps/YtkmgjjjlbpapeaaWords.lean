/- Plain facts on parts of words: natural numbers and their bits, no program in them. -/
import Derived.Laws.BitsAllLaws
namespace Go.Proofs.Ytkmgjjjlbpapeaa

/-- May there be such a part? -/
def partOk (a v : Int) : Bool := decide (0 ≤ a ∧ a < 64 ∧ 1 ≤ v)
def wideN (a v : Int) : Nat := min v.toNat (64 - a.toNat)
def maskZ (a v : Int) : Nat := if partOk a v then (2 ^ wideN a v - 1) * 2 ^ a.toNat else 0
def cutZ (w : Nat) (a v : Int) : Nat := if partOk a v then w / 2 ^ a.toNat % 2 ^ wideN a v else 0
/-- Is a bit in a part? -/
def inZ (a v : Int) (i : Nat) : Bool := partOk a v && decide (a.toNat ≤ i) && decide (i < a.toNat + wideN a v)
/-- The number of the first n bits of f. -/
def nb (f : Nat → Bool) : Nat → Nat
  | 0 => 0
  | n + 1 => nb f n + (if f n then 2 ^ n else 0)
def setZ (w : Nat) (a v : Int) (n : Nat) : Nat := nb (fun i => if inZ a v i then n.testBit (i - a.toNat) else w.testBit i) 64

theorem nb_lt (f : Nat → Bool) (n : Nat) : nb f n < 2 ^ n := by
  induction n with
  | zero => simp [nb]
  | succ n ih => simp only [nb, Nat.pow_succ]; split <;> omega
theorem testBit_nb (f : Nat → Bool) (n i : Nat) : (nb f n).testBit i = (decide (i < n) && f i) := by
  induction n with
  | zero => simp [nb]
  | succ n ih =>
    have hl := nb_lt f n
    simp only [nb]
    by_cases hf : f n
    · have e := Nat.two_pow_add_eq_or_of_lt hl 1
      rw [Nat.mul_one] at e
      rw [if_pos hf, Nat.add_comm, e, Nat.testBit_or, ih, Nat.testBit_two_pow]
      by_cases h1 : i = n
      · subst h1; simp [hf]
      · by_cases h2 : i < n
        · have h4 : ¬ n = i := by omega
          simp [h2, h4, Nat.lt_succ_of_lt h2]
        · have h3 : ¬ i < n + 1 := by omega
          simp [h2, h3]; omega
    · rw [if_neg hf, Nat.add_zero, ih]
      by_cases h1 : i = n
      · subst h1; simp [hf]
      · by_cases h2 : i < n
        · simp [h2, Nat.lt_succ_of_lt h2]
        · have h3 : ¬ i < n + 1 := by omega
          simp [h2, h3]
theorem nb_eq (f : Nat → Bool) (n x : Nat) (hx : x < 2 ^ n) (h : ∀ i, i < n → x.testBit i = f i) : x = nb f n := by
  apply Nat.eq_of_testBit_eq
  intro i
  rw [testBit_nb]
  by_cases hi : i < n
  · simp [hi, h i hi]
  · simp [hi]
    exact Nat.testBit_lt_two_pow (Nat.lt_of_lt_of_le hx (Nat.pow_le_pow_right (by omega) (by omega)))
theorem nb_head (f : Nat → Bool) (n : Nat) : nb f (n + 1) = 2 * nb (fun i => f (i + 1)) n + (if f 0 then 1 else 0) := by
  induction n with
  | zero => simp [nb]
  | succ n ih =>
    rw [nb, ih]
    simp only [nb, Nat.pow_succ]
    split <;> split <;> omega
theorem nb_congr {f g : Nat → Bool} {n : Nat} (h : ∀ i, i < n → f i = g i) : nb f n = nb g n := by
  induction n with
  | zero => rfl
  | succ n ih => rw [nb, nb, ih (fun i hi => h i (by omega)), h n (by omega)]

theorem onesShr : ∀ d, d ≤ 64 → 18446744073709551615 / 2 ^ (64 - d) = 2 ^ d - 1 := by decide +kernel
theorem wide_le (a v : Int) : wideN a v ≤ 64 - a.toNat := Nat.min_le_right _ _
theorem mask_lt (a v : Int) : maskZ a v < 18446744073709551616 := by
  unfold maskZ
  split
  · have h := wide_le a v
    rename_i hp
    simp only [partOk, decide_eq_true_eq] at hp
    have h1 : 2 ^ wideN a v - 1 < 2 ^ wideN a v := by have := Nat.two_pow_pos (wideN a v); omega
    have h2 := Nat.mul_lt_mul_of_pos_right h1 (Nat.two_pow_pos a.toNat)
    rw [← Nat.pow_add] at h2
    have h3 : 2 ^ (wideN a v + a.toNat) ≤ 2 ^ 64 := Nat.pow_le_pow_right (by omega) (by omega)
    omega
  · omega
theorem testBit_mask (a v : Int) (i : Nat) : (maskZ a v).testBit i = inZ a v i := by
  unfold maskZ inZ
  split
  · rename_i hp
    rw [hp, Nat.testBit_mul_two_pow, Nat.testBit_two_pow_sub_one]
    by_cases h : a.toNat ≤ i
    · by_cases g : i < a.toNat + wideN a v
      · have g' : i - a.toNat < wideN a v := by omega
        simp [h, g, g']
      · have g' : ¬ i - a.toNat < wideN a v := by omega
        simp [h, g, g']
    · simp [h]
  · rename_i hp
    simp [hp]
theorem mask_zero {a v : Int} (h : partOk a v = false) : maskZ a v = 0 := by simp [maskZ, h]
theorem mask_pos {a v : Int} (h : partOk a v = true) : 0 < maskZ a v := by
  simp only [maskZ, h, if_true]
  have hp := h
  simp only [partOk, decide_eq_true_eq] at hp
  have h1 : 1 ≤ wideN a v := by unfold wideN; omega
  have h2 : 2 ^ 1 ≤ 2 ^ wideN a v := Nat.pow_le_pow_right (by omega) h1
  exact Nat.mul_pos (by omega) (Nat.two_pow_pos _)
/-- A word's part, as num.Cut makes it. -/
theorem cut_of (w : Nat) (a v : Int) (h : partOk a v = true) : (w &&& maskZ a v) / 2 ^ a.toNat = cutZ w a v := by
  simp only [cutZ, h, if_true]
  apply Nat.eq_of_testBit_eq
  intro i
  rw [← Nat.shiftRight_eq_div_pow, ← Nat.shiftRight_eq_div_pow, Nat.testBit_shiftRight, Nat.testBit_and, testBit_mask, Nat.testBit_mod_two_pow, Nat.testBit_shiftRight]
  simp only [inZ, h, Bool.true_and]
  by_cases hi : i < wideN a v
  · have g : a.toNat + i < a.toNat + wideN a v := by omega
    have g2 : a.toNat ≤ a.toNat + i := by omega
    simp only [hi, g, g2, decide_true, Bool.and_true, Bool.true_and]
  · have g : ¬ a.toNat + i < a.toNat + wideN a v := by omega
    simp only [hi, g, decide_false, Bool.and_false, Bool.false_and]
theorem cut_no (w : Nat) (a v : Int) (h : partOk a v = false) : cutZ w a v = 0 := by simp [cutZ, h]
theorem set_no (w : Nat) (a v : Int) (n : Nat) (hw : w < 18446744073709551616) (h : partOk a v = false) : setZ w a v n = w := by
  unfold setZ
  refine (nb_eq _ 64 w hw ?_).symm
  intro i _
  simp [inZ, h]
theorem set_of (w : Nat) (a v : Int) (n : Nat) (hw : w < 18446744073709551616) :
    (w &&& (18446744073709551615 - maskZ a v)) ||| ((n * 2 ^ a.toNat % 18446744073709551616) &&& maskZ a v) = setZ w a v n := by
  unfold setZ
  apply nb_eq
  · apply Nat.or_lt_two_pow
    · exact Nat.lt_of_le_of_lt Nat.and_le_left hw
    · exact Nat.lt_of_le_of_lt Nat.and_le_left (Nat.mod_lt _ (by omega))
  · intro i hi
    have hc : (18446744073709551615 - maskZ a v).testBit i = !inZ a v i := by
      have := Nat.testBit_two_pow_sub_succ (x := maskZ a v) (n := 64) (by have := mask_lt a v; omega) i
      rw [testBit_mask] at this
      rw [show 18446744073709551615 - maskZ a v = 2 ^ 64 - (maskZ a v + 1) by omega, this]
      simp [hi]
    rw [Nat.testBit_or, Nat.testBit_and, Nat.testBit_and, hc, testBit_mask, show (18446744073709551616 : Nat) = 2 ^ 64 from rfl, Nat.testBit_mod_two_pow, Nat.testBit_mul_two_pow]
    by_cases h : inZ a v i
    · have h2 : a.toNat ≤ i := by simp only [inZ, Bool.and_eq_true, decide_eq_true_eq] at h; omega
      simp [h, hi, h2]
    · simp [h]
/-- The mask is what setting all of 0 makes. -/
theorem mask_set (a v : Int) : maskZ a v = setZ 0 a v 18446744073709551615 := by
  unfold setZ
  apply nb_eq
  · exact mask_lt a v
  · intro i hi
    rw [testBit_mask]
    by_cases h : inZ a v i
    · have h2 : (18446744073709551615 : Nat).testBit (i - a.toNat) = true := by
        rw [show (18446744073709551615 : Nat) = 2 ^ 64 - 1 from rfl, Nat.testBit_two_pow_sub_one]; simp; omega
      simp [h, h2]
    · simp [h]
theorem set_lt (w : Nat) (a v : Int) (n : Nat) : setZ w a v n < 18446744073709551616 := nb_lt _ 64
theorem cut_lt (w : Nat) (a v : Int) (hw : w < 18446744073709551616) : cutZ w a v < 18446744073709551616 := by
  unfold cutZ; split
  · exact Nat.lt_of_le_of_lt (Nat.mod_le _ _) (Nat.lt_of_le_of_lt (Nat.div_le_self _ _) hw)
  · omega
end Go.Proofs.Ytkmgjjjlbpapeaa
