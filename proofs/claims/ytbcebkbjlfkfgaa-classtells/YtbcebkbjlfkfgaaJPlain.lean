/- Classes of sizes: how many bytes objects have, how many have room in frames, what is left over, which number of frames wastes the least part. -/
import Derived.Test.YtbcebkbjlfkfgaaRows
namespace Go.Proofs.Ytbcebkbjlfkfgaa

/-- How many bytes an object of class c has. -/
def jSz (c : Nat) : Nat := 64 * (c + 1)
/-- How many have room in so many frames. -/
def jObj (c f : Nat) : Nat := 4096 * f / jSz c
/-- What is left over of these. -/
def jLef (c f : Nat) : Nat := 4096 * f % jSz c
/-- Is a smaller part left over of a frames than of b? -/
def jWl (c a b : Nat) : Bool := decide (jLef c a * b < jLef c b * a)
/-- The best of the numbers from 1 to k, 1 where there are none. -/
def jBest (c : Nat) : Nat → Nat
  | 0 => 1
  | k + 1 => if jWl c (k + 1) (jBest c k) then k + 1 else jBest c k
/-- Of f frames no smaller part is left over of any of 1 to k. -/
def jFine (c f : Nat) : Nat → Bool
  | 0 => true
  | k + 1 => jFine c f k && !jWl c (k + 1) f
def jFr (c : Nat) : Nat := jBest c 4

theorem jSz_pos (c : Nat) : 0 < jSz c := by unfold jSz; omega
theorem jSz_le {c : Nat} (h : c < 64) : 64 ≤ jSz c ∧ jSz c ≤ 4096 := by unfold jSz; omega
theorem jBest_le (c k : Nat) : 1 ≤ jBest c k ∧ jBest c k ≤ k + 1 := by
  induction k with
  | zero => exact ⟨Nat.le_refl _, Nat.le_refl _⟩
  | succ k ih => unfold jBest; split <;> omega
theorem jBest_yes {c k : Nat} (h : jWl c (k + 1) (jBest c k) = true) : jBest c (k + 1) = k + 1 := by rw [jBest, if_pos h]
theorem jBest_no {c k : Nat} (h : jWl c (k + 1) (jBest c k) = false) : jBest c (k + 1) = jBest c k := by rw [jBest, h]; rfl
theorem jLef_lt (c f : Nat) : jLef c f < jSz c := Nat.mod_lt _ (jSz_pos c)
theorem jObj_mul (c f : Nat) : jObj c f * jSz c + jLef c f = 4096 * f := by
  unfold jObj jLef
  have := Nat.div_add_mod (4096 * f) (jSz c)
  rw [Nat.mul_comm] at this
  exact this
theorem jObj_next {c f n : Nat} : (n + 1) * jSz c ≤ 4096 * f ↔ n < jObj c f := by
  unfold jObj
  rw [← Nat.le_div_iff_mul_le (jSz_pos c)]
  exact Iff.rfl
set_option maxRecDepth 100000 in
theorem jFr_all : ∀ c, c < 64 → jFr c ≤ 4 ∧ jFine c (jFr c) 4 = true ∧ ∀ g, g < jFr c → 1 ≤ g → jFine c g 4 = false := by decide +kernel
theorem jFr_le {c : Nat} (h : c < 64) : 1 ≤ jFr c ∧ jFr c ≤ 4 := ⟨(jBest_le c 4).1, (jFr_all c h).1⟩
/-- The first that is fine. -/
theorem jFr_yes {c f : Nat} (h : c < 64) (h1 : 1 ≤ f) (hf : f ≤ jFr c) (hy : jFine c f 4 = true) : f = jFr c := by
  by_cases e : f = jFr c
  · exact e
  · rw [(jFr_all c h).2.2 f (by omega) h1] at hy
    cases hy
theorem jFr_no {c f : Nat} (h : c < 64) (hf : f ≤ jFr c) (hy : jFine c f 4 = false) : f + 1 ≤ jFr c := by
  by_cases e : f = jFr c
  · rw [e, (jFr_all c h).2.1] at hy
    cases hy
  · omega
/-- The class in whose objects n bytes have room; -1: there is none. -/
def jOf (n : Int) : Int := if 1 ≤ n ∧ n ≤ 4096 then (n - 1) / 64 else -1
theorem jOf_yes {n : Int} (h : 1 ≤ n ∧ n ≤ 4096) : jOf n = (n - 1) / 64 := if_pos h
theorem jOf_no {n : Int} (h : ¬ (1 ≤ n ∧ n ≤ 4096)) : jOf n = -1 := if_neg h
end Go.Proofs.Ytbcebkbjlfkfgaa
