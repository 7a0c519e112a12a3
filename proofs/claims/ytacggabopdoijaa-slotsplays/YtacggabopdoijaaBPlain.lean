/- Plain facts on sets of small numbers: a list of bools, and the words whose bits they are; no program in them. -/
import Derived.Laws.BitsAllLaws
namespace Go.Proofs.Ytacggabopdoijaa

/-- A list of words stands for a list of bools: word k's bit i is number 64 k + i's; what is beyond is not set. -/
structure Fits (ws : List Nat) (x : List Bool) : Prop where
  len : ws.length = (x.length + 63) / 64
  lt : ∀ q ∈ ws, q < 18446744073709551616
  bit : ∀ k i, k < ws.length → i < 64 → (ws.getD k 0).testBit i = x.getD (64 * k + i) false

/-- Is n in it? -/
def hasB (x : List Bool) (n : Int) : Bool := decide (0 ≤ n) && x.getD n.toNat false
/-- May n be in it? -/
def mayB (x : List Bool) (n : Int) : Bool := decide (0 ≤ n ∧ n < x.length)
def putL (x : List Bool) (n : Int) (b : Bool) : List Bool := if 0 ≤ n then x.set n.toNat b else x

theorem len_putL (x : List Bool) (n : Int) (b : Bool) : (putL x n b).length = x.length := by unfold putL; split <;> simp
theorem hasB_nat (x : List Bool) (n : Nat) : hasB x n = x.getD n false := by simp [hasB]
theorem hasB_no {x : List Bool} {n : Int} (h : mayB x n = false) : hasB x n = false := by
  simp only [mayB, decide_eq_false_iff_not] at h
  unfold hasB
  by_cases h0 : 0 ≤ n
  · have : x.length ≤ n.toNat := by omega
    simp [List.getD, List.getElem?_eq_none this]
  · simp [h0]
theorem mayB_of_has {x : List Bool} {n : Int} (h : hasB x n = true) : mayB x n = true := by
  cases hm : mayB x n
  · rw [hasB_no hm] at h; cases h
  · rfl
theorem putL_no {x : List Bool} {n : Int} {b : Bool} (h : mayB x n = false) : putL x n b = x := by
  simp only [mayB, decide_eq_false_iff_not] at h
  unfold putL
  split
  · exact List.set_eq_of_length_le (by omega)
  · rfl
theorem putL_same {x : List Bool} {n : Int} {b : Bool} (h : hasB x n = b) : putL x n b = x := by
  unfold putL
  split
  · rename_i h0
    simp only [hasB, h0, decide_true, Bool.true_and] at h
    by_cases hl : n.toNat < x.length
    · apply List.ext_getElem (by simp)
      intro i h1 h2
      rw [List.getElem_set]
      split
      · rename_i e
        subst e
        rw [← h]; simp [List.getD, hl]
      · rfl
    · exact List.set_eq_of_length_le (by omega)
  · rfl
theorem mayB_nat {x : List Bool} {n : Nat} (h : n < x.length) : mayB x n = true := by simp [mayB]; exact h
theorem getD_set (x : List Bool) (n i : Nat) (b : Bool) : (x.set n b).getD i false = if n = i ∧ n < x.length then b else x.getD i false := by
  simp only [List.getD_eq_getElem?_getD, List.getElem?_set]
  by_cases h : n = i
  · subst h
    by_cases hl : n < x.length
    · simp [hl]
    · simp [hl]
  · simp [h]

/-- A word with bit i set, or not. -/
theorem testBit_or_pow (q i j : Nat) : (q ||| 2 ^ i).testBit j = (q.testBit j || decide (i = j)) := by
  rw [Nat.testBit_or, Nat.testBit_two_pow]
theorem testBit_clear (q i j : Nat) (hj : j < 64) (hi : i < 64) : (q &&& (18446744073709551615 - 2 ^ i)).testBit j = (q.testBit j && !decide (i = j)) := by
  rw [Nat.testBit_and]
  congr 1
  have hp : 2 ^ i < 2 ^ 64 := Nat.pow_lt_pow_right (by omega) hi
  have e := Nat.testBit_two_pow_sub_succ hp j
  rw [show (2 : Nat) ^ 64 - (2 ^ i + 1) = 18446744073709551615 - 2 ^ i by omega] at e
  rw [e, Nat.testBit_two_pow]
  simp [hj]

theorem Fits.word {ws : List Nat} {x : List Bool} (h : Fits ws x) {n : Nat} (hn : n < x.length) : n / 64 < ws.length := by have := h.len; omega
theorem Fits.at {ws : List Nat} {x : List Bool} (h : Fits ws x) {n : Nat} (hn : n < x.length) : (ws.getD (n / 64) 0).testBit (n % 64) = x.getD n false := by
  have := h.bit (n / 64) (n % 64) (h.word hn) (by omega)
  rw [this]
  congr 1
  omega
theorem Fits.wlt {ws : List Nat} {x : List Bool} (h : Fits ws x) (k : Nat) : ws.getD k 0 < 18446744073709551616 := by
  by_cases hk : k < ws.length
  · have := h.lt _ (List.getElem_mem hk)
    simpa [List.getD, hk] using this
  · simp [List.getD, List.getElem?_eq_none (show ws.length ≤ k by omega)]
theorem Fits.store {ws : List Nat} {x : List Bool} (h : Fits ws x) {n : Nat} (hn : n < x.length) {q : Nat} {b : Bool} (hq : q < 18446744073709551616)
    (hb : ∀ i, i < 64 → q.testBit i = if n % 64 = i then b else (ws.getD (n / 64) 0).testBit i) : Fits (ws.set (n / 64) q) (x.set n b) := by
  have hw := h.word hn
  refine ⟨by simpa using h.len, ?_, ?_⟩
  · intro y hy
    rcases List.mem_or_eq_of_mem_set hy with h1 | h1
    · exact h.lt y h1
    · rw [h1]; exact hq
  · intro k i hk hi
    rw [getD_set]
    have hk' : k < ws.length := by simpa using hk
    have e1 : (ws.set (n / 64) q).getD k 0 = if n / 64 = k then q else ws.getD k 0 := by
      simp only [List.getD_eq_getElem?_getD, List.getElem?_set]
      by_cases e : n / 64 = k
      · subst e; simp [hw]
      · simp [e]
    rw [e1]
    by_cases e : n / 64 = k
    · subst e
      rw [if_pos rfl, hb i hi]
      by_cases e2 : n % 64 = i
      · rw [if_pos e2, if_pos (by constructor <;> omega)]
      · rw [if_neg e2, if_neg (by omega)]
        exact h.bit _ _ hk' hi
    · rw [if_neg e, if_neg (by omega)]
      exact h.bit _ _ hk' hi
theorem Fits.or {ws : List Nat} {x : List Bool} (h : Fits ws x) {n : Nat} (hn : n < x.length) : Fits (ws.set (n / 64) (ws.getD (n / 64) 0 ||| 2 ^ (n % 64))) (x.set n true) := by
  refine h.store hn (Nat.or_lt_two_pow (n := 64) (h.wlt _) (Nat.pow_lt_pow_right (by omega) (by omega))) ?_
  intro i hi
  rw [testBit_or_pow]
  by_cases e : n % 64 = i <;> simp [e]
theorem Fits.clear {ws : List Nat} {x : List Bool} (h : Fits ws x) {n : Nat} (hn : n < x.length) : Fits (ws.set (n / 64) (ws.getD (n / 64) 0 &&& (18446744073709551615 - 2 ^ (n % 64)))) (x.set n false) := by
  refine h.store hn (Nat.lt_of_le_of_lt Nat.and_le_left (h.wlt _)) ?_
  intro i hi
  rw [testBit_clear _ _ _ hi (by omega)]
  by_cases e : n % 64 = i <;> simp [e]
theorem Fits.new (n : Nat) : Fits (List.replicate ((n + 63) / 64) 0) (List.replicate n false) := by
  refine ⟨by simp, ?_, ?_⟩
  · intro q hq
    rw [List.eq_of_mem_replicate hq]
    omega
  · intro k i hk hi
    have e : (List.replicate ((n + 63) / 64) 0).getD k 0 = 0 := by simp only [List.getD_eq_getElem?_getD, List.getElem?_replicate]; split <;> rfl
    have e2 : (List.replicate n false).getD (64 * k + i) false = false := by simp only [List.getD_eq_getElem?_getD, List.getElem?_replicate]; split <;> rfl
    rw [e, e2, Nat.zero_testBit]
theorem and_pow (q i : Nat) : q &&& 2 ^ i = if q.testBit i then 2 ^ i else 0 := by
  apply Nat.eq_of_testBit_eq
  intro j
  rw [Nat.testBit_and, Nat.testBit_two_pow]
  by_cases hj : i = j
  · subst hj
    cases q.testBit i <;> simp
  · cases q.testBit i <;> simp [hj]
theorem and_pow_ne (q i : Nat) : (((q &&& 2 ^ i : Nat) : Int) != 0) = q.testBit i := by
  rw [and_pow]
  have hp : ((2 ^ i : Nat) : Int) ≠ 0 := by have := Nat.two_pow_pos i; omega
  cases q.testBit i
  · rfl
  · simpa using hp
end Go.Proofs.Ytacggabopdoijaa
