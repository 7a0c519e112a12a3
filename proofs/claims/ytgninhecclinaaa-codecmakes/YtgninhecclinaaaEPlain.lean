/- Plain facts on pages of 4096 bytes, their 512 words, the stretches that these fall into, and the page of one word: lists of natural numbers, no program in them. -/
import Derived.Test.YtgninhecclinaaaGBytes
namespace Go.Proofs.Ytgninhecclinaaa

theorem getL_putN (s n : Nat) : getL (putN s n) = n % 256 ^ s := by
  induction s with
  | zero => simp [putN, getL, Nat.mod_one]
  | succ k ih =>
    rw [putN_succ, getL_append, ih]
    simp only [length_putN, getL, Nat.mul_zero, Nat.add_zero]
    rw [Nat.pow_succ, Nat.mod_mul]
theorem getL_inj : ∀ (l r : List Nat), l.length = r.length → (∀ x ∈ l, x < 256) → (∀ x ∈ r, x < 256) → getL l = getL r → l = r
  | [], [], _, _, _, _ => rfl
  | [], _ :: _, h, _, _, _ => by simp at h
  | _ :: _, [], h, _, _, _ => by simp at h
  | a :: l, c :: r, h, h1, h2, e => by
    have ha := h1 a (by simp)
    have hc := h2 c (by simp)
    simp only [getL] at e
    obtain rfl : a = c := by omega
    rw [getL_inj l r (by simpa using h) (fun x hx => h1 x (by simp [hx])) (fun x hx => h2 x (by simp [hx])) (by omega)]

/-- The i-th word. -/
def wd (b : List Nat) (i : Nat) : Nat := getTo b (8 * i) 8
/-- Into how many stretches the first k + 1 words fall. -/
def runsTo (b : List Nat) : Nat → Nat
  | 0 => 1
  | k + 1 => runsTo b k + (if wd b k = wd b (k + 1) then 0 else 1)
def runsN (b : List Nat) : Nat := if b.length = 4096 then runsTo b 511 else 0
def oneB (b : List Nat) : Bool := decide (runsN b = 1)
def ofN (b : List Nat) : Nat := if oneB b then wd b 0 else 0
section
variable {b : List Nat}
theorem wd_lt (h8 : ∀ x ∈ b, x < 256) (i : Nat) : wd b i < 18446744073709551616 := getTo_lt (a := 8 * i) (k := 8) h8
theorem wd_seg (b : List Nat) (i : Nat) : wd b i = getL (seg b (8 * i) 8) := rfl
theorem wd_eq (h8 : ∀ x ∈ b, x < 256) {i j : Nat} (hi : 8 * i + 8 ≤ b.length) (hj : 8 * j + 8 ≤ b.length) : wd b i = wd b j ↔ seg b (8 * i) 8 = seg b (8 * j) 8 := by
  rw [wd_seg, wd_seg]
  constructor
  · exact getL_inj _ _ (by rw [length_seg hi, length_seg hj]) (seg_byte h8) (seg_byte h8)
  · intro h; rw [h]
theorem seg_eq {i j : Nat} (hi : i + 8 ≤ b.length) (hj : j + 8 ≤ b.length) : seg b i 8 = seg b j 8 ↔ ∀ q, q < 8 → b.getD (i + q) 0 = b.getD (j + q) 0 := by
  constructor
  · intro h q hq
    rw [← seg_getD (P := b) (o := i) hq, ← seg_getD (P := b) (o := j) hq, h]
  · intro h
    refine ext_getD (by rw [length_seg hi, length_seg hj]) fun q hq => ?_
    rw [length_seg hi] at hq
    rw [seg_getD hq, seg_getD hq]
    exact h q hq
theorem runsTo_pos (b : List Nat) (k : Nat) : 1 ≤ runsTo b k ∧ runsTo b k ≤ k + 1 := by
  induction k with
  | zero => simp [runsTo]
  | succ k ih => simp only [runsTo]; split <;> omega
theorem runsTo_same {k : Nat} (h : wd b k = wd b (k + 1)) : runsTo b (k + 1) = runsTo b k := by simp [runsTo, h]
theorem runsTo_other {k : Nat} (h : ¬ wd b k = wd b (k + 1)) : runsTo b (k + 1) = runsTo b k + 1 := by simp [runsTo, h]
theorem runsTo_one {k : Nat} : runsTo b k = 1 ↔ ∀ i, i ≤ k → wd b i = wd b 0 := by
  induction k with
  | zero => exact ⟨fun _ i hi => by rw [show i = 0 by omega], fun _ => rfl⟩
  | succ k ih =>
    have hp := (runsTo_pos b k).1
    by_cases e : wd b k = wd b (k + 1)
    · rw [runsTo_same e, ih]
      constructor
      · intro h i hi
        by_cases e2 : i = k + 1
        · subst e2; rw [← e]; exact h k (by omega)
        · exact h i (by omega)
      · intro h i hi
        exact h i (by omega)
    · rw [runsTo_other e]
      constructor
      · intro h; omega
      · intro h
        exact absurd ((h k (by omega)).trans (h (k + 1) (by omega)).symm) e
theorem runsN_page (hl : b.length = 4096) : runsN b = runsTo b 511 := by rw [runsN, if_pos hl]
theorem runsN_none (hl : b.length ≠ 4096) : runsN b = 0 := by rw [runsN, if_neg hl]
theorem oneB_none (hl : b.length ≠ 4096) : oneB b = false ∧ ofN b = 0 := by
  have h : oneB b = false := by rw [oneB, runsN_none hl]; rfl
  exact ⟨h, by rw [ofN, h]; rfl⟩
theorem ofN_yes (h : oneB b = true) : ofN b = wd b 0 := by rw [ofN, h]; rfl
theorem ofN_no (h : oneB b = false) : ofN b = 0 := by rw [ofN, h]; rfl
theorem ofN_lt (h8 : ∀ x ∈ b, x < 256) : ofN b < 18446744073709551616 := by
  have := wd_lt h8 0
  unfold ofN
  split <;> omega
theorem oneB_iff : oneB b = true ↔ runsN b = 1 := by simp [oneB]
theorem oneB_len (h : oneB b = true) : b.length = 4096 := by
  rw [oneB_iff] at h
  by_cases e : b.length = 4096
  · exact e
  · rw [runsN_none e] at h; omega
theorem oneB_bytes (hl : b.length = 4096) (h8 : ∀ x ∈ b, x < 256) : oneB b = true ↔ ∀ i, i < 4096 → b.getD i 0 = b.getD (i % 8) 0 := by
  rw [oneB_iff, runsN_page hl, runsTo_one]
  constructor
  · intro h i hi
    have h1 := (wd_eq h8 (i := i / 8) (j := 0) (by omega) (by omega)).1 (h (i / 8) (by omega))
    have h2 := (seg_eq (by omega) (by omega)).1 h1 (i % 8) (by omega)
    rw [show 8 * (i / 8) + i % 8 = i by omega, show 8 * 0 + i % 8 = i % 8 by omega] at h2
    exact h2
  · intro h i hi
    refine (wd_eq h8 (by omega) (by omega)).2 ((seg_eq (by omega) (by omega)).2 fun q hq => ?_)
    rw [h (8 * i + q) (by omega), h (8 * 0 + q) (by omega)]
    congr 1
    omega
end

/-- The page all of whose words are n. -/
def pageN (n : Nat) : List Nat := (List.range 4096).map fun i => n / 256 ^ (i % 8) % 256
section
variable {n : Nat}
theorem pageN_len (n : Nat) : (pageN n).length = 4096 := by simp [pageN]
theorem pageN_getD {i : Nat} (hi : i < 4096) : (pageN n).getD i 0 = n / 256 ^ (i % 8) % 256 := by
  unfold pageN
  rw [List.getD_eq_getElem?_getD, List.getElem?_map, List.getElem?_range hi]
  rfl
theorem pageN_byte (n : Nat) : ∀ x ∈ pageN n, x < 256 := by
  intro x hx
  obtain ⟨i, _, rfl⟩ := List.mem_map.1 hx
  exact Nat.mod_lt _ (by omega)
theorem putN_getD {s i : Nat} (hi : i < s) : (putN s n).getD i 0 = n / 256 ^ i % 256 := by
  unfold putN
  rw [List.getD_eq_getElem?_getD, List.getElem?_map, List.getElem?_range hi]
  rfl
theorem putN_byte (s n : Nat) : ∀ x ∈ putN s n, x < 256 := by
  intro x hx
  obtain ⟨i, _, rfl⟩ := List.mem_map.1 hx
  exact Nat.mod_lt _ (by omega)
theorem pageN_seg (n : Nat) : seg (pageN n) (8 * 0) 8 = putN 8 n := by
  refine ext_getD (by rw [length_seg (by rw [pageN_len]; omega), length_putN]) fun i hi => ?_
  rw [length_seg (by rw [pageN_len]; omega)] at hi
  rw [seg_getD hi, pageN_getD (by omega), putN_getD hi, show (8 * 0 + i) % 8 = i by omega]
theorem pageN_one (n : Nat) : oneB (pageN n) = true := by
  rw [oneB_bytes (pageN_len n) (pageN_byte n)]
  intro i hi
  rw [pageN_getD hi, pageN_getD (by omega), Nat.mod_mod]
theorem pageN_of (hn : n < 18446744073709551616) : ofN (pageN n) = n := by
  rw [ofN_yes (pageN_one n), wd_seg, pageN_seg, getL_putN]
  exact Nat.mod_eq_of_lt hn
theorem page_back {b : List Nat} (h8 : ∀ x ∈ b, x < 256) (h : oneB b = true) : pageN (ofN b) = b := by
  have hl := oneB_len h
  refine ext_getD (by rw [pageN_len, hl]) fun i hi => ?_
  rw [pageN_len] at hi
  have h1 := (oneB_bytes hl h8).1 h i hi
  rw [pageN_getD hi, h1, ofN_yes h, wd_seg]
  have h2 : putN 8 (getL (seg b (8 * 0) 8)) = seg b (8 * 0) 8 := by
    refine getL_inj _ _ (by rw [length_putN, length_seg (by omega)]) (putN_byte _ _) (seg_byte h8) ?_
    rw [getL_putN]
    refine Nat.mod_eq_of_lt ?_
    have := getL_lt (seg b (8 * 0) 8) (seg_byte h8)
    rw [length_seg (by omega)] at this
    exact this
  have hm : i % 8 < 8 := by omega
  rw [← putN_getD hm, h2, seg_getD hm]
  congr 1
  omega
theorem pageN_zero : List.replicate 4096 0 = pageN 0 := by
  refine ext_getD (by rw [pageN_len, List.length_replicate]) fun i hi => ?_
  rw [List.length_replicate] at hi
  rw [repN_getD, pageN_getD hi]
  simp
/-- A page of one word with one byte otherwise is of none. -/
theorem page_turned {j x : Nat} (hj : j < 4096) (hx : x < 256) (hne : x ≠ n / 256 ^ (j % 8) % 256) : oneB ((pageN n).set j x) = false ∧ 1 < runsN ((pageN n).set j x) := by
  have hl : ((pageN n).set j x).length = 4096 := by rw [List.length_set, pageN_len]
  have h8 : ∀ y ∈ (pageN n).set j x, y < 256 := by
    intro y hy
    rcases List.mem_or_eq_of_mem_set hy with h | rfl
    · exact pageN_byte n y h
    · exact hx
  have hat : ((pageN n).set j x).getD j 0 = x := by
    rw [List.getD_eq_getElem?_getD, List.getElem?_set_self (by rw [pageN_len]; exact hj)]
    rfl
  have hoth : ∀ i, i < 4096 → i ≠ j → ((pageN n).set j x).getD i 0 = n / 256 ^ (i % 8) % 256 := by
    intro i hi hne
    rw [List.getD_eq_getElem?_getD, List.getElem?_set_ne (by omega), ← List.getD_eq_getElem?_getD, pageN_getD hi]
  have hno : oneB ((pageN n).set j x) ≠ true := by
    intro h
    have h1 := (oneB_bytes hl h8).1 h
    obtain ⟨i, hi, hij, hm⟩ : ∃ i, i < 4096 ∧ i ≠ j ∧ i % 8 = j % 8 := by
      by_cases e : j + 8 < 4096
      · exact ⟨j + 8, e, by omega, by omega⟩
      · exact ⟨j - 8, by omega, by omega, by omega⟩
    have h2 := h1 i hi
    rw [hm, ← h1 j hj, hat, hoth i hi hij, hm] at h2
    exact hne h2.symm
  have hno' : oneB ((pageN n).set j x) = false := by simpa using hno
  refine ⟨hno', ?_⟩
  have hp := (runsTo_pos ((pageN n).set j x) 511).1
  rw [← runsN_page hl] at hp
  have h3 : ¬ runsN ((pageN n).set j x) = 1 := fun h => hno (oneB_iff.2 h)
  omega
end
end Go.Proofs.Ytgninhecclinaaa
