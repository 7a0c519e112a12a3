/- Plain facts: bytes in a row (putAt: bytes laid over others; seg: bytes cut out), and which bytes of frames may be touched. -/
import Derived.Test.YteebjeifbccbnaaFPlain
import Derived.Test.YteebjeifbccbnaaPlain
namespace Go.Proofs.Yteebjeifbccbnaa

/-- P with b laid over it from o on. -/
def putAt (P : List Nat) (o : Nat) (b : List Nat) : List Nat := P.take o ++ b ++ P.drop (o + b.length)
/-- s bytes of P from o on. -/
def seg (P : List Nat) (o s : Nat) : List Nat := (P.drop o).take s
section
variable {P b : List Nat} {o s i : Nat}
theorem length_putAt (h : o + b.length ≤ P.length) : (putAt P o b).length = P.length := by simp [putAt]; omega
theorem length_seg (h : o + s ≤ P.length) : (seg P o s).length = s := by simp [seg]; omega
theorem seg_getD (hi : i < s) : (seg P o s).getD i 0 = P.getD (o + i) 0 := by
  unfold seg
  simp [List.getD, hi]
theorem putAt_getD (h : o + b.length ≤ P.length) (i : Nat) : (putAt P o b).getD i 0 = if o ≤ i ∧ i < o + b.length then b.getD (i - o) 0 else P.getD i 0 := by
  unfold putAt
  simp only [List.getD, List.append_assoc]
  by_cases h1 : i < o
  · rw [List.getElem?_append_left (by simp; omega), List.getElem?_take, if_pos h1, if_neg (by omega)]
  · rw [List.getElem?_append_right (by simp; omega)]
    have e : (P.take o).length = o := by simp; omega
    rw [e]
    by_cases h2 : i < o + b.length
    · rw [List.getElem?_append_left (by omega), if_pos (by omega)]
    · rw [List.getElem?_append_right (by omega), List.getElem?_drop, if_neg (by omega)]
      congr 2
      omega
theorem putAt_nil (P : List Nat) (o : Nat) : putAt P o [] = P := by simp [putAt]
theorem putAt_byte (h : ∀ x ∈ P, x < 256) (hb : ∀ x ∈ b, x < 256) : ∀ x ∈ putAt P o b, x < 256 := by
  intro x hx
  simp only [putAt, List.mem_append] at hx
  rcases hx with (hx | hx) | hx
  · exact h x (List.mem_of_mem_take hx)
  · exact hb x hx
  · exact h x (List.mem_of_mem_drop hx)
theorem seg_byte (h : ∀ x ∈ P, x < 256) : ∀ x ∈ seg P o s, x < 256 := fun x hx => h x (List.mem_of_mem_drop (List.mem_of_mem_take hx))
theorem bv_putAt (P : List Nat) (o : Nat) (b : List Nat) : (bv P).take o ++ bv b ++ (bv P).drop (o + (bv b).length) = bv (putAt P o b) := by
  simp [bv, putAt, List.map_take, List.map_drop]
theorem seg_getTo (P : List Nat) (o s : Nat) : getTo (seg P o s) 0 s = getTo P o s := by
  unfold getTo seg
  simp [List.take_take]
theorem getD_byte (h : ∀ x ∈ P, x < 256) (i : Nat) : P.getD i 0 < 256 := by
  by_cases hi : i < P.length
  · rw [List.getD_eq_getElem?_getD, List.getElem?_eq_getElem hi]
    exact h _ (List.getElem_mem _)
  · rw [List.getD_eq_getElem?_getD, List.getElem?_eq_none (by omega)]; simp
theorem ext_getD {a b : List Nat} (hl : a.length = b.length) (h : ∀ i, i < a.length → a.getD i 0 = b.getD i 0) : a = b := by
  apply List.ext_getElem hl
  intro i h1 h2
  have := h i h1
  simpa [List.getD, h1, h2] using this
end
theorem putN_byte (s n : Nat) : ∀ x ∈ putN s n, x < 256 := by
  intro x hx
  simp only [putN, List.mem_map] at hx
  obtain ⟨i, _, rfl⟩ := hx
  omega
theorem putAll_one (s n : Nat) : putAll s [n] = putN s n := by simp [putAll]

/-- May bytes be touched? -/
def thB (O : List Int) (n at' size : Int) : Bool := decide (ownI O n ≠ 0 ∧ 0 ≤ at' ∧ 0 ≤ size ∧ at' + size ≤ 4096)
/-- May a word be touched? -/
def wdB (O : List Int) (n i : Int) : Bool := decide (ownI O n ≠ 0 ∧ 0 ≤ i ∧ i < 512)
/-- Where frame n's bytes from a on lie. -/
def plc (n at' : Int) : Nat := n.toNat * 4096 + at'.toNat
/-- What a read answers. -/
def rdL (O : List Int) (P : List Nat) (n at' size : Int) : List Nat := if thB O n at' size then seg P (plc n at') size.toNat else []
/-- What a write leaves. -/
def wrP (O : List Int) (P : List Nat) (n at' : Int) (b : List Nat) : List Nat := if thB O n at' b.length then putAt P (plc n at') b else P
/-- What a word is. -/
def wdN (O : List Int) (P : List Nat) (n i : Int) : Nat := if wdB O n i then getTo P (plc n (i * 8)) 8 else 0
/-- What setting a word leaves. -/
def wdP (O : List Int) (P : List Nat) (n i : Int) (v : Nat) : List Nat := if wdB O n i then putAt P (plc n (i * 8)) (putN 8 v) else P
/-- What a take leaves. -/
def tkP (S P : List Nat) (o : Int) : List Nat := if tkB S o then putAt P (tkN S o * 4096) (List.replicate 4096 0) else P
theorem own_yes {O : List Int} {n : Int} (h : ownI O n ≠ 0) : ∃ k : Nat, n = k ∧ k < O.length ∧ O.getD k 0 ≠ 0 := gv_of (decide_eq_true h)
theorem th_of {O : List Int} {n a s : Int} (h : thB O n a s = true) : ∃ n' a' s' : Nat, n = n' ∧ a = a' ∧ s = s' ∧ n' < O.length ∧ O.getD n' 0 ≠ 0 ∧ a' + s' ≤ 4096 := by
  obtain ⟨h1, h2, h3, h4⟩ := of_decide_eq_true h
  obtain ⟨k, rfl, hk, h0⟩ := own_yes h1
  obtain ⟨a', rfl⟩ := Int.eq_ofNat_of_zero_le h2
  obtain ⟨s', rfl⟩ := Int.eq_ofNat_of_zero_le h3
  exact ⟨k, a', s', rfl, rfl, rfl, hk, h0, by omega⟩
theorem th_not {O : List Int} {n a s : Int} (h : thB O n a s = false) : ¬ (ownI O n ≠ 0 ∧ 0 ≤ a ∧ 0 ≤ s ∧ a + s ≤ 4096) := of_decide_eq_false h
theorem wd_of {O : List Int} {n i : Int} (h : wdB O n i = true) : ∃ i' : Nat, i = i' ∧ i' < 512 ∧ thB O n (i * 8) 8 = true := by
  obtain ⟨h1, h2, h3⟩ := of_decide_eq_true h
  obtain ⟨a', rfl⟩ := Int.eq_ofNat_of_zero_le h2
  exact ⟨a', rfl, by omega, decide_eq_true ⟨h1, by omega, by omega, by omega⟩⟩
theorem wd_not {O : List Int} {n i : Int} (h : wdB O n i = false) (h0 : 0 ≤ i) (h1 : i < 512) : thB O n (i * 8) 8 = false := by
  have h2 := of_decide_eq_false h
  exact decide_eq_false (by omega)
theorem plc_nat (n a : Nat) : plc (n : Int) (a : Int) = n * 4096 + a := by rw [plc, Int.toNat_natCast, Int.toNat_natCast]
theorem plc_le {n a s m : Nat} (hn : n < m) (h : a + s ≤ 4096) : plc n a + s ≤ m * 4096 := by
  have : n * 4096 + 4096 ≤ m * 4096 := by have := Nat.mul_le_mul_right 4096 (Nat.succ_le_of_lt hn); omega
  have e := plc_nat n a
  omega
end Go.Proofs.Yteebjeifbccbnaa
