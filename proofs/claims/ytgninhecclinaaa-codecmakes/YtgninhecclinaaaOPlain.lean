/- Plain facts on a page's form, what is kept of it, and what comes back: lists of natural numbers, no program in them. -/
import Derived.Test.YtgninhecclinaaaEPlain
import Derived.Test.YtgninhecclinaaaQBound
namespace Go.Proofs.Ytgninhecclinaaa

/-- What a page is packed to; none of what is no page. -/
def pkL (b : List Nat) : List Nat := if b.length = 4096 then catZ b (packL b) else []
/-- A page's form. -/
def formN (b : List Nat) : Nat := if b.length = 4096 then (if oneB b = true then 1 else if (pkL b).length ≤ 3072 then 2 else 3) else 0
/-- What is kept. -/
def keptL (b : List Nat) : List Nat := if b.length = 4096 then (if oneB b = true then putN 8 (ofN b) else if (pkL b).length ≤ 3072 then pkL b else b) else []
def savesN (b : List Nat) : Nat := if formN b = 0 then 0 else 4096 - (keptL b).length
/-- The error, and the page, of what is kept. -/
def backE (f : Int) (k : List Nat) : Nat := if f = 1 then (if k.length = 8 then 0 else 3) else if f = 2 then (if 3072 < k.length then 3 else (unpA k).e) else if f = 3 then (if k.length = 4096 then 0 else 3) else 1
def backQ (f : Int) (k : List Nat) : List Nat := if f = 1 then (if k.length = 8 then pageN (getTo k 0 8) else []) else if f = 2 then (if 3072 < k.length then [] else (unpA k).q) else if f = 3 then (if k.length = 4096 then k else []) else []
section
variable {b : List Nat}
theorem pkL_page (hl : b.length = 4096) : pkL b = catZ b (packL b) := by rw [pkL, if_pos hl]
theorem pkL_none (hl : b.length ≠ 4096) : pkL b = [] := by rw [pkL, if_neg hl]
theorem form_none (hl : b.length ≠ 4096) : formN b = 0 ∧ keptL b = [] ∧ savesN b = 0 := by
  have h1 : formN b = 0 := by rw [formN, if_neg hl]
  exact ⟨h1, by rw [keptL, if_neg hl], by rw [savesN, if_pos h1]⟩
theorem form_one (hl : b.length = 4096) (ho : oneB b = true) : formN b = 1 ∧ keptL b = putN 8 (ofN b) ∧ savesN b = 4088 := by
  have h1 : formN b = 1 := by rw [formN, if_pos hl, if_pos ho]
  have h2 : keptL b = putN 8 (ofN b) := by rw [keptL, if_pos hl, if_pos ho]
  exact ⟨h1, h2, by rw [savesN, h1, if_neg (by omega), h2, length_putN]⟩
theorem form_pack (hl : b.length = 4096) (ho : oneB b = false) (hp : (pkL b).length ≤ 3072) : formN b = 2 ∧ keptL b = pkL b ∧ savesN b = 4096 - (pkL b).length := by
  have h0 : ¬ oneB b = true := by rw [ho]; simp
  have h1 : formN b = 2 := by rw [formN, if_pos hl, if_neg h0, if_pos hp]
  have h2 : keptL b = pkL b := by rw [keptL, if_pos hl, if_neg h0, if_pos hp]
  exact ⟨h1, h2, by rw [savesN, h1, if_neg (by omega), h2]⟩
theorem form_raw (hl : b.length = 4096) (ho : oneB b = false) (hp : ¬ (pkL b).length ≤ 3072) : formN b = 3 ∧ keptL b = b ∧ savesN b = 0 := by
  have h0 : ¬ oneB b = true := by rw [ho]; simp
  have h1 : formN b = 3 := by rw [formN, if_pos hl, if_neg h0, if_neg hp]
  have h2 : keptL b = b := by rw [keptL, if_pos hl, if_neg h0, if_neg hp]
  exact ⟨h1, h2, by rw [savesN, h1, if_neg (by omega), h2, hl]⟩
theorem pkL_byte (h8 : ∀ x ∈ b, x < 256) : ∀ x ∈ pkL b, x < 256 := by
  unfold pkL
  split
  · rename_i hl
    exact tz_byte h8 (packL_spell hl).may
  · simp
theorem pkL_len (b : List Nat) : (pkL b).length ≤ 4128 := by
  unfold pkL
  split
  · rename_i hl
    exact pack_4128 hl
  · simp
theorem kept_byte (h8 : ∀ x ∈ b, x < 256) : ∀ x ∈ keptL b, x < 256 := by
  unfold keptL
  split
  · split
    · exact putN_byte _ _
    · split
      · exact pkL_byte h8
      · exact h8
  · simp
theorem kept_len (h8 : ∀ x ∈ b, x < 256) (hl : b.length = 4096) : 0 < (keptL b).length ∧ (keptL b).length ≤ 4096 := by
  cases ho : oneB b with
  | true => rw [(form_one hl ho).2.1, length_putN]; omega
  | false =>
    by_cases hp : (pkL b).length ≤ 3072
    · rw [(form_pack hl ho hp).2.1]
      have := pack_some hl h8
      rw [← pkL_page hl] at this
      omega
    · rw [(form_raw hl ho hp).2.1]; omega
theorem back_one {k : List Nat} (h : k.length = 8) : backE 1 k = 0 ∧ backQ 1 k = pageN (getTo k 0 8) := by simp [backE, backQ, h]
theorem back_one_no {k : List Nat} (h : k.length ≠ 8) : backE 1 k = 3 ∧ backQ 1 k = [] := by simp [backE, backQ, h]
theorem back_pack {k : List Nat} (h : k.length ≤ 3072) : backE 2 k = (unpA k).e ∧ backQ 2 k = (unpA k).q := by simp [backE, backQ]; omega
theorem back_pack_no {k : List Nat} (h : 3072 < k.length) : backE 2 k = 3 ∧ backQ 2 k = [] := by simp [backE, backQ, h]
theorem back_raw {k : List Nat} (h : k.length = 4096) : backE 3 k = 0 ∧ backQ 3 k = k := by simp [backE, backQ, h]
theorem back_raw_no {k : List Nat} (h : k.length ≠ 4096) : backE 3 k = 3 ∧ backQ 3 k = [] := by simp [backE, backQ, h]
theorem back_no {f : Int} {k : List Nat} (h1 : f ≠ 1) (h2 : f ≠ 2) (h3 : f ≠ 3) : backE f k = 1 ∧ backQ f k = [] := by simp [backE, backQ, h1, h2, h3]
theorem getTo_putN {n : Nat} (hn : n < 18446744073709551616) : getTo (putN 8 n) 0 8 = n := by
  have e : seg (putN 8 n) 0 8 = putN 8 n := by
    unfold seg
    rw [List.drop_zero]
    exact List.take_of_length_le (by rw [length_putN]; omega)
  show getL (seg (putN 8 n) 0 8) = n
  rw [e, getL_putN]
  exact Nat.mod_eq_of_lt hn
/-- What is made comes back. -/
theorem made_back (h8 : ∀ x ∈ b, x < 256) (hl : b.length = 4096) : backE (formN b : Nat) (keptL b) = 0 ∧ backQ (formN b : Nat) (keptL b) = b := by
  cases ho : oneB b with
  | true =>
    obtain ⟨h1, h2, _⟩ := form_one hl ho
    rw [h1, h2]
    obtain ⟨h3, h4⟩ := back_one (k := putN 8 (ofN b)) (length_putN _ _)
    refine ⟨h3, h4.trans ?_⟩
    rw [getTo_putN (ofN_lt h8)]
    exact page_back h8 ho
  | false =>
    by_cases hp : (pkL b).length ≤ 3072
    · obtain ⟨h1, h2, _⟩ := form_pack hl ho hp
      rw [h1, h2]
      obtain ⟨h3, h4⟩ := back_pack hp
      have h5 := pack_back hl h8
      rw [← pkL_page hl] at h5
      exact ⟨h3.trans (by rw [h5]), h4.trans (by rw [h5])⟩
    · obtain ⟨h1, h2, _⟩ := form_raw hl ho hp
      rw [h1, h2]
      exact back_raw hl
end
end Go.Proofs.Ytgninhecclinaaa
