/- Plain facts on tokens: whether one may be, its size, its bytes, what is taken at a place, what bytes grow to: no program in them. -/
import Derived.Test.YtgninhecclinaaaGBytes
namespace Go.Proofs.Ytgninhecclinaaa

/-- May bytes so many, with a Len and a Dist, be a token? -/
def mayT (l : Nat) (n d : Int) : Bool := if 0 < l then decide (l ≤ 128 ∧ n = 0 ∧ d = 0) else decide (3 ≤ n ∧ n ≤ 130 ∧ 1 ≤ d ∧ d ≤ 4095)
theorem may_lit {l : Nat} {n d : Int} (h : 0 < l) : mayT l n d = decide (l ≤ 128 ∧ n = 0 ∧ d = 0) := if_pos h
theorem may_copy {n d : Int} : mayT 0 n d = decide (3 ≤ n ∧ n ≤ 130 ∧ 1 ≤ d ∧ d ≤ 4095) := rfl
theorem may_ways {l : Nat} {n d : Int} (h : mayT l n d = true) : (0 < l ∧ l ≤ 128 ∧ n = 0 ∧ d = 0) ∨ (l = 0 ∧ ∃ N D : Nat, n = N ∧ d = D ∧ 3 ≤ N ∧ N ≤ 130 ∧ 1 ≤ D ∧ D ≤ 4095) := by
  by_cases h0 : 0 < l
  · rw [may_lit h0] at h
    have := of_decide_eq_true h
    omega
  · obtain rfl : l = 0 := by omega
    rw [may_copy] at h
    have := of_decide_eq_true h
    exact .inr ⟨rfl, n.toNat, d.toNat, by omega, by omega, by omega, by omega, by omega, by omega⟩
/-- How many bytes it stands for. -/
def sizeT (l : Nat) (n d : Int) : Nat := if mayT l n d then l + n.toNat else 0
theorem sizeT_yes {l : Nat} {n d : Int} (h : mayT l n d = true) : sizeT l n d = l + n.toNat := by simp [sizeT, h]
theorem sizeT_no {l : Nat} {n d : Int} (h : mayT l n d = false) : sizeT l n d = 0 := by simp [sizeT, h]
/-- A token's bytes. -/
def tokB (b : List Nat) (n d : Int) : List Nat := if 0 < b.length then (b.length - 1) :: b else [125 + n.toNat, d.toNat % 256, d.toNat / 256]
theorem tok_lit {b : List Nat} {n d : Int} (h : 0 < b.length) : tokB b n d = (b.length - 1) :: b := if_pos h
theorem tok_copy (n d : Nat) : tokB [] (n : Int) (d : Int) = [125 + n, d % 256, d / 256] := by simp [tokB]
theorem tok_len {b : List Nat} {n d : Int} (h : mayT b.length n d = true) : (tokB b n d).length ≤ 129 := by
  rcases may_ways h with ⟨h0, h1, _⟩ | ⟨h0, _⟩
  · rw [tok_lit h0]; simp; omega
  · have e : b = [] := List.eq_nil_of_length_eq_zero h0
    subst e
    simp [tokB]
theorem tok_byte {b : List Nat} {n d : Int} (h8 : ∀ x ∈ b, x < 256) (h : mayT b.length n d = true) : ∀ x ∈ tokB b n d, x < 256 := by
  intro x hx
  rcases may_ways h with ⟨h0, h1, _⟩ | ⟨h0, N, D, rfl, rfl, h1⟩
  · rw [tok_lit h0] at hx
    rcases List.mem_cons.1 hx with rfl | hx
    · omega
    · exact h8 x hx
  · have e : b = [] := List.eq_nil_of_length_eq_zero h0
    subst e
    rw [tok_copy] at hx
    simp at hx
    omega

/-- What is told of a place: the error, the token's bytes, Len and Dist, and where it ends. -/
structure An where
  e : Nat
  b : List Nat
  n : Nat
  d : Nat
  z : Nat
def noA (e : Nat) : An := ⟨e, [], 0, 0, 0⟩
def takeN (b : List Nat) (a : Nat) : An :=
  if b.getD a 0 < 128 then
    if a + b.getD a 0 + 2 ≤ b.length then ⟨0, seg b (a + 1) (b.getD a 0 + 1), 0, 0, a + b.getD a 0 + 2⟩ else noA 4
  else if a + 3 ≤ b.length then
    if 1 ≤ getTo b (a + 1) 2 ∧ getTo b (a + 1) 2 ≤ 4095 then ⟨0, [], b.getD a 0 - 125, getTo b (a + 1) 2, a + 3⟩ else noA 3
  else noA 4
def takeA (b : List Nat) (a : Int) : An := if 0 ≤ a ∧ a < b.length then takeN b a.toNat else noA 4
section
variable {b : List Nat} {a x : Nat}
theorem take_out {i : Int} (h : ¬ (0 ≤ i ∧ i < b.length)) : takeA b i = noA 4 := if_neg h
theorem take_in (h : a < b.length) : takeA b (a : Int) = takeN b a := by
  unfold takeA
  rw [if_pos (by omega), Int.toNat_natCast]
theorem take_lit (hx : b.getD a 0 = x) (h1 : x < 128) (h2 : a + x + 2 ≤ b.length) : takeA b (a : Int) = ⟨0, seg b (a + 1) (x + 1), 0, 0, a + x + 2⟩ := by
  subst hx
  rw [take_in (by omega), takeN, if_pos h1, if_pos h2]
theorem take_short (h : a < b.length) (hx : b.getD a 0 = x) (h1 : x < 128) (h2 : ¬ a + x + 2 ≤ b.length) : takeA b (a : Int) = noA 4 := by
  subst hx
  rw [take_in h, takeN, if_pos h1, if_neg h2]
theorem take_cut (h : a < b.length) (hx : b.getD a 0 = x) (h1 : ¬ x < 128) (h2 : ¬ a + 3 ≤ b.length) : takeA b (a : Int) = noA 4 := by
  subst hx
  rw [take_in h, takeN, if_neg h1, if_neg h2]
theorem take_form (hx : b.getD a 0 = x) (h1 : ¬ x < 128) (h2 : a + 3 ≤ b.length) (h3 : ¬ (1 ≤ getTo b (a + 1) 2 ∧ getTo b (a + 1) 2 ≤ 4095)) : takeA b (a : Int) = noA 3 := by
  subst hx
  rw [take_in (by omega), takeN, if_neg h1, if_pos h2, if_neg h3]
theorem take_copy (hx : b.getD a 0 = x) (h1 : ¬ x < 128) (h2 : a + 3 ≤ b.length) (h3 : 1 ≤ getTo b (a + 1) 2 ∧ getTo b (a + 1) 2 ≤ 4095) : takeA b (a : Int) = ⟨0, [], x - 125, getTo b (a + 1) 2, a + 3⟩ := by
  subst hx
  rw [take_in (by omega), takeN, if_neg h1, if_pos h2, if_pos h3]
theorem getTo_two (h : a + 1 < b.length) : getTo b a 2 = b.getD a 0 + 256 * b.getD (a + 1) 0 := by
  have h1 : a < b.length := by omega
  rw [getTo_succ (k := 1) h, getTo_succ (k := 0) (by omega)]
  simp [getTo, getL, List.getD, h, h1]
theorem seg_mid (p s q : List Nat) : seg (p ++ s ++ q) p.length s.length = s := by
  unfold seg
  rw [List.append_assoc, List.drop_left, List.take_left]
theorem getD_mid (p : List Nat) (y : Nat) (q : List Nat) : (p ++ y :: q).getD p.length 0 = y := by simp [List.getD]
/-- What is put is taken. -/
theorem take_put (p q : List Nat) {c : List Nat} {n d : Int} (hm : mayT c.length n d = true) :
    takeA (p ++ tokB c n d ++ q) (p.length : Int) = ⟨0, c, n.toNat, d.toNat, p.length + (tokB c n d).length⟩ := by
  rcases may_ways hm with ⟨h0, h1, rfl, rfl⟩ | ⟨h0, N, D, rfl, rfl, h1, h2, h3, h4⟩
  · rw [tok_lit h0]
    have e : p ++ (c.length - 1) :: c ++ q = p ++ (c.length - 1) :: (c ++ q) := by simp
    have hl : (p ++ (c.length - 1) :: (c ++ q)).length = p.length + (c.length + q.length + 1) := by simp
    rw [e, take_lit (x := c.length - 1) (getD_mid _ _ _) (by omega) (by rw [hl]; omega)]
    have e2 : p ++ (c.length - 1) :: (c ++ q) = (p ++ [c.length - 1]) ++ c ++ q := by simp
    have e3 : seg (p ++ (c.length - 1) :: (c ++ q)) (p.length + 1) (c.length - 1 + 1) = c := by
      rw [e2, Nat.sub_add_cancel h0]
      have := seg_mid (p ++ [c.length - 1]) c q
      simpa using this
    rw [e3]
    simp only [An.mk.injEq, List.length_cons, true_and, Int.toNat_zero]
    omega
  · obtain rfl : c = [] := List.eq_nil_of_length_eq_zero h0
    rw [tok_copy]
    have e : p ++ [125 + N, D % 256, D / 256] ++ q = p ++ (125 + N) :: (D % 256 :: D / 256 :: q) := by simp
    have hl : (p ++ (125 + N) :: (D % 256 :: D / 256 :: q)).length = p.length + (q.length + 3) := by simp
    have g : getTo (p ++ (125 + N) :: (D % 256 :: D / 256 :: q)) (p.length + 1) 2 = D := by
      rw [getTo_two (by rw [hl]; omega)]
      have e1 : (p ++ (125 + N) :: (D % 256 :: D / 256 :: q)).getD (p.length + 1) 0 = D % 256 := by
        have := getD_mid (p ++ [125 + N]) (D % 256) (D / 256 :: q)
        rw [show (p ++ [125 + N]).length = p.length + 1 by simp, List.append_assoc] at this
        exact this
      have e2 : (p ++ (125 + N) :: (D % 256 :: D / 256 :: q)).getD (p.length + 1 + 1) 0 = D / 256 := by
        have := getD_mid (p ++ [125 + N, D % 256]) (D / 256) q
        rw [show (p ++ [125 + N, D % 256]).length = p.length + 1 + 1 by simp, List.append_assoc] at this
        exact this
      rw [e1, e2]
      omega
    rw [e, take_copy (x := 125 + N) (getD_mid _ _ _) (by omega) (by rw [hl]; omega) (by rw [g]; omega), g]
    simp
end

/-- s with k bytes behind it, each of which stands d ahead. -/
def reach (s : List Nat) (d : Nat) : Nat → List Nat
  | 0 => s
  | k + 1 => reach s d k ++ [(reach s d k).getD (s.length + k - d) 0]
theorem reach_len (s : List Nat) (d : Nat) : ∀ k, (reach s d k).length = s.length + k
  | 0 => rfl
  | k + 1 => by rw [reach, List.length_append, reach_len s d k]; rfl
theorem reach_byte {s : List Nat} (d : Nat) (h : ∀ x ∈ s, x < 256) : ∀ k, ∀ x ∈ reach s d k, x < 256
  | 0 => h
  | k + 1 => fun x hx => by
    rcases List.mem_append.1 hx with h1 | h1
    · exact reach_byte d h k x h1
    · rw [List.mem_singleton.1 h1]
      exact getD_byte (reach_byte d h k) _
theorem reach_take (s : List Nat) (d : Nat) : ∀ k, (reach s d k).take s.length = s
  | 0 => by rw [reach, List.take_length]
  | k + 1 => by rw [reach, List.take_append_of_le_length (by rw [reach_len]; omega), reach_take s d k]
theorem reach_at {s : List Nat} {d : Nat} (h1 : 1 ≤ d) (h2 : d ≤ s.length) : ∀ k i, s.length ≤ i → i < s.length + k → (reach s d k).getD i 0 = (reach s d k).getD (i - d) 0
  | 0, i, ha, hb => by omega
  | k + 1, i, ha, hb => by
    have hl := reach_len s d k
    have old : ∀ j, j < s.length + k → (reach s d (k + 1)).getD j 0 = (reach s d k).getD j 0 := by
      intro j hj
      rw [reach, List.getD_eq_getElem?_getD, List.getElem?_append_left (by omega), ← List.getD_eq_getElem?_getD]
    by_cases e : i = s.length + k
    · subst e
      rw [old (s.length + k - d) (by omega)]
      rw [reach, List.getD_eq_getElem?_getD, List.getElem?_append_right (by omega), hl]
      simp
    · rw [old i (by omega), old (i - d) (by omega)]
      exact reach_at h1 h2 k i ha (by omega)
/-- What bytes grow to by a token that may be, if it reaches no farther than they do. -/
def growB (s b : List Nat) (n d : Int) : List Nat := reach (s ++ b) d.toNat n.toNat
def growE (s b : List Nat) (n d : Int) : Nat := if mayT b.length n d then (if d ≤ s.length then 0 else 3) else 1
def growA (s b : List Nat) (n d : Int) : List Nat := if growE s b n d = 0 then growB s b n d else []
section
variable {s b : List Nat} {n d : Int}
theorem grow_arg (h : mayT b.length n d = false) : growE s b n d = 1 ∧ growA s b n d = [] := by simp [growA, growE, h]
theorem grow_form (h : mayT b.length n d = true) (h2 : ¬ d ≤ s.length) : growE s b n d = 3 ∧ growA s b n d = [] := by simp [growA, growE, h, h2]
theorem grow_fine (h : mayT b.length n d = true) (h2 : d ≤ s.length) : growE s b n d = 0 ∧ growA s b n d = growB s b n d := by simp [growA, growE, h, h2]
theorem grow_ok (h : growE s b n d = 0) : mayT b.length n d = true ∧ d ≤ s.length ∧ growA s b n d = growB s b n d := by
  have h3 : growA s b n d = growB s b n d := by rw [growA, if_pos h]
  unfold growE at h
  split at h
  · rename_i h1
    split at h
    · rename_i h2; exact ⟨h1, h2, h3⟩
    · omega
  · omega
theorem grow_len (h : growE s b n d = 0) : (growA s b n d).length = s.length + sizeT b.length n d := by
  obtain ⟨h1, _, h3⟩ := grow_ok h
  rw [h3, growB, reach_len, sizeT_yes h1, List.length_append]
  omega
theorem grow_take (h : growE s b n d = 0) : (growA s b n d).take s.length = s := by
  obtain ⟨_, _, h3⟩ := grow_ok h
  have e := reach_take (s ++ b) d.toNat n.toNat
  rw [h3, growB]
  have := congrArg (List.take s.length) e
  rw [List.take_take, List.length_append, Nat.min_eq_left (by omega)] at this
  rw [this, List.take_left]
theorem grow_at (h : growE s b n d = 0) (hd : 0 < d) {i : Nat} (ha : s.length ≤ i) (hb : i < (growA s b n d).length) : d.toNat ≤ i ∧ (growA s b n d).getD i 0 = (growA s b n d).getD (i - d.toNat) 0 := by
  obtain ⟨h1, h2, h3⟩ := grow_ok h
  refine ⟨by omega, ?_⟩
  rcases may_ways h1 with ⟨_, _, _, h4⟩ | ⟨h4, _⟩
  · omega
  · have e : b = [] := List.eq_nil_of_length_eq_zero h4
    subst e
    rw [h3, growB] at hb ⊢
    rw [reach_len] at hb
    rw [List.append_nil] at hb ⊢
    exact reach_at (by omega) (by omega) _ _ ha hb
theorem grow_byte (hs : ∀ x ∈ s, x < 256) (hb : ∀ x ∈ b, x < 256) : ∀ x ∈ growA s b n d, x < 256 := by
  intro x hx
  unfold growA at hx
  split at hx
  · refine reach_byte _ (fun y hy => ?_) _ x hx
    rcases List.mem_append.1 hy with h | h
    · exact hs y h
    · exact hb y h
  · simp at hx
end
end Go.Proofs.Ytgninhecclinaaa
