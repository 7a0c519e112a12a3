/- Pieces of an object's bytes: plain facts. -/
import Derived.Test.YtepbfedmnibifaaGKit
namespace Go.Proofs.Ytepbfedmnibifaa
open Go.RowKit

/-- A piece: which frame, from where on, how many. -/
structure Pz where
  f : Nat
  a : Nat
  l : Nat
/-- How many bytes from s to e lie in the frame of the first. -/
def pzL (s e : Nat) : Nat := min (e - s) (4096 - s % 4096)
def pzAt (s e : Nat) : Pz := ⟨s / 4096, s % 4096, pzL s e⟩
/-- Where the frame of a byte ends. -/
def pzM (a : Nat) : Nat := (a / 4096 + 1) * 4096
/-- The pieces of the bytes from a to e: two at most. -/
def pcsZ (a e : Nat) : List Pz := if e ≤ a then [] else if e ≤ pzM a then [⟨a / 4096, a % 4096, e - a⟩] else [⟨a / 4096, a % 4096, pzM a - a⟩, ⟨a / 4096 + 1, 0, e - pzM a⟩]
theorem pcs_none {a e : Nat} (h : e ≤ a) : pcsZ a e = [] := if_pos h
theorem pcs_one {a e : Nat} (h : a < e) (h1 : e ≤ pzM a) : pcsZ a e = [⟨a / 4096, a % 4096, e - a⟩] := by rw [pcsZ, if_neg (by omega), if_pos h1]
theorem pcs_two {a e : Nat} (h1 : pzM a < e) : pcsZ a e = [⟨a / 4096, a % 4096, pzM a - a⟩, ⟨a / 4096 + 1, 0, e - pzM a⟩] := by
  have : a < pzM a := by unfold pzM; omega
  rw [pcsZ, if_neg (by omega), if_neg (by omega)]
theorem pcs_len (a e : Nat) : (pcsZ a e).length ≤ 2 := by
  unfold pcsZ
  split
  · simp
  · split <;> simp
theorem pzL_pos {s e : Nat} (h : s < e) : 0 < pzL s e ∧ s + pzL s e ≤ e ∧ pzL s e ≤ 4096 ∧ (s + pzL s e = e ∨ (s + pzL s e) % 4096 = 0) ∧ s % 4096 + pzL s e ≤ 4096 := by unfold pzL; omega
theorem pcs_told {a s e : Nat} (h : e ≤ a + 4096) (h1 : a ≤ s) (h2 : s < e) (h3 : s = a ∨ s % 4096 = 0) : pcsZ a (s + pzL s e) = pcsZ a s ++ [pzAt s e] := by
  have hm : pzM a = (a / 4096 + 1) * 4096 := rfl
  have hl := pzL_pos h2
  by_cases hs : s = a
  · subst hs
    have h5 : pzL s e = min (e - s) (4096 - s % 4096) := rfl
    rw [pcs_none (Nat.le_refl _), pcs_one (by omega) (by omega), Nat.add_sub_cancel_left]
    rfl
  · have h4 : s = pzM a := by omega
    have h5 : pzL s e = min (e - s) (4096 - s % 4096) := rfl
    have h6 : s / 4096 = a / 4096 + 1 := by omega
    have h7 : s % 4096 = 0 := by omega
    rw [pcs_two (a := a) (e := s + pzL s e) (by omega), pcs_one (a := a) (e := s) (by omega) (by omega), pzAt, h6, h7, show s + pzL s e - pzM a = pzL s e by omega, ← h4]
    rfl
/-- One byte more: in a frame of which no byte is there yet, or in the last piece's. -/
theorem pcs_new {a t : Nat} (h2 : t < a + 4096) (h : t = a ∨ t = pzM a) : pcsZ a (t + 1) = pcsZ a t ++ [⟨t / 4096, t % 4096, 1⟩] := by
  have hm : pzM a = (a / 4096 + 1) * 4096 := rfl
  rcases h with rfl | h
  · rw [pcs_none (Nat.le_refl _), pcs_one (by omega) (by omega), Nat.add_sub_cancel_left]
    rfl
  · have h6 : t / 4096 = a / 4096 + 1 := by omega
    have h7 : t % 4096 = 0 := by omega
    rw [pcs_two (a := a) (e := t + 1) (by omega), pcs_one (a := a) (e := t) (by omega) (by omega), h6, h7, show t + 1 - pzM a = 1 by omega, ← h]
    rfl
theorem pcs_more {a t : Nat} (h1 : a < t) (h2 : t < a + 4096) (h : t ≠ pzM a) : ∃ (pre : List Pz) (x l : Nat), pcsZ a t = pre ++ [⟨t / 4096, x, l⟩] ∧ pcsZ a (t + 1) = pre ++ [⟨t / 4096, x, l + 1⟩] := by
  have hm : pzM a = (a / 4096 + 1) * 4096 := rfl
  by_cases h3 : t < pzM a
  · have h6 : t / 4096 = a / 4096 := by omega
    refine ⟨[], a % 4096, t - a, ?_, ?_⟩
    · rw [pcs_one h1 (by omega), h6]
      rfl
    · rw [pcs_one (by omega) (by omega), h6, show t + 1 - a = t - a + 1 by omega]
      rfl
  · have h6 : t / 4096 = a / 4096 + 1 := by omega
    refine ⟨[⟨a / 4096, a % 4096, pzM a - a⟩], 0, t - pzM a, ?_, ?_⟩
    · rw [pcs_two (by omega), h6]
      rfl
    · rw [pcs_two (by omega), h6, show t + 1 - pzM a = t - pzM a + 1 by omega]
      rfl
/-- Where a new frame begins the last piece lies in another one. -/
theorem pcs_turn {a t : Nat} (h1 : a < t) (h : t = pzM a) : pcsZ a t = [⟨a / 4096, a % 4096, t - a⟩] ∧ a / 4096 ≠ t / 4096 := by
  have hm : pzM a = (a / 4096 + 1) * 4096 := rfl
  exact ⟨pcs_one h1 (by omega), by omega⟩
/-- All pieces lie in their frames. -/
theorem pcs_in {a e : Nat} (he : e ≤ a + 4096) : ∀ p ∈ pcsZ a e, p.a + p.l ≤ 4096 ∧ p.f * 4096 + p.a + p.l ≤ e ∧ a ≤ p.f * 4096 + p.a := by
  intro p hp
  have hm : pzM a = (a / 4096 + 1) * 4096 := rfl
  unfold pcsZ at hp
  split at hp
  · simp at hp
  · split at hp
    · obtain rfl : p = _ := by simpa using hp
      refine ⟨?_, ?_, ?_⟩ <;> simp only <;> omega
    · rcases (by simpa using hp : p = _ ∨ p = _) with rfl | rfl <;> refine ⟨?_, ?_, ?_⟩ <;> simp only <;> omega

def pzC (p : Pz) : List Value := [.int .i64 (p.f : Nat), .int .i64 (p.a : Nat), .int .i64 (p.l : Nat)]
def rowZ (T : List Pz) : List Value := T.flatMap pzC
theorem rowZ_len : ∀ T : List Pz, (rowZ T).length = T.length * 3
  | [] => rfl
  | x :: T => by
    have := rowZ_len T
    unfold rowZ at this ⊢
    rw [List.flatMap_cons, List.length_append, this]
    simp [pzC]
    omega
theorem rowZ_snoc (T : List Pz) (x : Pz) : rowZ (T ++ [x]) = rowZ T ++ pzC x := by simp [rowZ]
theorem rowZ_at : ∀ (T : List Pz) (i j : Nat), i < T.length → j < 3 → (rowZ T)[i * 3 + j]? = (pzC (T.getD i ⟨0, 0, 0⟩))[j]?
  | [], i, j, h, hj => by simp at h
  | x :: T, 0, j, h, hj => by
    show (pzC x ++ rowZ T)[0 * 3 + j]? = _
    rw [List.getElem?_append_left (by simp [pzC]; omega)]
    simp
  | x :: T, i + 1, j, h, hj => by
    show (pzC x ++ rowZ T)[(i + 1) * 3 + j]? = _
    have e : (pzC x).length = 3 := rfl
    rw [List.getElem?_append_right (by omega), e, show (i + 1) * 3 + j - 3 = i * 3 + j by omega, rowZ_at T i j (by simpa using h) hj]
    simp
theorem pzC_one (x : Pz) : ∀ u ∈ pzC x, u.oneCell' = true := by
  intro u hu
  simp only [pzC, List.mem_cons, List.not_mem_nil, or_false] at hu
  rcases hu with rfl | rfl | rfl <;> rfl

/-- May an object be, and its bytes? -/
def ObjZ (S N : Int) : Prop := 64 ≤ S ∧ S ≤ 4096 ∧ S % 64 = 0 ∧ 0 ≤ N ∧ N ≤ 255
def MayZ (S N F M : Int) : Prop := ObjZ S N ∧ 0 ≤ F ∧ 0 ≤ M ∧ F + M ≤ S
/-- From where to where its bytes are told; nowhere, if they may not be. -/
def Zae (S N F M : Int) (a e : Nat) : Prop := (MayZ S N F M ∧ (a : Int) = N * S + F ∧ (e : Int) = N * S + F + M) ∨ (¬ MayZ S N F M ∧ a = 0 ∧ e = 0)
theorem Zae.is (S N F M : Int) : ∃ a e, Zae S N F M a e := by
  by_cases h : MayZ S N F M
  · have hp : 0 ≤ N * S := Int.mul_nonneg h.1.2.2.2.1 (by have := h.1.1; omega)
    obtain ⟨h1, h2, h3, h4⟩ := h
    exact ⟨(N * S + F).toNat, (N * S + F + M).toNat, .inl ⟨⟨h1, h2, h3, h4⟩, by omega, by omega⟩⟩
  · exact ⟨0, 0, .inr ⟨h, rfl, rfl⟩⟩
theorem Zae.le {S N F M : Int} {a e : Nat} (h : Zae S N F M a e) : a ≤ e ∧ e ≤ a + 4096 ∧ e ≤ 1048576 := by
  rcases h with ⟨⟨⟨h1, h2, h3, h4, h5⟩, h6, h7, h8⟩, h9, h10⟩ | ⟨_, rfl, rfl⟩
  · have hp : N * S ≤ 255 * 4096 := Int.mul_le_mul h5 h2 (by omega) (by omega)
    omega
  · omega
end Go.Proofs.Ytepbfedmnibifaa
