/- Pages unpacked, as plain facts: token by token. -/
import Derived.Test.YtgninhecclinaaaKPlain
namespace Go.Proofs.Ytgninhecclinaaa

theorem size_le (l : Nat) (n d : Nat) : sizeT l (n : Int) (d : Int) ≤ 130 := by
  unfold sizeT
  split
  · rename_i h
    rcases may_ways h with ⟨h0, h1, h2, _⟩ | ⟨h0, N, D, h1, _, _, h4, _⟩
    · omega
    · omega
  · omega
/-- A token that is told may be, and ends within. -/
theorem take_ok {b : List Nat} {a : Nat} {A : An} (h8 : ∀ x ∈ b, x < 256) (h : takeA b (a : Int) = A) (he : A.e = 0) : mayT A.b.length (A.n : Int) (A.d : Int) = true ∧ a < A.z ∧ A.z ≤ b.length := by
  subst h
  by_cases h0 : a < b.length
  · rw [take_in h0] at he ⊢
    unfold takeN at he ⊢
    split at he
    · split at he
      · rename_i h1 h2
        rw [if_pos h1, if_pos h2]
        have hl : (seg b (a + 1) (b.getD a 0 + 1)).length = b.getD a 0 + 1 := length_seg (by omega)
        refine ⟨?_, by show a < a + b.getD a 0 + 2; omega, h2⟩
        show mayT (seg b (a + 1) (b.getD a 0 + 1)).length 0 0 = true
        rw [hl, may_lit (by omega)]
        exact decide_eq_true ⟨by omega, rfl, rfl⟩
      · simp [noA] at he
    · split at he
      · split at he
        · rename_i h1 h2 h3
          rw [if_neg h1, if_pos h2, if_pos h3]
          refine ⟨?_, by show a < a + 3; omega, h2⟩
          show mayT ([] : List Nat).length ((b.getD a 0 - 125 : Nat) : Int) (getTo b (a + 1) 2 : Nat) = true
          rw [List.length_nil, may_copy]
          have := getD_byte h8 a
          exact decide_eq_true (by omega)
        · simp [noA] at he
      · simp [noA] at he
  · rw [take_out (by omega)] at he
    simp [noA] at he


theorem grow_size {q ab : List Nat} {n d : Nat} (h : mayT ab.length (n : Int) (d : Int) = true) : (growB q ab (n : Int) (d : Int)).length = q.length + sizeT ab.length (n : Int) (d : Int) := by
  rw [growB, reach_len, List.length_append, sizeT_yes h]
  omega
theorem size_pos {l n d : Nat} (h : mayT l (n : Int) (d : Int) = true) : 0 < sizeT l (n : Int) (d : Int) := by
  rw [sizeT_yes h]
  rcases may_ways h with ⟨h5, _⟩ | ⟨_, N, D, h6, h7, h8, _⟩ <;> omega
theorem reach_front (x s : List Nat) {d : Nat} (hd : d ≤ s.length) : ∀ k, reach (x ++ s) d k = x ++ reach s d k
  | 0 => rfl
  | k + 1 => by
    rw [reach, reach, reach_front x s hd k, List.append_assoc]
    congr 3
    rw [List.length_append, List.getD_eq_getElem?_getD, List.getElem?_append_right (by omega), ← List.getD_eq_getElem?_getD]
    congr 1
    omega
/-- Bytes behind the last d grow as all do. -/
theorem grow_cut {q ab : List Nat} {n d f : Nat} (h : mayT ab.length (n : Int) (d : Int) = true) (hd : d ≤ q.length) (hf : f = q.length - d) :
    growE (q.drop f) ab (n : Int) (d : Int) = 0 ∧ q.take f ++ growA (q.drop f) ab (n : Int) (d : Int) = growB q ab (n : Int) (d : Int) := by
  have hl : (q.drop f).length = d := by rw [List.length_drop]; omega
  obtain ⟨e1, e2⟩ := grow_fine (s := q.drop f) (b := ab) h (by rw [hl]; omega)
  refine ⟨e1, ?_⟩
  rw [e2, growB, growB, Int.toNat_natCast, Int.toNat_natCast, ← reach_front _ _ (by rw [List.length_append, hl]; omega), ← List.append_assoc, List.take_append_drop]
theorem grow_bytes {q ab : List Nat} {n d : Int} (hq : ∀ x ∈ q, x < 256) (hb : ∀ x ∈ ab, x < 256) : ∀ x ∈ growB q ab n d, x < 256 := by
  refine reach_byte _ (fun y hy => ?_) _
  rcases List.mem_append.1 hy with h | h
  · exact hq y h
  · exact hb y h
theorem take_byte {b : List Nat} {a : Nat} {A : An} (h8 : ∀ x ∈ b, x < 256) (h : takeA b (a : Int) = A) : ∀ x ∈ A.b, x < 256 := by
  subst h
  unfold takeA takeN
  split
  · split
    · split
      · exact seg_byte h8
      · simp [noA]
    · split
      · split
        · simp
        · simp [noA]
      · simp [noA]
  · simp [noA]

/-- A page, how many tokens it took, or the error. -/
structure Un where
  e : Nat
  q : List Nat
  n : Nat
def noU (e : Nat) : Un := ⟨e, [], 0⟩
def endU (b : List Nat) (a : Nat) (q : List Nat) (n : Nat) : Un := if 4096 < q.length then noU 5 else if a < b.length then noU 3 else ⟨0, q, n⟩
/-- From place a on, where n tokens came to q. -/
def unpF (b : List Nat) : Nat → Nat → List Nat → Nat → Un
  | 0, a, q, n => endU b a q n
  | f + 1, a, q, n =>
    if q.length < 4096 then
      if (takeA b a).e = 0 then
        if (takeA b a).d ≤ q.length then unpF b f (takeA b a).z (growB q (takeA b a).b ((takeA b a).n : Nat) ((takeA b a).d : Nat)) (n + 1) else noU 3
      else noU (takeA b a).e
    else endU b a q n
def unpA (b : List Nat) : Un := unpF b 4096 0 [] 0
theorem unp_end {b q : List Nat} {f a n : Nat} (h : 4096 ≤ q.length) : unpF b f a q n = endU b a q n := by
  cases f with
  | zero => rfl
  | succ f => rw [unpF, if_neg (by omega)]

/-- n tokens of b came to q, up to place a. -/
structure Und (b : List Nat) (a : Nat) (q : List Nat) (n : Nat) : Prop where
  run : ∃ f, unpF b f a q n = unpA b ∧ 4096 ≤ f + q.length
  le : a ≤ b.length
  byte : ∀ x ∈ q, x < 256
  short : q.length ≤ 4225
  many : n ≤ q.length
theorem Und.start (b : List Nat) : Und b 0 [] 0 := ⟨⟨4096, rfl, by simp⟩, Nat.zero_le _, by simp, by simp, by simp⟩
section
variable {b q : List Nat} {a n : Nat} {A : An}
theorem Und.step (h : Und b a q n) (h8 : ∀ x ∈ b, x < 256) (hq : q.length < 4096) (hA : takeA b (a : Int) = A) (he : A.e = 0) (hd : A.d ≤ q.length) : Und b A.z (growB q A.b (A.n : Nat) (A.d : Nat)) (n + 1) := by
  obtain ⟨o1, o2, o3⟩ := take_ok h8 hA he
  have hs := grow_size (q := q) o1
  have hp := size_pos o1
  have hl := size_le A.b.length A.n A.d
  obtain ⟨f, h1, h2⟩ := h.run
  have hf : ∃ g, f = g + 1 := ⟨f - 1, by omega⟩
  obtain ⟨g, rfl⟩ := hf
  rw [unpF, hA, if_pos hq, if_pos he, if_pos hd] at h1
  exact ⟨⟨g, h1, by omega⟩, o3, grow_bytes h.byte (take_byte h8 hA), by omega, by have := h.many; omega⟩
theorem Und.err (h : Und b a q n) (hq : q.length < 4096) (hA : takeA b (a : Int) = A) (he : A.e ≠ 0) : unpA b = noU A.e := by
  obtain ⟨f, h1, h2⟩ := h.run
  obtain ⟨g, rfl⟩ : ∃ g, f = g + 1 := ⟨f - 1, by omega⟩
  rw [unpF, hA, if_pos hq, if_neg he] at h1
  exact h1.symm
theorem Und.form (h : Und b a q n) (hq : q.length < 4096) (hA : takeA b (a : Int) = A) (he : A.e = 0) (hd : ¬ A.d ≤ q.length) : unpA b = noU 3 := by
  obtain ⟨f, h1, h2⟩ := h.run
  obtain ⟨g, rfl⟩ : ∃ g, f = g + 1 := ⟨f - 1, by omega⟩
  rw [unpF, hA, if_pos hq, if_pos he, if_neg hd] at h1
  exact h1.symm
theorem Und.over (h : Und b a q n) (hq : 4096 ≤ q.length) : unpA b = endU b a q n := by
  obtain ⟨f, h1, h2⟩ := h.run
  rw [unp_end hq] at h1
  exact h1.symm
end
theorem unp_err {b q : List Nat} {f a n : Nat} : (unpF b f a q n).e ≠ 0 → (unpF b f a q n).q = [] ∧ (unpF b f a q n).n = 0 := by
  induction f generalizing a q n with
  | zero =>
    unfold unpF endU
    split
    · simp [noU]
    · split <;> simp [noU]
  | succ f ih =>
    rw [unpF]
    split
    · split
      · split
        · exact ih
        · simp [noU]
      · simp [noU]
    · unfold endU
      split
      · simp [noU]
      · split <;> simp [noU]
end Go.Proofs.Ytgninhecclinaaa
