/- Matches of bytes as plain facts: how many bytes are the same, the longest of the nearest candidates, and places kept by what stands there. -/
import Derived.Test.YtgninhecclinaaaGKit
namespace Go.Proofs.Ytgninhecclinaaa

/-- How many leading numbers are the same. -/
def pre : List Nat → List Nat → Nat
  | x :: xs, y :: ys => if x = y then pre xs ys + 1 else 0
  | _, _ => 0
theorem pre_le : ∀ xs ys : List Nat, pre xs ys ≤ xs.length ∧ pre xs ys ≤ ys.length
  | [], ys => by simp [pre]
  | x :: xs, [] => by simp [pre]
  | x :: xs, y :: ys => by
    have := pre_le xs ys
    unfold pre
    split <;> simp <;> omega
theorem pre_at : ∀ (xs ys : List Nat) (j : Nat), j < pre xs ys → xs.getD j 0 = ys.getD j 0
  | [], ys, j, h => by simp [pre] at h
  | x :: xs, [], j, h => by simp [pre] at h
  | x :: xs, y :: ys, j, h => by
    unfold pre at h
    by_cases e : x = y
    · rw [if_pos e] at h
      cases j with
      | zero => simpa using e
      | succ j => simpa using pre_at xs ys j (by omega)
    · rw [if_neg e] at h; omega
theorem pre_end : ∀ (xs ys : List Nat), pre xs ys < xs.length → pre xs ys < ys.length → xs.getD (pre xs ys) 0 ≠ ys.getD (pre xs ys) 0
  | [], ys, h, _ => by simp at h
  | x :: xs, [], _, h => by simp at h
  | x :: xs, y :: ys, h, h' => by
    by_cases e : x = y
    · have e2 : pre (x :: xs) (y :: ys) = pre xs ys + 1 := by rw [pre, if_pos e]
      rw [e2] at h h' ⊢
      simp at h h'
      simpa using pre_end xs ys h h'
    · have e2 : pre (x :: xs) (y :: ys) = 0 := by rw [pre, if_neg e]
      rw [e2]
      simpa using e
theorem drop_getD (b : List Nat) (a j : Nat) : (b.drop a).getD j 0 = b.getD (a + j) 0 := by simp [List.getD, List.getElem?_drop]

/-- How many bytes are the same from a and from f on, at most 130. -/
def wN (b : List Nat) (a f : Nat) : Nat := min 130 (pre (b.drop a) (b.drop f))
theorem wN_le (b : List Nat) (a f : Nat) : wN b a f ≤ 130 := Nat.min_le_left _ _
theorem wN_len {b : List Nat} {a f : Nat} (ha : a ≤ b.length) : a + wN b a f ≤ b.length := by
  have h1 := (pre_le (b.drop a) (b.drop f)).1
  have h2 : wN b a f ≤ pre (b.drop a) (b.drop f) := Nat.min_le_right _ _
  rw [List.length_drop] at h1
  omega
theorem wN_at {b : List Nat} {a f j : Nat} (h : j < wN b a f) : b.getD (a + j) 0 = b.getD (f + j) 0 := by
  have h2 : wN b a f ≤ pre (b.drop a) (b.drop f) := Nat.min_le_right _ _
  rw [← drop_getD, ← drop_getD]
  exact pre_at _ _ _ (by omega)
theorem wN_is {b : List Nat} {a f n : Nat} (hf : f < a) (h1 : n ≤ 130) (h2 : a + n ≤ b.length) (h3 : ∀ j, j < n → b.getD (a + j) 0 = b.getD (f + j) 0)
    (h4 : n = 130 ∨ a + n = b.length ∨ b.getD (a + n) 0 ≠ b.getD (f + n) 0) : wN b a f = n := by
  obtain ⟨l1, l2⟩ := pre_le (b.drop a) (b.drop f)
  have he := pre_end (b.drop a) (b.drop f)
  have ha := pre_at (b.drop a) (b.drop f)
  rw [List.length_drop] at l1 l2 he
  rw [List.length_drop] at he
  simp only [drop_getD] at he ha
  unfold wN
  generalize pre (b.drop a) (b.drop f) = m at *
  have hnm : n ≤ m := by
    rcases Nat.lt_or_ge m n with h | h
    · exact absurd (h3 m h) (he (by omega) (by omega))
    · exact h
  rcases h4 with rfl | h4 | h4
  · omega
  · omega
  · rcases Nat.lt_or_ge n m with h | h
    · exact absurd (ha n h) h4
    · omega
theorem wN_end {b : List Nat} {a f : Nat} (hf : f < a) (h1 : wN b a f < 130) (h2 : a + wN b a f < b.length) : b.getD (a + wN b a f) 0 ≠ b.getD (f + wN b a f) 0 := by
  intro h
  have h3 : wN b a f = wN b a f + 1 := by
    rcases Nat.lt_or_ge (pre (b.drop a) (b.drop f)) 130 with h5 | h5
    · have e : wN b a f = pre (b.drop a) (b.drop f) := by unfold wN; omega
      rw [e] at h h1 h2
      have := pre_end (b.drop a) (b.drop f) (by rw [List.length_drop]; omega) (by rw [List.length_drop]; omega)
      rw [drop_getD, drop_getD] at this
      exact absurd h this
    · unfold wN at h1; omega
  omega

/-- The same three bytes stand at both places. -/
def cand (b : List Nat) (a f : Nat) : Prop := b.getD a 0 = b.getD f 0 ∧ b.getD (a + 1) 0 = b.getD (f + 1) 0 ∧ b.getD (a + 2) 0 = b.getD (f + 2) 0
theorem cand_symm {b : List Nat} {a f : Nat} (h : cand b a f) : cand b f a := ⟨h.1.symm, h.2.1.symm, h.2.2.symm⟩
theorem cand_trans {b : List Nat} {a f g : Nat} (h : cand b a f) (k : cand b f g) : cand b a g := ⟨h.1.trans k.1, h.2.1.trans k.2.1, h.2.2.trans k.2.2⟩
theorem wN_cand {b : List Nat} {a f : Nat} (hf : f < a) (ha : a + 3 ≤ b.length) : 3 ≤ wN b a f ↔ cand b a f := by
  constructor
  · intro h
    have h0 := wN_at (b := b) (a := a) (f := f) (j := 0) (by omega)
    have h1 := wN_at (b := b) (a := a) (f := f) (j := 1) (by omega)
    have h2 := wN_at (b := b) (a := a) (f := f) (j := 2) (by omega)
    exact ⟨h0, h1, h2⟩
  · intro ⟨h0, h1, h2⟩
    rcases Nat.lt_or_ge (wN b a f) 3 with h | h
    · have he := wN_end (b := b) hf (by omega) (by omega)
      generalize wN b a f = m at *
      obtain rfl | rfl | rfl : m = 0 ∨ m = 1 ∨ m = 2 := by omega
      · exact absurd h0 he
      · exact absurd h1 he
      · exact absurd h2 he
    · exact h

/-- What With answers. -/
def withI (b : List Nat) (A F : Int) : Nat := if 0 ≤ F ∧ F < A ∧ A < b.length then wN b A.toNat F.toNat else 0
theorem with_no {b : List Nat} {A F : Int} (h : F < 0 ∨ A ≤ F ∨ (b.length : Int) ≤ A) : withI b A F = 0 := if_neg (by omega)
theorem with_yes {b : List Nat} {a f : Nat} (hf : f < a) (ha : a < b.length) : withI b a f = wN b a f := by
  unfold withI
  rw [if_pos (by omega)]
  simp

/-- The longest match of a with the candidates below p; best, dist: what was found so far, seen: how many were. -/
def look (b : List Nat) (a : Nat) : Nat → Nat → Nat → Nat → Nat × Nat
  | 0, best, dist, _ => (best, dist)
  | p + 1, best, dist, seen =>
    if seen < 32 then
      if 3 ≤ wN b a p then
        if best < wN b a p then look b a p (wN b a p) (a - p) (seen + 1) else look b a p best dist (seen + 1)
      else look b a p best dist seen
    else (best, dist)
theorem look_full {b : List Nat} {a seen : Nat} (h : 32 ≤ seen) : ∀ p best dist, look b a p best dist seen = (best, dist)
  | 0, _, _ => rfl
  | p + 1, _, _ => by rw [look, if_neg (by omega)]
theorem look_far {b : List Nat} {a p best dist seen : Nat} (h : ¬ 3 ≤ wN b a p) : look b a (p + 1) best dist seen = look b a p best dist seen := by
  rcases Nat.lt_or_ge seen 32 with hs | hs
  · rw [look, if_pos hs, if_neg h]
  · rw [look_full hs, look_full hs]
theorem look_skip {b : List Nat} {a p best dist seen : Nat} : ∀ n, (∀ q, p ≤ q → q < p + n → ¬ 3 ≤ wN b a q) → look b a (p + n) best dist seen = look b a p best dist seen
  | 0, _ => rfl
  | n + 1, h => by
    rw [← Nat.add_assoc, look_far (h (p + n) (by omega) (by omega))]
    exact look_skip n fun q h1 h2 => h q h1 (by omega)
theorem look_none {b : List Nat} {a p best dist seen : Nat} (h : ∀ q, q < p → ¬ 3 ≤ wN b a q) : look b a p best dist seen = (best, dist) := by
  have := look_skip (b := b) (a := a) (p := 0) (best := best) (dist := dist) (seen := seen) p (fun q _ h2 => h q (by omega))
  rw [Nat.zero_add] at this
  rw [this]
  rfl
theorem look_more {b : List Nat} {a p best dist seen : Nat} (hs : seen < 32) (h : 3 ≤ wN b a p) (hb : best < wN b a p) : look b a (p + 1) best dist seen = look b a p (wN b a p) (a - p) (seen + 1) := by
  rw [look, if_pos hs, if_pos h, if_pos hb]
theorem look_less {b : List Nat} {a p best dist seen : Nat} (hs : seen < 32) (h : 3 ≤ wN b a p) (hb : ¬ best < wN b a p) : look b a (p + 1) best dist seen = look b a p best dist (seen + 1) := by
  rw [look, if_pos hs, if_pos h, if_neg hb]

/-- What Find answers. -/
def findI (b : List Nat) (A : Int) : Nat × Nat := if 0 ≤ A ∧ A + 3 ≤ b.length then look b A.toNat A.toNat 0 0 0 else (0, 0)
theorem find_no {b : List Nat} {A : Int} (h : A < 0 ∨ (b.length : Int) < A + 3) : findI b A = (0, 0) := if_neg (by omega)
theorem find_yes {b : List Nat} {a : Nat} (h : a + 3 ≤ b.length) : findI b a = look b a a 0 0 0 := by
  unfold findI
  rw [if_pos (by omega)]
  simp
theorem find_tail {b : List Nat} {a : Nat} (ha : a < b.length) (h : b.length < a + 3) : findI b a = look b a a 0 0 0 := by
  rw [find_no (.inr (by omega)), look_none]
  intro q _ h3
  have := wN_len (b := b) (a := a) (f := q) (by omega)
  omega

/-- What is told stands there. -/
def Stands (b : List Nat) (a : Nat) (r : Nat × Nat) : Prop := (r.1 = 0 ∧ r.2 = 0) ∨ (3 ≤ r.1 ∧ 1 ≤ r.2 ∧ r.2 ≤ a ∧ wN b a (a - r.2) = r.1)
theorem look_stands {b : List Nat} {a : Nat} : ∀ p best dist seen, p ≤ a → Stands b a (best, dist) → Stands b a (look b a p best dist seen)
  | 0, _, _, _, _, h => h
  | p + 1, best, dist, seen, hp, h => by
    rw [look]
    split
    · split
      · split
        · rename_i h1 h2 h3
          refine look_stands p _ _ _ (by omega) (.inr ⟨h2, by simp; omega, by simp, ?_⟩)
          show wN b a (a - (a - p)) = wN b a p
          rw [show a - (a - p) = p by omega]
        · exact look_stands p _ _ _ (by omega) h
      · exact look_stands p _ _ _ (by omega) h
    · exact h
theorem look_ge {b : List Nat} {a : Nat} : ∀ p best dist seen, best ≤ (look b a p best dist seen).1
  | 0, _, _, _ => Nat.le_refl _
  | p + 1, best, dist, seen => by
    rw [look]
    split
    · split
      · split
        · rename_i h1 h2 h3
          exact Nat.le_trans (Nat.le_of_lt h3) (look_ge p _ _ _)
        · exact look_ge p _ _ _
      · exact look_ge p _ _ _
    · exact Nat.le_refl _
theorem find_stands {b : List Nat} {a : Nat} : Stands b a (findI b a) := by
  unfold findI
  split
  · simp only [Int.toNat_natCast]
    exact look_stands a 0 0 0 (Nat.le_refl _) (.inl ⟨rfl, rfl⟩)
  · exact .inl ⟨rfl, rfl⟩
/-- Four bytes the same: something is found. -/
theorem find_run {b : List Nat} {a : Nat} (h : a + 1 + 3 ≤ b.length) (hc : cand b (a + 1) a) : 3 ≤ (findI b ((a + 1 : Nat) : Int)).1 := by
  rw [find_yes h]
  have h3 := (wN_cand (b := b) (a := a + 1) (f := a) (by omega) h).2 hc
  rw [look_more (by omega) h3 (by omega)]
  exact Nat.le_trans h3 (look_ge _ _ _ _)

/-- A leads from each of the first k places to its nearest candidate, plus 1. -/
def Ahead (b : List Nat) (A : Nat → Nat) (k : Nat) : Prop :=
  ∀ a, a < k → (A a = 0 ∧ ∀ q, q < a → ¬ cand b a q) ∨ ∃ q, A a = q + 1 ∧ q < a ∧ cand b a q ∧ ∀ r, q < r → r < a → ¬ cand b a r
theorem ahead_end {b : List Nat} {A : Nat → Nat} {k a f best dist seen : Nat} (h : Ahead b A k) (hf : f < k) (hfa : f ≤ a) (ha : a + 3 ≤ b.length) (hc : cand b a f) (h0 : A f = 0) : look b a f best dist seen = (best, dist) := by
  apply look_none
  intro q hq h3
  rcases h f hf with ⟨_, h2⟩ | ⟨q, h2, _⟩
  · exact h2 q hq (cand_trans (cand_symm hc) ((wN_cand (by omega) ha).1 h3))
  · omega
theorem ahead_next {b : List Nat} {A : Nat → Nat} {k a f q best dist seen : Nat} (h : Ahead b A k) (hf : f < k) (hfa : f ≤ a) (ha : a + 3 ≤ b.length) (hc : cand b a f) (h0 : A f = q + 1) :
    q < f ∧ cand b a q ∧ 3 ≤ wN b a q ∧ look b a f best dist seen = look b a (q + 1) best dist seen := by
  rcases h f hf with ⟨h1, _⟩ | ⟨q', h2, h3, h4, h5⟩
  · omega
  · obtain rfl : q' = q := by omega
    have hcq := cand_trans hc h4
    refine ⟨h3, hcq, (wN_cand (by omega) ha).2 hcq, ?_⟩
    have := look_skip (b := b) (a := a) (p := q' + 1) (best := best) (dist := dist) (seen := seen) (f - (q' + 1)) (fun r h6 h7 h8 => h5 r (by omega) (by omega) (cand_trans (cand_symm hc) ((wN_cand (by omega) ha).1 h8)))
    rwa [show q' + 1 + (f - (q' + 1)) = f by omega] at this

/-- How many of the first n aren't 0. -/
def used (T : Nat → Nat) : Nat → Nat
  | 0 => 0
  | n + 1 => used T n + (if T n = 0 then 0 else 1)
theorem used_set (T : Nat → Nat) (m v : Nat) : ∀ n, used (fun j => if j = m then v else T j) n ≤ used T n + (if m < n then 1 else 0)
  | 0 => by simp [used]
  | n + 1 => by
    have ih := used_set T m v n
    show used (fun j => if j = m then v else T j) n + (if (if n = m then v else T n) = 0 then 0 else 1) ≤ (used T n + (if T n = 0 then 0 else 1)) + (if m < n + 1 then 1 else 0)
    by_cases e : n = m
    · subst e
      rw [if_neg (Nat.lt_irrefl _)] at ih
      rw [if_pos (Nat.lt_succ_self _), if_pos rfl]
      split <;> split <;> omega
    · rw [if_neg e]
      by_cases h : m < n
      · rw [if_pos h] at ih
        rw [if_pos (show m < n + 1 by omega)]
        omega
      · rw [if_neg h] at ih
        rw [if_neg (show ¬ m < n + 1 by omega)]
        omega
theorem used_full (T : Nat → Nat) : ∀ n, (∀ m, m < n → T m ≠ 0) → used T n = n
  | 0, _ => rfl
  | n + 1, h => by
    rw [used, used_full T n fun m hm => h m (by omega), if_neg (h n (by omega))]
theorem last_of (p : Nat → Prop) : ∀ k, (∃ q, q < k ∧ p q) → ∃ q, q < k ∧ p q ∧ ∀ r, q < r → r < k → ¬ p r
  | 0, ⟨_, h, _⟩ => absurd h (by omega)
  | k + 1, ⟨q, h, hq⟩ => by
    by_cases hk : p k
    · exact ⟨k, by omega, hk, fun r h1 h2 => by omega⟩
    · have hqk : q < k := by
        rcases Nat.lt_or_ge q k with h1 | h1
        · exact h1
        · obtain rfl : q = k := by omega
          exact absurd hq hk
      obtain ⟨x, h1, h2, h3⟩ := last_of p k ⟨q, hqk, hq⟩
      refine ⟨x, by omega, h2, fun r h4 h5 => ?_⟩
      rcases Nat.lt_or_ge r k with h6 | h6
      · exact h3 r h4 h6
      · obtain rfl : r = k := by omega
        exact hk

/-- T has, of all three bytes that stand at one of the first k places, the last of these, plus 1, on the first shelf from their own on that has no others. -/
structure Shelved (b : List Nat) (h : Nat → Nat) (k : Nat) (T : Nat → Nat) : Prop where
  le : ∀ n, n < 4096 → T n ≤ k
  path : ∀ q, q < k → (∀ r, q < r → r < k → ¬ cand b r q) → ∃ j, j < 4096 ∧ T ((h q + j) % 4096) = q + 1 ∧ ∀ i, i < j → T ((h q + i) % 4096) ≠ 0 ∧ ¬ cand b q (T ((h q + i) % 4096) - 1)
  room : used T 4096 ≤ k
/-- The first j shelves of a place hold others. -/
def Others (b : List Nat) (h : Nat → Nat) (k : Nat) (T : Nat → Nat) (j : Nat) : Prop := ∀ i, i < j → T ((h k + i) % 4096) ≠ 0 ∧ ¬ cand b k (T ((h k + i) % 4096) - 1)
theorem Shelved.start (b : List Nat) (h : Nat → Nat) : Shelved b h 0 (fun _ => 0) := by
  refine ⟨fun _ _ => Nat.le_refl _, fun q hq => absurd hq (by omega), ?_⟩
  have : ∀ n, used (fun _ => 0) n = 0 := by
    intro n
    induction n with
    | zero => rfl
    | succ n ih => rw [used, ih]; rfl
  rw [this]; omega
theorem Shelved.more {b : List Nat} {h : Nat → Nat} {k j : Nat} {T : Nat → Nat} (s : Shelved b h k T) (hk : k < 4096) (ho : Others b h k T j) : j < 4096 := by
  rcases Nat.lt_or_ge j 4096 with h1 | h1
  · exact h1
  · have h2 := used_full T 4096 (fun n hn => ?_)
    · have := s.room
      omega
    · have := (ho ((n + 4096 - h k % 4096) % 4096) (by omega)).1
      rwa [show (h k + (n + 4096 - h k % 4096) % 4096) % 4096 = n by omega] at this
theorem Shelved.meets {b : List Nat} {h : Nat → Nat} {k j p : Nat} {T : Nat → Nat} (s : Shelved b h k T) (hh : ∀ a f, cand b a f → h a = h f) (ho : Others b h k T j)
    (hs : T ((h k + j) % 4096) = 0 ∨ cand b k (T ((h k + j) % 4096) - 1)) (hp : p < k) (hc : cand b k p) (hl : ∀ r, p < r → r < k → ¬ cand b k r) : T ((h k + j) % 4096) = p + 1 := by
  obtain ⟨i, h1, h2, h3⟩ := s.path p hp (fun r h4 h5 h6 => hl r h4 h5 (cand_trans hc (cand_symm h6)))
  rw [← hh k p hc] at h2 h3
  rcases Nat.lt_trichotomy i j with h4 | rfl | h4
  · have := (ho i h4).2
    rw [h2] at this
    exact absurd hc this
  · exact h2
  · obtain ⟨h5, h6⟩ := h3 j h4
    rcases hs with h7 | h7
    · exact absurd h7 h5
    · exact absurd (cand_trans (cand_symm hc) h7) h6
/-- An empty shelf: there is none. -/
theorem Shelved.none {b : List Nat} {h : Nat → Nat} {k j : Nat} {T : Nat → Nat} (s : Shelved b h k T) (hh : ∀ a f, cand b a f → h a = h f) (ho : Others b h k T j)
    (h0 : T ((h k + j) % 4096) = 0) : ∀ q, q < k → ¬ cand b k q := by
  intro q hq hc
  obtain ⟨p, h1, h2, h3⟩ := last_of (cand b k) k ⟨q, hq, hc⟩
  have := s.meets hh ho (.inl h0) h1 h2 h3
  omega
/-- A shelf with a candidate: it is the nearest. -/
theorem Shelved.near {b : List Nat} {h : Nat → Nat} {k j q : Nat} {T : Nat → Nat} (s : Shelved b h k T) (hh : ∀ a f, cand b a f → h a = h f) (ho : Others b h k T j)
    (h0 : T ((h k + j) % 4096) = q + 1) (hc : cand b k q) : q < k ∧ ∀ r, q < r → r < k → ¬ cand b k r := by
  have hq : q < k := by have := s.le ((h k + j) % 4096) (by omega); omega
  obtain ⟨p, h1, h2, h3⟩ := last_of (cand b k) k ⟨q, hq, hc⟩
  have := s.meets hh ho (.inr (by rw [h0]; exact hc)) h1 h2 h3
  obtain rfl : p = q := by omega
  exact ⟨h1, h3⟩
theorem Shelved.put {b : List Nat} {h : Nat → Nat} {k j : Nat} {T : Nat → Nat} (s : Shelved b h k T) (hj : j < 4096) (ho : Others b h k T j)
    (hs : T ((h k + j) % 4096) = 0 ∨ cand b k (T ((h k + j) % 4096) - 1)) : Shelved b h (k + 1) (fun n => if n = (h k + j) % 4096 then k + 1 else T n) := by
  refine ⟨fun n hn => ?_, fun q hq hl => ?_, ?_⟩
  · show (if n = _ then k + 1 else T n) ≤ k + 1
    have := s.le n hn
    split <;> omega
  · by_cases e : q = k
    · subst e
      refine ⟨j, hj, if_pos rfl, fun i hi => ?_⟩
      have hne : ¬ (h q + i) % 4096 = (h q + j) % 4096 := by omega
      simp only [if_neg hne]
      exact ho i hi
    · have hqk : q < k := by omega
      have hnc : ¬ cand b k q := hl k hqk (by omega)
      obtain ⟨i, h1, h2, h3⟩ := s.path q hqk (fun r h4 h5 => hl r h4 (by omega))
      refine ⟨i, h1, ?_, fun x hx => ?_⟩
      · have hne : ¬ (h q + i) % 4096 = (h k + j) % 4096 := by
          intro e2
          rw [← e2, h2] at hs
          rcases hs with h4 | h4
          · omega
          · exact hnc h4
        simp only [if_neg hne]
        exact h2
      · by_cases e2 : (h q + x) % 4096 = (h k + j) % 4096
        · simp only [if_pos e2]
          exact ⟨by omega, fun h4 => hnc (cand_symm h4)⟩
        · simp only [if_neg e2]
          exact h3 x hx
  · refine Nat.le_trans (used_set T _ _ 4096) ?_
    have := s.room
    split <;> omega
/-- One place more. -/
theorem Ahead.step {b : List Nat} {A : Nat → Nat} {h : Nat → Nat} {k j : Nat} {T : Nat → Nat} (ha : Ahead b A k) (s : Shelved b h k T) (hh : ∀ a f, cand b a f → h a = h f) (ho : Others b h k T j)
    (hs : T ((h k + j) % 4096) = 0 ∨ cand b k (T ((h k + j) % 4096) - 1)) : Ahead b (fun n => if n = k then T ((h k + j) % 4096) else A n) (k + 1) := by
  intro a hk
  by_cases e : a = k
  · subst e
    simp only
    rcases Nat.eq_zero_or_pos (T ((h a + j) % 4096)) with h0 | h0
    · exact .inl ⟨h0, s.none hh ho h0⟩
    · obtain ⟨q, hq⟩ : ∃ q, T ((h a + j) % 4096) = q + 1 := ⟨T ((h a + j) % 4096) - 1, by omega⟩
      have hc : cand b a q := by
        rcases hs with h4 | h4
        · omega
        · rwa [hq] at h4
      obtain ⟨h1, h2⟩ := s.near hh ho hq hc
      exact .inr ⟨q, hq, h1, hc, h2⟩
  · simp only [if_neg e]
    exact ha a (by omega)
end Go.Proofs.Ytgninhecclinaaa
