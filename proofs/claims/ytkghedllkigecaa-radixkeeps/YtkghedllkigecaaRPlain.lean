/- Plain facts: the beginnings of keys; lists of keys that rise, with one more, one less, from one on; how many beginnings there are. -/
import Derived.WalkKit
namespace Go.Proofs.Ytkghedllkigecaa

def pre (k d : Nat) : Nat := k / 16 ^ (4 - d)
def dig (k d : Nat) : Nat := (k / 16 ^ (3 - d)) % 16
theorem dig_lt (k d : Nat) : dig k d < 16 := Nat.mod_lt _ (by omega)
theorem pre_succ (k : Nat) {d : Nat} (hd : d < 4) : pre k (d + 1) = pre k d * 16 + dig k d := by
  match d, hd with
  | 0, _ => simp [pre, dig]; omega
  | 1, _ => simp [pre, dig]; omega
  | 2, _ => simp [pre, dig]; omega
  | 3, _ => simp [pre, dig]; omega
theorem pre_div (k : Nat) {d : Nat} (hd : d < 4) : pre k (d + 1) / 16 = pre k d := by
  rw [pre_succ k hd]
  have := dig_lt k d
  omega
theorem pre_mod (k : Nat) {d : Nat} (hd : d < 4) : pre k (d + 1) % 16 = dig k d := by
  rw [pre_succ k hd]
  have := dig_lt k d
  omega
theorem pre_zero {k : Nat} (hk : k < 65536) : pre k 0 = 0 := by simp [pre]; omega
theorem pre_four (k : Nat) : pre k 4 = k := by simp [pre]
theorem pre_mono {a b : Nat} (d : Nat) (h : a ≤ b) : pre a d ≤ pre b d := Nat.div_le_div_right h

abbrev KV := Nat × Int
def has (d p : Nat) (l : List KV) : Prop := ∃ x ∈ l, pre x.1 d = p
instance (d p : Nat) (l : List KV) : Decidable (has d p l) := inferInstanceAs (Decidable (∃ x ∈ l, pre x.1 d = p))
theorem has_cons (d p : Nat) (x : KV) (l : List KV) : has d p (x :: l) ↔ pre x.1 d = p ∨ has d p l := by simp [has]
theorem has_perm {d p : Nat} {l m : List KV} (h : l.Perm m) : has d p l ↔ has d p m := by simp [has, h.mem_iff]
theorem has_up {l : List KV} {k d : Nat} (hd : d < 4) (h : has (d + 1) (pre k (d + 1)) l) : has d (pre k d) l := by
  obtain ⟨x, hx, e⟩ := h
  exact ⟨x, hx, by rw [← pre_div x.1 hd, ← pre_div k hd, e]⟩
theorem has_le {l : List KV} {k e : Nat} : ∀ (d : Nat), e ≤ d → d ≤ 4 → has d (pre k d) l → has e (pre k e) l
  | 0, h1, _, h => by
    obtain rfl : e = 0 := by omega
    exact h
  | d + 1, h1, h2, h => by
    by_cases c : e = d + 1
    · subst c; exact h
    · exact has_le d (by omega) (by omega) (has_up (by omega) h)

/-- How many beginnings of so many digits there are. -/
def cnt (d : Nat) : List KV → Nat
  | [] => 0
  | x :: r => cnt d r + if has d (pre x.1 d) r then 0 else 1
theorem cnt_perm {d : Nat} {l m : List KV} (h : l.Perm m) : cnt d l = cnt d m := by
  induction h with
  | nil => rfl
  | cons x h ih => simp only [cnt, ih, has_perm h]
  | swap x y r =>
    simp only [cnt, has_cons]
    by_cases e : pre x.1 d = pre y.1 d
    · rw [e]
    · have e' : ¬ pre y.1 d = pre x.1 d := fun h => e h.symm
      simp only [e, e', false_or]
      omega
  | trans _ _ h1 h2 => exact h1.trans h2
def nodesOf (l : List KV) : Nat := cnt 0 l + cnt 1 l + cnt 2 l + cnt 3 l
def missAt (l : List KV) (k d : Nat) : Nat := if has d (pre k d) l then 0 else 1
def miss (l : List KV) (k : Nat) : Nat := missAt l k 0 + missAt l k 1 + missAt l k 2 + missAt l k 3
theorem nodesOf_cons (k : Nat) (v : Int) (l : List KV) : nodesOf ((k, v) :: l) = nodesOf l + miss l k := by
  simp only [nodesOf, cnt, miss, missAt]; omega
theorem nodesOf_perm {l m : List KV} (h : l.Perm m) : nodesOf l = nodesOf m := by simp only [nodesOf, cnt_perm h]
theorem cnt_le (d : Nat) (l : List KV) : cnt d l ≤ l.length := by
  induction l with
  | nil => simp [cnt]
  | cons x r ih => simp only [cnt, List.length_cons]; split <;> omega
theorem nodesOf_le (l : List KV) : nodesOf l ≤ 4 * l.length := by
  have h0 := cnt_le 0 l
  have h1 := cnt_le 1 l
  have h2 := cnt_le 2 l
  have h3 := cnt_le 3 l
  unfold nodesOf; omega
theorem nodesOf_nil : nodesOf [] = 0 := rfl
theorem nodesOf_pos {l : List KV} (h : l ≠ []) : 0 < nodesOf l := by
  induction l with
  | nil => exact absurd rfl h
  | cons x r ih =>
    obtain ⟨k, v⟩ := x
    rw [nodesOf_cons]
    by_cases e : r = []
    · subst e; simp [miss, missAt, has]
    · have := ih e; omega
/-- Levels from m on are missing, those ahead aren't. -/
theorem miss_from {l : List KV} {k m : Nat} (hm : m ≤ 4) (h1 : ∀ d, d < m → has d (pre k d) l) (h2 : ∀ d, m ≤ d → d < 4 → ¬ has d (pre k d) l) : miss l k = 4 - m := by
  have a : ∀ d, d < 4 → missAt l k d = if d < m then 0 else 1 := by
    intro d hd
    unfold missAt
    by_cases c : d < m
    · rw [if_pos (h1 d c), if_pos c]
    · rw [if_neg (h2 d (by omega) hd), if_neg c]
  unfold miss
  rw [a 0 (by omega), a 1 (by omega), a 2 (by omega), a 3 (by omega)]
  match m, hm with
  | 0, _ => rfl
  | 1, _ => rfl
  | 2, _ => rfl
  | 3, _ => rfl
  | 4, _ => rfl

structure Fine (l : List KV) : Prop where
  up : l.Pairwise (fun a b => a.1 < b.1)
  small : ∀ x ∈ l, x.1 < 65536
theorem Fine.nil : Fine [] := ⟨.nil, by simp⟩
theorem Fine.tail {x : KV} {l : List KV} (h : Fine (x :: l)) : Fine l := ⟨(List.pairwise_cons.1 h.up).2, fun y hy => h.small y (List.mem_cons_of_mem _ hy)⟩
theorem Fine.head {x : KV} {l : List KV} (h : Fine (x :: l)) : ∀ y ∈ l, x.1 < y.1 := (List.pairwise_cons.1 h.up).1
theorem Fine.filter {l : List KV} (h : Fine l) (p : KV → Bool) : Fine (l.filter p) := ⟨h.up.filter p, fun x hx => h.small x (List.mem_filter.1 hx).1⟩
theorem Fine.uniq {l : List KV} (h : Fine l) {x y : KV} (hx : x ∈ l) (hy : y ∈ l) (e : x.1 = y.1) : x = y := by
  induction l with
  | nil => simp at hx
  | cons z r ih =>
    have hz := h.head
    rcases List.mem_cons.1 hx with e1 | hx1
    · rcases List.mem_cons.1 hy with e2 | hy1
      · rw [e1, e2]
      · have := hz _ hy1; rw [← e1] at this; omega
    · rcases List.mem_cons.1 hy with e2 | hy1
      · have := hz _ hx1; rw [← e2] at this; omega
      · exact ih h.tail hx1 hy1

theorem Fine.len_from : ∀ {l : List KV} (a : Nat), Fine l → (∀ x ∈ l, a ≤ x.1) → a ≤ 65536 → l.length + a ≤ 65536
  | [], a, _, _, h => by simpa using h
  | x :: r, a, h, ha, _ => by
    have h1 := ha x (by simp)
    have h2 := h.small x (by simp)
    have := Fine.len_from (x.1 + 1) h.tail (fun y hy => h.head y hy) (by omega)
    simp only [List.length_cons]; omega
theorem Fine.len {l : List KV} (h : Fine l) : l.length ≤ 65536 := by
  have := Fine.len_from 0 h (fun _ _ => Nat.zero_le _) (by omega)
  omega
def lo (l : List KV) (k : Nat) : List KV := l.filter fun x => decide (x.1 < k)
def hi (l : List KV) (k : Nat) : List KV := l.filter fun x => decide (k < x.1)
def del (l : List KV) (k : Nat) : List KV := l.filter fun x => decide (x.1 ≠ k)
def ins (l : List KV) (k : Nat) (v : Int) : List KV := lo l k ++ (k, v) :: hi l k
theorem all_above {l : List KV} {k : Nat} (h : ∀ x ∈ l, k ≤ x.1) : lo l k = [] := by
  apply List.filter_eq_nil_iff.2
  intro x hx
  have := h x hx
  simp; omega
theorem lo_hi {l : List KV} (h : Fine l) (k : Nat) : lo l k ++ hi l k = del l k := by
  induction l with
  | nil => rfl
  | cons x r ih =>
    have i := ih h.tail
    have hh := h.head
    unfold lo hi del at *
    by_cases c : x.1 < k
    · rw [List.filter_cons_of_pos (by simpa using c), List.filter_cons_of_neg (by simp; omega), List.filter_cons_of_pos (by simp; omega), List.cons_append, i]
    · have e : (x :: r).filter (fun y => decide (y.1 < k)) = [] := by
        apply List.filter_eq_nil_iff.2
        intro y hy
        rcases List.mem_cons.1 hy with rfl | hy
        · simpa using c
        · have := hh y hy; simp; omega
      rw [e, List.nil_append]
      apply List.filter_congr
      intro y hy
      rcases List.mem_cons.1 hy with rfl | hy
      · exact decide_eq_decide.2 (by omega)
      · have := hh y hy; exact decide_eq_decide.2 (by omega)
theorem ins_perm {l : List KV} (h : Fine l) (k : Nat) (v : Int) : (ins l k v).Perm ((k, v) :: del l k) := by
  rw [← lo_hi h k]
  exact List.perm_middle
theorem mem_del {l : List KV} {k : Nat} {x : KV} : x ∈ del l k ↔ x ∈ l ∧ x.1 ≠ k := by simp [del]
theorem mem_ins {l : List KV} (h : Fine l) {k : Nat} {v : Int} {x : KV} : x ∈ ins l k v ↔ x = (k, v) ∨ (x ∈ l ∧ x.1 ≠ k) := by
  rw [(ins_perm h k v).mem_iff, List.mem_cons, mem_del]
theorem Fine.del {l : List KV} (h : Fine l) (k : Nat) : Fine (del l k) := h.filter _
theorem Fine.ins {l : List KV} (h : Fine l) {k : Nat} (hk : k < 65536) (v : Int) : Fine (ins l k v) := by
  refine ⟨?_, fun x hx => ?_⟩
  · refine List.pairwise_append.2 ⟨(h.filter _).up, List.pairwise_cons.2 ⟨fun y hy => ?_, (h.filter _).up⟩, fun a ha b hb => ?_⟩
    · simpa using (List.mem_filter.1 hy).2
    · have h1 : a.1 < k := by simpa using (List.mem_filter.1 ha).2
      rcases List.mem_cons.1 hb with rfl | hb
      · exact h1
      · have : k < b.1 := by simpa using (List.mem_filter.1 hb).2
        omega
  · rcases (mem_ins h).1 hx with rfl | ⟨h1, _⟩
    · exact hk
    · exact h.small x h1
theorem ins_of_mem {l : List KV} (h : Fine l) {k : Nat} {v : Int} (hm : (k, v) ∈ l) : ins l k v = l := by
  induction l with
  | nil => simp at hm
  | cons x r ih =>
    have hh := h.head
    rcases List.mem_cons.1 hm with e | hm
    · subst e
      unfold ins lo hi
      rw [List.filter_cons_of_neg (by simp), List.filter_cons_of_neg (by simp)]
      have e1 : r.filter (fun y => decide (y.1 < k)) = [] := by
        apply List.filter_eq_nil_iff.2
        intro y hy
        have := hh y hy
        simp at this ⊢; omega
      have e2 : r.filter (fun y => decide (k < y.1)) = r := by
        apply List.filter_eq_self.2
        intro y hy
        simpa using hh y hy
      rw [e1, e2, List.nil_append]
    · have hk := hh _ hm
      have i := ih h.tail hm
      unfold ins lo hi at *
      rw [List.filter_cons_of_pos (by simpa using hk), List.filter_cons_of_neg (by simp at hk ⊢; omega), List.cons_append, i]
theorem perm_del {l : List KV} (h : Fine l) {k : Nat} {v : Int} (hm : (k, v) ∈ l) : l.Perm ((k, v) :: del l k) := by
  have := ins_perm h k v
  rwa [ins_of_mem h hm] at this
theorem del_self {l : List KV} {k : Nat} (h : ∀ x ∈ l, x.1 ≠ k) : del l k = l := List.filter_eq_self.2 fun x hx => by simpa using h x hx
theorem has_del_off {l : List KV} {k d p : Nat} (h : pre k d ≠ p) : has d p (del l k) ↔ has d p l := by
  constructor
  · rintro ⟨x, hx, e⟩; exact ⟨x, (mem_del.1 hx).1, e⟩
  · rintro ⟨x, hx, e⟩; exact ⟨x, mem_del.2 ⟨hx, fun c => h (by rw [← c]; exact e)⟩, e⟩
theorem has_ins {l : List KV} (hl : Fine l) {k d p : Nat} {v : Int} : has d p (ins l k v) ↔ pre k d = p ∨ has d p (del l k) := by
  rw [has_perm (ins_perm hl k v), has_cons]
theorem has_four {l : List KV} {p : Nat} : has 4 p l ↔ ∃ v, (p, v) ∈ l := by
  constructor
  · rintro ⟨⟨k, v⟩, hx, e⟩
    rw [pre_four] at e
    subst e
    exact ⟨v, hx⟩
  · rintro ⟨v, hx⟩; exact ⟨_, hx, pre_four _⟩
theorem has_zero {l : List KV} (h : Fine l) : has 0 0 l ↔ l ≠ [] := by
  constructor
  · rintro ⟨x, hx, _⟩ rfl; simp at hx
  · intro hne
    match l, hne, h with
    | x :: r, _, h => exact ⟨x, by simp, pre_zero (h.small x (by simp))⟩

/-- What a key has. -/
def val (l : List KV) (k : Nat) : Option Int := (l.find? fun x => decide (x.1 = k)).map (·.2)
theorem val_of {l : List KV} (h : Fine l) {k : Nat} {v : Int} (hm : (k, v) ∈ l) : val l k = some v := by
  unfold val
  cases e : l.find? fun x => decide (x.1 = k) with
  | none => have := List.find?_eq_none.1 e _ hm; simp at this
  | some y =>
    have h1 : y.1 = k := by simpa using List.find?_some e
    have := h.uniq (List.mem_of_find?_eq_some e) hm h1
    subst this; rfl
theorem val_none {l : List KV} {k : Nat} (h : ∀ x ∈ l, x.1 ≠ k) : val l k = none := by
  unfold val
  rw [List.find?_eq_none.2 fun x hx => by simpa using h x hx]; rfl
theorem val_mem {l : List KV} {k : Nat} {v : Int} (h : val l k = some v) : (k, v) ∈ l := by
  unfold val at h
  obtain ⟨y, hy, rfl⟩ := Option.map_eq_some_iff.1 h
  have h1 : y.1 = k := by simpa using List.find?_some hy
  have := List.mem_of_find?_eq_some hy
  rw [← h1]; exact this
theorem val_none_not {l : List KV} {k : Nat} (h : val l k = none) : ∀ x ∈ l, x.1 ≠ k := by
  intro x hx e
  unfold val at h
  rw [Option.map_eq_none_iff, List.find?_eq_none] at h
  have := h x hx
  simp [e] at this
theorem not_mem_of_key {l : List KV} {k : Nat} (h : ¬ ∃ v, (k, v) ∈ l) : ∀ x ∈ l, x.1 ≠ k := fun x hx e => h ⟨x.2, by rw [← e]; exact hx⟩
end Go.Proofs.Ytkghedllkigecaa
