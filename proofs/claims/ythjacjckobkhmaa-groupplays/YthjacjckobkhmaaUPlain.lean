/- Numbers of zspages with how full they are: plain facts on lists of them. -/
import Derived.Test.YthjacjckobkhmaaGKit
import Derived.Lib.SlKeysI
namespace Go.Proofs.Ythjacjckobkhmaa

/-- A number, how many are taken, and how many there are. -/
structure Gh where
  n : Int
  u : Int
  m : Int

/-- How full that is. -/
def ofN (u m : Int) : Int := if m < 1 ∨ m ≤ u then 4 else if u < 1 then 0 else if u ≤ m / 3 then 1 else if (m - 1) / 3 < m - u then 2 else 3
theorem ofN_doc (u m : Int) : ofN u m = if m < 1 ∨ m ≤ u then 4 else if u < 1 then 0 else 1 + (if m < 3 * u then 1 else 0) + (if 2 * m < 3 * u then 1 else 0) := by
  unfold ofN
  split
  · rfl
  · split
    · rfl
    · split <;> split <;> split <;> omega
theorem ofN_range (u m : Int) : 0 ≤ ofN u m ∧ ofN u m ≤ 4 := by
  unfold ofN
  split
  · omega
  · split
    · omega
    · split
      · omega
      · split <;> omega
theorem ofN_full {u m : Int} : ofN u m = 4 ↔ m < 1 ∨ m ≤ u := by
  unfold ofN
  split
  · simp [*]
  · split
    · omega
    · split
      · omega
      · split <;> omega
theorem ofN_empty {u m : Int} : ofN u m = 0 ↔ ¬ (m < 1 ∨ m ≤ u) ∧ u < 1 := by
  unfold ofN
  split
  · omega
  · split
    · omega
    · split
      · omega
      · split <;> omega

/-- Numbers that may be, with what they have; each once. -/
structure Gok (L : List Gh) : Prop where
  nd : (L.map Gh.n).Nodup
  ok : ∀ h ∈ L, 0 ≤ h.n ∧ h.n < 4096 ∧ 0 ≤ h.u ∧ h.u ≤ h.m ∧ h.m ≤ 100000000
theorem gok_nil : Gok [] := ⟨List.nodup_nil, fun _ h => (by cases h)⟩
theorem Gok.filter {L : List Gh} (h : Gok L) (p : Gh → Bool) : Gok (L.filter p) :=
  ⟨(List.filter_sublist.map _).nodup h.nd, fun x hx => h.ok x ((List.mem_filter.1 hx).1)⟩
theorem Gok.perm {L L' : List Gh} (h : Gok L) (hp : L'.Perm L) : Gok L' := ⟨((hp.map _).nodup_iff).2 h.nd, fun x hx => h.ok x (hp.mem_iff.1 hx)⟩
theorem Gok.one {L : List Gh} (h : Gok L) {a b : Gh} (ha : a ∈ L) (hb : b ∈ L) (e : a.n = b.n) : a = b := by
  have hd := h.nd
  clear h
  induction L with
  | nil => cases ha
  | cons x L ih =>
    rw [List.map_cons, List.nodup_cons] at hd
    rcases List.mem_cons.1 ha with ha1 | ha1
    · rcases List.mem_cons.1 hb with hb1 | hb1
      · exact ha1.trans hb1.symm
      · exact absurd (List.mem_map.2 ⟨b, hb1, e.symm.trans (congrArg Gh.n ha1)⟩) hd.1
    · rcases List.mem_cons.1 hb with hb1 | hb1
      · exact absurd (List.mem_map.2 ⟨a, ha1, e.trans (congrArg Gh.n hb1)⟩) hd.1
      · exact ih ha1 hb1 hd.2
/-- Is a number there? -/
def hasG (L : List Gh) (n : Int) : Bool := L.any fun h => decide (h.n = n)
/-- All but one number. -/
def delG (L : List Gh) (n : Int) : List Gh := L.filter fun h => !decide (h.n = n)
/-- All but some. -/
def butG (L : List Gh) (bs : List Int) : List Gh := L.filter fun h => !bs.any fun b => decide (b = h.n)
/-- A number has these, instead of what it had. -/
def putG (L : List Gh) (h : Gh) : List Gh := delG L h.n ++ [h]
theorem delG_none {L : List Gh} {n : Int} (h : hasG L n = false) : delG L n = L := by
  unfold hasG at h
  unfold delG
  rw [List.filter_eq_self]
  intro x hx
  have := List.any_eq_false.1 h x hx
  simpa using this
theorem delG_len (L : List Gh) (n : Int) : (delG L n).length ≤ L.length := List.length_filter_le _ _
theorem putG_len (L : List Gh) (h : Gh) : (putG L h).length ≤ L.length + 1 := by
  unfold putG
  rw [List.length_append, List.length_singleton]
  have := delG_len L h.n
  omega
theorem Gok.put {L : List Gh} (h : Gok L) {x : Gh} (hx : 0 ≤ x.n ∧ x.n < 4096 ∧ 0 ≤ x.u ∧ x.u ≤ x.m ∧ x.m ≤ 100000000) : Gok (putG L x) := by
  have hd := h.filter fun y => !decide (y.n = x.n)
  refine ⟨?_, ?_⟩
  · unfold putG delG
    rw [List.map_append, List.nodup_append]
    refine ⟨hd.nd, by simp, fun a ha b hb => ?_⟩
    obtain ⟨y, hy, rfl⟩ := List.mem_map.1 ha
    have e : b = x.n := by simpa using hb
    have := (List.mem_filter.1 hy).2
    subst e
    simpa using this
  · intro y hy
    unfold putG at hy
    rcases List.mem_append.1 hy with h1 | h1
    · exact hd.ok y h1
    · obtain rfl : y = x := by simpa using h1
      exact hx
theorem butG_nil (L : List Gh) : butG L [] = L := by
  unfold butG
  rw [List.filter_eq_self]
  intro x _
  rfl
/-- Numbers taken out one by one. -/
theorem butG_del : ∀ (bs : List Int) (L : List Gh), bs.foldl delG L = butG L bs
  | [], L => (butG_nil L).symm
  | b :: bs, L => by
    rw [List.foldl_cons, butG_del bs (delG L b)]
    unfold butG delG
    rw [List.filter_filter]
    congr 1
    funext x
    rw [List.any_cons, Bool.not_or, Bool.and_comm]
    congr 2
    rw [decide_eq_decide]
    exact eq_comm

/-- A list by rising numbers. -/
def srt (L : List Gh) : List Gh := L.mergeSort fun a b => decide (a.n ≤ b.n)
theorem srt_perm (L : List Gh) : (srt L).Perm L := List.mergeSort_perm _ _
theorem srt_le (L : List Gh) : (srt L).Pairwise fun a b => a.n ≤ b.n := by
  have h := List.pairwise_mergeSort (le := fun a b : Gh => decide (a.n ≤ b.n)) (fun a b c h1 h2 => by simp only [decide_eq_true_eq] at *; omega) (fun a b => by simp only [Bool.or_eq_true, decide_eq_true_eq]; omega) L
  exact h.imp fun {a b} h => of_decide_eq_true h
theorem srt_keys {L : List Gh} {ss : List Int} (hp : ss.Perm (L.map Gh.n)) : ss.mergeSort (fun x y => decide (x ≤ y)) = (srt L).map Gh.n := by
  have h1 := List.pairwise_mergeSort (le := fun a b : Int => decide (a ≤ b)) (fun a b c h1 h2 => by simp only [decide_eq_true_eq] at *; omega) (fun a b => by simp only [Bool.or_eq_true, decide_eq_true_eq]; omega) ss
  refine List.Perm.eq_of_pairwise (le := fun a b => a ≤ b) (fun a b _ _ h1 h2 => Int.le_antisymm h1 h2) (h1.imp fun {a b} h => of_decide_eq_true h) (List.pairwise_map.2 (srt_le L)) ?_
  exact (List.mergeSort_perm _ _).trans (hp.trans ((srt_perm L).map _).symm)
theorem srt_lt {L : List Gh} (h : Gok L) : (srt L).Pairwise fun a b => a.n < b.n := by
  have h1 := srt_le L
  have h2 := (h.perm (srt_perm L)).nd
  have h3 := List.pairwise_map.1 h2
  exact (List.pairwise_and_iff.2 ⟨h1, h3⟩).imp fun {a b} ⟨x, y⟩ => by omega

/-- The one that is taken so far, and one more. -/
def stM (p : Gh → Bool) (lt : Gh → Gh → Bool) : Option Gh → Gh → Option Gh
  | none, h => if p h then some h else none
  | some b, h => if p h && lt h b then some h else some b
def minOf (p : Gh → Bool) (lt : Gh → Gh → Bool) (L : List Gh) : Option Gh := L.foldl (stM p lt) none
theorem minOf_take {p : Gh → Bool} {lt : Gh → Gh → Bool} {L : List Gh} {k : Nat} {h : Gh} (hk : L[k]? = some h) : minOf p lt (L.take (k + 1)) = stM p lt (minOf p lt (L.take k)) h := by
  unfold minOf
  rw [List.take_add_one, hk, List.foldl_append]
  rfl
theorem minOf_zero (p : Gh → Bool) (lt : Gh → Gh → Bool) (L : List Gh) : minOf p lt (L.take 0) = none := by simp [minOf]
/-- By two keys. -/
def lexG (k1 k2 : Gh → Int) (h b : Gh) : Bool := decide (k1 h < k1 b) || (decide (k1 h = k1 b) && decide (k2 h < k2 b))
structure IsMin (p : Gh → Bool) (k1 k2 : Gh → Int) (L : List Gh) (o : Option Gh) : Prop where
  no : o = none → ∀ h ∈ L, p h = false
  mem : ∀ b, o = some b → b ∈ L ∧ p b = true
  le : ∀ b, o = some b → ∀ h ∈ L, p h = true → k1 b < k1 h ∨ (k1 b = k1 h ∧ k2 b ≤ k2 h)
theorem isMin_step {p : Gh → Bool} {k1 k2 : Gh → Int} {lt : Gh → Gh → Bool} {L : List Gh} {o : Option Gh} {h : Gh} (H : IsMin p k1 k2 L o)
    (hl : ∀ b, o = some b → lt h b = lexG k1 k2 h b) : IsMin p k1 k2 (L ++ [h]) (stM p lt o h) := by
  have app : ∀ (q : Gh → Prop), (∀ x ∈ L, q x) → q h → ∀ x ∈ L ++ [h], q x := by
    intro q h1 h2 x hx
    rcases List.mem_append.1 hx with h3 | h3
    · exact h1 x h3
    · obtain rfl : x = h := by simpa using h3
      exact h2
  cases o with
  | none =>
    have hno := H.no rfl
    by_cases hp : p h = true
    · have e : stM p lt none h = some h := by simp [stM, hp]
      rw [e]
      refine ⟨fun h1 => (by cases h1), fun b hb => ?_, fun b hb => ?_⟩
      · cases hb
        exact ⟨by simp, hp⟩
      · cases hb
        exact app _ (fun x hx h1 => by rw [hno x hx] at h1; cases h1) (fun _ => by omega)
    · have e : stM p lt none h = none := by simp [stM, hp]
      rw [e]
      exact ⟨fun _ => app _ hno (by simpa using hp), fun b hb => (by cases hb), fun b hb => (by cases hb)⟩
  | some b =>
    obtain ⟨hm, hpb⟩ := H.mem b rfl
    have hle := H.le b rfl
    have hl' := hl b rfl
    by_cases hp : p h = true
    · by_cases hx : lexG k1 k2 h b = true
      · have e : stM p lt (some b) h = some h := by simp [stM, hp, hl', hx]
        have hx2 : k1 h < k1 b ∨ (k1 h = k1 b ∧ k2 h < k2 b) := by simpa [lexG] using hx
        rw [e]
        refine ⟨fun h1 => (by cases h1), fun c hc => ?_, fun c hc => ?_⟩
        · cases hc
          exact ⟨by simp, hp⟩
        · cases hc
          refine app _ (fun x hx3 h1 => ?_) (fun _ => by omega)
          have := hle x hx3 h1
          omega
      · have e : stM p lt (some b) h = some b := by simp [stM, hp, hl', hx]
        have hx2 : ¬ (k1 h < k1 b ∨ (k1 h = k1 b ∧ k2 h < k2 b)) := by simpa [lexG] using hx
        rw [e]
        refine ⟨fun h1 => (by cases h1), fun c hc => ?_, fun c hc => ?_⟩
        · cases hc
          exact ⟨List.mem_append.2 (.inl hm), hpb⟩
        · cases hc
          exact app _ hle (fun _ => by omega)
    · have e : stM p lt (some b) h = some b := by simp [stM, hp]
      rw [e]
      refine ⟨fun h1 => (by cases h1), fun c hc => ?_, fun c hc => ?_⟩
      · cases hc
        exact ⟨List.mem_append.2 (.inl hm), hpb⟩
      · cases hc
        exact app _ hle (fun h1 => by rw [h1] at hp; exact absurd rfl hp)
/-- What a search by rising numbers takes is the least by both keys. -/
theorem isMin_fold {p : Gh → Bool} {k1 k2 : Gh → Int} {lt : Gh → Gh → Bool} : ∀ (L P : List Gh) (o : Option Gh), IsMin p k1 k2 P o → (∀ b ∈ P, ∀ h ∈ L, lt h b = lexG k1 k2 h b) → (L.Pairwise fun b h => lt h b = lexG k1 k2 h b) →
    IsMin p k1 k2 (P ++ L) (L.foldl (stM p lt) o)
  | [], P, o, H, _, _ => by simpa using H
  | h :: L, P, o, H, h1, h2 => by
    rw [List.foldl_cons, show P ++ h :: L = (P ++ [h]) ++ L by simp]
    rw [List.pairwise_cons] at h2
    refine isMin_fold L (P ++ [h]) _ (isMin_step H fun b hb => h1 b (H.mem b hb).1 h (by simp)) (fun b hb x hx => ?_) h2.2
    rcases List.mem_append.1 hb with h3 | h3
    · exact h1 b h3 x (List.mem_cons_of_mem _ hx)
    · obtain rfl : b = h := by simpa using h3
      exact h2.1 x hx
theorem isMin_of {p : Gh → Bool} {k1 k2 : Gh → Int} {lt : Gh → Gh → Bool} {L : List Gh} (h : L.Pairwise fun b h => lt h b = lexG k1 k2 h b) : IsMin p k1 k2 L (minOf p lt L) := by
  have := isMin_fold (p := p) L [] none ⟨fun _ _ h => (by cases h), fun _ h => (by cases h), fun _ h => (by cases h)⟩ (fun _ h => (by cases h)) h
  rw [List.nil_append] at this
  exact this
theorem IsMin.perm {p : Gh → Bool} {k1 k2 : Gh → Int} {L L' : List Gh} {o : Option Gh} (h : IsMin p k1 k2 L o) (hp : L.Perm L') : IsMin p k1 k2 L' o :=
  ⟨fun ho x hx => h.no ho x (hp.mem_iff.2 hx), fun b hb => ⟨hp.mem_iff.1 (h.mem b hb).1, (h.mem b hb).2⟩, fun b hb x hx => h.le b hb x (hp.mem_iff.2 hx)⟩
theorem IsMin.one {p : Gh → Bool} {k1 k2 : Gh → Int} {L : List Gh} {o o' : Option Gh} (hL : Gok L) (h : IsMin p k1 k2 L o) (h' : IsMin p k1 k2 L o') (hk : ∀ a ∈ L, ∀ b ∈ L, k2 a = k2 b → a.n = b.n) : o = o' := by
  cases o with
  | none =>
    cases o' with
    | none => rfl
    | some b => have := h.no rfl b (h'.mem b rfl).1; rw [(h'.mem b rfl).2] at this; cases this
  | some a =>
    cases o' with
    | none => have := h'.no rfl a (h.mem a rfl).1; rw [(h.mem a rfl).2] at this; cases this
    | some b =>
      have h1 := h.le a rfl b (h'.mem b rfl).1 (h'.mem b rfl).2
      have h2 := h'.le b rfl a (h.mem a rfl).1 (h.mem a rfl).2
      have h3 := hk a (h.mem a rfl).1 b (h'.mem b rfl).1 (by omega)
      rw [hL.one (h.mem a rfl).1 (h'.mem b rfl).1 h3]

def free (h : Gh) : Int := h.m - h.u
def notFull (h : Gh) : Bool := !decide (ofN h.u h.m = 4)
def isMid (h : Gh) : Bool := !decide (ofN h.u h.m = 0) && !decide (ofN h.u h.m = 4)
/-- Who is best, and worst: as the code searches a list by rising numbers, and as the document searches any list. -/
def bestC (L : List Gh) : Option Gh := minOf notFull (fun h b => decide (free h < free b)) L
def worstC (L : List Gh) : Option Gh := minOf isMid (fun h b => decide (h.u ≤ b.u)) L
def bestD (L : List Gh) : Option Gh := minOf notFull (lexG free Gh.n) L
def worstD (L : List Gh) : Option Gh := minOf isMid (lexG Gh.u fun h => -h.n) L
theorem pairwise_all {α : Type} {R : α → α → Prop} (h : ∀ a b, R a b) : ∀ L : List α, L.Pairwise R
  | [] => List.Pairwise.nil
  | _ :: L => List.pairwise_cons.2 ⟨fun _ _ => h _ _, pairwise_all h L⟩
theorem isBestD (L : List Gh) : IsMin notFull free Gh.n L (bestD L) := isMin_of (pairwise_all (fun _ _ => rfl) L)
theorem isWorstD (L : List Gh) : IsMin isMid Gh.u (fun h => -h.n) L (worstD L) := isMin_of (pairwise_all (fun _ _ => rfl) L)
theorem best_doc {L : List Gh} (h : Gok L) : bestC (srt L) = bestD L := by
  refine IsMin.one h (IsMin.perm (isMin_of ((srt_lt h).imp fun {b x} hb => ?_)) (srt_perm L)) (isBestD L) (fun _ _ _ _ e => e)
  unfold lexG
  have e : decide (x.n < b.n) = false := decide_eq_false (by omega)
  rw [e, Bool.and_false, Bool.or_false]
theorem worst_doc {L : List Gh} (h : Gok L) : worstC (srt L) = worstD L := by
  refine IsMin.one h (IsMin.perm (isMin_of ((srt_lt h).imp fun {b x} hb => ?_)) (srt_perm L)) (isWorstD L) (fun _ _ _ _ e => by omega)
  unfold lexG
  have e : decide (-x.n < -b.n) = true := decide_eq_true (by omega)
  rw [e, Bool.and_true, ← Bool.decide_or, decide_eq_decide]
  omega

/-- How many are free in all, and how many are as full. -/
def roomG : List Gh → Int
  | [] => 0
  | h :: L => free h + roomG L
def cntG (g : Int) (L : List Gh) : Nat := L.countP fun h => decide (ofN h.u h.m = g)
theorem roomG_app : ∀ (L M : List Gh), roomG (L ++ M) = roomG L + roomG M
  | [], M => by simp [roomG]
  | h :: L, M => by simp [roomG, roomG_app L M]; omega
theorem roomG_perm {L M : List Gh} (h : L.Perm M) : roomG L = roomG M := by
  induction h with
  | nil => rfl
  | cons x _ ih => simp [roomG, ih]
  | swap x y l => simp [roomG]; omega
  | trans _ _ ih1 ih2 => exact ih1.trans ih2
theorem roomG_take {L : List Gh} {k : Nat} {h : Gh} (hk : L[k]? = some h) : roomG (L.take (k + 1)) = roomG (L.take k) + free h := by
  rw [List.take_add_one, hk, roomG_app]
  simp [roomG]
theorem roomG_bound : ∀ {L : List Gh}, (∀ h ∈ L, 0 ≤ h.u ∧ h.u ≤ h.m ∧ h.m ≤ 100000000) → 0 ≤ roomG L ∧ roomG L ≤ 100000000 * (L.length : Int)
  | [], _ => by simp [roomG]
  | h :: L, H => by
    have h1 := roomG_bound (L := L) fun x hx => H x (List.mem_cons_of_mem _ hx)
    have h2 := H h (by simp)
    rw [List.length_cons]
    unfold roomG free
    omega
theorem cntG_take {L : List Gh} {k : Nat} {h : Gh} (g : Int) (hk : L[k]? = some h) : cntG g (L.take (k + 1)) = cntG g (L.take k) + (if ofN h.u h.m = g then 1 else 0) := by
  unfold cntG
  rw [List.take_add_one, hk, List.countP_append]
  congr 1
  simp [List.countP_cons]
theorem cntG_perm {L M : List Gh} (g : Int) (h : L.Perm M) : cntG g L = cntG g M := h.countP_eq _
theorem cntG_le (g : Int) (L : List Gh) : cntG g L ≤ L.length := List.countP_le_length
theorem cntG_all (L : List Gh) : cntG 0 L + cntG 1 L + cntG 2 L + cntG 3 L + cntG 4 L = L.length := by
  unfold cntG
  induction L with
  | nil => rfl
  | cons h L ih =>
    have hr := ofN_range h.u h.m
    simp only [List.countP_cons, List.length_cons, decide_eq_true_eq]
    have : ofN h.u h.m = 0 ∨ ofN h.u h.m = 1 ∨ ofN h.u h.m = 2 ∨ ofN h.u h.m = 3 ∨ ofN h.u h.m = 4 := by omega
    rcases this with e | e | e | e | e <;> rw [e] <;> simp <;> omega
end Go.Proofs.Ythjacjckobkhmaa
