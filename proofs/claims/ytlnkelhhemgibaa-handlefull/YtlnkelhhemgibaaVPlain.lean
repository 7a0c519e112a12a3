/- Places by handles: plain facts. -/
import Derived.Test.YtlnkelhhemgibaaGKit
namespace Go.Proofs.Ytlnkelhhemgibaa

/-- A place: a zspage, an object, how many bytes. -/
structure Pl where
  p : Int
  o : Int
  l : Int
def zP : Pl := ⟨0, 0, 0⟩
theorem Pl.same {x y : Pl} (h1 : x.p = y.p) (h2 : x.o = y.o) (h3 : x.l = y.l) : x = y := by
  cases x; cases y
  simp only at h1 h2 h3
  rw [h1, h2, h3]
/-- May it be? -/
def mayP (x : Pl) : Bool := decide (0 ≤ x.p ∧ x.p < 4096 ∧ 0 ≤ x.o ∧ x.o < 256 ∧ 1 ≤ x.l ∧ x.l ≤ 4096)
theorem mayP_iff {x : Pl} : mayP x = true ↔ 0 ≤ x.p ∧ x.p < 4096 ∧ 0 ≤ x.o ∧ x.o < 256 ∧ 1 ≤ x.l ∧ x.l ≤ 4096 := decide_eq_true_iff
theorem mayP_not {x : Pl} (h : ¬ (0 ≤ x.p ∧ x.p < 4096 ∧ 0 ≤ x.o ∧ x.o < 256 ∧ 1 ≤ x.l ∧ x.l ≤ 4096)) : mayP x = false := decide_eq_false h
def sameP (x y : Pl) : Bool := x.p == y.p && (x.o == y.o && x.l == y.l)
theorem sameP_iff {x y : Pl} : sameP x y = true ↔ x = y := by
  unfold sameP
  rw [Bool.and_eq_true, Bool.and_eq_true, beq_iff_eq, beq_iff_eq, beq_iff_eq]
  exact ⟨fun ⟨h1, h2, h3⟩ => Pl.same h1 h2 h3, fun h => by rw [h]; exact ⟨rfl, rfl, rfl⟩⟩
theorem sameP_not {x y : Pl} (h : x ≠ y) : sameP x y = false := by
  cases e : sameP x y with
  | false => rfl
  | true => exact absurd (sameP_iff.1 e) h
/-- Is it in use? -/
def isU (x : Pl) : Bool := !sameP x zP
theorem isU_iff {x : Pl} : isU x = true ↔ x ≠ zP := by
  unfold isU
  rw [Bool.not_eq_true', ← Bool.not_eq_true, sameP_iff]
theorem isU_not {x : Pl} : isU x = false ↔ x = zP := by
  unfold isU
  rw [Bool.not_eq_false', sameP_iff]
theorem may_used {x : Pl} (h : mayP x = true) : x ≠ zP := by
  rintro rfl
  have := mayP_iff.1 h
  simp [zP] at this

/-- What handles stand for. -/
structure TOk (T : Int → Pl) : Prop where
  out : ∀ h, (h < 1 ∨ 512 < h) → T h = zP
  may : ∀ h, T h = zP ∨ mayP (T h) = true
def noT : Int → Pl := fun _ => zP
theorem noT_ok : TOk noT := ⟨fun _ _ => rfl, fun _ => .inl rfl⟩
def putT (T : Int → Pl) (h : Int) (x : Pl) : Int → Pl := fun i => if i = h then x else T i
theorem putT_same (T : Int → Pl) (h : Int) (x : Pl) : putT T h x h = x := if_pos rfl
theorem putT_other {T : Int → Pl} {h i : Int} (x : Pl) (hi : i ≠ h) : putT T h x i = T i := if_neg hi
theorem TOk.put {T : Int → Pl} (h : TOk T) {n : Int} {x : Pl} (hn : 1 ≤ n ∧ n ≤ 512) (hx : x = zP ∨ mayP x = true) : TOk (putT T n x) := by
  refine ⟨fun i hi => ?_, fun i => ?_⟩
  · rw [putT_other x (by omega)]
    exact h.out i hi
  · by_cases e : i = n
    · subst e
      rw [putT_same]
      exact hx
    · rw [putT_other x e]
      exact h.may i
theorem TOk.used {T : Int → Pl} (h : TOk T) {n : Int} (hn : T n ≠ zP) : 1 ≤ n ∧ n ≤ 512 := by
  by_cases h1 : n < 1 ∨ 512 < n
  · exact absurd (h.out n h1) hn
  · omega
theorem TOk.bound {T : Int → Pl} (h : TOk T) (n : Int) : 0 ≤ (T n).p ∧ (T n).p < 4096 ∧ 0 ≤ (T n).o ∧ (T n).o < 256 ∧ 0 ≤ (T n).l ∧ (T n).l ≤ 4096 := by
  rcases h.may n with e | e
  · rw [e]; simp [zP]
  · have := mayP_iff.1 e; omega
/-- The least handle that isn't in use. -/
structure IsFree (T : Int → Pl) (n : Nat) : Prop where
  lo : 1 ≤ n
  hi : n ≤ 512
  at_ : T n = zP
  less : ∀ j : Nat, 1 ≤ j → j < n → T j ≠ zP
def Full (T : Int → Pl) : Prop := ∀ j : Nat, 1 ≤ j → j ≤ 512 → T j ≠ zP
theorem free_upto (T : Int → Pl) : ∀ m : Nat, m ≤ 512 → (∀ j : Nat, 1 ≤ j → j ≤ m → T j ≠ zP) ∨ ∃ n, IsFree T n
  | 0, _ => .inl fun j h1 h2 => by omega
  | m + 1, h => by
    rcases free_upto T m (by omega) with h1 | h1
    · by_cases e : T ((m + 1 : Nat) : Int) = zP
      · exact .inr ⟨m + 1, by omega, h, e, fun j h2 h3 => h1 j h2 (by omega)⟩
      · left
        intro j h2 h3
        by_cases hj : j = m + 1
        · rw [hj]; exact e
        · exact h1 j h2 (by omega)
    · exact .inr h1
theorem free_or_full (T : Int → Pl) : Full T ∨ ∃ n, IsFree T n := free_upto T 512 (Nat.le_refl _)

/-- Which of the first s are. -/
theorem filter_skip {f : Nat → Bool} {s : Nat} : ∀ {x : Nat}, s ≤ x → (∀ j, s ≤ j → j < x → f j = false) → (List.range x).filter f = (List.range s).filter f
  | 0, h, _ => by rw [Nat.le_zero.1 h]
  | x + 1, h, hn => by
    by_cases e : s = x + 1
    · rw [e]
    · rw [List.range_succ, List.filter_append, filter_skip (x := x) (by omega) (fun j h1 h2 => hn j h1 (by omega))]
      simp [hn x (by omega) (by omega)]
theorem filter_one {f : Nat → Bool} (x : Nat) : (List.range (x + 1)).filter f = (List.range x).filter f ++ (if f x then [x] else []) := by
  rw [List.range_succ, List.filter_append]
  cases h : f x <;> simp [h]
def usedF (T : Int → Pl) (j : Nat) : Bool := isU (T j)
def cntT (T : Int → Pl) (s : Nat) : Nat := ((List.range s).filter (usedF T)).length
def inF (T : Int → Pl) (pg : Int) (j : Nat) : Bool := isU (T j) && ((T j).p == pg)
def ofT (T : Int → Pl) (pg : Int) (s : Nat) : List Nat := (List.range s).filter (inF T pg)
theorem filter_le (f : Nat → Bool) (s : Nat) : ((List.range s).filter f).length ≤ s := Nat.le_trans (List.length_filter_le _ _) (by simp)
theorem cnt_le (T : Int → Pl) (s : Nat) : cntT T s ≤ s := filter_le _ s
theorem of_le (T : Int → Pl) (pg : Int) (s : Nat) : (ofT T pg s).length ≤ s := filter_le _ s
theorem cnt_zero (T : Int → Pl) : cntT T 0 = 0 := rfl
theorem of_zero (T : Int → Pl) (pg : Int) : ofT T pg 0 = [] := rfl
/-- None is in use from s to x. -/
def Gap (T : Int → Pl) (s x : Nat) : Prop := ∀ j : Nat, s ≤ j → j < x → T j = zP
theorem Gap.cnt {T : Int → Pl} {s x : Nat} (h : Gap T s x) (hs : s ≤ x) : cntT T x = cntT T s := by
  unfold cntT
  rw [filter_skip (f := usedF T) hs fun j h1 h2 => isU_not.2 (h j h1 h2)]
theorem Gap.of {T : Int → Pl} {s x : Nat} (h : Gap T s x) (hs : s ≤ x) (pg : Int) : ofT T pg x = ofT T pg s := by
  unfold ofT
  rw [filter_skip (f := inF T pg) hs fun j h1 h2 => by unfold inF; rw [isU_not.2 (h j h1 h2)]; rfl]
theorem cnt_used {T : Int → Pl} {s x : Nat} (h : Gap T s x) (hs : s ≤ x) (hx : T x ≠ zP) : cntT T (x + 1) = cntT T s + 1 := by
  have e := h.cnt hs
  unfold cntT at e ⊢
  have hu : usedF T x = true := isU_iff.2 hx
  rw [filter_one, List.length_append, e, if_pos hu]
  rfl
theorem of_in {T : Int → Pl} {s x : Nat} {pg : Int} (h : Gap T s x) (hs : s ≤ x) (hx : T x ≠ zP) (hp : (T x).p = pg) : ofT T pg (x + 1) = ofT T pg s ++ [x] := by
  have e := h.of hs pg
  unfold ofT at e ⊢
  have hu : inF T pg x = true := by unfold inF; rw [isU_iff.2 hx, hp]; simp
  rw [filter_one, e, if_pos hu]
theorem of_out {T : Int → Pl} {s x : Nat} {pg : Int} (h : Gap T s x) (hs : s ≤ x) (hp : (T x).p ≠ pg) : ofT T pg (x + 1) = ofT T pg s := by
  have e := h.of hs pg
  unfold ofT at e ⊢
  have hu : inF T pg x = false := by unfold inF; rw [beq_eq_false_iff_ne.2 hp]; simp
  rw [filter_one, e, hu]
  simp
theorem cnt_no (s : Nat) : cntT noT s = 0 := by
  have h : Gap noT 0 s := fun _ _ _ => rfl
  rw [h.cnt (Nat.zero_le _)]
  rfl
theorem of_no (pg : Int) (s : Nat) : ofT noT pg s = [] := by
  have h : Gap noT 0 s := fun _ _ _ => rfl
  rw [h.of (Nat.zero_le _)]
  rfl

/-- A handle in use, as the document has it. -/
structure Hd where
  h : Int
  q : Pl
def hasD (X : List Hd) (n : Int) : Bool := X.any fun e => decide (e.h = n)
/-- The document's list beside what handles stand for. -/
structure Rel (T : Int → Pl) (X : List Hd) : Prop where
  nd : (X.map Hd.h).Nodup
  mem : ∀ h q, (⟨h, q⟩ : Hd) ∈ X ↔ T h = q ∧ q ≠ zP
theorem rel_nil : Rel noT [] := ⟨List.nodup_nil, fun h q => ⟨fun h1 => (by cases h1), fun ⟨h1, h2⟩ => absurd h1.symm h2⟩⟩
theorem Rel.at {T : Int → Pl} {X : List Hd} (h : Rel T X) {e : Hd} (he : e ∈ X) : T e.h = e.q ∧ e.q ≠ zP := (h.mem e.h e.q).1 he
theorem hasD_iff {X : List Hd} {n : Int} : hasD X n = true ↔ ∃ e ∈ X, e.h = n := by
  unfold hasD
  rw [List.any_eq_true]
  exact ⟨fun ⟨e, h1, h2⟩ => ⟨e, h1, of_decide_eq_true h2⟩, fun ⟨e, h1, h2⟩ => ⟨e, h1, decide_eq_true h2⟩⟩
theorem Rel.has {T : Int → Pl} {X : List Hd} (h : Rel T X) (n : Int) : hasD X n = isU (T n) := by
  cases e : isU (T n) with
  | true =>
    rw [hasD_iff]
    exact ⟨⟨n, T n⟩, (h.mem n (T n)).2 ⟨rfl, isU_iff.1 e⟩, rfl⟩
  | false =>
    cases e2 : hasD X n with
    | false => rfl
    | true =>
      obtain ⟨x, h1, rfl⟩ := hasD_iff.1 e2
      have h2 := h.at h1
      rw [isU_not] at e
      exact absurd (h2.1.symm.trans e) h2.2
theorem Rel.put {T : Int → Pl} {X : List Hd} (h : Rel T X) {n : Int} {x : Pl} (hn : T n = zP) (hx : x ≠ zP) : Rel (putT T n x) (X ++ [⟨n, x⟩]) := by
  have hno : ∀ e ∈ X, e.h ≠ n := fun e he en => by
    have h1 := h.at he
    rw [en, hn] at h1
    exact h1.2 h1.1.symm
  refine ⟨?_, fun k q => ?_⟩
  · rw [List.map_append, List.nodup_append]
    refine ⟨h.nd, by simp, fun a ha b hb => ?_⟩
    obtain ⟨e, he, rfl⟩ := List.mem_map.1 ha
    obtain rfl : b = n := by simpa using hb
    exact hno e he
  · rw [List.mem_append, h.mem, List.mem_singleton]
    by_cases e : k = n
    · subst e
      rw [putT_same, hn]
      constructor
      · rintro (⟨h1, h2⟩ | h1)
        · exact absurd h1.symm h2
        · cases h1; exact ⟨rfl, hx⟩
      · rintro ⟨rfl, _⟩; exact .inr rfl
    · rw [putT_other x e]
      exact ⟨fun h1 => h1.elim id fun h2 => absurd (congrArg Hd.h h2) e, .inl⟩
theorem Rel.idx {T : Int → Pl} {X : List Hd} (h : Rel T X) {i j : Nat} {a b : Hd} (hi : X[i]? = some a) (hj : X[j]? = some b) (e : a.h = b.h) : i = j := by
  have hi2 := (List.getElem?_eq_some_iff.1 hi).1
  have hj2 := (List.getElem?_eq_some_iff.1 hj).1
  have hp := List.pairwise_iff_getElem.1 h.nd
  obtain ⟨_, rfl⟩ := List.getElem?_eq_some_iff.1 hi
  obtain ⟨_, rfl⟩ := List.getElem?_eq_some_iff.1 hj
  rcases Nat.lt_trichotomy i j with h1 | h1 | h1
  · exact absurd (by rw [List.getElem_map, List.getElem_map]; exact e) (hp i j (by simpa using hi2) (by simpa using hj2) h1)
  · exact h1
  · exact absurd (by rw [List.getElem_map, List.getElem_map]; exact e.symm) (hp j i (by simpa using hj2) (by simpa using hi2) h1)
theorem Rel.set {T : Int → Pl} {X : List Hd} (h : Rel T X) {k : Nat} {n : Int} {e : Hd} {x : Pl} (hk : X[k]? = some e) (hn : e.h = n) (hx : x ≠ zP) : Rel (putT T n x) (X.set k ⟨n, x⟩) := by
  have hkl := (List.getElem?_eq_some_iff.1 hk).1
  refine ⟨?_, fun i q => ?_⟩
  · have e1 : (X.set k ⟨n, x⟩).map Hd.h = X.map Hd.h := by
      rw [List.map_set]
      refine List.ext_getElem? fun j => ?_
      by_cases hj : k = j
      · subst hj
        rw [List.getElem?_set_self (by simpa using hkl), List.getElem?_map, hk]
        simp [hn]
      · rw [List.getElem?_set_ne hj]
    rw [e1]; exact h.nd
  · constructor
    · intro hm
      obtain ⟨j, hj⟩ := List.getElem?_of_mem hm
      by_cases e1 : k = j
      · subst e1
        rw [List.getElem?_set_self hkl] at hj
        cases hj
        exact ⟨putT_same _ _ _, hx⟩
      · rw [List.getElem?_set_ne e1] at hj
        have h1 := h.at (List.mem_of_getElem? hj)
        have hne : i ≠ n := fun e2 => e1 (h.idx hk hj (by rw [hn]; exact e2.symm))
        rw [putT_other x hne]
        exact h1
    · rintro ⟨h1, h2⟩
      by_cases e1 : i = n
      · subst e1
        rw [putT_same] at h1
        rw [← h1]
        exact List.mem_of_getElem? (List.getElem?_set_self hkl)
      · rw [putT_other x e1] at h1
        obtain ⟨j, hj⟩ := List.getElem?_of_mem ((h.mem i q).2 ⟨h1, h2⟩)
        have hne : k ≠ j := fun e2 => e1 (by rw [← e2, hk] at hj; cases hj; exact hn)
        exact List.mem_of_getElem? ((List.getElem?_set_ne hne).trans hj)
theorem Rel.drop {T : Int → Pl} {X : List Hd} (h : Rel T X) {k : Nat} {n : Int} {e : Hd} (hk : X[k]? = some e) (hn : e.h = n) : Rel (putT T n zP) (X.take k ++ X.drop (k + 1)) := by
  rw [← List.eraseIdx_eq_take_drop_succ]
  have hkl := (List.getElem?_eq_some_iff.1 hk).1
  refine ⟨?_, fun i q => ?_⟩
  · exact List.Sublist.nodup ((List.eraseIdx_sublist X k).map Hd.h) h.nd
  · rw [List.mem_eraseIdx_iff_getElem?]
    constructor
    · rintro ⟨j, hj, hq⟩
      have h1 := h.at (List.mem_of_getElem? hq)
      have hne : i ≠ n := fun e2 => hj ((h.idx hk hq (by rw [hn]; exact e2.symm)).symm)
      rw [putT_other _ hne]
      exact h1
    · rintro ⟨h1, h2⟩
      by_cases e1 : i = n
      · subst e1
        rw [putT_same] at h1
        exact absurd h1.symm h2
      · rw [putT_other _ e1] at h1
        obtain ⟨j, hj⟩ := List.getElem?_of_mem ((h.mem i q).2 ⟨h1, h2⟩)
        refine ⟨j, fun e2 => e1 ?_, hj⟩
        rw [e2, hk] at hj
        cases hj
        exact hn
theorem Rel.cnt {T : Int → Pl} {X : List Hd} (h : Rel T X) (hT : TOk T) : cntT T 513 = X.length := by
  have hp : (((List.range 513).filter (usedF T)).map Int.ofNat).Perm (X.map Hd.h) := by
    refine (List.perm_ext_iff_of_nodup ?_ h.nd).2 fun a => ?_
    · exact List.pairwise_map.2 ((List.nodup_range.filter _).imp fun {a b} e e2 => e (Int.ofNat.inj e2))
    · rw [List.mem_map, List.mem_map]
      constructor
      · rintro ⟨j, hj, rfl⟩
        have h1 := (List.mem_filter.1 hj).2
        exact ⟨⟨j, T j⟩, (h.mem _ _).2 ⟨rfl, isU_iff.1 h1⟩, rfl⟩
      · rintro ⟨e, he, rfl⟩
        have h1 := h.at he
        have h2 := hT.used (n := e.h) (by rw [h1.1]; exact h1.2)
        refine ⟨e.h.toNat, List.mem_filter.2 ⟨List.mem_range.2 (by omega), ?_⟩, by simp; omega⟩
        unfold usedF
        rw [show ((e.h.toNat : Nat) : Int) = e.h by omega]
        exact isU_iff.2 (by rw [h1.1]; exact h1.2)
  have := hp.length_eq
  rw [List.length_map, List.length_map] at this
  exact this
/-- The place of a handle; -1: it isn't in use. -/
structure PlaceD (X : List Hd) (n x : Int) : Prop where
  yes : 0 ≤ x → ∃ (k : Nat) (e : Hd), x = k ∧ X[k]? = some e ∧ e.h = n
  no : x < 0 → x = -1 ∧ hasD X n = false
  le : x ≤ X.length
theorem PlaceD.used {T : Int → Pl} {X : List Hd} {n x : Int} (h : PlaceD X n x) (hR : Rel T X) : isU (T n) = decide (0 ≤ x) := by
  rw [← hR.has]
  by_cases hx : 0 ≤ x
  · obtain ⟨k, e, _, h1, h2⟩ := h.yes hx
    rw [decide_eq_true hx, hasD_iff]
    exact ⟨e, List.mem_of_getElem? h1, h2⟩
  · rw [decide_eq_false hx]
    exact (h.no (by omega)).2
/-- The least that isn't in the list is the least that isn't in use. -/
structure FirstD (X : List Hd) (n : Nat) : Prop where
  lo : 1 ≤ n
  at_ : hasD X n = false
  less : ∀ j : Nat, 1 ≤ j → j < n → hasD X j = true
theorem FirstD.free {T : Int → Pl} {X : List Hd} {n : Nat} (h : FirstD X n) (hR : Rel T X) (hn : n ≤ 512) : IsFree T n :=
  ⟨h.lo, hn, isU_not.1 (by rw [← hR.has]; exact h.at_), fun j h1 h2 => isU_iff.1 (by rw [← hR.has]; exact h.less j h1 h2)⟩
theorem nodup_sub : ∀ (a b : List Int), a.Nodup → (∀ k ∈ a, k ∈ b) → a.length ≤ b.length
  | [], _, _, _ => Nat.zero_le _
  | k :: a, b, hn, h => by
    rw [List.nodup_cons] at hn
    have h1 := nodup_sub a (b.erase k) hn.2 (fun j hj => (List.mem_erase_of_ne (fun e => hn.1 (by rw [← e]; exact hj))).2 (h j (by simp [hj])))
    have h2 : k ∈ b := h k (by simp)
    have h3 := List.length_erase_of_mem h2
    have h4 := List.length_pos_of_mem h2
    rw [List.length_cons]
    omega
theorem upto_len {X : List Hd} : ∀ {n : Nat}, (∀ j : Nat, 1 ≤ j → j < n → hasD X j = true) → n ≤ X.length + 1 := by
  intro n h
  have h1 : (((List.range (n - 1)).map fun j => ((j + 1 : Nat) : Int))).Nodup := List.pairwise_map.2 ((List.nodup_range (n := n - 1)).imp fun {a b} e e2 => e (by have : ((a + 1 : Nat) : Int) = ((b + 1 : Nat) : Int) := e2; omega))
  have h2 : ((List.range (n - 1)).map fun j => ((j + 1 : Nat) : Int)) ⊆ X.map Hd.h := by
    intro a ha
    obtain ⟨j, hj, rfl⟩ := List.mem_map.1 ha
    have := List.mem_range.1 hj
    obtain ⟨e, he, h3⟩ := hasD_iff.1 (h (j + 1) (by omega) (by omega))
    exact List.mem_map.2 ⟨e, he, h3⟩
  have h3 := nodup_sub _ _ h1 h2
  simp at h3
  omega
end Go.Proofs.Ytlnkelhhemgibaa
