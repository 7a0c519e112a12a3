/- Plain facts: the owners O of frames, those that are Free in S (the next one to be taken last), and when each was given back (W). -/
import Derived.Test.YteebjeifbccbnaaRows
namespace Go.Proofs.Yteebjeifbccbnaa

theorem getD_set (N : List Int) (i j : Nat) (v : Int) (hi : i < N.length) : (N.set i v).getD j 0 = if i = j then v else N.getD j 0 := by
  by_cases h : i = j
  · subst h; simp [List.getD, hi]
  · simp [List.getD, h, List.getElem?_set_ne h]
theorem nodup_len : ∀ (m : Nat) (l : List Nat), l.Nodup → (∀ x ∈ l, x < m) → l.length ≤ m
  | 0, [], _, _ => Nat.le_refl _
  | 0, x :: _, _, h => absurd (h x (by simp)) (by omega)
  | m + 1, l, hn, h => by
    have h1 := nodup_len m (l.erase m) (hn.erase m) (fun x hx => by
      have h2 := hn.mem_erase_iff.1 hx
      have h3 := h x h2.2
      have h4 : x ≠ m := h2.1
      omega)
    rw [List.length_erase] at h1
    split at h1 <;> omega
theorem rep_getD (n a : Nat) : (List.replicate n (0 : Int)).getD a 0 = 0 := by
  rw [List.getD_eq_getElem?_getD, List.getElem?_replicate]
  split <;> rfl

structure Good (m : Nat) (O : List Int) (S : List Nat) : Prop where
  len : O.length = m
  own : ∀ i, 0 ≤ O.getD i 0 ∧ O.getD i 0 ≤ 3
  nd : S.Nodup
  mem : ∀ n, n ∈ S ↔ n < m ∧ O.getD n 0 = 0
section
variable {m : Nat} {O : List Int} {S : List Nat}
theorem Good.slen (h : Good m O S) : S.length ≤ m := nodup_len m S h.nd (fun x hx => ((h.mem x).1 hx).1)
theorem last_split {S : List Nat} (hs : 0 < S.length) : S = S.take (S.length - 1) ++ [S.getD (S.length - 1) 0] := by
  have h1 : S.length - 1 < S.length := by omega
  have e : S.take (S.length - 1 + 1) = S := by rw [List.take_of_length_le (by omega)]
  rw [← e]
  conv => lhs; rw [List.take_add_one, List.getElem?_eq_getElem h1]
  rw [e, List.getD_eq_getElem?_getD, List.getElem?_eq_getElem h1]
  rfl
theorem Good.top (h : Good m O S) (hs : 0 < S.length) : S.getD (S.length - 1) 0 < m ∧ O.getD (S.getD (S.length - 1) 0) 0 = 0 := by
  apply (h.mem _).1
  rw [List.getD_eq_getElem?_getD, List.getElem?_eq_getElem (by omega)]
  exact List.getElem_mem _
theorem Good.take (h : Good m O S) (hs : 0 < S.length) {o : Int} (h1 : 1 ≤ o) (h3 : o ≤ 3) : Good m (O.set (S.getD (S.length - 1) 0) o) (S.take (S.length - 1)) := by
  obtain ⟨hn, h0⟩ := h.top hs
  have e := last_split hs
  have nd := h.nd
  have mem := h.mem
  generalize S.getD (S.length - 1) 0 = n at *
  generalize S.take (S.length - 1) = T at *
  subst e
  have hg : ∀ j, (O.set n o).getD j 0 = if n = j then o else O.getD j 0 := fun j => getD_set _ _ _ _ (by rw [h.len]; exact hn)
  refine ⟨by simp [h.len], fun i => ?_, (List.nodup_append.1 nd).1, fun x => ?_⟩
  · rw [hg]
    split
    · omega
    · exact h.own i
  · rw [hg]
    have h2 := (List.nodup_append.1 nd).2.2
    have h4 := mem x
    simp only [List.mem_append, List.mem_singleton] at h4
    constructor
    · intro hx
      have h5 := h4.1 (.inl hx)
      have h6 : x ≠ n := h2 x hx n (by simp)
      rw [if_neg (Ne.symm h6)]
      exact h5
    · rintro ⟨h5, h6⟩
      by_cases e : n = x
      · rw [if_pos e] at h6; omega
      · rw [if_neg e] at h6
        rcases h4.2 ⟨h5, h6⟩ with h7 | h7
        · exact h7
        · exact absurd h7.symm e
theorem Good.give (h : Good m O S) {n : Nat} (hn : n < m) (h0 : O.getD n 0 ≠ 0) : Good m (O.set n 0) (S ++ [n]) ∧ S.length < m := by
  have hno : n ∉ S := fun hx => h0 ((h.mem n).1 hx).2
  have hg : ∀ j, (O.set n 0).getD j 0 = if n = j then 0 else O.getD j 0 := fun j => getD_set _ _ _ _ (by rw [h.len]; exact hn)
  have G : Good m (O.set n 0) (S ++ [n]) := by
    refine ⟨by simp [h.len], fun i => ?_, ?_, fun x => ?_⟩
    · rw [hg]
      split
      · omega
      · exact h.own i
    · rw [List.nodup_append]
      refine ⟨h.nd, by simp, ?_⟩
      intro a ha b hb e
      simp at hb
      subst hb e
      exact hno ha
    · rw [hg, List.mem_append, List.mem_singleton, h.mem]
      by_cases e : n = x
      · subst e; simp [hn]
      · rw [if_neg e]
        exact ⟨fun h1 => h1.elim id (fun h2 => absurd h2.symm e), .inl⟩
  refine ⟨G, ?_⟩
  have := G.slen
  simp at this
  omega
end
def down (m : Nat) : List Nat := (List.range m).map fun i => m - 1 - i
theorem down_len (m : Nat) : (down m).length = m := by simp [down]
theorem down_at {m i : Nat} (hi : i < m) : (down m).getD i 0 = m - 1 - i := by
  simp [down, List.getD, hi]
theorem Good.start (m : Nat) : Good m (List.replicate m 0) (down m) := by
  refine ⟨by simp, fun i => by rw [rep_getD]; omega, ?_, fun n => ?_⟩
  · unfold down
    rw [List.nodup_iff_pairwise_ne, List.pairwise_map]
    refine List.Pairwise.imp_of_mem ?_ (List.pairwise_lt_range (n := m))
    intro a b ha hb hab
    simp at ha hb
    omega
  · rw [rep_getD]
    simp only [down, List.mem_map, List.mem_range, and_true]
    constructor
    · rintro ⟨a, ha, rfl⟩; omega
    · intro hn; exact ⟨m - 1 - n, by omega, by omega⟩

/-- What a take for o does. -/
def tkB (S : List Nat) (o : Int) : Bool := decide (0 < S.length ∧ 1 ≤ o ∧ o ≤ 3)
def tkN (S : List Nat) (o : Int) : Nat := if tkB S o then S.getD (S.length - 1) 0 else 0
def tkO (O : List Int) (S : List Nat) (o : Int) : List Int := if tkB S o then O.set (S.getD (S.length - 1) 0) o else O
def tkS (S : List Nat) (o : Int) : List Nat := if tkB S o then S.take (S.length - 1) else S
def up (t : Nat) (b : Bool) : Nat := if b then t + 1 else t
/-- Whose frame n is. -/
def ownI (O : List Int) (n : Int) : Int := if 0 ≤ n then O.getD n.toNat 0 else 0
/-- What a give of n does. -/
def gvB (O : List Int) (n : Int) : Bool := decide (ownI O n ≠ 0)
def gvO (O : List Int) (n : Int) : List Int := if gvB O n then O.set n.toNat 0 else O
def gvS (O : List Int) (S : List Nat) (n : Int) : List Nat := if gvB O n then S ++ [n.toNat] else S
section
variable {m : Nat} {O : List Int} {S : List Nat}
theorem tk_yes {o : Int} (hs : 0 < S.length) (h1 : 1 ≤ o) (h3 : o ≤ 3) : tkB S o = true := by simp [tkB, hs, h1, h3]
theorem tk_no {o : Int} (h : ¬ (0 < S.length ∧ 1 ≤ o ∧ o ≤ 3)) : tkB S o = false := decide_eq_false h
theorem tk_of {o : Int} (h : tkB S o = true) : 0 < S.length ∧ 1 ≤ o ∧ o ≤ 3 := of_decide_eq_true h
theorem tk_not {o : Int} (h : tkB S o = false) : ¬ (0 < S.length ∧ 1 ≤ o ∧ o ≤ 3) := of_decide_eq_false h
theorem Good.tk (h : Good m O S) (o : Int) : Good m (tkO O S o) (tkS S o) := by
  unfold tkO tkS
  cases e : tkB S o with
  | false => exact h
  | true => obtain ⟨h1, h2, h3⟩ := tk_of e; exact h.take h1 h2 h3
theorem ownI_nat (n : Nat) : ownI O (n : Int) = O.getD n 0 := by rw [ownI, if_pos (by omega)]; rfl
theorem ownI_neg {n : Int} (h : n < 0) : ownI O n = 0 := by rw [ownI, if_neg (by omega)]
theorem ownI_far {n : Int} (h : (O.length : Int) ≤ n) : ownI O n = 0 := by
  unfold ownI
  split
  · rw [List.getD_eq_getElem?_getD, List.getElem?_eq_none (by omega)]; rfl
  · rfl
theorem gv_of {n : Int} (h : gvB O n = true) : ∃ k : Nat, n = k ∧ k < O.length ∧ O.getD k 0 ≠ 0 := by
  have h1 : ownI O n ≠ 0 := of_decide_eq_true h
  by_cases h2 : n < 0
  · exact absurd (ownI_neg h2) h1
  · obtain ⟨k, rfl⟩ := Int.eq_ofNat_of_zero_le (show 0 ≤ n by omega)
    rw [ownI_nat] at h1
    by_cases h3 : k < O.length
    · exact ⟨k, rfl, h3, h1⟩
    · exact absurd (by rw [List.getD_eq_getElem?_getD, List.getElem?_eq_none (by omega)]; rfl) h1
theorem gv_yes {k : Nat} (h : O.getD k 0 ≠ 0) : gvB O (k : Int) = true := by
  unfold gvB; rw [ownI_nat]; exact decide_eq_true h
theorem gv_no {n : Int} (h : ownI O n = 0) : gvB O n = false := decide_eq_false (by rw [h]; simp)
theorem gv_not {n : Int} (h : gvB O n = false) : ownI O n = 0 := by
  have := of_decide_eq_false h
  omega
theorem Good.gv (h : Good m O S) (n : Int) : Good m (gvO O n) (gvS O S n) := by
  unfold gvO gvS
  cases e : gvB O n with
  | false => exact h
  | true =>
    obtain ⟨k, rfl, hk, h0⟩ := gv_of e
    exact (h.give (by rw [← h.len]; exact hk) h0).1
end

/-- The frames of o, up to k. -/
def ofTo (O : List Int) (o : Int) (k : Nat) : List Nat := (List.range k).filter fun i => decide (O.getD i 0 = o)
def ofL (O : List Int) (o : Int) : List Nat := ofTo O o O.length
theorem ofTo_yes {O : List Int} {o : Int} {k : Nat} (h : O.getD k 0 = o) : ofTo O o (k + 1) = ofTo O o k ++ [k] := by
  unfold ofTo; rw [List.range_succ, List.filter_append]; congr 1; simp only [List.filter, decide_eq_true h]
theorem ofTo_no {O : List Int} {o : Int} {k : Nat} (h : ¬ O.getD k 0 = o) : ofTo O o (k + 1) = ofTo O o k := by
  unfold ofTo; rw [List.range_succ, List.filter_append]; simp only [List.filter, decide_eq_false h, List.append_nil]
theorem ofTo_le (O : List Int) (o : Int) (k : Nat) : (ofTo O o k).length ≤ k := by
  unfold ofTo; refine Nat.le_trans (List.length_filter_le _ _) ?_; simp
/-- How many frames, up to k, are of any of zs. -/
def cntTo (O : List Int) (zs : List Int) (k : Nat) : Nat := ((List.range k).filter fun i => decide (O.getD i 0 ∈ zs)).length
def cnt (O : List Int) (zs : List Int) : Nat := cntTo O zs O.length
theorem cntTo_yes {O zs : List Int} {k : Nat} (h : O.getD k 0 ∈ zs) : cntTo O zs (k + 1) = cntTo O zs k + 1 := by
  unfold cntTo; rw [List.range_succ, List.filter_append, List.length_append]; simp only [List.filter, decide_eq_true h, List.length_singleton]
theorem cntTo_no {O zs : List Int} {k : Nat} (h : ¬ O.getD k 0 ∈ zs) : cntTo O zs (k + 1) = cntTo O zs k := by
  unfold cntTo; rw [List.range_succ, List.filter_append]; simp only [List.filter, decide_eq_false h, List.append_nil]
theorem cntTo_le (O zs : List Int) (k : Nat) : cntTo O zs k ≤ k := by
  unfold cntTo; refine Nat.le_trans (List.length_filter_le _ _) ?_; simp
theorem cnt_two (O : List Int) (o : Int) : cnt O [o, o] = (ofL O o).length := by
  unfold cnt cntTo ofL ofTo
  congr 2
  funext i
  simp
theorem cnt_one (O : List Int) (o : Int) : cnt O [o] = (ofL O o).length := by
  unfold cnt cntTo ofL ofTo
  congr 2
  funext i
  simp
theorem cnt_none (O : List Int) : cnt O [] = 0 := by simp [cnt, cntTo]
theorem Good.cnt_all {m : Nat} {O : List Int} {S : List Nat} (h : Good m O S) : cnt O [0, 1, 2, 3] = m := by
  unfold cnt cntTo
  rw [List.filter_eq_self.2, List.length_range, h.len]
  intro i _
  have := h.own i
  generalize O.getD i 0 = z at *
  simp
  omega
theorem Good.cnt_free {m : Nat} {O : List Int} {S : List Nat} (h : Good m O S) : cnt O [0] = S.length := by
  rw [cnt_one]
  apply List.Perm.length_eq
  unfold ofL ofTo
  rw [List.perm_ext_iff_of_nodup (List.nodup_range.sublist List.filter_sublist) h.nd]
  intro n
  rw [h.mem]
  simp [h.len]

/-- W says when each was given back: those that are Free stand in S in that order. -/
structure Dated (m : Nat) (S : List Nat) (W : List Int) (now : Nat) : Prop where
  len : W.length = m
  le : ∀ i, W.getD i 0 ≤ now
  pw : S.Pairwise (fun a b => W.getD a 0 < W.getD b 0)
def dates (m k : Nat) : List Int := (List.range k).map fun i : Nat => (m : Int) - (i : Int)
theorem dates_at {m k i : Nat} (hi : i < k) : (dates m k).getD i 0 = (m : Int) - (i : Int) := by simp [dates, List.getD, hi]
theorem dates_succ (m k : Nat) : dates m (k + 1) = dates m k ++ [(m : Int) - (k : Int)] := by simp [dates, List.range_succ]
theorem dates_len (m k : Nat) : (dates m k).length = k := by simp [dates]
theorem Dated.start (m : Nat) : Dated m (down m) (dates m m) m := by
  refine ⟨dates_len m m, fun i => ?_, ?_⟩
  · by_cases hi : i < m
    · rw [dates_at hi]; omega
    · rw [List.getD_eq_getElem?_getD, List.getElem?_eq_none (by rw [dates_len]; omega)]; simp
  · unfold down
    rw [List.pairwise_map]
    refine List.Pairwise.imp_of_mem ?_ (List.pairwise_lt_range (n := m))
    intro a b ha hb hab
    simp at ha hb
    rw [dates_at (by omega), dates_at (by omega)]
    omega
theorem Dated.tk {m now : Nat} {S : List Nat} {W : List Int} (h : Dated m S W now) (o : Int) : Dated m (tkS S o) W now := by
  refine ⟨h.len, h.le, ?_⟩
  unfold tkS
  split
  · exact h.pw.sublist (List.take_sublist _ _)
  · exact h.pw
theorem Dated.give {m now n : Nat} {O : List Int} {S : List Nat} {W : List Int} (h : Dated m S W now) (g : Good m O S) (hn : n < m) (h0 : O.getD n 0 ≠ 0) : Dated m (S ++ [n]) (W.set n ((now : Int) + 1)) (now + 1) := by
  have hno : n ∉ S := fun hx => h0 ((g.mem n).1 hx).2
  have hg : ∀ j, (W.set n ((now : Int) + 1)).getD j 0 = if n = j then (now : Int) + 1 else W.getD j 0 := fun j => getD_set _ _ _ _ (by rw [h.len]; exact hn)
  refine ⟨by simp [h.len], fun i => ?_, ?_⟩
  · rw [hg]
    have := h.le i
    split <;> omega
  · refine List.pairwise_append.2 ⟨?_, by simp, ?_⟩
    · refine h.pw.imp_of_mem ?_
      intro a b ha hb hab
      have ea : ¬ n = a := fun e => hno (e ▸ ha)
      have eb : ¬ n = b := fun e => hno (e ▸ hb)
      rw [hg, hg, if_neg ea, if_neg eb]
      exact hab
    · intro a ha b hb
      simp at hb
      subst hb
      have ea : ¬ b = a := fun e => hno (e ▸ ha)
      rw [hg, hg, if_neg ea, if_pos rfl]
      have := h.le a
      omega
def gvW (O W : List Int) (now : Nat) (n : Int) : List Int := if gvB O n then W.set n.toNat ((now : Int) + 1) else W
theorem Dated.gv {m now : Nat} {O : List Int} {S : List Nat} {W : List Int} (h : Dated m S W now) (g : Good m O S) (n : Int) : Dated m (gvS O S n) (gvW O W now n) (up now (gvB O n)) := by
  unfold gvS gvW up
  cases e : gvB O n with
  | false => exact h
  | true =>
    obtain ⟨k, rfl, hk, h0⟩ := gv_of e
    exact h.give g (by rw [← g.len]; exact hk) h0

/-- Who was given back last of those up to k that are Free; -1 where none is. -/
def Best (O W : List Int) (k : Nat) (b : Int) : Prop :=
  (b = -1 ∧ ∀ i, i < k → O.getD i 0 ≠ 0) ∨ ∃ n : Nat, b = n ∧ n < k ∧ O.getD n 0 = 0 ∧ ∀ i, i < k → O.getD i 0 = 0 → W.getD i 0 ≤ W.getD n 0
section
variable {O W : List Int} {k : Nat} {b : Int}
theorem Best.start : Best O W 0 (-1) := .inl ⟨rfl, by intro i hi; omega⟩
theorem Best.skip (h : Best O W k b) (h0 : O.getD k 0 ≠ 0) : Best O W (k + 1) b := by
  rcases h with ⟨rfl, h1⟩ | ⟨n, rfl, hn, h1, h2⟩
  · refine .inl ⟨rfl, fun i hi => ?_⟩
    by_cases e : i = k
    · subst e; exact h0
    · exact h1 i (by omega)
  · refine .inr ⟨n, rfl, by omega, h1, fun i hi hi0 => ?_⟩
    by_cases e : i = k
    · subst e; exact absurd hi0 h0
    · exact h2 i (by omega) hi0
theorem Best.stay {n : Nat} (h : Best O W k n) (hle : W.getD k 0 ≤ W.getD n 0) : Best O W (k + 1) n := by
  rcases h with ⟨e, h1⟩ | ⟨n', e, hn, h1, h2⟩
  · omega
  · obtain rfl : n = n' := by omega
    refine .inr ⟨n, rfl, by omega, h1, fun i hi hi0 => ?_⟩
    by_cases e : i = k
    · subst e; exact hle
    · exact h2 i (by omega) hi0
theorem Best.take (h : Best O W k b) (h0 : O.getD k 0 = 0) (hb : ∀ n : Nat, b = n → W.getD n 0 < W.getD k 0) : Best O W (k + 1) k := by
  refine .inr ⟨k, rfl, by omega, h0, fun i hi hi0 => ?_⟩
  by_cases e : i = k
  · subst e; omega
  · rcases h with ⟨rfl, h1⟩ | ⟨n', rfl, hn, h1, h2⟩
    · exact absurd hi0 (h1 i (by omega))
    · have := h2 i (by omega) hi0
      have := hb n' rfl
      omega
theorem Best.range (h : Best O W k b) : b = -1 ∨ ∃ n : Nat, b = n ∧ n < k := by
  rcases h with ⟨e, _⟩ | ⟨n, e, hn, _⟩
  · exact .inl e
  · exact .inr ⟨n, e, hn⟩
theorem Best.none {S : List Nat} {m : Nat} (h : Best O W m b) (g : Good m O S) (hs : S.length = 0) : b = -1 := by
  rcases h with ⟨e, _⟩ | ⟨n, _, hn, h1, _⟩
  · exact e
  · have := (g.mem n).2 ⟨hn, h1⟩
    rw [List.eq_nil_of_length_eq_zero hs] at this
    simp at this
theorem Best.last {S : List Nat} {m now : Nat} (h : Best O W m b) (g : Good m O S) (d : Dated m S W now) (hs : 0 < S.length) : b = (S.getD (S.length - 1) 0 : Nat) := by
  obtain ⟨t1, t2⟩ := g.top hs
  rcases h with ⟨_, h1⟩ | ⟨n, rfl, hn, h1, h2⟩
  · exact absurd t2 (h1 _ t1)
  · have h3 := h2 _ t1 t2
    have hm := (g.mem n).2 ⟨hn, h1⟩
    have pw := d.pw
    rw [last_split hs] at hm pw
    rw [List.mem_append, List.mem_singleton] at hm
    rcases hm with hm | hm
    · have := (List.pairwise_append.1 pw).2.2 n hm _ (List.mem_singleton.2 rfl)
      omega
    · rw [hm]
end
end Go.Proofs.Yteebjeifbccbnaa
