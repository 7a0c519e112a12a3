/- Plain facts on what is taken out of a set and given back: no program in them. -/
import Derived.Test.YtnihgibgfnhbiaaBLen
import Derived.Test.YtnihgibgfnhbiaaBFirst
namespace Go.Proofs.Ytnihgibgfnhbiaa

theorem allTo_count (x : List Bool) (k : Nat) (hk : k ≤ x.length) : (allTo x k).length = (x.take k).count true := by
  induction k with
  | zero => simp [allTo]
  | succ k ih =>
    rw [allTo_succ, List.length_append, ih (by omega), List.take_succ_eq_append_getElem (by omega), List.count_append]
    congr 1
    have e : x.getD k false = x[k] := by simp [List.getD, show k < x.length by omega]
    rw [e]
    cases x[k] <;> rfl
theorem allL_count (x : List Bool) : (allL x).length = x.count true := by
  rw [allL, allTo_count x _ (Nat.le_refl _), List.take_length]

/-- What is out is just what is in the set, each once. -/
structure Outs (x : List Bool) (os : List Nat) : Prop where
  len : os.length = x.count true
  nd : os.Nodup
  mem : ∀ n ∈ os, x.getD n false = true

theorem Outs.start (m : Nat) : Outs (List.replicate m false) [] := ⟨by simp [List.count_replicate], List.nodup_nil, by simp⟩
theorem getD_lt {x : List Bool} {n : Nat} (h : x.getD n false = true) : n < x.length := by
  rcases Nat.lt_or_ge n x.length with h1 | h1
  · exact h1
  · simp [List.getD, List.getElem?_eq_none h1] at h
theorem putL_nat (x : List Bool) (n : Nat) (b : Bool) : putL x n b = x.set n b := by simp [putL]
theorem has_put {x : List Bool} {n : Nat} (b : Bool) (h : n < x.length) : hasB (putL x n b) n = b := by
  rw [hasB_nat, putL_nat, getD_set, if_pos ⟨rfl, h⟩]
theorem put_put (x : List Bool) (n : Nat) (b : Bool) : putL (putL x n b) n b = putL x n b := by
  rw [putL_nat, putL_nat, List.set_set]
theorem Outs.first {x : List Bool} {os : List Nat} (h : Outs x os) : frstB x = decide (os.length < x.length) := by
  unfold frstB
  apply decide_eq_decide.2
  rw [h.len]
  constructor
  · intro hf
    apply Nat.lt_of_le_of_ne List.count_le_length
    intro e
    have h1 := frst_has hf
    rw [hasB_nat, List.getD_eq_getElem?_getD, List.getElem?_eq_getElem hf, Option.getD_some] at h1
    have h2 := List.count_eq_length.1 e _ (List.getElem_mem hf)
    rw [h1] at h2
    cases h2
  · intro hc
    apply Nat.lt_of_le_of_ne (frst_le x)
    intro e
    have h1 := (List.findIdx_eq_length (p := fun b => !b) (xs := x)).1 e
    have h2 : x.count true = x.length := by
      rw [List.count_eq_length]
      intro b hb
      have := h1 b hb
      simpa using this
    omega
theorem Outs.take {x : List Bool} {os : List Nat} (h : Outs x os) (hf : frst x < x.length) : Outs (putL x (frst x) true) (os ++ [frst x]) ∧ frst x ∉ os := by
  have h1 := frst_has hf
  rw [hasB_nat] at h1
  have hn : frst x ∉ os := by
    intro hm
    rw [h.mem _ hm] at h1
    cases h1
  refine ⟨⟨?_, ?_, ?_⟩, hn⟩
  · rw [putL_nat, List.count_set hf, List.length_append, h.len]
    rw [List.getD_eq_getElem?_getD, List.getElem?_eq_getElem hf, Option.getD_some] at h1
    rw [h1]
    simp
  · rw [List.nodup_append]
    refine ⟨h.nd, by simp, ?_⟩
    intro a ha b hb e
    simp at hb
    subst hb e
    exact hn ha
  · intro n hm
    rw [putL_nat, getD_set]
    split
    · rfl
    · rename_i hne
      rcases List.mem_append.1 hm with h2 | h2
      · exact h.mem n h2
      · simp at h2
        exact absurd ⟨h2.symm, hf⟩ hne
theorem Outs.at {x : List Bool} {os : List Nat} (h : Outs x os) {k : Nat} (hk : k < os.length) : x.getD (os.getD k 0) false = true := by
  have := h.mem os[k] (List.getElem_mem hk)
  simpa [List.getD, hk] using this
theorem Outs.drop {x : List Bool} {os : List Nat} (h : Outs x os) {k : Nat} (hk : k < os.length) : Outs (putL x (os.getD k 0 : Nat) false) (os.take k ++ os.drop (k + 1)) := by
  have hn := h.at hk
  have hl := getD_lt hn
  have e : os = os.take k ++ os.getD k 0 :: os.drop (k + 1) := by
    have e1 : os.getD k 0 = os[k] := by simp [List.getD, hk]
    rw [e1, ← List.drop_eq_getElem_cons hk, List.take_append_drop]
  have hnd := h.nd
  generalize hq : os.getD k 0 = q at *
  rw [e] at hnd
  have hnd2 := List.nodup_append.1 hnd
  refine ⟨?_, ?_, ?_⟩
  · rw [putL_nat, List.count_set hl]
    rw [List.getD_eq_getElem?_getD, List.getElem?_eq_getElem hl, Option.getD_some] at hn
    rw [hn, ← h.len]
    simp
    omega
  · rw [List.nodup_append]
    refine ⟨hnd2.1, (List.nodup_cons.1 hnd2.2.1).2, ?_⟩
    intro a ha b hb
    exact hnd2.2.2 a ha b (List.mem_cons_of_mem _ hb)
  · intro n hm
    have hne : q ≠ n := by
      intro e2
      subst e2
      rcases List.mem_append.1 hm with h2 | h2
      · exact hnd2.2.2 q h2 q (by simp) rfl
      · exact (List.nodup_cons.1 hnd2.2.1).1 h2
    rw [putL_nat, getD_set, if_neg (by intro h3; exact hne h3.1)]
    apply h.mem
    rw [e]
    rcases List.mem_append.1 hm with h2 | h2
    · exact List.mem_append_left _ h2
    · exact List.mem_append_right _ (List.mem_cons_of_mem _ h2)
end Go.Proofs.Ytnihgibgfnhbiaa
