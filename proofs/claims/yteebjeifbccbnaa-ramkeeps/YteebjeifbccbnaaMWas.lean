/- RamKeeps' own things in memory: the array of what was read of each frame, and the rounds' state; plain facts on them. -/
import Derived.Test.YteebjeifbccbnaaMGreat
namespace Go.Proofs.Yteebjeifbccbnaa
open Go.RowKit

theorem Try.zero56 : (Try.prog.info? 56).map (fun i => i.zero) = some (some (.agg (Array.replicate 8 (.slice none 0 0)))) := by kernel_rfl
theorem zero_was (w : World) : (zeroValue 56).run Try.prog w = .ok (.agg (Array.replicate 8 (.slice none 0 0))) w := by
  obtain ⟨i, hi, hz⟩ := Option.map_eq_some_iff.1 Try.zero56
  generalize (Array.replicate 8 (Value.slice none 0 0)) = Z at *
  simp [zeroValue, typeInfo, hi, hz, go_sem]
theorem Turns.setNew {B E : Nat} {a w : World} (h : Turns B E a w) {p : Addr} (hp : a.heap.size ≤ p.block) (u : Value) : Turns B E a (w.setCell p u) := by
  refine ⟨h.os, h.tape, h.output, by have := h.size; simpa using this, fun k hk hk2 => ?_⟩
  rw [Below.heap_setCell _ _ _ _ (by omega)]
  exact h.block k hk hk2

theorem up_le (t : Nat) (b : Bool) : up t b ≤ t + 1 := by unfold up; split <;> omega
/-- What was read of the first k frames. -/
structure WAt (w : World) (E wa k : Nat) (R : Nat → List Nat) : Prop where
  lo : E ≤ wa
  head : ∃ cs : Array Value, w.heap[wa]? = some (.cells cs 56 (0, 0)) ∧ cs.size = 8 ∧ ∀ n, n < k → ∃ v, cs[n]? = some v ∧ w.ownsRow E 5 1 v (R n).length (bv (R n))
section
variable {w w' : World} {E wa k : Nat} {R : Nat → List Nat}
theorem WAt.kept (h : WAt w E wa k R) (hk : ∀ i, E ≤ i → i < w.heap.size → w'.heap[i]? = w.heap[i]?) : WAt w' E wa k R := by
  obtain ⟨cs, h1, h2, h3⟩ := h.head
  refine ⟨h.lo, cs, (hk wa h.lo (Array.getElem?_eq_some_iff.1 h1).1).trans h1, h2, fun n hn => ?_⟩
  obtain ⟨v, h4, h5⟩ := h3 n hn
  refine ⟨v, h4, h5.1, ?_⟩
  rcases h5.2 with h6 | ⟨g, cap, cur, h6, h7, h8, r⟩
  · exact .inl h6
  · exact .inr ⟨g, cap, cur, h6, h7, (hk g h7 (Array.getElem?_eq_some_iff.1 h8).1).trans h8, r⟩
theorem WAt.turns {B : Nat} (h : WAt w E wa k R) (ht : Turns B E w w') : WAt w' E wa k R := h.kept fun i h1 h2 => ht.block i h2 (.inr h1)
theorem WAt.lt (h : WAt w E wa k R) : wa < w.heap.size := by obtain ⟨cs, h1, _⟩ := h.head; exact (Array.getElem?_eq_some_iff.1 h1).1
theorem WAt.new (w : World) (E : Nat) (hE : E ≤ w.heap.size) (R : Nat → List Nat) : WAt (w.alloc (.cells (Array.replicate 8 (.slice none 0 0)) 56)) E w.heap.size 0 R :=
  ⟨hE, _, heap_alloc_new w _, by simp, fun n hn => by omega⟩
theorem WAt.frozen (h : WAt w E wa k R) (n : Nat) : w.frozen? ⟨wa, n, none⟩ = false := by
  obtain ⟨cs, h1, _⟩ := h.head
  exact frozen_of_row w wa n _ _ h1
theorem WAt.some (h : WAt w E wa k R) {n : Nat} (hn : n < 8) : ∃ v, w.cell? ⟨wa, n, none⟩ = .some v := by
  obtain ⟨cs, h1, h2, _⟩ := h.head
  exact ⟨cs[n]'(by omega), by rw [cell_of_row w wa n _ _ _ h1]; exact Array.getElem?_eq_getElem _⟩
theorem WAt.cell (h : WAt w E wa k R) {n : Nat} (hn : n < k) : ∃ v, w.cell? ⟨wa, n, none⟩ = .some v ∧ w.ownsRow E 5 1 v (R n).length (bv (R n)) := by
  obtain ⟨cs, h1, h2, h3⟩ := h.head
  obtain ⟨v, h4, h5⟩ := h3 n hn
  exact ⟨v, by rw [cell_of_row w wa n _ _ _ h1]; exact h4, h5⟩
theorem WAt.set (h : WAt w E wa k R) (hk : k < 8) {v : Value} (hv : w.ownsRow E 5 1 v (R k).length (bv (R k))) : WAt (w.setCell ⟨wa, k, none⟩ v) E wa (k + 1) R := by
  obtain ⟨cs, h1, h2, h3⟩ := h.head
  have keep2 : ∀ {u v : Value} {l : List Nat}, w.ownsRow E 5 1 v l.length (bv l) → (w.setCell ⟨wa, k, none⟩ u).ownsRow E 5 1 v l.length (bv l) := by
    intro u v l h5
    refine ⟨h5.1, ?_⟩
    rcases h5.2 with h6 | ⟨g, cap, cur, h6, h7, h8, r⟩
    · exact .inl h6
    · refine .inr ⟨g, cap, cur, h6, h7, ?_, r⟩
      have hne : g ≠ wa := by
        intro e
        subst e
        rw [h1] at h8
        simp at h8
      rw [Below.heap_setCell _ _ _ _ hne]; exact h8
  refine ⟨h.lo, _, heap_setCell_same w wa k _ _ _ h1, by simpa using h2, fun n hn => ?_⟩
  by_cases e : n = k
  · subst e
    exact ⟨v, by rw [Array.getElem?_setIfInBounds_self_of_lt (by omega)], keep2 hv⟩
  · obtain ⟨u, h4, h5⟩ := h3 n (by omega)
    exact ⟨u, by rw [Array.getElem?_setIfInBounds_ne (Ne.symm e)]; exact h4, keep2 h5⟩
end

/-- What each frame has: all of its bytes, or none. -/
def all (O : List Int) (P : List Nat) (n : Nat) : List Nat := rdL O P n 0 4096
theorem all_yes {O : List Int} {P : List Nat} {n : Nat} (h : O.getD n 0 ≠ 0) : thB O n 0 4096 = true ∧ all O P n = seg P (n * 4096) 4096 := by
  have h1 : thB O (n : Int) 0 4096 = true := decide_eq_true ⟨by rw [ownI_nat]; exact h, by omega, by omega, by omega⟩
  refine ⟨h1, ?_⟩
  have := rd_yes (P := P) (a := 0) (s := 4096) (n := n) h1
  simpa [all] using this
theorem all_no {O : List Int} {P : List Nat} {n : Nat} (h : O.getD n 0 = 0) : thB O n 0 4096 = false ∧ all O P n = [] := by
  have h1 : thB O (n : Int) 0 4096 = false := decide_eq_false (by rw [ownI_nat, h]; simp)
  exact ⟨h1, rd_no h1⟩
theorem all_len {O : List Int} {P P' : List Nat} {n m : Nat} (hl : P.length = m * 4096) (hl' : P'.length = P.length) (ho : O.length = m) : (all O P' n).length = (all O P n).length := by
  by_cases h : O.getD n 0 = 0
  · rw [(all_no h).2, (all_no h).2]
  · have hn : n < m := by
      rcases Nat.lt_or_ge n m with h1 | h1
      · exact h1
      · exact absurd (by rw [List.getD_eq_getElem?_getD, List.getElem?_eq_none (by omega)]; rfl) h
    have e := plc_le (a := 0) (s := 4096) hn (by omega)
    have e2 := plc_nat n 0
    rw [(all_yes h).2, (all_yes h).2, length_seg (by omega), length_seg (by omega)]
theorem all_at {O : List Int} {P : List Nat} {n m i : Nat} (hl : P.length = m * 4096) (ho : O.length = m) (hi : i < (all O P n).length) : O.getD n 0 ≠ 0 ∧ n < m ∧ i < 4096 ∧ (all O P n).getD i 0 = P.getD (n * 4096 + i) 0 := by
  have h : O.getD n 0 ≠ 0 := fun h => by rw [(all_no h).2] at hi; simp at hi
  have hn : n < m := by
    rcases Nat.lt_or_ge n m with h1 | h1
    · exact h1
    · exact absurd (by rw [List.getD_eq_getElem?_getD, List.getElem?_eq_none (by omega)]; rfl) h
  have e := plc_le (a := 0) (s := 4096) hn (by omega)
  have e2 := plc_nat n 0
  rw [(all_yes h).2, length_seg (by omega)] at hi
  refine ⟨h, hn, hi, ?_⟩
  rw [(all_yes h).2, seg_getD hi]
theorem wr_len {O : List Int} {P b : List Nat} {n a : Int} {m : Nat} (hl : P.length = m * 4096) (ho : O.length = m) : (wrP O P n a b).length = P.length := by
  cases h : thB O n a b.length with
  | false => rw [wr_no h]
  | true =>
    obtain ⟨n', a', s', rfl, rfl, hs, hn, h0, has⟩ := th_of h
    have hs' : b.length = s' := by omega
    rw [wr_yes h]
    have e := plc_le (a := a') (s := s') (m := m) (n := n') (by omega) has
    have e2 := plc_nat n' a'
    exact length_putAt (by omega)
/-- Byte i of frame n behind a write of b. -/
theorem wr_at {O : List Int} {P b : List Nat} {nd ad n i m : Nat} (hl : P.length = m * 4096) (ho : O.length = m) (h : thB O nd ad b.length = true) (hi : i < 4096) :
    (wrP O P nd ad b).getD (n * 4096 + i) 0 = if n = nd ∧ ad ≤ i ∧ i < ad + b.length then b.getD (i - ad) 0 else P.getD (n * 4096 + i) 0 := by
  obtain ⟨n', a', s', e1, e2, hs, hn, h0, has⟩ := th_of h
  obtain rfl : nd = n' := by omega
  obtain rfl : ad = a' := by omega
  have hs' : b.length = s' := by omega
  have e := plc_le (a := ad) (s := s') (m := m) (n := nd) (by omega) has
  have e3 := plc_nat nd ad
  rw [wr_yes h, putAt_getD (by omega)]
  by_cases c : n = nd ∧ ad ≤ i ∧ i < ad + b.length
  · obtain ⟨rfl, c1, c2⟩ := c
    rw [if_pos (by omega), if_pos ⟨rfl, c1, c2⟩]
    congr 1
    omega
  · rw [if_neg c, if_neg]
    intro c1
    apply c
    have : n = nd := by omega
    subst this
    exact ⟨rfl, by omega, by omega⟩
end Go.Proofs.Yteebjeifbccbnaa
