/- Texts of this seat, joined: GKit, HPlain, Plain, GSrc, GBytes, WPlain, Write, GNum, HSet, HTake: each opens with what it holds. -/
import Derived.Test.YtjgkhckcoknnfaaRows
import Derived.WalkKit
import Derived.WalkSpells
import Derived.WalkLawsBesides
import Derived.Maps.AppendAt
import Derived.OneCell
import Derived.OwnWalk
import Derived.Deep.QuietTactic
import Derived.BigQuiet
import Derived.Deep.Draws
import Derived.Laws.BitsAllLaws
import Derived.Laws.AppendOwnNone
import Derived.Lib.SliceRun
import Derived.Laws.BytesArg
import Derived.Laws.CopyOwn
import Derived.Deep.OwnRows
import Derived.BigRegion
import Derived.Deep.DeepCutAuto
/- General facts of rows, worlds and endings, and what turns nothing but blocks from B to less than E. -/
namespace Go.Proofs.Ytjgkhckcoknnfaa
open Go.RowKit

theorem retInt {k : IntKind} {a b : Int} (h : a = b) : Ending.returned (.int k a) = .returned (.int k b) := by rw [h]
theorem retBool {a b : Bool} (h : a = b) : Ending.returned (.bool a) = .returned (.bool b) := by rw [h]
theorem heap_drewN (w : World) (n : Nat) : (w.drewN n).heap = w.heap := by simp
theorem drewN_below (B : Nat) (w : World) (n : Nat) : Below B w (w.drewN n) := ⟨rfl, rfl, rfl, Nat.le_refl _, fun _ _ => rfl⟩
theorem drew_below (B : Nat) (w : World) : Below B w w.drew := ⟨rfl, rfl, rfl, Nat.le_refl _, fun _ _ => rfl⟩
theorem quietSame {P : Program} {f : FuncId} {args : Array Value} {w : World} {n : Nat} {v : Value}
    (h : Calls P f args (w.drewN n) fun e w' => e = .returned v ∧ w.drewN n = w') : Calls P f args (w.drewN n) fun e w'' => e = .returned v ∧ ∃ m, w'' = w.drewN m :=
  h.mono fun _ _ ⟨he, hm⟩ => ⟨he, n, hm.symm⟩
theorem row_slice {w : World} {base : Nat} {e : TypeId} {size n : Nat} {v : Value} {xs : List Value} (h : w.ownsRow base e size v n xs) : ∃ a c, v = .slice a n c := by
  rcases h.2 with ⟨h1, h2⟩ | ⟨g, cap, cur, h1, _⟩
  · subst h2; exact ⟨_, _, h1⟩
  · exact ⟨_, _, h1⟩
theorem row_at {w : World} {base n c : Nat} {e : TypeId} {a : Option Addr} {xs : List Value} (h : w.ownsRow base e 1 (.slice a n c) n xs) {i : Nat} (hi : i < n) :
    ∃ g, a = some ⟨g, 0, none⟩ ∧ w.cell? ⟨g, i, none⟩ = xs[i]? ∧ w.frozen? ⟨g, i, none⟩ = false ∧ base ≤ g ∧ g < w.heap.size := by
  rcases h.2 with ⟨_, h2⟩ | ⟨g, cap, cur, h1, h2, h3, _⟩
  · omega
  · simp only [Value.slice.injEq, true_and] at h1
    obtain ⟨rfl, rfl⟩ := h1
    exact ⟨g, rfl, h.cellAt i (by omega), h.frozenAt i, h2, (Array.getElem?_eq_some_iff.1 h3).1⟩
theorem row_below {w w' : World} {base : Nat} {e : TypeId} {size n : Nat} {v : Value} {xs : List Value} (h : w.ownsRow base e size v n xs) (hb : Below w.heap.size w w') : w'.ownsRow base e size v n xs := by
  refine ⟨h.1, ?_⟩
  rcases h.2 with h1 | ⟨g, cap, cur, h1, h2, h3, r⟩
  · exact .inl h1
  · exact .inr ⟨g, cap, cur, h1, h2, by rw [hb.block g (Array.getElem?_eq_some_iff.1 h3).1]; exact h3, r⟩
theorem rowMono {w : World} {base base' : Nat} {e : TypeId} {size : Nat} {v : Value} {n : Nat} {xs : List Value} (h : w.ownsRow base e size v n xs) (hb : base' ≤ base) : w.ownsRow base' e size v n xs := by
  refine ⟨h.1, ?_⟩
  rcases h.2 with h1 | ⟨g, cap, cur, h1, h2, r⟩
  · exact .inl h1
  · exact .inr ⟨g, cap, cur, h1, by omega, r⟩
theorem row_of_block {w w' : World} {base g n c : Nat} {e : TypeId} {size : Nat} {xs : List Value} (h : w.ownsRow base e size (.slice (some ⟨g, 0, none⟩) n c) n xs) (hk : w'.heap[g]? = w.heap[g]?) : w'.ownsRow base e size (.slice (some ⟨g, 0, none⟩) n c) n xs := by
  refine ⟨h.1, ?_⟩
  rcases h.2 with ⟨he, _⟩ | ⟨g', cap, cur, he, hb, hh, r⟩
  · simp at he
  · simp only [Value.slice.injEq, Option.some.injEq, Addr.mk.injEq, and_true, true_and] at he
    obtain ⟨rfl, rfl⟩ := he
    exact .inr ⟨g, _, cur, rfl, hb, hk.trans hh, r⟩
theorem row_cap {w : World} {base n c : Nat} {e : TypeId} {size : Nat} {a : Addr} {xs : List Value} (h : w.ownsRow base e size (.slice (some a) n c) n xs) : n ≤ c ∧ c ≤ maxLen := by
  rcases h.2 with ⟨h1, _⟩ | ⟨g, cap, cur, h1, _, _, h4, h5, _⟩
  · simp at h1
  · simp only [Value.slice.injEq, true_and] at h1
    obtain ⟨_, rfl⟩ := h1
    exact ⟨h4, h5⟩
theorem add_lit' (b o j : Nat) : (⟨b, o, none⟩ : Addr).add j = ⟨b, o + j, none⟩ := by unfold Addr.add; split <;> simp_all

/-- No block that was there turns but those from B to less than E. -/
structure Turns (B E : Nat) (w w' : World) : Prop where
  os : w'.os = w.os
  tape : w'.tape = w.tape
  output : w'.output = w.output
  size : w.heap.size ≤ w'.heap.size
  block : ∀ k, k < w.heap.size → k < B ∨ E ≤ k → w'.heap[k]? = w.heap[k]?
section
variable {B E : Nat} {a b c w w' : World}
theorem Turns.refl (B E : Nat) (w : World) : Turns B E w w := ⟨rfl, rfl, rfl, Nat.le_refl _, fun _ _ _ => rfl⟩
theorem Turns.trans (h : Turns B E a b) (k : Turns B E b c) : Turns B E a c :=
  ⟨k.os.trans h.os, k.tape.trans h.tape, k.output.trans h.output, Nat.le_trans h.size k.size, fun i h1 h2 => (k.block i (Nat.lt_of_lt_of_le h1 h.size) h2).trans (h.block i h1 h2)⟩
theorem Turns.below (h : Turns B E w w') (hB : B ≤ w.heap.size) : Below B w w' := ⟨h.os, h.tape, h.output, h.size, fun k hk => h.block k (by omega) (.inl hk)⟩
theorem Turns.of_below (h : Below w.heap.size w w') : Turns B E w w' := ⟨h.os, h.tape, h.output, h.size, fun k hk _ => h.block k hk⟩
theorem Turns.setCell (h : Turns B E a w) {p : Addr} (h1 : B ≤ p.block) (h2 : p.block < E) (u : Value) : Turns B E a (w.setCell p u) := by
  refine ⟨h.os, h.tape, h.output, by have := h.size; simpa using this, fun k hk hk2 => ?_⟩
  rw [Below.heap_setCell _ _ _ _ (by omega)]
  exact h.block k hk hk2
theorem Turns.grown {g : Nat} (h : Turns B E a w) (hg : w.grownBy w' (some g)) (h1 : B ≤ g) (h2 : g < E) : Turns B E a w' := by
  refine h.trans ⟨hg.os, hg.tape, hg.output, hg.size, fun k hk hk2 => hg.block k hk ?_⟩
  intro e
  simp at e
  omega
theorem Turns.row {base : Nat} {e : TypeId} {size n : Nat} {v : Value} {xs : List Value} (h : Turns B E w w') (ho : w.ownsRow base e size v n xs) (hb : E ≤ base) : w'.ownsRow base e size v n xs := by
  refine ⟨ho.1, ?_⟩
  rcases ho.2 with h1 | ⟨g, cap, cur, h1, h2, h3, r⟩
  · exact .inl h1
  · exact .inr ⟨g, cap, cur, h1, h2, (h.block g (Array.getElem?_eq_some_iff.1 h3).1 (.inr (by omega))).trans h3, r⟩
theorem Turns.wide {B' E' : Nat} (h : Turns B E w w') (h1 : B' ≤ B) (h2 : E ≤ E') : Turns B' E' w w' :=
  ⟨h.os, h.tape, h.output, h.size, fun k hk hk2 => h.block k hk (by omega)⟩
end
end Go.Proofs.Ytjgkhckcoknnfaa
/- Plain facts: the owners O of frames, those that are Free in S (the next one to be taken last): FPlain of layer 5, for seats of today (names of its own). -/
namespace Go.Proofs.Ytjgkhckcoknnfaa
open Go.RowKit

theorem fo_set (N : List Int) (i j : Nat) (v : Int) (hi : i < N.length) : (N.set i v).getD j 0 = if i = j then v else N.getD j 0 := by
  by_cases h : i = j
  · subst h; simp [List.getD, hi]
  · simp [List.getD, h, List.getElem?_set_ne h]
theorem fo_nodup : ∀ (m : Nat) (l : List Nat), l.Nodup → (∀ x ∈ l, x < m) → l.length ≤ m
  | 0, [], _, _ => Nat.le_refl _
  | 0, x :: _, _, h => absurd (h x (by simp)) (by omega)
  | m + 1, l, hn, h => by
    have h1 := fo_nodup m (l.erase m) (hn.erase m) (fun x hx => by
      have h2 := hn.mem_erase_iff.1 hx
      have h3 := h x h2.2
      have h4 : x ≠ m := h2.1
      omega)
    rw [List.length_erase] at h1
    split at h1 <;> omega
theorem fo_rep (n a : Nat) : (List.replicate n (0 : Int)).getD a 0 = 0 := by
  rw [List.getD_eq_getElem?_getD, List.getElem?_replicate]
  split <;> rfl

structure FrOk (m : Nat) (O : List Int) (S : List Nat) : Prop where
  len : O.length = m
  own : ∀ i, 0 ≤ O.getD i 0 ∧ O.getD i 0 ≤ 3
  nd : S.Nodup
  mem : ∀ n, n ∈ S ↔ n < m ∧ O.getD n 0 = 0
section
variable {m : Nat} {O : List Int} {S : List Nat}
theorem FrOk.slen (h : FrOk m O S) : S.length ≤ m := fo_nodup m S h.nd (fun x hx => ((h.mem x).1 hx).1)
theorem fo_split {S : List Nat} (hs : 0 < S.length) : S = S.take (S.length - 1) ++ [S.getD (S.length - 1) 0] := by
  have h1 : S.length - 1 < S.length := by omega
  have e : S.take (S.length - 1 + 1) = S := by rw [List.take_of_length_le (by omega)]
  rw [← e]
  conv => lhs; rw [List.take_add_one, List.getElem?_eq_getElem h1]
  rw [e, List.getD_eq_getElem?_getD, List.getElem?_eq_getElem h1]
  rfl
theorem FrOk.top (h : FrOk m O S) (hs : 0 < S.length) : S.getD (S.length - 1) 0 < m ∧ O.getD (S.getD (S.length - 1) 0) 0 = 0 := by
  apply (h.mem _).1
  rw [List.getD_eq_getElem?_getD, List.getElem?_eq_getElem (by omega)]
  exact List.getElem_mem _
theorem FrOk.take (h : FrOk m O S) (hs : 0 < S.length) {o : Int} (h1 : 1 ≤ o) (h3 : o ≤ 3) : FrOk m (O.set (S.getD (S.length - 1) 0) o) (S.take (S.length - 1)) := by
  obtain ⟨hn, h0⟩ := h.top hs
  have e := fo_split hs
  have nd := h.nd
  have mem := h.mem
  generalize S.getD (S.length - 1) 0 = n at *
  generalize S.take (S.length - 1) = T at *
  subst e
  have hg : ∀ j, (O.set n o).getD j 0 = if n = j then o else O.getD j 0 := fun j => fo_set _ _ _ _ (by rw [h.len]; exact hn)
  refine ⟨by simp [h.len], fun i => ?_, (List.nodup_append.1 nd).1, fun x => ?_⟩
  · rw [hg]
    split
    · omega
    · exact h.own i
  · rw [hg]
    have h2 := (List.nodup_append.1 nd).2.2
    have h4 := mem x
    simp only [List.mem_append, List.mem_singleton] at h4
    constructor
    · intro hx
      have h5 := h4.1 (.inl hx)
      have h6 : x ≠ n := h2 x hx n (by simp)
      rw [if_neg (Ne.symm h6)]
      exact h5
    · rintro ⟨h5, h6⟩
      by_cases e : n = x
      · rw [if_pos e] at h6; omega
      · rw [if_neg e] at h6
        rcases h4.2 ⟨h5, h6⟩ with h7 | h7
        · exact h7
        · exact absurd h7.symm e
theorem FrOk.give (h : FrOk m O S) {n : Nat} (hn : n < m) (h0 : O.getD n 0 ≠ 0) : FrOk m (O.set n 0) (S ++ [n]) ∧ S.length < m := by
  have hno : n ∉ S := fun hx => h0 ((h.mem n).1 hx).2
  have hg : ∀ j, (O.set n 0).getD j 0 = if n = j then 0 else O.getD j 0 := fun j => fo_set _ _ _ _ (by rw [h.len]; exact hn)
  have G : FrOk m (O.set n 0) (S ++ [n]) := by
    refine ⟨by simp [h.len], fun i => ?_, ?_, fun x => ?_⟩
    · rw [hg]
      split
      · omega
      · exact h.own i
    · rw [List.nodup_append]
      refine ⟨h.nd, by simp, ?_⟩
      intro a ha b hb e
      simp at hb
      subst hb e
      exact hno ha
    · rw [hg, List.mem_append, List.mem_singleton, h.mem]
      by_cases e : n = x
      · subst e; simp [hn]
      · rw [if_neg e]
        exact ⟨fun h1 => h1.elim id (fun h2 => absurd h2.symm e), .inl⟩
  refine ⟨G, ?_⟩
  have := G.slen
  simp at this
  omega
end
def fdown (m : Nat) : List Nat := (List.range m).map fun i => m - 1 - i
theorem fdown_len (m : Nat) : (fdown m).length = m := by simp [fdown]
theorem fdown_at {m i : Nat} (hi : i < m) : (fdown m).getD i 0 = m - 1 - i := by
  simp [fdown, List.getD, hi]
theorem FrOk.start (m : Nat) : FrOk m (List.replicate m 0) (fdown m) := by
  refine ⟨by simp, fun i => by rw [fo_rep]; omega, ?_, fun n => ?_⟩
  · unfold fdown
    rw [List.nodup_iff_pairwise_ne, List.pairwise_map]
    refine List.Pairwise.imp_of_mem ?_ (List.pairwise_lt_range (n := m))
    intro a b ha hb hab
    simp at ha hb
    omega
  · rw [fo_rep]
    simp only [fdown, List.mem_map, List.mem_range, and_true]
    constructor
    · rintro ⟨a, ha, rfl⟩; omega
    · intro hn; exact ⟨m - 1 - n, by omega, by omega⟩

/-- What a take for o does. -/
def tkB (S : List Nat) (o : Int) : Bool := decide (0 < S.length ∧ 1 ≤ o ∧ o ≤ 3)
def tkN (S : List Nat) (o : Int) : Nat := if tkB S o then S.getD (S.length - 1) 0 else 0
def tkO (O : List Int) (S : List Nat) (o : Int) : List Int := if tkB S o then O.set (S.getD (S.length - 1) 0) o else O
def tkS (S : List Nat) (o : Int) : List Nat := if tkB S o then S.take (S.length - 1) else S
/-- A count that goes round. -/
def bump (t : Int) (b : Bool) : Int := if b then wrap64 (t + 1) else t
theorem bump_no (t : Int) : bump t false = t := rfl
theorem bump_yes (t : Int) : bump t true = wrap64 (t + 1) := rfl
/-- Whose frame n is. -/
def ownI (O : List Int) (n : Int) : Int := if 0 ≤ n then O.getD n.toNat 0 else 0
/-- What a give of n does. -/
def gvB (O : List Int) (n : Int) : Bool := decide (ownI O n ≠ 0)
def gvO (O : List Int) (n : Int) : List Int := if gvB O n then O.set n.toNat 0 else O
def gvS (O : List Int) (S : List Nat) (n : Int) : List Nat := if gvB O n then S ++ [n.toNat] else S
section
variable {m : Nat} {O : List Int} {S : List Nat}
theorem tk_yes {o : Int} (hs : 0 < S.length) (h1 : 1 ≤ o) (h3 : o ≤ 3) : tkB S o = true := by simp [tkB, hs, h1, h3]
theorem tk_no {o : Int} (h : ¬ (0 < S.length ∧ 1 ≤ o ∧ o ≤ 3)) : tkB S o = false := decide_eq_false h
theorem tk_of {o : Int} (h : tkB S o = true) : 0 < S.length ∧ 1 ≤ o ∧ o ≤ 3 := of_decide_eq_true h
theorem tk_not {o : Int} (h : tkB S o = false) : ¬ (0 < S.length ∧ 1 ≤ o ∧ o ≤ 3) := of_decide_eq_false h
theorem FrOk.tk (h : FrOk m O S) (o : Int) : FrOk m (tkO O S o) (tkS S o) := by
  unfold tkO tkS
  cases e : tkB S o with
  | false => exact h
  | true => obtain ⟨h1, h2, h3⟩ := tk_of e; exact h.take h1 h2 h3
theorem ownI_nat (n : Nat) : ownI O (n : Int) = O.getD n 0 := by rw [ownI, if_pos (by omega)]; rfl
theorem ownI_neg {n : Int} (h : n < 0) : ownI O n = 0 := by rw [ownI, if_neg (by omega)]
theorem ownI_far {n : Int} (h : (O.length : Int) ≤ n) : ownI O n = 0 := by
  unfold ownI
  split
  · rw [List.getD_eq_getElem?_getD, List.getElem?_eq_none (by omega)]; rfl
  · rfl
theorem gv_of {n : Int} (h : gvB O n = true) : ∃ k : Nat, n = k ∧ k < O.length ∧ O.getD k 0 ≠ 0 := by
  have h1 : ownI O n ≠ 0 := of_decide_eq_true h
  by_cases h2 : n < 0
  · exact absurd (ownI_neg h2) h1
  · obtain ⟨k, rfl⟩ := Int.eq_ofNat_of_zero_le (show 0 ≤ n by omega)
    rw [ownI_nat] at h1
    by_cases h3 : k < O.length
    · exact ⟨k, rfl, h3, h1⟩
    · exact absurd (by rw [List.getD_eq_getElem?_getD, List.getElem?_eq_none (by omega)]; rfl) h1
theorem gv_yes {k : Nat} (h : O.getD k 0 ≠ 0) : gvB O (k : Int) = true := by
  unfold gvB; rw [ownI_nat]; exact decide_eq_true h
theorem gv_no {n : Int} (h : ownI O n = 0) : gvB O n = false := decide_eq_false (by rw [h]; simp)
theorem gv_not {n : Int} (h : gvB O n = false) : ownI O n = 0 := by
  have := of_decide_eq_false h
  omega
theorem FrOk.gv (h : FrOk m O S) (n : Int) : FrOk m (gvO O n) (gvS O S n) := by
  unfold gvO gvS
  cases e : gvB O n with
  | false => exact h
  | true =>
    obtain ⟨k, rfl, hk, h0⟩ := gv_of e
    exact (h.give (by rw [← h.len]; exact hk) h0).1
end

/-- The frames of o, up to k. -/
def ofTo (O : List Int) (o : Int) (k : Nat) : List Nat := (List.range k).filter fun i => decide (O.getD i 0 = o)
def ofL (O : List Int) (o : Int) : List Nat := ofTo O o O.length
theorem ofTo_yes {O : List Int} {o : Int} {k : Nat} (h : O.getD k 0 = o) : ofTo O o (k + 1) = ofTo O o k ++ [k] := by
  unfold ofTo; rw [List.range_succ, List.filter_append]; congr 1; simp only [List.filter, decide_eq_true h]
theorem ofTo_no {O : List Int} {o : Int} {k : Nat} (h : ¬ O.getD k 0 = o) : ofTo O o (k + 1) = ofTo O o k := by
  unfold ofTo; rw [List.range_succ, List.filter_append]; simp only [List.filter, decide_eq_false h, List.append_nil]
theorem ofTo_le (O : List Int) (o : Int) (k : Nat) : (ofTo O o k).length ≤ k := by
  unfold ofTo; refine Nat.le_trans (List.length_filter_le _ _) ?_; simp
/-- How many frames, up to k, are of any of zs. -/
def fcntTo (O : List Int) (zs : List Int) (k : Nat) : Nat := ((List.range k).filter fun i => decide (O.getD i 0 ∈ zs)).length
def fcnt (O : List Int) (zs : List Int) : Nat := fcntTo O zs O.length
theorem fcntTo_yes {O zs : List Int} {k : Nat} (h : O.getD k 0 ∈ zs) : fcntTo O zs (k + 1) = fcntTo O zs k + 1 := by
  unfold fcntTo; rw [List.range_succ, List.filter_append, List.length_append]; simp only [List.filter, decide_eq_true h, List.length_singleton]
theorem fcntTo_no {O zs : List Int} {k : Nat} (h : ¬ O.getD k 0 ∈ zs) : fcntTo O zs (k + 1) = fcntTo O zs k := by
  unfold fcntTo; rw [List.range_succ, List.filter_append]; simp only [List.filter, decide_eq_false h, List.append_nil]
theorem fcntTo_le (O zs : List Int) (k : Nat) : fcntTo O zs k ≤ k := by
  unfold fcntTo; refine Nat.le_trans (List.length_filter_le _ _) ?_; simp
theorem fcnt_two (O : List Int) (o : Int) : fcnt O [o, o] = (ofL O o).length := by
  unfold fcnt fcntTo ofL ofTo
  congr 2
  funext i
  simp
theorem fcnt_one (O : List Int) (o : Int) : fcnt O [o] = (ofL O o).length := by
  unfold fcnt fcntTo ofL ofTo
  congr 2
  funext i
  simp
theorem fcnt_none (O : List Int) : fcnt O [] = 0 := by simp [fcnt, fcntTo]
theorem FrOk.cnt_all {m : Nat} {O : List Int} {S : List Nat} (h : FrOk m O S) : fcnt O [0, 1, 2, 3] = m := by
  unfold fcnt fcntTo
  rw [List.filter_eq_self.2, List.length_range, h.len]
  intro i _
  have := h.own i
  generalize O.getD i 0 = z at *
  simp
  omega
theorem FrOk.cnt_free {m : Nat} {O : List Int} {S : List Nat} (h : FrOk m O S) : fcnt O [0] = S.length := by
  rw [fcnt_one]
  apply List.Perm.length_eq
  unfold ofL ofTo
  rw [List.perm_ext_iff_of_nodup (List.nodup_range.sublist List.filter_sublist) h.nd]
  intro n
  rw [h.mem]
  simp [h.len]

end Go.Proofs.Ytjgkhckcoknnfaa
/- Plain facts on numbers in bytes and parts of words: lists of natural numbers, no program in them. -/
namespace Go.Proofs.Ytjgkhckcoknnfaa

/-- The lowest bytes of a number, lowest first. -/
def putN (size n : Nat) : List Nat := (List.range size).map fun i => n / 256 ^ i % 256
/-- b with a number's lowest bytes at a place. -/
def layN (b : List Nat) (at' size n : Nat) : List Nat := b.take at' ++ putN size n ++ b.drop (at' + size)
/-- The number of bytes, lowest first. -/
def getL : List Nat → Nat
  | [] => 0
  | c :: r => c + 256 * getL r
def bv (l : List Nat) : List Value := l.map fun x : Nat => Value.int .u8 (x : Int)
/-- The bytes of numbers, one behind the other. -/
def putAll (size : Nat) (ns : List Nat) : List Nat := ns.flatMap (putN size)

@[simp] theorem length_putN (size n : Nat) : (putN size n).length = size := by simp [putN]
@[simp] theorem length_bv (l : List Nat) : (bv l).length = l.length := by simp [bv]
theorem length_layN {b : List Nat} {a s n : Nat} (h : a + s ≤ b.length) : (layN b a s n).length = b.length := by simp [layN]; omega
theorem layN_zero (b : List Nat) (a n : Nat) : layN b a 0 n = b := by simp [layN, putN]
theorem putN_succ (k n : Nat) : putN (k + 1) n = putN k n ++ [n / 256 ^ k % 256] := by simp [putN, List.range_succ]
theorem layN_succ {b : List Nat} {a k n : Nat} (h : a + k < b.length) : (layN b a k n).set (a + k) (n / 256 ^ k % 256) = layN b a (k + 1) n := by
  have hd : b.drop (a + k) = b[a + k] :: b.drop (a + k + 1) := by rw [List.drop_eq_getElem_cons h]
  unfold layN
  rw [putN_succ, hd, List.set_append_right _ _ (by simp; omega)]
  have e : a + k - (b.take a ++ putN k n).length = 0 := by simp; omega
  rw [e]
  simp [Nat.add_assoc]
theorem bv_set (l : List Nat) (j x : Nat) : (bv l).set j (.int .u8 (x : Int)) = bv (l.set j x) := by simp [bv, List.map_set]
theorem byteAt (n k : Nat) : IntKind.u8.wrap ((n : Int) / 2 ^ (8 * k)) = ((n / 256 ^ k % 256 : Nat) : Int) := by
  rw [IntKind.wrap_u8', Int.pow_mul, show ((2 : Int) ^ 8) = 256 from rfl]
  simp
theorem byteAt2 (n k : Nat) : (n : Int) / 2 ^ (8 * k) % 256 = ((n / 256 ^ k % 256 : Nat) : Int) := by
  rw [Int.pow_mul, show ((2 : Int) ^ 8) = 256 from rfl]
  simp
theorem byteAt' (n k : Nat) : IntKind.u8.wrap ((n : Int) / 256 ^ k) = ((n / 256 ^ k % 256 : Nat) : Int) := by
  rw [IntKind.wrap_u8']
  simp
theorem made_bytes (n : Nat) : (madeCells #[Value.int .u8 0] n).toList = bv (List.replicate n 0) := by
  apply List.ext_getElem
  · simp [bv, madeCells]
  · intro i h1 h2
    simp [bv, madeCells, Nat.mod_one]
theorem layN_append (x y : List Nat) (s n : Nat) : layN (x ++ y) x.length s n = x ++ putN s n ++ y.drop s := by
  unfold layN
  rw [List.drop_append, List.drop_of_length_le (by omega)]
  simp
theorem length_putAll (s : Nat) (ns : List Nat) : (putAll s ns).length = ns.length * s := by
  induction ns with
  | nil => simp [putAll]
  | cons a r ih => simp only [putAll, List.flatMap_cons, List.length_append, length_putN, List.length_cons] at ih ⊢; rw [ih, Nat.add_mul]; omega
theorem putAll_snoc (s : Nat) (ns : List Nat) (x : Nat) : putAll s (ns ++ [x]) = putAll s ns ++ putN s x := by simp [putAll]
/-- What stands in the row behind k numbers. -/
def putTo (s : Nat) (ns : List Nat) (k : Nat) : List Nat := putAll s (ns.take k) ++ List.replicate ((ns.length - k) * s) 0
theorem putTo_zero (s : Nat) (ns : List Nat) : putTo s ns 0 = List.replicate (ns.length * s) 0 := by simp [putTo, putAll]
theorem putTo_all (s : Nat) (ns : List Nat) : putTo s ns ns.length = putAll s ns := by simp [putTo]
theorem length_putTo (s : Nat) (ns : List Nat) (k : Nat) (h : k ≤ ns.length) : (putTo s ns k).length = ns.length * s := by
  simp only [putTo, List.length_append, length_putAll, List.length_take, List.length_replicate, Nat.min_eq_left h]
  rw [← Nat.add_mul]
  congr 1
  omega
theorem putTo_succ (s : Nat) (ns : List Nat) (k : Nat) (h : k < ns.length) : layN (putTo s ns k) (k * s) s (ns[k]) = putTo s ns (k + 1) := by
  have hl : (putAll s (ns.take k)).length = k * s := by rw [length_putAll, List.length_take, Nat.min_eq_left (by omega)]
  unfold putTo
  rw [← hl, layN_append, List.take_succ_eq_append_getElem h, putAll_snoc, List.drop_replicate]
  congr 2
  rw [show ns.length - k = (ns.length - (k + 1)) + 1 by omega, Nat.add_mul]
  omega

theorem getL_append (l r : List Nat) : getL (l ++ r) = getL l + 256 ^ l.length * getL r := by
  induction l with
  | nil => simp [getL]
  | cons c t ih => simp only [List.cons_append, getL, ih, List.length_cons, Nat.pow_succ, Nat.mul_add]; rw [Nat.mul_comm (256 ^ t.length) 256, ← Nat.mul_assoc]; omega
theorem getL_lt (l : List Nat) (h : ∀ x ∈ l, x < 256) : getL l < 256 ^ l.length := by
  induction l with
  | nil => simp [getL]
  | cons c t ih =>
    have h1 := ih (fun x hx => h x (by simp [hx]))
    have h2 := h c (by simp)
    simp only [getL, List.length_cons, Nat.pow_succ]
    omega
theorem pow256_le {k : Nat} (h : k ≤ 8) : 256 ^ k ≤ 18446744073709551616 := show 256 ^ k ≤ 256 ^ 8 from Nat.pow_le_pow_right (by omega) h
theorem pow256_lt {k : Nat} (h : k < 8) : 256 ^ k ≤ 72057594037927936 := show 256 ^ k ≤ 256 ^ 7 from Nat.pow_le_pow_right (by omega) (by omega)
/-- The number of k bytes at a place. -/
def getTo (b : List Nat) (a k : Nat) : Nat := getL ((b.drop a).take k)
theorem getTo_succ {b : List Nat} {a k : Nat} (h : a + k < b.length) : getTo b a (k + 1) = getTo b a k + 256 ^ k * b[a + k] := by
  unfold getTo
  rw [List.take_succ_eq_append_getElem (by simp; omega), getL_append]
  have e : min k (b.length - a) = k := by omega
  simp [getL, e]
theorem getTo_lt {b : List Nat} {a k : Nat} (hb : ∀ x ∈ b, x < 256) : getTo b a k < 256 ^ k := by
  have h1 := getL_lt ((b.drop a).take k) (fun x hx => hb x (List.mem_of_mem_drop (List.mem_of_mem_take hx)))
  exact Nat.lt_of_lt_of_le h1 (Nat.pow_le_pow_right (by omega) (List.length_take_le _ _))
theorem or_byte {q c k : Nat} (hq : q < 256 ^ k) (hc : c < 256) (hk : k < 8) :
    bits .or .u64 (q : Int) (IntKind.u64.wrap ((c : Int) * 2 ^ (8 * k))) = ((q + 256 ^ k * c : Nat) : Int) := by
  have e : (2 : Nat) ^ (8 * k) = 256 ^ k := by rw [Nat.pow_mul]
  have hp := pow256_lt hk
  have hq2 : q < 18446744073709551616 := by omega
  have hm : c * 256 ^ k ≤ 255 * 72057594037927936 := Nat.mul_le_mul (by omega) hp
  have hc2 : c * 256 ^ k < 18446744073709551616 := by omega
  have e1 : IntKind.u64.wrap ((c : Int) * 2 ^ (8 * k)) = ((c * 256 ^ k : Nat) : Int) := by
    rw [IntKind.wrap_u64, show ((c : Int) * 2 ^ (8 * k)) = ((c * 256 ^ k : Nat) : Int) by rw [← e]; simp]
    omega
  rw [e1, u64_or_nat q _ hq2 hc2, Nat.or_comm, nat_join (8 * k) (c * 256 ^ k) q (by rw [e]; exact Nat.mul_mod_left _ _) (by rw [e]; exact hq)]
  rw [Nat.add_comm, Nat.mul_comm]
theorem getTo_head {b : List Nat} {a j : Nat} (k : Nat) (hj : j < b.length) (h : j = a) : getTo b a (k + 1) = b[j] + 256 * getTo b (a + 1) k := by
  subst h
  unfold getTo
  rw [List.drop_eq_getElem_cons hj, List.take_succ_cons]
  rfl
end Go.Proofs.Ytjgkhckcoknnfaa
/- Cells that a slice value reads (nil or not), and the law of an append of them onto a row of one's own. -/
namespace Go.Proofs.Ytjgkhckcoknnfaa
open Go.RowKit

/-- Cells that a slice value reads. -/
def SrcAt (w : World) (v : Value) (m size : Nat) (news : List Value) : Prop :=
  (v = .slice none 0 0 ∧ m = 0 ∧ news = []) ∨ ∃ ad c, v = .slice (some ad) m c ∧ news.length = m * size ∧ ∀ j u, news[j]? = some u → ad.block < w.heap.size ∧ w.cell? (ad.add j) = some u
theorem SrcAt.later {w w' : World} {v : Value} {m size : Nat} {news : List Value} (h : SrcAt w v m size news) (hb : Below w.heap.size w w') : SrcAt w' v m size news := by
  rcases h with h | ⟨ad, c, h1, h2, h3⟩
  · exact .inl h
  · refine .inr ⟨ad, c, h1, h2, fun j u hj => ?_⟩
    obtain ⟨h4, h5⟩ := h3 j u hj
    refine ⟨Nat.lt_of_lt_of_le h4 hb.size, ?_⟩
    rw [hb.cell (p := ad.add j) (by unfold Addr.add; split <;> exact h4)]
    exact h5
theorem src_row {w : World} {base : Nat} {e : TypeId} {size n : Nat} {v : Value} {xs : List Value} (h : w.ownsRow base e size v n xs) : SrcAt w v n size xs := by
  rcases h.2 with ⟨h1, h2⟩ | ⟨g, cap, cur, h1, h2, h3, _⟩
  · refine .inl ⟨h1, h2, ?_⟩
    have := h.1
    rw [h2] at this
    exact List.eq_nil_of_length_eq_zero (by simpa using this)
  · refine .inr ⟨⟨g, 0, none⟩, cap, h1, h.1, fun j u hj => ⟨(Array.getElem?_eq_some_iff.1 h3).1, ?_⟩⟩
    have hj2 : j < n * size := by
      rcases Nat.lt_or_ge j xs.length with h4 | h4
      · rw [← h.1]; exact h4
      · rw [List.getElem?_eq_none h4] at hj; simp at hj
    rw [add_lit', Nat.zero_add]
    subst h1
    rw [h.cellAt j hj2]
    exact hj
theorem wpList_append_src {P : Program} {w : World} {ops : Array Oper} {rest : List Oper} {o : Oper} {a : Act} {Q : Exit → Act → World → Prop} (hgd : o.guard = none) (s x : Operand) (t : TypeId)
    (ho : o.op = .call { callee := .builtin .append, args := #[s, x], argTypes := #[t, t] })
    (base : Nat) (e : TypeId) (i : TypeInfo) (z : Value) (size bytes : Nat) (ht : P.underlying t = some (.slice e)) (hi : P.info? e = some i) (hz : i.zero = some z)
    (hsize : i.size = size) (hby : i.bytes = bytes) (hzs : z.cells.size = size) (hsz : 0 < size)
    (v : Value) (n : Nat) (xs : List Value) (hs : a.eval s = v) (hown : w.ownsRow base e size v n xs)
    (vx : Value) (m : Nat) (news : List Value) (hx : a.eval x = vx) (hsrc : SrcAt w vx m size news) (h1 : ∀ u ∈ news, u.oneCell' = true)
    (h63 : n + m ≤ maxLen) (hbytes : (n + m) * bytes ≤ 140737488355328) (hbase : base ≤ w.heap.size)
    (h : ∀ v' w', w'.ownsRow base e size v' (n + m) (xs ++ news) → w.grownBy w' v.ownBlock → wpList P ops Q rest (a.put o.dst v') w') : wpList P ops Q (o :: rest) a w := by
  rcases hsrc with ⟨rfl, rfl, rfl⟩ | ⟨ad, c, rfl, h2, h3⟩
  · exact wpList_append_own_none hgd s x t ho base e i size ht hi v n xs hs hown hx (h v w (by simpa using hown) (World.grownBy.refl _ _))
  · exact wpList_append_own w hgd s x t ho base e i z size bytes ht hi hz hsize hby hzs hsz v n xs hs hown ad m c news hx h2 (fun j u hj => (h3 j u hj).2) h1 h63 hbytes hbase (fun v' w' k1 k2 _ => h v' w' k1 k2)
theorem row_one {w : World} {base : Nat} {e : TypeId} {size n : Nat} {v : Value} {xs : List Value} (h : w.ownsRow base e size v n xs) : v.oneCell' = true := by
  rcases h.2 with ⟨rfl, _⟩ | ⟨g, cap, cur, rfl, _⟩ <;> rfl
end Go.Proofs.Ytjgkhckcoknnfaa
/- Bytes in rows (putAt: bytes laid over others; seg: bytes cut out), bytes that a slice value reads (SrcAt of bv), and the walks of slices.Clone at bytes, copy, the document's Bytes: general facts. -/
namespace Go.Proofs.Ytjgkhckcoknnfaa
open Go.RowKit

theorem Try.info5 : (Try.prog.info? 5).map (fun i => (i.zero, i.size, i.bytes)) = some (some (.int .u8 0), 1, 1) := by kernel_rfl
theorem Try.size5 : (Try.prog.info? 5).map (·.size) = some 1 := by kernel_rfl

/-- P with b laid over it from o on. -/
def putAt (P : List Nat) (o : Nat) (b : List Nat) : List Nat := P.take o ++ b ++ P.drop (o + b.length)
/-- s bytes of P from o on. -/
def seg (P : List Nat) (o s : Nat) : List Nat := (P.drop o).take s
section
variable {P b : List Nat} {o s i : Nat}
theorem length_putAt (h : o + b.length ≤ P.length) : (putAt P o b).length = P.length := by simp [putAt]; omega
theorem length_seg (h : o + s ≤ P.length) : (seg P o s).length = s := by simp [seg]; omega
theorem seg_getD (hi : i < s) : (seg P o s).getD i 0 = P.getD (o + i) 0 := by
  unfold seg
  simp [List.getD, hi]
theorem putAt_getD (h : o + b.length ≤ P.length) (i : Nat) : (putAt P o b).getD i 0 = if o ≤ i ∧ i < o + b.length then b.getD (i - o) 0 else P.getD i 0 := by
  unfold putAt
  simp only [List.getD, List.append_assoc]
  by_cases h1 : i < o
  · rw [List.getElem?_append_left (by simp; omega), List.getElem?_take, if_pos h1, if_neg (by omega)]
  · rw [List.getElem?_append_right (by simp; omega)]
    have e : (P.take o).length = o := by simp; omega
    rw [e]
    by_cases h2 : i < o + b.length
    · rw [List.getElem?_append_left (by omega), if_pos (by omega)]
    · rw [List.getElem?_append_right (by omega), List.getElem?_drop, if_neg (by omega)]
      congr 2
      omega
theorem putAt_nil (P : List Nat) (o : Nat) : putAt P o [] = P := by simp [putAt]
theorem putAt_byte (h : ∀ x ∈ P, x < 256) (hb : ∀ x ∈ b, x < 256) : ∀ x ∈ putAt P o b, x < 256 := by
  intro x hx
  simp only [putAt, List.mem_append] at hx
  rcases hx with (hx | hx) | hx
  · exact h x (List.mem_of_mem_take hx)
  · exact hb x hx
  · exact h x (List.mem_of_mem_drop hx)
theorem seg_byte (h : ∀ x ∈ P, x < 256) : ∀ x ∈ seg P o s, x < 256 := fun x hx => h x (List.mem_of_mem_drop (List.mem_of_mem_take hx))
theorem bv_putAt (P : List Nat) (o : Nat) (b : List Nat) : (bv P).take o ++ bv b ++ (bv P).drop (o + (bv b).length) = bv (putAt P o b) := by
  simp [bv, putAt, List.map_take, List.map_drop]
theorem getD_byte (h : ∀ x ∈ P, x < 256) (i : Nat) : P.getD i 0 < 256 := by
  by_cases hi : i < P.length
  · rw [List.getD_eq_getElem?_getD, List.getElem?_eq_getElem hi]
    exact h _ (List.getElem_mem _)
  · rw [List.getD_eq_getElem?_getD, List.getElem?_eq_none (by omega)]; simp
theorem ext_getD {a b : List Nat} (hl : a.length = b.length) (h : ∀ i, i < a.length → a.getD i 0 = b.getD i 0) : a = b := by
  apply List.ext_getElem hl
  intro i h1 h2
  have := h i h1
  simpa [List.getD, h1, h2] using this
theorem seg_putAt (h : o + b.length ≤ P.length) : seg (putAt P o b) o b.length = b := by
  refine ext_getD (length_seg (by rw [length_putAt h]; exact h)) fun i hi => ?_
  rw [length_seg (by rw [length_putAt h]; exact h)] at hi
  rw [seg_getD hi, putAt_getD h, if_pos (by omega), Nat.add_sub_cancel_left]
theorem seg_putAt_other {q : Nat} (h : o + b.length ≤ P.length) (hq : q + s ≤ P.length) (hd : q + s ≤ o ∨ o + b.length ≤ q) : seg (putAt P o b) q s = seg P q s := by
  refine ext_getD (by rw [length_seg (by rw [length_putAt h]; exact hq), length_seg hq]) fun i hi => ?_
  rw [length_seg (by rw [length_putAt h]; exact hq)] at hi
  rw [seg_getD hi, seg_getD hi, putAt_getD h, if_neg (by omega)]
theorem repN_getD (n i : Nat) : (List.replicate n (0 : Nat)).getD i 0 = 0 := by
  rw [List.getD_eq_getElem?_getD, List.getElem?_replicate]
  split <;> rfl
theorem seg_rep {n o s : Nat} (h : o + s ≤ n) : seg (List.replicate n 0) o s = List.replicate s 0 := by
  refine ext_getD (by rw [length_seg (by rw [List.length_replicate]; exact h), List.length_replicate]) fun i hi => ?_
  rw [length_seg (by rw [List.length_replicate]; exact h)] at hi
  rw [seg_getD hi, repN_getD, repN_getD]
theorem rep_byte {n v : Nat} (hv : v < 256) : ∀ x ∈ List.replicate n v, x < 256 := fun x hx => by rw [(List.mem_replicate.1 hx).2]; exact hv
end
theorem bv_one (l : List Nat) : ∀ u ∈ bv l, u.oneCell' = true := by
  intro u hu
  obtain ⟨_, _, rfl⟩ := List.mem_map.1 hu
  rfl
theorem bv_at (l : List Nat) (i : Nat) (hi : i < l.length) : (bv l)[i]? = some (.int .u8 (l.getD i 0 : Nat)) := by simp [bv, List.getD, hi]
theorem bv_some {l : List Nat} {j : Nat} {u : Value} (h : (bv l)[j]? = some u) : j < l.length ∧ u = .int .u8 (l.getD j 0 : Nat) := by
  have hj : j < l.length := by
    rcases Nat.lt_or_ge j l.length with h1 | h1
    · exact h1
    · rw [List.getElem?_eq_none (by simpa using h1)] at h; simp at h
  rw [bv_at l j hj] at h
  exact ⟨hj, (Option.some.inj h).symm⟩

/-- Bytes that a slice value reads, apart from the blocks from B to less than E. -/
def Apart (B E : Nat) (v : Value) (b : List Nat) : Prop := ∀ ad m c, v = .slice (some ad) m c → b ≠ [] → ad.block < B ∨ E ≤ ad.block
theorem block_add (ad : Addr) (j : Nat) : (ad.add j).block = ad.block := by unfold Addr.add; split <;> rfl
theorem src_turns {B E n : Nat} {w w' : World} {v : Value} {b : List Nat} (h : SrcAt w v n 1 (bv b)) (ap : Apart B E v b) (ht : Turns B E w w') : SrcAt w' v n 1 (bv b) := by
  rcases h with h | ⟨ad, c, h1, h2, h3⟩
  · exact .inl h
  · refine .inr ⟨ad, c, h1, h2, fun j u hj => ?_⟩
    obtain ⟨h4, h5⟩ := h3 j u hj
    refine ⟨Nat.lt_of_lt_of_le h4 ht.size, ?_⟩
    have hb : b ≠ [] := fun e => by rw [e] at hj; simp [bv] at hj
    rw [← h5]
    exact World.cell?_of_block (by rw [block_add]; exact ht.block _ h4 (ap ad n c h1 hb))
theorem src_len {w : World} {v : Value} {n : Nat} {b : List Nat} (h : SrcAt w v n 1 (bv b)) : b.length = n := by
  rcases h with ⟨_, rfl, h⟩ | ⟨ad, c, _, h, _⟩
  · have := congrArg List.length h; simpa using this
  · simpa using h
theorem src_slice {w : World} {v : Value} {n : Nat} {b : List Value} (h : SrcAt w v n 1 b) : ∃ a c, v = .slice a n c := by
  rcases h with ⟨rfl, rfl, _⟩ | ⟨ad, c, rfl, _⟩ <;> exact ⟨_, _, rfl⟩
theorem apart_row {w : World} {base n B E : Nat} {e : TypeId} {v : Value} {xs : List Value} {b : List Nat} (h : w.ownsRow base e 1 v n xs) (hE : E ≤ base) : Apart B E v b := by
  intro ad m c e1 _
  subst e1
  rcases h.2 with ⟨h1, _⟩ | ⟨g, cap, cur, h1, h2, _⟩
  · simp at h1
  · simp only [Value.slice.injEq, Option.some.injEq] at h1
    rw [h1.1]
    exact .inr (Nat.le_trans hE h2)
theorem src_cell {w : World} {g off s c : Nat} {b : List Nat} (hl : b.length = s) (hg : g < w.heap.size) (hc : ∀ j, j < s → w.cell? ⟨g, off + j, none⟩ = some (.int .u8 (b.getD j 0 : Nat))) : SrcAt w (.slice (some ⟨g, off, none⟩) s c) s 1 (bv b) := by
  refine .inr ⟨_, _, rfl, by simp [hl], fun j u hj => ⟨hg, ?_⟩⟩
  obtain ⟨h1, rfl⟩ := bv_some hj
  rw [add_lit']
  exact hc j (by omega)

/-- Bytes as a string. -/
def strB (l : List Nat) : ByteArray := strOfNums (l.map fun x : Nat => (x : Int))
theorem conv_src {w : World} {n : Nat} {v : Value} {l : List Nat} (h : SrcAt w v n 1 (bv l)) : (convert 49 9 v).run Try.prog w = .ok (.string (strB l)) w := by
  have hl := src_len h
  rcases h with ⟨rfl, rfl, h⟩ | ⟨ad, c, rfl, h2, h3⟩
  · obtain rfl : l = [] := List.eq_nil_of_length_eq_zero hl
    exact run_convert_bytes_nil w 49 5 Try.underlying49 Try.underlying5 0 0 9 Try.underlying9
  · by_cases hn : n = 0
    · subst hn
      obtain rfl : l = [] := List.eq_nil_of_length_eq_zero hl
      rw [run_convert_bytes_string w 49 9 5 (some ad) 0 c Try.underlying49 Try.underlying5 Try.underlying9]
      have hlo : (loadCells ad 0).run Try.prog w = .ok (([] : List Int).map (Value.int .u8)).toArray w := by
        have := run_loadCells_list (P := Try.prog) w ad [] (by simp)
        simpa using this
      rw [run_bytesToString w ad 0 c [] hlo]
      rfl
    · obtain ⟨bb, off, spot⟩ := ad
      have h0 := (h3 0 _ (bv_at l 0 (by omega))).2
      have hspot : spot = none := by simpa [Addr.add] using World.cell?_spot h0
      subst hspot
      refine run_convert_bytes_arg (P := Try.prog) w 49 5 Try.underlying49 Try.underlying5 bb off n c (l.map fun x : Nat => (x : Int)) (by simpa using hl) ?_ 9 Try.underlying9
      intro i hi
      have : i < l.length := by omega
      have hc := (h3 i _ (bv_at l i this)).2
      rw [add_lit'] at hc
      rw [hc]
      simp [List.getD, this]
theorem conv_any {w : World} {B n : Nat} {v : Value} {l : List Nat} (h : w.ownsRow B 5 1 v n (bv l)) : (convert 49 9 v).run Try.prog w = .ok (.string (strB l)) w := conv_src (src_row h)


set_option maxHeartbeats 400000 in
theorem clone_src {s : Nat} {v : Value} {b : List Nat} (w : World) (h : SrcAt w v s 1 (bv b)) (hs : s ≤ 8192) :
    Calls Try.prog 89 #[v] w fun e w' => ∃ v', e = .returned v' ∧ w'.ownsRow w.heap.size 5 1 v' s (bv b) ∧ Below w.heap.size w w' := by
  have hl := src_len h
  rcases h with ⟨rfl, rfl, h⟩ | ⟨ad, c, rfl, h2, h3⟩
  · obtain rfl : b = [] := List.eq_nil_of_length_eq_zero hl
    have heq := fun w => Go.Lib.run_eql_slice_nil (P := Try.prog) w 49 5 none 0 0 0 0 Try.underlying49
    go_enter Try.func89, Try.ntmps89
    go_wp2
    go_ret
    exact ⟨_, rfl, World.ownsRow_nil _ _ _ _, Below.refl _ _⟩
  · obtain ⟨i0, hi, hz0, hz1, hz2⟩ := info_parts Try.info5
    have HZL : Hid ((bv b).length = s * 1) := h2
    have HC : Hid (∀ j u, (bv b)[j]? = some u → ad.block < w.heap.size ∧ w.cell? (ad.add j) = some u) := h3
    have heq := fun w => Go.Lib.run_eql_slice_nil (P := Try.prog) w 49 5 (some ad) s c 0 0 Try.underlying49
    clear h2 h3 hl
    go_enter Try.func89, Try.ntmps89
    go_wp2_with (at_builtin; refine wpList_append_own _ rfl _ _ 49 rfl w.heap.size 5 i0 (.int .u8 0) 1 1 Try.underlying49 hi hz0 hz1 hz2 rfl (by decide) _ _ _ rfl (World.ownsRow_made w #[] 0 (Nat.le_refl _) (by unfold maxLen; omega) rfl) ad s c (bv b) rfl HZL.out ?c1 (bv_one _) ?c3 ?c4 ?c5 ?_)
    case c1 =>
      intro j u hj
      obtain ⟨h1, h2⟩ := HC.out j u hj
      rw [← h2]
      exact World.cell?_of_block (by rw [block_add]; exact Below.heap_alloc w _ _ h1)
    case c3 => unfold maxLen; omega
    case c4 => omega
    case c5 => simp
    intro v2 w2 own2 gr2 _
    have b2 : Below w.heap.size w w2 := ((Below.refl _ w).alloc (Nat.le_refl _) _).grown gr2 (by simp) (fun i hi => by simp [Value.ownBlock] at hi; omega)
    have own2' : w2.ownsRow w.heap.size 5 1 v2 s (bv b) := by simpa using own2
    clear own2 gr2
    go_wp2
    go_ret
    exact ⟨_, rfl, own2', b2⟩
theorem clone_nil (w : World) : Calls Try.prog 89 #[.slice none 0 0] w fun e w' => e = .returned (.slice none 0 0) ∧ w = w' := by
  have heq := fun w => Go.Lib.run_eql_slice_nil (P := Try.prog) w 49 5 none 0 0 0 0 Try.underlying49
  go_enter Try.func89, Try.ntmps89
  go_wp2
  go_ret
  exact ⟨rfl, rfl⟩

/-- What copy does to a row of bytes in block g: bytes b that lie elsewhere are laid from o on. -/
theorem copy_row {w : World} {g o cap n : Nat} {tg : TypeId} {v : Value} {b P : List Nat} (hg : w.heap[g]? = some (.cells (bv P).toArray tg (0, 0))) (hfit : o + b.length ≤ P.length) (hb : SrcAt w v n 1 (bv b)) (ty : TypeId) :
    (Builtin.copy_ #[49, 49] ty #[.slice (some ⟨g, o, none⟩) n cap, v]).run Try.prog w = .ok (.int .i64 (n : Int)) (w.setRow g (bv (putAt P o b)).toArray) := by
  have hl := src_len hb
  rcases hb with ⟨rfl, rfl, h⟩ | ⟨ad, c, rfl, h2, h3⟩
  · obtain rfl : b = [] := List.eq_nil_of_length_eq_zero hl
    rw [putAt_nil, setRow_self w g _ _ _ hg]
    exact run_copy_none w 49 49 ty 5 _ _ _ _ _ _ Try.underlying49 Try.size5 rfl
  · subst hl
    have hr := run_copy_row (P := Try.prog) w 49 49 ty 5 g o b.length cap ad b.length c (bv P).toArray tg (bv b) Try.underlying49 Try.size5 hg (by simp) (fun j u hj => (h3 j u hj).2) (by simp; exact hfit) (bv_one b)
    refine hr.trans ?_
    have e2 := bv_putAt P o b
    show Result.ok (Value.int .i64 ((bv b).length : Int)) (w.setRow g ((bv P).take o ++ bv b ++ (bv P).drop (o + (bv b).length)).toArray) = _
    rw [e2, length_bv]
theorem copy_gone {w : World} {a : Option Addr} {L c : Nat} (ty : TypeId) :
    (Builtin.copy_ #[49, 49] ty #[.slice none 0 0, .slice a L c]).run Try.prog w = .ok (.int .i64 0) w :=
  run_copy_none w 49 49 ty 5 _ _ _ _ _ _ Try.underlying49 Try.size5 (by simp)
/-- make([]byte, n). -/
theorem run_make_bytes (n : Nat) (hn : n ≤ 100000) (w : World) :
    (Instr.makeSlice 49 (.int .i64 (n : Int)) (.int .i64 (n : Int))).run Try.prog w = .ok (.slice (some ⟨w.heap.size, 0, none⟩) n n) (w.alloc (.cells (bv (List.replicate n 0)).toArray 5)) := by
  have h := run_make_row' (P := Try.prog) 49 5 (.int .u8 0) 1 Try.underlying49 Try.info5 rfl .i64 .i64 n (by omega) (by omega) w
  rw [← made_bytes, Array.toArray_toList]
  exact h
theorem made_own (w : World) (n : Nat) (hn : n ≤ maxLen) : (w.alloc (.cells (bv (List.replicate n 0)).toArray 5)).ownsRow w.heap.size 5 1 (.slice (some ⟨w.heap.size, 0, none⟩) n n) n (bv (List.replicate n 0)) := by
  have h := World.ownsRow_lit (base := w.heap.size) (e := 5) (size := 1) w (bv (List.replicate n 0)).toArray n (Nat.le_refl _) hn (by simp [bv])
  simpa using h
theorem Turns.setRow {B E g : Nat} {a w : World} (h : Turns B E a w) (h1 : B ≤ g) (h2 : g < E) (cs : Array Value) : Turns B E a (w.setRow g cs) := by
  refine ⟨h.os, h.tape, h.output, by have := h.size; simpa [World.setRow] using this, fun k hk hk2 => ?_⟩
  rw [setRow_other w g k cs (by omega)]
  exact h.block k hk hk2
theorem Turns.setNew {B E : Nat} {a w : World} (h : Turns B E a w) {p : Addr} (hp : a.heap.size ≤ p.block) (u : Value) : Turns B E a (w.setCell p u) := by
  refine ⟨h.os, h.tape, h.output, by have := h.size; simpa using this, fun k hk hk2 => ?_⟩
  rw [Below.heap_setCell _ _ _ _ (by omega)]
  exact h.block k hk hk2
/-- A list of numbers that lies in memory, read through a slice value. -/
def NumsAt (k : IntKind) (w : World) (a : Option Addr) (zs : List Nat) : Prop :=
  zs = [] ∨ ∃ b off, a = some ⟨b, off, none⟩ ∧ b < w.heap.size ∧ ∀ i, i < zs.length → w.cell? ⟨b, off + i, none⟩ = some (.int k (zs.getD i 0 : Nat))
theorem nums_src {w : World} {p : Option Addr} {L c : Nat} {b : List Nat} (h : SrcAt w (.slice p L c) L 1 (bv b)) : NumsAt .u8 w p b := by
  have hl := src_len h
  rcases h with ⟨_, rfl, _⟩ | ⟨ad, c', h1, h2, h3⟩
  · exact .inl (List.eq_nil_of_length_eq_zero hl)
  · by_cases hn : L = 0
    · subst hn
      exact .inl (List.eq_nil_of_length_eq_zero hl)
    · simp only [Value.slice.injEq, true_and] at h1
      obtain ⟨rfl, rfl⟩ := h1
      obtain ⟨bb, off, spot⟩ := ad
      have h0 := h3 0 _ (bv_at b 0 (by omega))
      have hspot : spot = none := by simpa [Addr.add] using World.cell?_spot h0.2
      subst hspot
      refine .inr ⟨bb, off, rfl, h0.1, fun i hi => ?_⟩
      have hc := (h3 i _ (bv_at b i hi)).2
      rw [add_lit'] at hc
      exact hc
end Go.Proofs.Ytjgkhckcoknnfaa
/- Plain facts on the bytes of frames: which may be touched, what a call answers and leaves (RS: a RAM's state): MPlain of layer 6, for seats of today. -/
namespace Go.Proofs.Ytjgkhckcoknnfaa
open Go.RowKit

theorem seg_getTo (P : List Nat) (o s : Nat) : getTo (seg P o s) 0 s = getTo P o s := by
  unfold getTo seg
  simp [List.take_take]
/-- May bytes be touched? -/
def thB (O : List Int) (n at' size : Int) : Bool := decide (ownI O n ≠ 0 ∧ 0 ≤ at' ∧ 0 ≤ size ∧ at' + size ≤ 4096)
/-- May a word be touched? -/
def wdB (O : List Int) (n i : Int) : Bool := decide (ownI O n ≠ 0 ∧ 0 ≤ i ∧ i < 512)
/-- Where frame n's bytes from a on lie. -/
def plc (n at' : Int) : Nat := n.toNat * 4096 + at'.toNat
/-- What a read answers. -/
def rdL (O : List Int) (P : List Nat) (n at' size : Int) : List Nat := if thB O n at' size then seg P (plc n at') size.toNat else []
/-- What a write leaves. -/
def wrP (O : List Int) (P : List Nat) (n at' : Int) (b : List Nat) : List Nat := if thB O n at' b.length then putAt P (plc n at') b else P
/-- What a word is. -/
def wdN (O : List Int) (P : List Nat) (n i : Int) : Nat := if wdB O n i then getTo P (plc n (i * 8)) 8 else 0
/-- What setting a word leaves. -/
def wdP (O : List Int) (P : List Nat) (n i : Int) (v : Nat) : List Nat := if wdB O n i then putAt P (plc n (i * 8)) (putN 8 v) else P
/-- What a take leaves. -/
def tkP (S P : List Nat) (o : Int) : List Nat := if tkB S o then putAt P (tkN S o * 4096) (List.replicate 4096 0) else P
theorem own_yes {O : List Int} {n : Int} (h : ownI O n ≠ 0) : ∃ k : Nat, n = k ∧ k < O.length ∧ O.getD k 0 ≠ 0 := gv_of (decide_eq_true h)
theorem th_of {O : List Int} {n a s : Int} (h : thB O n a s = true) : ∃ n' a' s' : Nat, n = n' ∧ a = a' ∧ s = s' ∧ n' < O.length ∧ O.getD n' 0 ≠ 0 ∧ a' + s' ≤ 4096 := by
  obtain ⟨h1, h2, h3, h4⟩ := of_decide_eq_true h
  obtain ⟨k, rfl, hk, h0⟩ := own_yes h1
  obtain ⟨a', rfl⟩ := Int.eq_ofNat_of_zero_le h2
  obtain ⟨s', rfl⟩ := Int.eq_ofNat_of_zero_le h3
  exact ⟨k, a', s', rfl, rfl, rfl, hk, h0, by omega⟩
theorem th_not {O : List Int} {n a s : Int} (h : thB O n a s = false) : ¬ (ownI O n ≠ 0 ∧ 0 ≤ a ∧ 0 ≤ s ∧ a + s ≤ 4096) := of_decide_eq_false h
theorem th_yes {O : List Int} {n a s : Nat} (h : O.getD n 0 ≠ 0) (has : a + s ≤ 4096) : thB O n a s = true := decide_eq_true ⟨by rw [ownI_nat]; exact h, by omega, by omega, by omega⟩
theorem wd_of {O : List Int} {n i : Int} (h : wdB O n i = true) : ∃ i' : Nat, i = i' ∧ i' < 512 ∧ thB O n (i * 8) 8 = true := by
  obtain ⟨h1, h2, h3⟩ := of_decide_eq_true h
  obtain ⟨a', rfl⟩ := Int.eq_ofNat_of_zero_le h2
  exact ⟨a', rfl, by omega, decide_eq_true ⟨h1, by omega, by omega, by omega⟩⟩
theorem wd_not {O : List Int} {n i : Int} (h : wdB O n i = false) (h0 : 0 ≤ i) (h1 : i < 512) : thB O n (i * 8) 8 = false := by
  have h2 := of_decide_eq_false h
  exact decide_eq_false (by omega)
theorem wd_of' {O : List Int} {n i : Int} (h : wdB O n i = true) : ∃ n' i' : Nat, n = n' ∧ i = i' ∧ n' < O.length ∧ O.getD n' 0 ≠ 0 ∧ i' < 512 := by
  obtain ⟨h1, h2, h3⟩ := of_decide_eq_true h
  obtain ⟨k, rfl, hk, h0⟩ := own_yes h1
  obtain ⟨a', rfl⟩ := Int.eq_ofNat_of_zero_le h2
  exact ⟨k, a', rfl, rfl, hk, h0, by omega⟩
theorem plc_nat (n a : Nat) : plc (n : Int) (a : Int) = n * 4096 + a := by rw [plc, Int.toNat_natCast, Int.toNat_natCast]
theorem plc_le {n a s m : Nat} (hn : n < m) (h : a + s ≤ 4096) : n * 4096 + a + s ≤ m * 4096 := by
  have := Nat.mul_le_mul_right 4096 (Nat.succ_le_of_lt hn)
  omega
theorem rd_no {O : List Int} {P : List Nat} {n a s : Int} (h : thB O n a s = false) : rdL O P n a s = [] := by simp [rdL, h]
theorem rd_yes {O : List Int} {P : List Nat} {n a s : Nat} (h : thB O n a s = true) : rdL O P n a s = seg P (n * 4096 + a) s := by
  rw [rdL, if_pos h, plc_nat, Int.toNat_natCast]
theorem wr_no {O : List Int} {P b : List Nat} {n a : Int} (h : thB O n a b.length = false) : wrP O P n a b = P := by simp [wrP, h]
theorem wr_yes {O : List Int} {P b : List Nat} {n a : Nat} (h : thB O n a b.length = true) : wrP O P n a b = putAt P (n * 4096 + a) b := by rw [wrP, if_pos h, plc_nat]
theorem wdN_no {O : List Int} {P : List Nat} {n i : Int} (h : wdB O n i = false) : wdN O P n i = 0 := by simp [wdN, h]
theorem wdN_yes {O : List Int} {P : List Nat} {n i : Nat} (h : wdB O n i = true) : wdN O P n i = getTo P (n * 4096 + i * 8) 8 := by
  have e := plc_nat n (i * 8)
  have e1 : ((i * 8 : Nat) : Int) = (i : Int) * 8 := by omega
  rw [e1] at e
  rw [wdN, if_pos h, e]
theorem wdP_no {O : List Int} {P : List Nat} {n i : Int} {v : Nat} (h : wdB O n i = false) : wdP O P n i v = P := by simp [wdP, h]
theorem wdP_yes {O : List Int} {P : List Nat} {n i v : Nat} (h : wdB O n i = true) : wdP O P n i v = putAt P (n * 4096 + i * 8) (putN 8 v) := by
  have e := plc_nat n (i * 8)
  have e1 : ((i * 8 : Nat) : Int) = (i : Int) * 8 := by omega
  rw [e1] at e
  rw [wdP, if_pos h, e]
theorem tkP_no {S P : List Nat} {o : Int} (h : tkB S o = false) : tkP S P o = P := by simp [tkP, h]
theorem ownI_nil (n : Int) : ownI [] n = 0 := by unfold ownI; split <;> simp

/-- A RAM's state: how many frames, what was taken and given, what was touched, whose each is, those that are Free, the bytes. -/
structure RS where
  m : Nat
  t : Int
  x : Int
  O : List Int
  S : List Nat
  P : List Nat
def RS.no : RS := ⟨0, 0, 0, [], [], []⟩
/-- At first. -/
def RS.new (m : Nat) : RS := ⟨m, 0, 0, List.replicate m 0, fdown m, List.replicate (m * 4096) 0⟩
namespace RS
def may (R : RS) (n a s : Int) : Bool := thB R.O n a s
def rd (R : RS) (n a s : Int) : List Nat := rdL R.O R.P n a s
def touch (R : RS) (b : Bool) : RS := { R with x := bump R.x b }
def wr (R : RS) (n a : Int) (b : List Nat) : RS := { R with x := bump R.x (thB R.O n a b.length), P := wrP R.O R.P n a b }
def wd (R : RS) (n i : Int) : Nat := wdN R.O R.P n i
def wdOk (R : RS) (n i : Int) : Bool := wdB R.O n i
def sw (R : RS) (n i : Int) (v : Nat) : RS := { R with x := bump R.x (wdB R.O n i), P := wdP R.O R.P n i v }
def tk (R : RS) (o : Int) : RS := { R with t := bump R.t (tkB R.S o), O := tkO R.O R.S o, S := tkS R.S o, P := tkP R.S R.P o }
def gv (R : RS) (n : Int) : RS := { R with t := bump R.t (gvB R.O n), O := gvO R.O n, S := gvS R.O R.S n }
/-- Whose frame n is. -/
def own (R : RS) (n : Int) : Int := ownI R.O n
@[simp] theorem touch_no (R : RS) : R.touch false = R := rfl
theorem wr_may_no {R : RS} {n a : Int} {b : List Nat} (h : R.may n a b.length = false) : R.wr n a b = R := by
  have h' : thB R.O n a b.length = false := h
  simp only [wr, h', wr_no h', bump_no]
theorem wr_may_yes {R : RS} {n a : Int} {b : List Nat} (h : R.may n a b.length = true) : R.wr n a b = { R with x := wrap64 (R.x + 1), P := putAt R.P (plc n a) b } := by
  have h' : thB R.O n a b.length = true := h
  simp only [wr, h', bump_yes, wrP, if_true]
theorem sw_no {R : RS} {n i : Int} {v : Nat} (h : R.wdOk n i = false) : R.sw n i v = R := by
  have h' : wdB R.O n i = false := h
  simp only [sw, h', wdP_no h', bump_no]
theorem tk_no {R : RS} {o : Int} (h : tkB R.S o = false) : R.tk o = R := by
  simp only [tk, h, tkP_no h, bump_no, tkO, tkS, Bool.false_eq_true, if_false]
theorem gv_no {R : RS} {n : Int} (h : gvB R.O n = false) : R.gv n = R := by
  simp only [gv, h, bump_no, gvO, gvS, Bool.false_eq_true, if_false]
end RS
end Go.Proofs.Ytjgkhckcoknnfaa
/- The walk of num.write: size bytes of a row that the call owns are a number's lowest ones, and no other cell has turned. -/
namespace Go.Proofs.Ytjgkhckcoknnfaa
open Go.RowKit

theorem own_cell {w : World} {B g L cap : Nat} {e : TypeId} {xs : List Value} (h : w.ownsRow B e 1 (.slice (some ⟨g, 0, none⟩) L cap) L xs) {j : Nat} (hj : j < L) : ∃ v, w.cell? ⟨g, j, none⟩ = some v := by
  have hl := h.1
  rw [h.cellAt j (by omega)]
  exact ⟨xs[j]'(by omega), List.getElem?_eq_getElem _⟩

set_option maxHeartbeats 400000 in
theorem write_any (B g L cap a s n : Nat) (A S N : Int) (hA : A = a) (hS : S = s) (hN : N = n) (b : List Nat) (w : World) (hL : L ≤ maxLen) (hs : s ≤ 8) (has : a + s ≤ L)
    (hown : w.ownsRow B 5 1 (.slice (some ⟨g, 0, none⟩) L cap) L (bv b)) :
    Calls Try.prog 78 #[.slice (some ⟨g, 0, none⟩) L cap, .int .i64 A, .int .i64 S, .int .u64 N] w fun e w' =>
      e = .returned (.tuple #[]) ∧ w'.ownsRow B 5 1 (.slice (some ⟨g, 0, none⟩) L cap) L (bv (layN b a s n)) ∧ w.grownBy w' (some g) := by
  subst hA hS hN
  unfold maxLen at hL
  have hbl : b.length = L := by have := hown.1; simpa using this
  have H0 : Hid (b.length = L) := hbl
  clear hbl
  go_enter Try.func78, Try.ntmps78
  go_wp2
  go_loopw [10] (fun i wr => ∃ k : Nat, k ≤ s ∧ i = .int .i64 k ∧ wr.ownsRow B 5 1 (.slice (some ⟨g, 0, none⟩) L cap) L (bv (layN b a k n)) ∧ w.grownBy wr (some g)) (fun i _ => s - (intOf i).toNat)
  case atStart => exact ⟨0, Nat.zero_le _, rfl, by rw [layN_zero]; exact hown, World.grownBy.refl _ _⟩
  case round =>
    obtain ⟨k, hk, rfl, hown', hg⟩ := hrel
    by_cases hlt : k < s
    · obtain ⟨v0, hcell⟩ := own_cell hown' (j := a + k) (by omega)
      have hfz := hown'.frozenAt (a + k)
      have hlay := layN_succ (b := b) (a := a) (k := k) (n := n) (by rw [H0.out]; omega)
      have HL : Hid _ := hlay
      clear hlay
      go_wp2
      go_roundw
      case rel =>
        refine ⟨k + 1, by omega, by go_num, ?_⟩
        rw [byteAt2]
        have R := hown'.stored (a + k) (.int .u8 ((n / 256 ^ k % 256 : Nat) : Int))
        rw [bv_set, HL.out] at R
        exact ⟨R.1, hg.trans R.2⟩
      case measure => simp [intOf]; omega
    · have e : k = s := by omega
      subst e
      go_wp2
      go_end0
      exact ⟨rfl, hown', hg⟩
end Go.Proofs.Ytjgkhckcoknnfaa
/- The walks of num's sizeMayBe, isThere, Put and Get, and of the document's Put and Get (layer 1), over bytes that a slice value reads: general (Put, Get and MNum of stage 1, over GKit and GBytes). -/
namespace Go.Proofs.Ytjgkhckcoknnfaa
open Go.RowKit

set_option maxHeartbeats 400000 in
theorem sizeMayBe_any (s : Int) (w : World) :
    Calls Try.prog 77 #[.int .i64 s] w fun e w' => e = .returned (.bool (decide (1 ≤ s ∧ s ≤ 8))) ∧ w = w' := by
  by_cases h1 : 1 ≤ s
  · by_cases h2 : s ≤ 8
    · go_enter Try.func77, Try.ntmps77
      go_wp2
      go_ret
      exact ⟨retBool (by simp [h1, h2]), rfl⟩
    · go_enter Try.func77, Try.ntmps77
      go_wp2
      go_ret
      exact ⟨retBool (by simp [h2]), rfl⟩
  · go_enter Try.func77, Try.ntmps77
    go_wp2
    go_ret
    exact ⟨retBool (by simp; omega), rfl⟩

set_option maxHeartbeats 400000 in
theorem put_bad (s : Int) (v : Value) (w : World) (hs : ¬ (1 ≤ s ∧ s ≤ 8)) :
    Calls Try.prog 58 #[.int .i64 s, v] w fun e w' => e = .returned (.slice none 0 0) ∧ w = w' := by
  have hd : decide (1 ≤ s ∧ s ≤ 8) = false := by simp [hs]
  have H : Hid _ := hd
  clear hd hs
  go_enter Try.func58, Try.ntmps58
  go_wp2_with (go_at_call 77; refine (sizeMayBe_any _ _).mono ?_; rintro e w' ⟨rfl, rfl⟩; rw [H.out])
  go_ret
  exact ⟨rfl, rfl⟩

set_option maxHeartbeats 400000 in
theorem put_any (s m c : Nat) (S : Int) (hS : S = s) (a : Option Addr) (ns : List Nat) (w : World) (hs : 1 ≤ s ∧ s ≤ 8) (hm : m ≤ 1099511627776) (hl : ns.length = m) (hns : NumsAt .u64 w a ns) :
    Calls Try.prog 58 #[.int .i64 S, .slice a m c] w fun e w' => e = .returned (.slice (some ⟨w.heap.size, 0, none⟩) (m * s) (m * s)) ∧
      w'.ownsRow w.heap.size 5 1 (.slice (some ⟨w.heap.size, 0, none⟩) (m * s) (m * s)) (m * s) (bv (putAll s ns)) ∧ Below w.heap.size w w' := by
  subst hS
  obtain ⟨hs1, hs2⟩ := hs
  obtain ⟨i0, hi, hz0, hz1, hz2⟩ := info_parts Try.info5
  have hd : decide (1 ≤ (s : Int) ∧ (s : Int) ≤ 8) = true := by simp; omega
  have H : Hid _ := hd
  have hms : m * s ≤ 8796093022208 := by have := Nat.mul_le_mul hm hs2; omega
  have e1 : (s : Int) * (m : Int) = ((m * s : Nat) : Int) := by rw [Nat.mul_comm]; simp
  have hms' : (s : Int) * (m : Int) ≤ 8796093022208 := by rw [e1]; omega
  have hms0 : 0 ≤ (s : Int) * (m : Int) := by rw [e1]; omega
  have HL : Hid _ := hl
  have E1 : Hid _ := e1
  clear hd hl e1
  go_enter Try.func58, Try.ntmps58
  go_wp2_with (first | (go_at_call 77; refine (sizeMayBe_any _ _).mono ?_; rintro e w' ⟨rfl, rfl⟩; rw [H.out]) | (at_make; refine wpList_make_full _ rfl _ _ 49 rfl w.heap.size 5 i0 (.int .u8 0) 1 Try.underlying49 hi hz0 hz1 .i64 .i64 _ _ (m * s) rfl rfl E1.out E1.out (by rw [hz2]; omega) (by unfold maxLen; omega) (Nat.le_refl _) ?_))
  intro w1 hown hgr
  have hown1 : w1.ownsRow w.heap.size 5 1 (.slice (some ⟨w.heap.size, 0, none⟩) (m * s) (m * s)) (m * s) (bv (putTo s ns 0)) := by
    rw [putTo_zero, HL.out]
    rw [← made_bytes]
    exact hown
  have hb1 : Below w.heap.size w w1 := (Below.refl _ _).grown hgr (Nat.le_refl _) (by intro k hk; simp at hk)
  clear hown hgr
  go_wp2
  go_loopw [18] (fun i wr => ∃ k : Nat, k ≤ m ∧ i = .int .i64 k ∧ wr.ownsRow w.heap.size 5 1 (.slice (some ⟨w.heap.size, 0, none⟩) (m * s) (m * s)) (m * s) (bv (putTo s ns k)) ∧ Below w.heap.size w wr) (fun i _ => m - (intOf i).toNat)
  case atStart => exact ⟨0, Nat.zero_le _, rfl, hown1, hb1⟩
  case round =>
    obtain ⟨k, hk, rfl, hown', hb⟩ := hrel
    by_cases hlt : k < m
    · rcases hns with rfl | ⟨b, off, rfl, hbl, hcell⟩
      · have := HL.out; simp at this; omega
      have hkn : k < ns.length := by have := HL.out; omega
      have hc : wr.cell? ⟨b, off + k, none⟩ = some (.int .u64 ((ns[k] : Nat) : Int)) := by
        rw [hb.cell (p := ⟨b, off + k, none⟩) hbl, hcell k hkn]; simp [List.getD, hkn]
      have hks : k * s + s ≤ m * s := by have := Nat.mul_le_mul_right s hlt; rw [Nat.succ_mul] at this; omega
      have e2 : (k : Int) * (s : Int) = ((k * s : Nat) : Int) := by simp
      have hk1 : (k : Int) * (s : Int) ≤ 8796093022208 := by rw [e2]; omega
      have hk0 : 0 ≤ (k : Int) * (s : Int) := by rw [e2]; omega
      have E2 : Hid _ := e2
      clear e2
      go_wp2_with (go_at_call 78; refine (write_any w.heap.size w.heap.size (m * s) (m * s) (k * s) s (ns[k]) _ _ _ E2.out rfl rfl (putTo s ns k) _ (by unfold maxLen; omega) hs2 hks (by exact hown')).mono ?_; rintro e w2 ⟨rfl, hown2, hgr2⟩)
      go_roundw
      case rel =>
        refine ⟨k + 1, by omega, by go_num, ?_, hb.grown hgr2 hb.size (by intro j hj; simp at hj; omega)⟩
        rw [putTo_succ s ns k hkn] at hown2
        exact hown2
      case measure => simp [intOf]; omega
    · have e : k = m := by omega
      subst e
      go_wp2
      go_ret
      refine ⟨rfl, ?_, hb⟩
      have e2 : putTo s ns k = putAll s ns := by rw [← putTo_all s ns, HL.out]
      rw [← e2]
      exact hown'
def thereB (L : Nat) (a s : Int) : Bool := decide (1 ≤ s ∧ s ≤ 8 ∧ 0 ≤ a ∧ a + s ≤ L)
theorem thereB_no {L : Nat} {a s : Int} (h : ¬ (1 ≤ s ∧ s ≤ 8 ∧ 0 ≤ a ∧ a + s ≤ L)) : thereB L a s = false := decide_eq_false h
theorem thereB_yes {L : Nat} {a s : Int} (h : 1 ≤ s ∧ s ≤ 8 ∧ 0 ≤ a ∧ a + s ≤ L) : thereB L a s = true := decide_eq_true h
theorem thereB_iff {L : Nat} {a s : Int} (h : thereB L a s = true) : 1 ≤ s ∧ s ≤ 8 ∧ 0 ≤ a ∧ a + s ≤ L := of_decide_eq_true h

set_option maxHeartbeats 400000 in
theorem isThere_any (p : Option Addr) (L c : Nat) (a s : Int) (w : World) (hL : L ≤ maxLen) (_ha : a ≤ 9223372036854775807) :
    Calls Try.prog 81 #[.slice p L c, .int .i64 a, .int .i64 s] w fun e w' => e = .returned (.bool (thereB L a s)) ∧ w = w' := by
  unfold maxLen at hL
  by_cases h1 : 1 ≤ s ∧ s ≤ 8
  · have H1 : Hid _ := decide_eq_true h1
    obtain ⟨g1, g2⟩ := h1
    by_cases h2 : 0 ≤ a
    · by_cases h3 : a ≤ L - s
      · have E : Hid _ := thereB_yes (L := L) (a := a) (s := s) (by omega)
        go_enter Try.func81, Try.ntmps81
        go_wp2_with (go_at_call 77; refine (sizeMayBe_any _ _).mono ?_; rintro e w' ⟨rfl, rfl⟩; rw [H1.out])
        go_ret
        exact ⟨retBool E.out.symm, rfl⟩
      · have E : Hid _ := thereB_no (L := L) (a := a) (s := s) (by omega)
        go_enter Try.func81, Try.ntmps81
        go_wp2_with (go_at_call 77; refine (sizeMayBe_any _ _).mono ?_; rintro e w' ⟨rfl, rfl⟩; rw [H1.out])
        go_ret
        exact ⟨retBool (by rw [E.out]; exact decide_eq_false (by omega)), rfl⟩
    · have E : Hid _ := thereB_no (L := L) (a := a) (s := s) (by omega)
      go_enter Try.func81, Try.ntmps81
      go_wp2_with (go_at_call 77; refine (sizeMayBe_any _ _).mono ?_; rintro e w' ⟨rfl, rfl⟩; rw [H1.out])
      go_ret
      exact ⟨retBool E.out.symm, rfl⟩
  · have H1 : Hid _ := decide_eq_false h1
    have E : Hid _ := thereB_no (L := L) (a := a) (s := s) (by omega)
    clear h1
    go_enter Try.func81, Try.ntmps81
    go_wp2_with (go_at_call 77; refine (sizeMayBe_any _ _).mono ?_; rintro e w' ⟨rfl, rfl⟩; rw [H1.out])
    go_ret
    exact ⟨retBool E.out.symm, rfl⟩

set_option maxHeartbeats 400000 in
theorem get_no (p : Option Addr) (L c : Nat) (a s : Int) (w : World) (hL : L ≤ maxLen) (ha : a ≤ 9223372036854775807) (hno : thereB L a s = false) :
    Calls Try.prog 71 #[.slice p L c, .int .i64 a, .int .i64 s] w fun e w' => e = .returned (.tuple #[.int .u64 0, .bool false]) ∧ w = w' := by
  have H : Hid _ := hno
  clear hno
  go_enter Try.func71, Try.ntmps71
  go_wp2_with (go_at_call 81; refine (isThere_any _ _ _ _ _ _ hL ha).mono ?_; rintro e w' ⟨rfl, rfl⟩; rw [H.out])
  go_ret2
  exact ⟨rfl, rfl⟩

set_option maxHeartbeats 400000 in
theorem get_yes (p : Option Addr) (L c a s : Nat) (A S : Int) (hA : A = a) (hS : S = s) (b : List Nat) (w : World) (hL : L ≤ maxLen) (hl : b.length = L) (hb : NumsAt .u8 w p b) (h8 : ∀ x ∈ b, x < 256) (hs : 1 ≤ s ∧ s ≤ 8) (has : a + s ≤ L) :
    Calls Try.prog 71 #[.slice p L c, .int .i64 A, .int .i64 S] w fun e w' => e = .returned (.tuple #[.int .u64 (getTo b a s : Nat), .bool true]) ∧ w = w' := by
  subst hA hS
  have hL' := hL
  unfold maxLen at hL'
  have H : Hid _ := thereB_yes (L := L) (a := a) (s := s) (by omega)
  rcases hb with rfl | ⟨bb, off, rfl, hbl, hcell⟩
  · simp at hl; omega
  have HL : Hid _ := hl
  have HC : Hid _ := hcell
  clear hl hcell
  go_enter Try.func71, Try.ntmps71
  go_wp2_with (go_at_call 81; refine (isThere_any _ _ _ _ _ _ hL (by omega)).mono ?_; rintro e w' ⟨rfl, rfl⟩; rw [H.out])
  go_loop [8, 16] (fun t i => ∃ k : Nat, k ≤ s ∧ i = .int .i64 k ∧ t = .int .u64 (getTo b a k : Nat)) (fun _ i => s - (intOf i).toNat)
  case atStart => exact ⟨0, Nat.zero_le _, rfl, by simp [getTo, getL]⟩
  case round =>
    obtain ⟨k, hk, rfl, rfl⟩ := hrel
    by_cases hlt : k < s
    · have hbk : a + k < b.length := by have := HL.out; omega
      have hc : w.cell? ⟨bb, off + (a + k), none⟩ = some (.int .u8 ((b[a + k] : Nat) : Int)) := by
        rw [HC.out (a + k) hbk]; simp [List.getD, hbk]
      have hx : b[a + k] < 256 := h8 _ (List.getElem_mem _)
      have HO : Hid _ := or_byte (getTo_lt (a := a) (k := k) h8) hx (show k < 8 by omega)
      have HT : Hid _ := getTo_succ hbk
      generalize b[a + k] = x at *
      generalize getTo b a k = q at *
      clear hbk
      go_wp2
      go_round
      case rel => exact ⟨k + 1, by omega, by go_num, by rw [HT.out, HO.out]⟩
      case measure => simp [intOf]; omega
    · have e : k = s := by omega
      subst e
      go_wp2
      go_ret2
      exact ⟨rfl, rfl⟩

end Go.Proofs.Ytjgkhckcoknnfaa
/- FSet of layer 5, for seats of today: frames in memory (FrParts, FramesP), what turns them, and the walks of Many, Turns, isOwner, mayTake and Owner. -/
namespace Go.Proofs.Ytjgkhckcoknnfaa
open Go.RowKit

def fzv (l : List Int) : List Value := l.map fun n : Int => Value.int .i64 n
theorem fzv_at (l : List Int) (i : Nat) (hi : i < l.length) : (fzv l)[i]? = some (.int .i64 (l.getD i 0)) := by simp [fzv, List.getD, hi]
theorem fzv_set (l : List Int) (i : Nat) (v : Int) : fzv (l.set i v) = (fzv l).set i (.int .i64 v) := by simp [fzv, List.map_set]
theorem fzv_one (l : List Int) : ∀ u ∈ fzv l, u.oneCell' = true := by
  intro u hu
  obtain ⟨_, _, rfl⟩ := List.mem_map.1 hu
  rfl
def fiv (l : List Nat) : List Value := l.map fun n : Nat => Value.int .i64 (n : Int)
theorem fiv_at (l : List Nat) (i : Nat) (hi : i < l.length) : (fiv l)[i]? = some (.int .i64 (l.getD i 0 : Nat)) := by simp [fiv, List.getD, hi]
theorem fo_form {w : World} {base : Nat} {e : TypeId} {size n : Nat} {v : Value} {xs : List Value} (h : w.ownsRow base e size v n xs) (hv : ¬ v = .slice none 0 0) : ∃ g cap, v = .slice (some ⟨g, 0, none⟩) n cap := by
  rcases h.2 with ⟨h1, _⟩ | ⟨g, cap, cur, h1, _⟩
  · exact absurd h1 hv
  · exact ⟨g, cap, h1⟩
/-- A row that is cut at k. -/
theorem fo_cut {w : World} {base g n c k : Nat} {e : TypeId} {xs : List Value} (h : w.ownsRow base e 1 (.slice (some ⟨g, 0, none⟩) n c) n xs) (hk : k ≤ n) : w.ownsRow base e 1 (.slice (some ⟨g, 0, none⟩) k c) k (xs.take k) := by
  have hl := h.1
  refine ⟨by rw [List.length_take, hl]; omega, ?_⟩
  rcases h.2 with ⟨he, _⟩ | ⟨g', cap, cur, he, hb, hh, h1, h2, h3, h4⟩
  · simp at he
  · simp only [Value.slice.injEq, Option.some.injEq, Addr.mk.injEq, and_true, true_and] at he
    obtain ⟨rfl, rfl⟩ := he
    refine .inr ⟨g, _, cur, rfl, hb, hh, by omega, h2, h3, ?_⟩
    rw [← h4, List.take_take]
    congr 1
    omega
theorem fo_new (w : World) (v : Value) : ∀ j u, [v][j]? = some u → (w.alloc (.cells #[v] 3)).cell? ((⟨w.heap.size, 0, none⟩ : Addr).add j) = some u := by
  intro j u hj
  match j, hj with
  | 0, hj => simp at hj; subst hj; simp [Addr.add]
theorem fo_one (n : Int) : ∀ u ∈ [Value.int .i64 n], u.oneCell' = true := by intro u hu; simp at hu; subst hu; rfl
theorem Try.infoInt : (Try.prog.info? 3).map (fun i => (i.zero, i.size, i.bytes)) = some (some (.int .i64 0), 1, 8) := by kernel_rfl

/-- The three blocks of frames: their struct in b, their owners in g1, those that are Free in g2. -/
structure FrParts (B E : Nat) (w : World) (b g1 g2 m : Nat) (t : Int) (O : List Int) (S : List Nat) : Prop where
  small : m ≤ 96
  bs : B ≤ b ∧ b < E
  g1s : B ≤ g1 ∧ g1 < E
  g2s : B ≤ g2 ∧ g2 < E
  hi : E ≤ w.heap.size
  ne1 : b ≠ g1
  ne2 : b ≠ g2
  ne3 : g1 ≠ g2
  head : w.heap[b]? = some (.cells #[.slice (some ⟨g1, 0, none⟩) m m, .slice (some ⟨g2, 0, none⟩) S.length m, .int .i64 t] 95 (0, 0))
  rowO : w.ownsRow B 3 1 (.slice (some ⟨g1, 0, none⟩) m m) m (fzv O)
  rowS : w.ownsRow B 3 1 (.slice (some ⟨g2, 0, none⟩) S.length m) S.length (fiv S)
section
variable {B E b g1 g2 m : Nat} {w w' : World} {t : Int} {O : List Int} {S : List Nat}
theorem FrParts.ol (h : FrParts B E w b g1 g2 m t O S) : O.length = m := by have := h.rowO.1; simpa [fzv] using this
theorem FrParts.cell0 (h : FrParts B E w b g1 g2 m t O S) : w.cell? ⟨b, 0, none⟩ = some (.slice (some ⟨g1, 0, none⟩) m m) := by rw [cell_of_row w b 0 _ _ _ h.head]; rfl
theorem FrParts.cell1 (h : FrParts B E w b g1 g2 m t O S) : w.cell? ⟨b, 1, none⟩ = some (.slice (some ⟨g2, 0, none⟩) S.length m) := by rw [cell_of_row w b 1 _ _ _ h.head]; rfl
theorem FrParts.cell2 (h : FrParts B E w b g1 g2 m t O S) : w.cell? ⟨b, 2, none⟩ = some (.int .i64 t) := by rw [cell_of_row w b 2 _ _ _ h.head]; rfl
theorem FrParts.cellO (h : FrParts B E w b g1 g2 m t O S) {j : Nat} (hj : j < m) : w.cell? ⟨g1, j, none⟩ = some (.int .i64 (O.getD j 0)) := by
  rw [h.rowO.cellAt j (by omega), fzv_at _ _ (by rw [h.ol]; omega)]
theorem FrParts.cellS (h : FrParts B E w b g1 g2 m t O S) {j : Nat} (hj : j < S.length) : w.cell? ⟨g2, j, none⟩ = some (.int .i64 (S.getD j 0 : Nat)) := by
  rw [h.rowS.cellAt j (by omega), fiv_at _ _ hj]
theorem FrParts.frozenO (h : FrParts B E w b g1 g2 m t O S) (j : Nat) : w.frozen? ⟨g1, j, none⟩ = false := h.rowO.frozenAt j
theorem FrParts.frozenS (h : FrParts B E w b g1 g2 m t O S) (j : Nat) : w.frozen? ⟨g2, j, none⟩ = false := h.rowS.frozenAt j
theorem FrParts.frozenB (h : FrParts B E w b g1 g2 m t O S) (j : Nat) : w.frozen? ⟨b, j, none⟩ = false := by
  have := h.head
  simp [World.frozen?, this]
theorem FrParts.of_blocks (h : FrParts B E w b g1 g2 m t O S) (hs : w.heap.size ≤ w'.heap.size) (hk : ∀ i, B ≤ i → i < E → w'.heap[i]? = w.heap[i]?) : FrParts B E w' b g1 g2 m t O S :=
  ⟨h.small, h.bs, h.g1s, h.g2s, Nat.le_trans h.hi hs, h.ne1, h.ne2, h.ne3, (hk b h.bs.1 h.bs.2).trans h.head, row_of_block h.rowO (hk g1 h.g1s.1 h.g1s.2), row_of_block h.rowS (hk g2 h.g2s.1 h.g2s.2)⟩
theorem FrParts.below (h : FrParts B E w b g1 g2 m t O S) (hb : Below w.heap.size w w') : FrParts B E w' b g1 g2 m t O S := h.of_blocks hb.size (fun i _ hi => hb.block i (Nat.lt_of_lt_of_le hi h.hi))
theorem FrParts.setO (h : FrParts B E w b g1 g2 m t O S) (j : Nat) (v : Int) : FrParts B E (w.setCell ⟨g1, j, none⟩ (.int .i64 v)) b g1 g2 m t (O.set j v) S := by
  refine ⟨h.small, h.bs, h.g1s, h.g2s, by simpa using h.hi, h.ne1, h.ne2, h.ne3, ?_, ?_, ?_⟩
  · rw [Below.heap_setCell _ _ _ _ h.ne1]; exact h.head
  · rw [fzv_set]; exact (h.rowO.stored j _).1
  · exact row_of_block h.rowS (Below.heap_setCell _ _ _ _ (Ne.symm h.ne3))
theorem FrParts.setS (h : FrParts B E w b g1 g2 m t O S) (j v : Nat) : FrParts B E (w.setCell ⟨g2, j, none⟩ (.int .i64 (v : Int))) b g1 g2 m t O (S.set j v) := by
  refine ⟨h.small, h.bs, h.g1s, h.g2s, by simpa using h.hi, h.ne1, h.ne2, h.ne3, ?_, ?_, ?_⟩
  · rw [Below.heap_setCell _ _ _ _ h.ne2, List.length_set]; exact h.head
  · exact row_of_block h.rowO (Below.heap_setCell _ _ _ _ h.ne3)
  · rw [List.length_set, show fiv (S.set j v) = (fiv S).set j (.int .i64 (v : Int)) by simp [fiv, List.map_set]]; exact (h.rowS.stored j _).1
theorem FrParts.setT (h : FrParts B E w b g1 g2 m t O S) (v : Int) : FrParts B E (w.setCell ⟨b, 2, none⟩ (.int .i64 v)) b g1 g2 m v O S := by
  refine ⟨h.small, h.bs, h.g1s, h.g2s, by simpa using h.hi, h.ne1, h.ne2, h.ne3, ?_, ?_, ?_⟩
  · show (w.heap.modify b _)[b]? = _
    rw [Array.getElem?_modify, if_pos rfl, h.head]
    rfl
  · exact row_of_block h.rowO (Below.heap_setCell _ _ _ _ (Ne.symm h.ne1))
  · exact row_of_block h.rowS (Below.heap_setCell _ _ _ _ (Ne.symm h.ne2))
/-- The field 'free' is laid anew, of the same block. -/
theorem FrParts.setF (h : FrParts B E w b g1 g2 m t O S) {S' : List Nat} (hr : w.ownsRow B 3 1 (.slice (some ⟨g2, 0, none⟩) S'.length m) S'.length (fiv S')) : FrParts B E (w.setCell ⟨b, 1, none⟩ (.slice (some ⟨g2, 0, none⟩) S'.length m)) b g1 g2 m t O S' := by
  refine ⟨h.small, h.bs, h.g1s, h.g2s, by simpa using h.hi, h.ne1, h.ne2, h.ne3, ?_, ?_, ?_⟩
  · show (w.heap.modify b _)[b]? = _
    rw [Array.getElem?_modify, if_pos rfl, h.head]
    rfl
  · exact row_of_block h.rowO (Below.heap_setCell _ _ _ _ (Ne.symm h.ne1))
  · exact row_of_block hr (Below.heap_setCell _ _ _ _ (Ne.symm h.ne2))
end

/-- Frames, or none. -/
def FramesP (B E : Nat) (w : World) (p : Option Addr) (m : Nat) (t : Int) (O : List Int) (S : List Nat) : Prop :=
  FrOk m O S ∧ ((p = none ∧ m = 0 ∧ t = 0 ∧ O = [] ∧ S = []) ∨ ∃ b g1 g2, p = some ⟨b, 0, none⟩ ∧ FrParts B E w b g1 g2 m t O S)
section
variable {B E m : Nat} {t : Int} {w w' : World} {p : Option Addr} {O : List Int} {S : List Nat}
theorem FramesP.nil (B E : Nat) (w : World) : FramesP B E w none 0 0 [] [] := ⟨FrOk.start 0, .inl ⟨rfl, rfl, rfl, rfl, rfl⟩⟩
theorem FramesP.good (h : FramesP B E w p m t O S) : FrOk m O S := h.1
theorem FramesP.small (h : FramesP B E w p m t O S) : m ≤ 96 := by
  rcases h.2 with ⟨_, rfl, _⟩ | ⟨b, g1, g2, _, hp⟩
  · omega
  · exact hp.small
theorem FramesP.below (h : FramesP B E w p m t O S) (hb : Below w.heap.size w w') : FramesP B E w' p m t O S := by
  refine ⟨h.1, ?_⟩
  rcases h.2 with h | ⟨b, g1, g2, h1, hp⟩
  · exact .inl h
  · exact .inr ⟨b, g1, g2, h1, hp.below hb⟩
theorem FramesP.kept (h : FramesP B E w p m t O S) (hs : w.heap.size ≤ w'.heap.size) (hk : ∀ i, B ≤ i → i < E → w'.heap[i]? = w.heap[i]?) : FramesP B E w' p m t O S := by
  refine ⟨h.1, ?_⟩
  rcases h.2 with h | ⟨b, g1, g2, h1, hp⟩
  · exact .inl h
  · exact .inr ⟨b, g1, g2, h1, hp.of_blocks hs hk⟩
theorem FramesP.drewN (h : FramesP B E w p m t O S) (n : Nat) : FramesP B E (w.drewN n) p m t O S := h.below (drewN_below _ _ _)
end

set_option maxHeartbeats 400000 in
theorem fMany_any {B E m : Nat} {t : Int} {p : Option Addr} {O : List Int} {S : List Nat} (w : World) (h : FramesP B E w p m t O S) :
    Calls Try.prog 68 #[.pointer p] w fun e w' => e = .returned (.int .i64 (m : Nat)) ∧ w = w' := by
  rcases h.2 with ⟨rfl, rfl, _⟩ | ⟨b, g1, g2, rfl, hp⟩
  · go_enter Try.func68, Try.ntmps68
    go_wp2
    go_ret
    exact ⟨rfl, rfl⟩
  · have h0 := hp.cell0
    clear hp h
    go_enter Try.func68, Try.ntmps68
    go_wp2
    go_ret
    exact ⟨rfl, rfl⟩
def isO (o : Int) : Bool := decide (0 ≤ o ∧ o < 4)
def isT (o : Int) : Bool := decide (1 ≤ o ∧ o ≤ 3)
theorem isOwner_any (o : Int) (w : World) : Calls Try.prog 67 #[.int .i64 o] w fun e w' => e = .returned (.bool (isO o)) ∧ w = w' := by
  by_cases h1 : 0 ≤ o
  · go_enter Try.func67, Try.ntmps67
    go_wp2
    go_ret
    exact ⟨retBool (by simp [isO, h1]), rfl⟩
  · go_enter Try.func67, Try.ntmps67
    go_wp2
    go_ret
    exact ⟨retBool (decide_eq_false (by omega)).symm, rfl⟩
theorem isOwner_is {b : Bool} (o : Int) (w : World) (h : isO o = b) : Calls Try.prog 67 #[.int .i64 o] w fun e w' => e = .returned (.bool b) ∧ w = w' := by
  rw [← h]; exact isOwner_any o w
theorem mayTake_any (o : Int) (w : World) : Calls Try.prog 66 #[.int .i64 o] w fun e w' => e = .returned (.bool (isT o)) ∧ w = w' := by
  by_cases h1 : 0 ≤ o ∧ o < 4
  · have H : isO o = true := decide_eq_true h1
    go_enter Try.func66, Try.ntmps66
    go_wp2_with (go_at_call 67; refine (isOwner_is _ _ H).mono ?_; rintro e w' ⟨rfl, rfl⟩)
    go_ret
    refine ⟨retBool ?_, rfl⟩
    by_cases e : o = 0
    · subst e; rfl
    · rw [isT, decide_eq_true (by omega)]; simpa using e
  · have H : isO o = false := decide_eq_false h1
    go_enter Try.func66, Try.ntmps66
    go_wp2_with (go_at_call 67; refine (isOwner_is _ _ H).mono ?_; rintro e w' ⟨rfl, rfl⟩)
    go_ret
    exact ⟨retBool (decide_eq_false (by omega)).symm, rfl⟩
theorem mayTake_is {b : Bool} (o : Int) (w : World) (h : isT o = b) : Calls Try.prog 66 #[.int .i64 o] w fun e w' => e = .returned (.bool b) ∧ w = w' := by
  rw [← h]; exact mayTake_any o w

set_option maxHeartbeats 400000 in
theorem fOwner_any {B E m : Nat} {t : Int} {p : Option Addr} {O : List Int} {S : List Nat} (n : Int) (w : World) (h : FramesP B E w p m t O S) :
    Calls Try.prog 73 #[.pointer p, .int .i64 n] w fun e w' => e = .returned (.int .i64 (ownI O n)) ∧ w = w' := by
  have hl := h.good.len
  by_cases h1 : n < 0
  · have E : Hid (ownI O n = 0) := ownI_neg h1
    go_enter Try.func73, Try.ntmps73
    go_wp2_with (go_at_call 68; refine (fMany_any _ h).mono ?_; rintro e w' ⟨rfl, rfl⟩)
    go_ret
    exact ⟨retInt E.out.symm, rfl⟩
  · by_cases h2 : n < m
    · obtain ⟨n, rfl⟩ := Int.eq_ofNat_of_zero_le (show 0 ≤ n by omega)
      have H : Hid (FramesP B E w p m t O S) := h
      rcases h.2 with ⟨rfl, rfl, _⟩ | ⟨b, g1, g2, rfl, hp⟩
      · omega
      have c0 := hp.cell0
      have cO := hp.cellO (j := n) (by omega)
      rw [ownI_nat]
      generalize O.getD n 0 = q at *
      clear hp h hl
      go_enter Try.func73, Try.ntmps73
      go_wp2_with (go_at_call 68; refine (fMany_any _ H.out).mono ?_; rintro e w' ⟨rfl, rfl⟩)
      go_ret
      exact ⟨rfl, rfl⟩
    · have E : Hid (ownI O n = 0) := ownI_far (by omega)
      clear hl
      go_enter Try.func73, Try.ntmps73
      go_wp2_with (go_at_call 68; refine (fMany_any _ h).mono ?_; rintro e w' ⟨rfl, rfl⟩)
      go_ret
      exact ⟨retInt E.out.symm, rfl⟩
theorem fOwner_is {B E m : Nat} {t : Int} {p : Option Addr} {O : List Int} {S : List Nat} (n : Int) (w : World) (h : FramesP B E w p m t O S) {q : Int} (hq : ownI O n = q) :
    Calls Try.prog 73 #[.pointer p, .int .i64 n] w fun e w' => e = .returned (.int .i64 q) ∧ w = w' := by
  rw [← hq]; exact fOwner_any n w h
end Go.Proofs.Ytjgkhckcoknnfaa
/- The walks of Take and Give. -/
namespace Go.Proofs.Ytjgkhckcoknnfaa
open Go.RowKit

theorem fiv_take (S : List Nat) (k : Nat) : fiv (S.take k) = (fiv S).take k := by simp [fiv, List.map_take]
theorem fo_take {S : List Nat} {top : Nat} (h : top ≤ S.length) : (S.take top).length = top := by rw [List.length_take]; omega

set_option maxHeartbeats 1000000 in
theorem fTake_any {B E m : Nat} {t : Int} {p : Option Addr} {O : List Int} {S : List Nat} (o : Int) (w : World) (h : FramesP B E w p m t O S) :
    Calls Try.prog 41 #[.pointer p, .int .i64 o] w fun e w' => e = .returned (.tuple #[.int .i64 (tkN S o : Nat), .bool (tkB S o)]) ∧
      FramesP B E w' p m (bump t (tkB S o)) (tkO O S o) (tkS S o) ∧ Turns B E w w' := by
  have hsm := h.small
  cases hb : tkB S o with
  | false =>
    have e1 : tkN S o = 0 := by simp [tkN, hb]
    have e2 : tkO O S o = O := by simp [tkO, hb]
    have e3 : tkS S o = S := by simp [tkS, hb]
    rw [e1, e2, e3]
    have hno := tk_not hb
    have H : Hid (FramesP B E w p m t O S) := h
    rcases h.2 with ⟨rfl, rfl, rfl, rfl, rfl⟩ | ⟨b, g1, g2, rfl, hp⟩
    · clear e1 e2 e3 hb hno h
      go_enter Try.func41, Try.ntmps41
      go_wp2_with fail
      go_ret2
      exact ⟨rfl, H.out, Turns.refl _ _ _⟩
    · have c1 := hp.cell1
      have hsl := h.good.slen
      by_cases hs : S.length = 0
      · rw [hs] at c1
        clear e1 e2 e3 hb hno h hp hsl
        go_enter Try.func41, Try.ntmps41
        go_wp2_with fail
        go_ret2
        exact ⟨rfl, H.out, Turns.refl _ _ _⟩
      · have hT : isT o = false := decide_eq_false (by omega)
        have hne : ((S.length : Int) == 0) = false := by rw [beq_eq_false_iff_ne]; omega
        have HT : Hid _ := hT
        clear e1 e2 e3 hb hno h hp hT
        generalize S.length = L at *
        go_enter Try.func41, Try.ntmps41
        go_wp2_with (go_at_call 66; refine (mayTake_is _ _ HT.out).mono ?_; rintro e w' ⟨rfl, rfl⟩)
        go_ret2
        exact ⟨rfl, H.out, Turns.refl _ _ _⟩
  | true =>
    obtain ⟨hs, h1, h3⟩ := tk_of hb
    have e1 : tkN S o = S.getD (S.length - 1) 0 := by simp [tkN, hb]
    have e2 : tkO O S o = O.set (S.getD (S.length - 1) 0) o := by simp [tkO, hb]
    have e3 : tkS S o = S.take (S.length - 1) := by simp [tkS, hb]
    rw [e1, e2, e3]
    have HT : Hid (isT o = true) := decide_eq_true ⟨h1, h3⟩
    have hsl := h.good.slen
    have HG : Hid _ := h.good.take hs h1 h3
    have htop := (h.good.top hs).1
    rcases h.2 with ⟨_, _, _, _, rfl⟩ | ⟨b, g1, g2, rfl, hp⟩
    · simp at hs
    have c0 := hp.cell0
    have c1 := hp.cell1
    have c2 := hp.cell2
    have cS := hp.cellS (j := S.length - 1) (by omega)
    have cO := hp.cellO htop
    have fO := hp.frozenO (S.getD (S.length - 1) 0)
    have fB1 := hp.frozenB 1
    have fB2 := hp.frozenB 2
    have n1 := hp.ne1
    have n2 := hp.ne2
    have n3 := hp.ne3
    have HP : Hid (FrParts B E w b g1 g2 m t O S) := hp
    obtain ⟨top, htp⟩ : ∃ top, S.length = top + 1 := ⟨S.length - 1, by omega⟩
    have e4 : S.length - 1 = top := by omega
    have HL : Hid (S.length = top + 1) := htp
    rw [e4] at HG cS cO fO htop ⊢
    rw [htp] at c1 hsl
    generalize hn : S.getD top 0 = n at *
    generalize O.getD n 0 = q at *
    have hne : (((top + 1 : Nat) : Int) == 0) = false := by rw [beq_eq_false_iff_ne]; omega
    have i1 : (top : Int) < ((top + 1 : Nat) : Int) := by omega
    have i2 : (top : Int) ≤ (m : Int) := by omega
    clear e1 e2 e3 e4 hb hp h htp hs hn
    go_enter Try.func41, Try.ntmps41
    go_wp2_with (go_at_call 66; refine (mayTake_is _ _ HT.out).mono ?_; rintro e w' ⟨rfl, rfl⟩)
    go_ret2
    refine ⟨rfl, ⟨HG.out, .inr ⟨b, g1, g2, rfl, ?_⟩⟩, ?_⟩
    · have hr := fo_cut HP.out.rowS (k := top) (by rw [HL.out]; omega)
      have hl : (S.take top).length = top := fo_take (by rw [HL.out]; omega)
      have hF := HP.out.setF (S' := S.take top) (by rw [hl, fiv_take]; exact hr)
      rw [hl] at hF
      exact (hF.setO n o).setT _
    · exact (((Turns.refl B E w).setCell (p := ⟨b, 1, none⟩) HP.out.bs.1 HP.out.bs.2 _).setCell (p := ⟨g1, n, none⟩) HP.out.g1s.1 HP.out.g1s.2 _).setCell (p := ⟨b, 2, none⟩) HP.out.bs.1 HP.out.bs.2 _

set_option maxHeartbeats 1000000 in
theorem fGive_any {B E m : Nat} {t : Int} {p : Option Addr} {O : List Int} {S : List Nat} (n : Int) (w : World) (h : FramesP B E w p m t O S) :
    Calls Try.prog 65 #[.pointer p, .int .i64 n] w fun e w' => e = .returned (.bool (gvB O n)) ∧
      FramesP B E w' p m (bump t (gvB O n)) (gvO O n) (gvS O S n) ∧ Turns B E w w' := by
  have hsm := h.small
  cases hb : gvB O n with
  | false =>
    have e2 : gvO O n = O := by simp [gvO, hb]
    have e3 : gvS O S n = S := by simp [gvS, hb]
    rw [e2, e3]
    have H0 : Hid _ := gv_not hb
    clear e2 e3 hb
    go_enter Try.func65, Try.ntmps65
    go_wp2_with (go_at_call 73; refine (fOwner_is _ _ h H0.out).mono ?_; rintro e w' ⟨rfl, rfl⟩)
    go_ret
    exact ⟨rfl, h, Turns.refl _ _ _⟩
  | true =>
    obtain ⟨i0, hi, hz0, hz1, hz2⟩ := info_parts Try.infoInt
    obtain ⟨n, rfl, hn, h0⟩ := gv_of hb
    have e2 : gvO O (n : Int) = O.set n 0 := by simp [gvO, hb]
    have e3 : gvS O S (n : Int) = S ++ [n] := by simp [gvS, hb]
    rw [e2, e3]
    rw [h.good.len] at hn
    obtain ⟨hg, hsl⟩ := h.good.give hn h0
    have HG : Hid _ := hg
    have H : Hid (FramesP B E w p m t O S) := h
    obtain ⟨q, hq⟩ : ∃ q, O.getD n 0 = q := ⟨_, rfl⟩
    have HQ : Hid (ownI O (n : Int) = q) := by show _ = _; rw [ownI_nat]; exact hq
    rw [hq] at h0
    have hq0 : (q == 0) = false := by rw [beq_eq_false_iff_ne]; exact h0
    rcases h.2 with ⟨_, rfl, _⟩ | ⟨b, g1, g2, rfl, hp⟩
    · omega
    have c0 := hp.cell0
    have cO := hp.cellO hn
    rw [hq] at cO
    have fO := hp.frozenO n
    have n1 := hp.ne1
    have n2 := hp.ne2
    have n3 := hp.ne3
    have HP : Hid (FrParts B E w b g1 g2 m t O S) := hp
    have hnm : (n : Int) < (m : Int) := by omega
    clear e2 e3 hb hp h hq hg
    go_enter Try.func65, Try.ntmps65
    go_wp2_with fail
    refine (fOwner_is _ _ H.out HQ.out).mono ?_
    rintro e w' ⟨rfl, rfl⟩
    go_upto_region 4 with (fail)
    have hp1 := HP.out.setO n 0
    have t1 := (Turns.refl B E w).setCell (p := ⟨g1, n, none⟩) HP.out.g1s.1 HP.out.g1s.2 (.int .i64 0)
    generalize w.setCell ⟨g1, n, none⟩ (.int .i64 0) = w1 at *
    clear c0 cO fO
    have c1 := hp1.cell1
    have HP1 : Hid (FrParts B E w1 b g1 g2 m t (O.set n 0) S) := hp1
    have hown := hp1.rowS
    clear hp1
    go_wp2_with (at_builtin; refine wpList_append_fits _ rfl _ _ 30 rfl B 3 i0 1 Try.underlying30 hi hz1 g2 S.length m (fiv S) rfl (hown.alloc _) ⟨w1.heap.size, 0, none⟩ 1 1 [.int .i64 (n : Int)] rfl rfl (fo_new w1 _) (fo_one _) ?c3 ?_)
    case c3 => omega
    intro w2 hown2 gr2
    have b2 : Below w1.heap.size w1 (w1.alloc (.cells #[.int .i64 (n : Int)] 3)) := (Below.refl _ w1).alloc (Nat.le_refl _) _
    have t2 : Turns B E w w2 := ((t1.trans (Turns.of_below b2)).grown gr2 HP1.out.g2s.1 HP1.out.g2s.2)
    have hp2 : FrParts B E w2 b g1 g2 m t (O.set n 0) S := by
      have hp3 := HP1.out.below b2
      refine ⟨hp3.small, hp3.bs, hp3.g1s, hp3.g2s, Nat.le_trans hp3.hi gr2.size, hp3.ne1, hp3.ne2, hp3.ne3, ?_, ?_, ?_⟩
      · rw [gr2.block b (Nat.lt_of_lt_of_le hp3.bs.2 hp3.hi) (by intro e; exact hp3.ne2 (Option.some.inj e))]; exact hp3.head
      · exact row_of_block hp3.rowO (gr2.block g1 (Nat.lt_of_lt_of_le hp3.g1s.2 hp3.hi) (by intro e; exact hp3.ne3 (Option.some.inj e)))
      · have := fo_cut hown2 (k := S.length) (by omega)
        rwa [show (fiv S ++ [Value.int .i64 (n : Int)]).take S.length = fiv S by rw [List.take_left' (by simp [fiv])]] at this
    have HP2 : Hid (FrParts B E w2 b g1 g2 m t (O.set n 0) S) := hp2
    have HO2 : Hid (w2.ownsRow B 3 1 (.slice (some ⟨g2, 0, none⟩) (S.length + 1) m) (S.length + 1) (fiv S ++ [.int .i64 (n : Int)])) := hown2
    have HT2 : Hid (Turns B E w w2) := t2
    have c1 := hp2.cell1
    have c2 := hp2.cell2
    have fB1 := hp2.frozenB 1
    have fB2 := hp2.frozenB 2
    clear hown hown2 gr2 b2 t2 hp2 t1
    go_wp2
    go_ret
    refine ⟨rfl, ⟨HG.out, .inr ⟨b, g1, g2, rfl, ?_⟩⟩, ?_⟩
    · have hF := HP2.out.setF (S' := S ++ [n]) (by
        have e1 : (S ++ [n]).length = S.length + 1 := by simp
        have e2 : fiv (S ++ [n]) = fiv S ++ [.int .i64 (n : Int)] := by simp [fiv]
        rw [e1, e2]
        exact HO2.out)
      rw [show (S ++ [n]).length = S.length + 1 by simp] at hF
      exact hF.setT _
    · exact (HT2.out.setCell (p := ⟨b, 1, none⟩) HP2.out.bs.1 HP2.out.bs.2 _).setCell (p := ⟨b, 2, none⟩) HP2.out.bs.1 HP2.out.bs.2 _
end Go.Proofs.Ytjgkhckcoknnfaa
