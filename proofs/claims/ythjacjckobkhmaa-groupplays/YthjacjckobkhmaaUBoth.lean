/- A book and the document's list beside it. -/
import Derived.Test.YthjacjckobkhmaaULives
import Derived.Test.YthjacjckobkhmaaURefW
import Derived.Test.YthjacjckobkhmaaUOpen
namespace Go.Proofs.Ythjacjckobkhmaa
open Go.RowKit

/-- What stands in a round: the book in blocks r and b below B, the list from B on. -/
structure BothG (w W : World) (r b B : Nat) (xv : Value) (X : List Gh) (k : Nat) : Prop where
  bk : BookAt W r b X
  hs : HsAt W B xv X
  ok : Gok X
  len : X.length ≤ k
  bel : Below w.heap.size w W
  siz : B ≤ W.heap.size
  lo : w.heap.size ≤ b
  rb : r < B ∧ b < B
section
variable {w W W' : World} {r b B k : Nat} {xv : Value} {X : List Gh}
theorem BothG.below (h : BothG w W r b B xv X k) (hb : Below W.heap.size W W') : BothG w W' r b B xv X k :=
  ⟨h.bk.below hb, h.hs.below hb, h.ok, h.len, h.bel.trans (hb.mono h.bel.size), Nat.le_trans h.siz hb.size, h.lo, h.rb⟩
theorem row_grown {base g : Nat} {e : TypeId} {size n : Nat} {v : Value} {xs : List Value} (h : W.ownsRow base e size v n xs) (hg : W.grownBy W' (some g)) (hb : g < base) : W'.ownsRow base e size v n xs := by
  refine ⟨h.1, ?_⟩
  rcases h.2 with h1 | ⟨q, cap, cur, h1, h2, h3, r⟩
  · exact .inl h1
  · exact .inr ⟨q, cap, cur, h1, h2, (hg.block q (Array.getElem?_eq_some_iff.1 h3).1 (by intro e; simp at e; omega)).trans h3, r⟩
/-- The book turned, the list not yet. -/
theorem BothG.belT (h : BothG w W r b B xv X k) (hg : W.grownBy W' (some b)) : Below w.heap.size w W' ∧ B ≤ W'.heap.size ∧ HsAt W' B xv X :=
  ⟨h.bel.grown hg h.bel.size (fun i hi => by cases hi; exact h.lo), Nat.le_trans h.siz hg.size, row_grown h.hs hg h.rb.2⟩
end
theorem putR_len (L : List Gh) (x : Gh) : (putR L x).length ≤ L.length + 1 := by
  unfold putR
  split
  · exact putG_len L x
  · omega
/-- Who has room. -/
theorem notFull_iff {x : Gh} (h : 0 ≤ x.u ∧ x.u ≤ x.m) : notFull x = true ↔ x.u < x.m := by
  unfold notFull
  rw [Bool.not_eq_true', decide_eq_false_iff_not, ofN_full]
  omega
theorem isMid_iff {x : Gh} (h : 0 ≤ x.u ∧ x.u ≤ x.m) : isMid x = true ↔ x.u < x.m ∧ 0 < x.u := by
  unfold isMid
  rw [Bool.and_eq_true, Bool.not_eq_true', Bool.not_eq_true', decide_eq_false_iff_not, decide_eq_false_iff_not, ofN_full, ofN_empty]
  omega
theorem best_room {X : List Gh} (hX : Gok X) {x : Gh} (hx : x ∈ X) (hr : x.u < x.m) : ∃ b, bestD X = some b ∧ b ∈ X ∧ b.u < b.m ∧ b.m - b.u ≤ x.m - x.u := by
  have hm := isBestD X
  have hok := hX.ok x hx
  have hp : notFull x = true := (notFull_iff (by omega)).2 hr
  cases ho : bestD X with
  | none => rw [ho] at hm; have := hm.no rfl x hx; rw [hp] at this; cases this
  | some b =>
    rw [ho] at hm
    obtain ⟨h1, h2⟩ := hm.mem b rfl
    have h3 := hm.le b rfl x hx hp
    have hok2 := hX.ok b h1
    refine ⟨b, rfl, h1, (notFull_iff (by omega)).1 h2, ?_⟩
    unfold free at h3
    omega
theorem worst_room {X : List Gh} (hX : Gok X) {x : Gh} (hx : x ∈ X) (hr : x.u < x.m) (hu : 0 < x.u) : ∃ b, worstD X = some b ∧ b ∈ X ∧ b.u < b.m ∧ 0 < b.u ∧ b.u ≤ x.u := by
  have hm := isWorstD X
  have hok := hX.ok x hx
  have hp : isMid x = true := (isMid_iff (by omega)).2 ⟨hr, hu⟩
  cases ho : worstD X with
  | none => rw [ho] at hm; have := hm.no rfl x hx; rw [hp] at this; cases this
  | some b =>
    rw [ho] at hm
    obtain ⟨h1, h2⟩ := hm.mem b rfl
    have h3 := hm.le b rfl x hx hp
    have hok2 := hX.ok b h1
    have h4 := (isMid_iff (by omega)).1 h2
    exact ⟨b, rfl, h1, h4.1, h4.2, by omega⟩
/-- Where a number lies that is there. -/
theorem PlaceG.at {X : List Gh} (hX : Gok X) {x : Int} {b : Gh} (hb : b ∈ X) (h : PlaceG X b.n x) : ∃ k : Nat, x = k ∧ X[k]? = some b := by
  have hh := h.has
  rw [hasG_mem.2 (List.mem_map.2 ⟨b, hb, rfl⟩)] at hh
  obtain ⟨k, y, h1, h2, h3⟩ := h.yes (of_decide_eq_true hh.symm)
  exact ⟨k, h1, by rw [h2, hX.one (List.mem_of_getElem? h2) hb h3]⟩
/-- As the document's search, told of a number that is there. -/
theorem want_mem {X : List Gh} (hX : Gok X) (x : Gh) (h : bestD X = some x ∨ worstD X = some x) : 0 ≤ x.n := by
  rcases h with h | h
  · exact (hX.ok x ((isBestD X).mem x h).1).1
  · exact (hX.ok x ((isWorstD X).mem x h).1).1
end Go.Proofs.Ythjacjckobkhmaa
