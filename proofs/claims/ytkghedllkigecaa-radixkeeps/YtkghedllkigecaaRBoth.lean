/- A tree and the document's list beside it: what both are behind each call. -/
import Derived.Test.YtkghedllkigecaaRRefD
import Derived.Test.YtkghedllkigecaaRKeys
import Derived.Test.YtkghedllkigecaaRLives
import Derived.Test.YtkghedllkigecaaRNodes
namespace Go.Proofs.Ytkghedllkigecaa
open Go.RowKit

theorem refSet_any {C : Nat} {x : Value} {l : List KV} (z v : Int) (w : World) (h : w.ownsRow C 47 2 x l.length (kvv l)) (hf : Fine l) (hC : C ≤ w.heap.size) :
    Calls Try.prog 13 #[x, .int .i64 z, .int .u64 v] w fun e w' => ∃ x', e = .returned (.tuple #[x', .bool (isK z)]) ∧
      w'.ownsRow C 47 2 x' (setL l z v).length (kvv (setL l z v)) ∧ Below w.heap.size w w' := by
  cases e : isK z with
  | false =>
    refine (refSet_bad z v w h e).mono ?_
    rintro e' w' ⟨rfl, rfl⟩
    rw [setL_bad e]
    exact ⟨x, rfl, h, Below.refl _ _⟩
  | true =>
    obtain ⟨k, rfl, hk⟩ := isK_of e
    rw [setL_nat hk]
    refine (refSet_key hk v w h hf).mono ?_
    rintro e' w' ⟨x', rfl, h1, h2⟩
    exact ⟨x', rfl, rowMono h1 hC, h2⟩
theorem KAt.below {w w' : World} {a : Option Addr} {l : List KV} (h : KAt w a l) (hb : Below w.heap.size w w') : KAt w' a l := by
  rcases h with h | ⟨b, off, e, h⟩
  · exact .inl h
  · refine .inr ⟨b, off, e, fun i hi => ?_⟩
    obtain ⟨h1, h2⟩ := h i hi
    exact ⟨by rw [hb.cell (World.block_lt_of_cell? w _ h1)]; exact h1, by rw [hb.cell (World.block_lt_of_cell? w _ h2)]; exact h2⟩

/-- A tree (at a) and a row (x) that both have l, made since w. -/
structure Both (w wr : World) (B : Nat) (a : Addr) (x : Value) (l : List KV) : Prop where
  tree : TreeP B wr (some a) l
  row : wr.ownsRow B 47 2 x l.length (kvv l)
  bel : Below w.heap.size w wr
  wB : w.heap.size ≤ B
  hi : B ≤ wr.heap.size
section
variable {w wr w' : World} {B : Nat} {a : Addr} {x : Value} {l : List KV}
theorem Both.fine (h : Both w wr B a x l) : Fine l := h.tree.fine
theorem Both.below (h : Both w wr B a x l) (hb : Below wr.heap.size wr w') : Both w w' B a x l :=
  ⟨h.tree.below hb, row_below h.row hb, h.bel.trans (hb.mono h.bel.size), h.wB, Nat.le_trans h.hi hb.size⟩
theorem Both.drewN (h : Both w wr B a x l) (m : Nat) : Both w (wr.drewN m) B a x l := h.below (drewN_below _ _ _)
/-- The tree turned; the row is as it was. -/
theorem Both.turned {l' : List KV} (h : Both w wr B a x l) (ht : TreeP B w' (some a) l') (hk : Kept B wr w') : TreeP B w' (some a) l' ∧ w'.ownsRow B 47 2 x l.length (kvv l) ∧ Below w.heap.size w w' ∧ B ≤ w'.heap.size :=
  ⟨ht, hk.row h.row (by decide) (by decide), h.bel.trans ((hk.below h.hi).mono h.wB), Nat.le_trans h.hi hk.size⟩
end
theorem isK_off {z : Int} (h : isK z = false) : z < 0 ∨ 65535 < z := by simp [isK] at h; omega
end Go.Proofs.Ytkghedllkigecaa
