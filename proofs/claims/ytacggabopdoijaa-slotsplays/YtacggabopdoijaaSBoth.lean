/- SlotsPlays' state: the slots and the document's own, side by side; and a step's three boxes. -/
import Derived.Test.YtacggabopdoijaaSDocB
import Derived.Test.YtacggabopdoijaaSLives
import Derived.Test.YtacggabopdoijaaSGreat
namespace Go.Proofs.Ytacggabopdoijaa
open Go.RowKit

structure Both (Q E C : Nat) (w0 w : World) (r m : Nat) (zs : List Bool) (k : Nat) (x : List Bool) (pg : Nat → List Nat) (vL : Value) (L : List Pt) : Prop where
  slots : SlotsAt Q E w r m zs k x pg
  log : LogAt C w vL L
  same : Same x pg L
  bel : Below w0.heap.size w0 w
  qs : w0.heap.size ≤ Q
  ec : E ≤ C
  cw : C ≤ w.heap.size
section
variable {Q E C r m k k' : Nat} {w0 w w' : World} {zs x x' : List Bool} {pg pg' : Nat → List Nat} {vL vL' : Value} {L L' : List Pt}
theorem Both.turn (h : Both Q E C w0 w r m zs k x pg vL L) (hr : SlotsAt Q E w' r m zs k' x' pg') (ht : Turns Q E w w') (hl : LogAt C w' vL' L') (hs : Same x' pg' L') : Both Q E C w0 w' r m zs k' x' pg' vL' L' := by
  have e := h.slots.hi
  exact ⟨hr, hl, hs, h.bel.trans ((ht.below (by omega)).mono h.qs), h.qs, h.ec, Nat.le_trans h.cw ht.size⟩
theorem Both.below (h : Both Q E C w0 w r m zs k x pg vL L) (hb : Below w.heap.size w w') : Both Q E C w0 w' r m zs k x pg vL L :=
  h.turn (h.slots.below hb) (Turns.of_below hb) (h.log.below hb) h.same
theorem Both.fin {rb : Nat} {cs : Array Value} {fr : Nat × Nat} (h : Both Q E C w0 w r m zs k x pg vL L) (hx : w.heap[rb]? = some (.cells cs 42 fr)) (hE : E ≤ rb) (hw : w0.heap.size ≤ rb) (u0 u1 u2 u3 : Value) :
    Both Q E C w0 ((((w.setCell ⟨rb, 0, none⟩ u0).setCell ⟨rb, 1, none⟩ u1).setCell ⟨rb, 2, none⟩ u2).setCell ⟨rb, 3, none⟩ u3) r m zs k x pg vL L := by
  have hs : w.heap.size ≤ ((((w.setCell ⟨rb, 0, none⟩ u0).setCell ⟨rb, 1, none⟩ u1).setCell ⟨rb, 2, none⟩ u2).setCell ⟨rb, 3, none⟩ u3).heap.size := by simp
  exact ⟨h.slots.kept hs (fun i _ hi => res4_block (by omega)), h.log.tag hx (fun g hg => res4_block hg), h.same, res4_below h.bel hw, h.qs, h.ec, Nat.le_trans h.cw hs⟩
end
/-- What a step answers, and leaves. -/
def Stepped (Q E C : Nat) (w0 w : World) (r m : Nat) (zs : List Bool) (k len : Nat) (vz : Value) (e : Ending) (w' : World) : Prop :=
  ∃ k' x' pg' vL' L', e = .returned (.tuple #[.agg #[.int .i64 (m : Int), vz, .int .i64 (k' : Nat), vL'], .bool true]) ∧ Both Q E C w0 w' r m zs k' x' pg' vL' L' ∧ k' ≤ k + 8 ∧ L'.length ≤ len + 1 ∧ Turns Q E w w'
theorem cell_res4d {w : World} {rb xb j : Nat} {u0 u1 u2 u3 : Value} (h : xb ≠ rb) : ((((w.setCell ⟨rb, 0, none⟩ u0).setCell ⟨rb, 1, none⟩ u1).setCell ⟨rb, 2, none⟩ u2).setCell ⟨rb, 3, none⟩ u3).drew.cell? ⟨xb, j, none⟩ = w.cell? ⟨xb, j, none⟩ := by
  have e : ∀ (x : World) (p : Addr), x.drew.cell? p = x.cell? p := fun _ _ => rfl
  rw [e, cell_res4 h]
/-- A step's boxes. -/
structure Bxd (Q E : Nat) (w w2 : World) (xb db rb : Nat) (X : Array Value) (d : Dd) : Prop where
  x : w2.heap[xb]? = some (.cells X 42 (0, 0))
  d : w2.heap[db]? = some (.cells #[.int .i64 d.K, .int .i64 d.N, .int .u8 (d.V : Int), .slice d.p d.l d.c] 46 (0, 0))
  r : w2.heap[rb]? = some (.cells #[.int .i64 0, .slice none 0 0, .int .i64 0, .slice none 0 0] 42 (0, 0))
  lo : w.heap.size ≤ xb ∧ w.heap.size ≤ db ∧ w.heap.size ≤ rb ∧ xb ≠ db ∧ xb ≠ rb ∧ db ≠ rb ∧ E ≤ w.heap.size
  trn : Turns Q E w w2
section
variable {Q E xb db rb : Nat} {w w2 w3 : World} {X : Array Value} {d : Dd}
theorem Bxd.made (w : World) (hE : E ≤ w.heap.size) (v0 v1 v2 v3 : Value) (d : Dd) :
    Bxd Q E w (((w.alloc (.cells #[v0, v1, v2, v3] 42)).alloc (.cells #[.int .i64 d.K, .int .i64 d.N, .int .u8 (d.V : Int), .slice d.p d.l d.c] 46)).alloc (.cells #[.int .i64 0, .slice none 0 0, .int .i64 0, .slice none 0 0] 42))
      w.heap.size (w.heap.size + 1) (w.heap.size + 1 + 1) #[v0, v1, v2, v3] d := by
  refine ⟨?_, ?_, ?_, by omega, Turns.of_below ((((Below.refl _ w).alloc (Nat.le_refl _) _).alloc (by simp) _).alloc (by simp; omega) _)⟩
  · rw [Below.heap_alloc _ _ _ (by simp; omega), Below.heap_alloc _ _ _ (by simp)]; exact heap_alloc_new w _
  · rw [Below.heap_alloc _ _ _ (by simp)]
    have := heap_alloc_new (w.alloc (.cells #[v0, v1, v2, v3] 42)) (.cells #[.int .i64 d.K, .int .i64 d.N, .int .u8 (d.V : Int), .slice d.p d.l d.c] 46)
    simpa using this
  · have := heap_alloc_new ((w.alloc (.cells #[v0, v1, v2, v3] 42)).alloc (.cells #[.int .i64 d.K, .int .i64 d.N, .int .u8 (d.V : Int), .slice d.p d.l d.c] 46)) (.cells #[.int .i64 0, .slice none 0 0, .int .i64 0, .slice none 0 0] 42)
    simpa using this
theorem Bxd.turns (h : Bxd Q E w w2 xb db rb X d) (ht : Turns Q E w2 w3) : Bxd Q E w w3 xb db rb X d := by
  obtain ⟨l1, l2, l3, l4, l5, l6, l7⟩ := h.lo
  exact ⟨(ht.block xb (Array.getElem?_eq_some_iff.1 h.x).1 (.inr (by omega))).trans h.x, (ht.block db (Array.getElem?_eq_some_iff.1 h.d).1 (.inr (by omega))).trans h.d, (ht.block rb (Array.getElem?_eq_some_iff.1 h.r).1 (.inr (by omega))).trans h.r, h.lo, h.trn.trans ht⟩
theorem Bxd.below (h : Bxd Q E w w2 xb db rb X d) (hb : Below w2.heap.size w2 w3) : Bxd Q E w w3 xb db rb X d := h.turns (Turns.of_below hb)
theorem Bxd.k0 (h : Bxd Q E w w2 xb db rb X d) : w2.cell? ⟨db, 0, none⟩ = some (.int .i64 d.K) := by rw [cell_of_row w2 db 0 _ _ _ h.d]; rfl
theorem Bxd.k1 (h : Bxd Q E w w2 xb db rb X d) : w2.cell? ⟨db, 1, none⟩ = some (.int .i64 d.N) := by rw [cell_of_row w2 db 1 _ _ _ h.d]; rfl
theorem Bxd.k2 (h : Bxd Q E w w2 xb db rb X d) : w2.cell? ⟨db, 2, none⟩ = some (.int .u8 (d.V : Int)) := by rw [cell_of_row w2 db 2 _ _ _ h.d]; rfl
theorem Bxd.k3 (h : Bxd Q E w w2 xb db rb X d) : w2.cell? ⟨db, 3, none⟩ = some (.slice d.p d.l d.c) := by rw [cell_of_row w2 db 3 _ _ _ h.d]; rfl
theorem Bxd.xc (h : Bxd Q E w w2 xb db rb X d) (j : Nat) : w2.cell? ⟨xb, j, none⟩ = X[j]? := cell_of_row w2 xb j _ _ _ h.x
theorem Bxd.r0 (h : Bxd Q E w w2 xb db rb X d) : w2.cell? ⟨rb, 0, none⟩ = some (.int .i64 0) := by rw [cell_of_row w2 rb 0 _ _ _ h.r]; rfl
theorem Bxd.r1 (h : Bxd Q E w w2 xb db rb X d) : w2.cell? ⟨rb, 1, none⟩ = some (.slice none 0 0) := by rw [cell_of_row w2 rb 1 _ _ _ h.r]; rfl
theorem Bxd.r2 (h : Bxd Q E w w2 xb db rb X d) : w2.cell? ⟨rb, 2, none⟩ = some (.int .i64 0) := by rw [cell_of_row w2 rb 2 _ _ _ h.r]; rfl
theorem Bxd.r3 (h : Bxd Q E w w2 xb db rb X d) : w2.cell? ⟨rb, 3, none⟩ = some (.slice none 0 0) := by rw [cell_of_row w2 rb 3 _ _ _ h.r]; rfl
theorem Bxd.fr (h : Bxd Q E w w2 xb db rb X d) (j : Nat) : w2.frozen? ⟨rb, j, none⟩ = false := frozen_of_row w2 rb j _ _ h.r
theorem Bxd.fin (h : Bxd Q E w w2 xb db rb X d) (u0 u1 u2 u3 : Value) : Turns Q E w ((((w2.setCell ⟨rb, 0, none⟩ u0).setCell ⟨rb, 1, none⟩ u1).setCell ⟨rb, 2, none⟩ u2).setCell ⟨rb, 3, none⟩ u3) := by
  have l := h.lo.2.2.1
  exact (((h.trn.setNew (p := ⟨rb, 0, none⟩) l _).setNew (p := ⟨rb, 1, none⟩) l _).setNew (p := ⟨rb, 2, none⟩) l _).setNew (p := ⟨rb, 3, none⟩) l _
end
/-- A variable y of the document's type, in block yb. -/
def Yat (w : World) (yb : Nat) (Y : Array Value) : Prop := w.heap[yb]? = some (.cells Y 42 (0, 0))
section
variable {w w' : World} {yb : Nat} {Y : Array Value}
theorem Yat.lt (h : Yat w yb Y) : yb < w.heap.size := (Array.getElem?_eq_some_iff.1 h).1
theorem Yat.turns {Q E : Nat} (h : Yat w yb Y) (ht : Turns Q E w w') (hE : E ≤ yb) : Yat w' yb Y := (ht.block yb h.lt (.inr hE)).trans h
theorem Yat.below (h : Yat w yb Y) (hb : Below w.heap.size w w') : Yat w' yb Y := (hb.block yb h.lt).trans h
theorem Yat.c (h : Yat w yb Y) (j : Nat) : w.cell? ⟨yb, j, none⟩ = Y[j]? := cell_of_row w yb j _ _ _ h
end
end Go.Proofs.Ytacggabopdoijaa
