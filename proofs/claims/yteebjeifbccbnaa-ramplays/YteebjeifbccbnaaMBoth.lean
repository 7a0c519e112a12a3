/- RamPlays' state: the RAM and the document's own, side by side; and a step's three boxes. -/
import Derived.Test.YteebjeifbccbnaaMDocT
import Derived.Test.YteebjeifbccbnaaMDocR
namespace Go.Proofs.Yteebjeifbccbnaa
open Go.RowKit

structure Both (B E C : Nat) (w : World) (r : Nat) (vO vW vL : Value) (now m t x : Nat) (O : List Int) (S P : List Nat) (W : List Int) (L : List Wt) : Prop where
  ram : RamAt B E w r m t x O S P
  doc : DocAt C w vO vW m O W
  log : LogAt C w vL L
  dat : Dated m S W now
  asl : AsLog m P L
  ec : E ≤ C
  cw : C ≤ w.heap.size
section
variable {B E C r now m t x : Nat} {w w' : World} {vO vW vL : Value} {O W : List Int} {S P : List Nat} {L : List Wt}
theorem Both.below (h : Both B E C w r vO vW vL now m t x O S P W L) (hb : Below w.heap.size w w') : Both B E C w' r vO vW vL now m t x O S P W L :=
  ⟨h.ram.below hb, h.doc.below hb, h.log.below hb, h.dat, h.asl, h.ec, Nat.le_trans h.cw hb.size⟩
theorem Both.tag {rb : Nat} {cs : Array Value} {fr : Nat × Nat} (h : Both B E C w r vO vW vL now m t x O S P W L) (hx : w.heap[rb]? = some (.cells cs 45 fr)) (hE : E ≤ rb) (hs : w.heap.size ≤ w'.heap.size) (hk : ∀ g, g ≠ rb → w'.heap[g]? = w.heap[g]?) : Both B E C w' r vO vW vL now m t x O S P W L :=
  ⟨h.ram.kept hs (fun i hi => hk i (by omega)), ⟨row_tag h.doc.rO hx (by decide) hk, row_tag h.doc.rW hx (by decide) hk⟩, ⟨row_tag h.log.row hx (by decide) hk, fun t ht => ⟨row_tag (h.log.each t ht).1 hx (by decide) hk, (h.log.each t ht).2⟩⟩, h.dat, h.asl, h.ec, Nat.le_trans h.cw hs⟩
theorem Both.turn {t' x' : Nat} {O' : List Int} {S' P' : List Nat} (h : Both B E C w r vO vW vL now m t x O S P W L) (hr : RamAt B E w' r m t' x' O' S' P') (ht : Turns B E w w') {vO' vW' vL' : Value} {now' : Nat} {W' : List Int} {L' : List Wt}
    (hd : DocAt C w vO' vW' m O' W') (hl : LogAt C w vL' L') (hdt : Dated m S' W' now') (has : AsLog m P' L') : Both B E C w' r vO' vW' vL' now' m t' x' O' S' P' W' L' :=
  ⟨hr, hd.turns ht h.ec, hl.turns ht h.ec, hdt, has, h.ec, Nat.le_trans h.cw ht.size⟩
end

/-- What a step answers, and leaves. -/
def Stepped (B E C : Nat) (w : World) (r m t x now len : Nat) (e : Ending) (w' : World) : Prop :=
  ∃ (vO vW vL : Value) (now' t' : Nat) (O : List Int) (S P : List Nat) (W : List Int) (L : List Wt) (b : Bool), e = .returned (.tuple #[.agg #[vO, vW, .int .i64 (now' : Int), vL], .bool b, .bool true]) ∧
    Both B E C w' r vO vW vL now' m t' (up x b) O S P W L ∧ Turns B E w w' ∧ t' ≤ t + 1 ∧ now' ≤ now + 1 ∧ L.length ≤ len + 1

theorem cell_res4 {w : World} {rb xb j : Nat} {u0 u1 u2 u3 : Value} (h : xb ≠ rb) : ((((w.setCell ⟨rb, 0, none⟩ u0).setCell ⟨rb, 1, none⟩ u1).setCell ⟨rb, 2, none⟩ u2).setCell ⟨rb, 3, none⟩ u3).cell? ⟨xb, j, none⟩ = w.cell? ⟨xb, j, none⟩ :=
  World.cell?_of_block (res4_block h)
theorem cell_res4d {w : World} {rb xb j : Nat} {u0 u1 u2 u3 : Value} (h : xb ≠ rb) : ((((w.setCell ⟨rb, 0, none⟩ u0).setCell ⟨rb, 1, none⟩ u1).setCell ⟨rb, 2, none⟩ u2).setCell ⟨rb, 3, none⟩ u3).drew.cell? ⟨xb, j, none⟩ = w.cell? ⟨xb, j, none⟩ := by
  have e : ∀ (x : World) (p : Addr), x.drew.cell? p = x.cell? p := fun _ _ => rfl
  rw [e, cell_res4 h]
/-- A step's boxes. -/
structure Bxd (B E : Nat) (w w2 : World) (xb db rb : Nat) (X : Array Value) (d : Dd) : Prop where
  x : w2.heap[xb]? = some (.cells X 45 (0, 0))
  d : w2.heap[db]? = some (.cells #[.int .i64 d.K, .int .i64 d.N, .int .i64 d.A, .int .i64 d.Z, .int .u64 (d.V : Int), .slice d.p d.l d.c] 50 (0, 0))
  r : w2.heap[rb]? = some (.cells #[.slice none 0 0, .slice none 0 0, .int .i64 0, .slice none 0 0] 45 (0, 0))
  lo : w.heap.size ≤ xb ∧ w.heap.size ≤ db ∧ w.heap.size ≤ rb ∧ xb ≠ db ∧ xb ≠ rb ∧ db ≠ rb ∧ E ≤ w.heap.size
  trn : Turns B E w w2
section
variable {B E xb db rb : Nat} {w w2 w3 : World} {X : Array Value} {d : Dd}
theorem Bxd.made (w : World) (hE : E ≤ w.heap.size) (v0 v1 v2 v3 : Value) (d : Dd) :
    Bxd B E w (((w.alloc (.cells #[v0, v1, v2, v3] 45)).alloc (.cells #[.int .i64 d.K, .int .i64 d.N, .int .i64 d.A, .int .i64 d.Z, .int .u64 (d.V : Int), .slice d.p d.l d.c] 50)).alloc (.cells #[.slice none 0 0, .slice none 0 0, .int .i64 0, .slice none 0 0] 45))
      w.heap.size (w.heap.size + 1) (w.heap.size + 1 + 1) #[v0, v1, v2, v3] d := by
  refine ⟨?_, ?_, ?_, by omega, Turns.of_below ((((Below.refl _ w).alloc (Nat.le_refl _) _).alloc (by simp) _).alloc (by simp; omega) _)⟩
  · rw [Below.heap_alloc _ _ _ (by simp; omega), Below.heap_alloc _ _ _ (by simp)]; exact heap_alloc_new w _
  · rw [Below.heap_alloc _ _ _ (by simp)]
    have := heap_alloc_new (w.alloc (.cells #[v0, v1, v2, v3] 45)) (.cells #[.int .i64 d.K, .int .i64 d.N, .int .i64 d.A, .int .i64 d.Z, .int .u64 (d.V : Int), .slice d.p d.l d.c] 50)
    simpa using this
  · have := heap_alloc_new ((w.alloc (.cells #[v0, v1, v2, v3] 45)).alloc (.cells #[.int .i64 d.K, .int .i64 d.N, .int .i64 d.A, .int .i64 d.Z, .int .u64 (d.V : Int), .slice d.p d.l d.c] 50)) (.cells #[.slice none 0 0, .slice none 0 0, .int .i64 0, .slice none 0 0] 45)
    simpa using this
theorem Bxd.turns (h : Bxd B E w w2 xb db rb X d) (ht : Turns B E w2 w3) : Bxd B E w w3 xb db rb X d := by
  obtain ⟨l1, l2, l3, l4, l5, l6, l7⟩ := h.lo
  exact ⟨(ht.block xb (Array.getElem?_eq_some_iff.1 h.x).1 (.inr (by omega))).trans h.x, (ht.block db (Array.getElem?_eq_some_iff.1 h.d).1 (.inr (by omega))).trans h.d, (ht.block rb (Array.getElem?_eq_some_iff.1 h.r).1 (.inr (by omega))).trans h.r, h.lo, h.trn.trans ht⟩
theorem Bxd.below (h : Bxd B E w w2 xb db rb X d) (hb : Below w2.heap.size w2 w3) : Bxd B E w w3 xb db rb X d := h.turns (Turns.of_below hb)
theorem Bxd.k0 (h : Bxd B E w w2 xb db rb X d) : w2.cell? ⟨db, 0, none⟩ = some (.int .i64 d.K) := by rw [cell_of_row w2 db 0 _ _ _ h.d]; rfl
theorem Bxd.k1 (h : Bxd B E w w2 xb db rb X d) : w2.cell? ⟨db, 1, none⟩ = some (.int .i64 d.N) := by rw [cell_of_row w2 db 1 _ _ _ h.d]; rfl
theorem Bxd.k2 (h : Bxd B E w w2 xb db rb X d) : w2.cell? ⟨db, 2, none⟩ = some (.int .i64 d.A) := by rw [cell_of_row w2 db 2 _ _ _ h.d]; rfl
theorem Bxd.k3 (h : Bxd B E w w2 xb db rb X d) : w2.cell? ⟨db, 3, none⟩ = some (.int .i64 d.Z) := by rw [cell_of_row w2 db 3 _ _ _ h.d]; rfl
theorem Bxd.k4 (h : Bxd B E w w2 xb db rb X d) : w2.cell? ⟨db, 4, none⟩ = some (.int .u64 (d.V : Int)) := by rw [cell_of_row w2 db 4 _ _ _ h.d]; rfl
theorem Bxd.k5 (h : Bxd B E w w2 xb db rb X d) : w2.cell? ⟨db, 5, none⟩ = some (.slice d.p d.l d.c) := by rw [cell_of_row w2 db 5 _ _ _ h.d]; rfl
theorem Bxd.r0 (h : Bxd B E w w2 xb db rb X d) : w2.cell? ⟨rb, 0, none⟩ = some (.slice none 0 0) := by rw [cell_of_row w2 rb 0 _ _ _ h.r]; rfl
theorem Bxd.r1 (h : Bxd B E w w2 xb db rb X d) : w2.cell? ⟨rb, 1, none⟩ = some (.slice none 0 0) := by rw [cell_of_row w2 rb 1 _ _ _ h.r]; rfl
theorem Bxd.r2 (h : Bxd B E w w2 xb db rb X d) : w2.cell? ⟨rb, 2, none⟩ = some (.int .i64 0) := by rw [cell_of_row w2 rb 2 _ _ _ h.r]; rfl
theorem Bxd.r3 (h : Bxd B E w w2 xb db rb X d) : w2.cell? ⟨rb, 3, none⟩ = some (.slice none 0 0) := by rw [cell_of_row w2 rb 3 _ _ _ h.r]; rfl
theorem Bxd.fr (h : Bxd B E w w2 xb db rb X d) (j : Nat) : w2.frozen? ⟨rb, j, none⟩ = false := frozen_of_row w2 rb j _ _ h.r
theorem Bxd.fx (h : Bxd B E w w2 xb db rb X d) (j : Nat) : w2.frozen? ⟨xb, j, none⟩ = false := frozen_of_row w2 xb j _ _ h.x
theorem Bxd.xc (h : Bxd B E w w2 xb db rb X d) (j : Nat) : w2.cell? ⟨xb, j, none⟩ = X[j]? := cell_of_row w2 xb j _ _ _ h.x
/-- x is laid anew. -/
theorem Bxd.setX {v0 v1 v2 v3 : Value} (h : Bxd B E w w2 xb db rb #[v0, v1, v2, v3] d) (u0 u1 u2 u3 : Value) :
    Bxd B E w ((((w2.setCell ⟨xb, 0, none⟩ u0).setCell ⟨xb, 1, none⟩ u1).setCell ⟨xb, 2, none⟩ u2).setCell ⟨xb, 3, none⟩ u3) xb db rb #[u0, u1, u2, u3] d := by
  obtain ⟨l1, l2, l3, l4, l5, l6, l7⟩ := h.lo
  refine ⟨res4_kept h.x, by rw [res4_block (Ne.symm l4)]; exact h.d, by rw [res4_block (Ne.symm l5)]; exact h.r, h.lo, ?_⟩
  exact (((h.trn.setNew (p := ⟨xb, 0, none⟩) l1 _).setNew (p := ⟨xb, 1, none⟩) l1 _).setNew (p := ⟨xb, 2, none⟩) l1 _).setNew (p := ⟨xb, 3, none⟩) l1 _
theorem Bxd.setF {v0 v1 v2 v3 : Value} (h : Bxd B E w w2 xb db rb #[v0, v1, v2, v3] d) (u0 u1 u2 : Value) :
    Bxd B E w (((w2.setCell ⟨xb, 0, none⟩ u0).setCell ⟨xb, 1, none⟩ u1).setCell ⟨xb, 2, none⟩ u2) xb db rb #[u0, u1, u2, v3] d := by
  obtain ⟨l1, l2, l3, l4, l5, l6, l7⟩ := h.lo
  have e1 := heap_setCell_same w2 xb 0 _ _ u0 h.x
  have e2 := heap_setCell_same _ xb 1 _ _ u1 e1
  have e3 := heap_setCell_same _ xb 2 _ _ u2 e2
  refine ⟨e3, by rw [res_block (Ne.symm l4)]; exact h.d, by rw [res_block (Ne.symm l5)]; exact h.r, h.lo, ?_⟩
  exact ((h.trn.setNew (p := ⟨xb, 0, none⟩) l1 _).setNew (p := ⟨xb, 1, none⟩) l1 _).setNew (p := ⟨xb, 2, none⟩) l1 _
/-- The answer is laid. -/
theorem Bxd.fin (h : Bxd B E w w2 xb db rb X d) (u0 u1 u2 u3 : Value) : Turns B E w ((((w2.setCell ⟨rb, 0, none⟩ u0).setCell ⟨rb, 1, none⟩ u1).setCell ⟨rb, 2, none⟩ u2).setCell ⟨rb, 3, none⟩ u3) := by
  obtain ⟨l1, l2, l3, l4, l5, l6, l7⟩ := h.lo
  exact (((h.trn.setNew (p := ⟨rb, 0, none⟩) l3 _).setNew (p := ⟨rb, 1, none⟩) l3 _).setNew (p := ⟨rb, 2, none⟩) l3 _).setNew (p := ⟨rb, 3, none⟩) l3 _
theorem Both.fin {C r now m t x : Nat} {vO vW vL : Value} {O W : List Int} {S P : List Nat} {L : List Wt} (h : Both B E C w2 r vO vW vL now m t x O S P W L) (hb : Bxd B E w w2 xb db rb X d) (u0 u1 u2 u3 : Value) :
    Both B E C ((((w2.setCell ⟨rb, 0, none⟩ u0).setCell ⟨rb, 1, none⟩ u1).setCell ⟨rb, 2, none⟩ u2).setCell ⟨rb, 3, none⟩ u3) r vO vW vL now m t x O S P W L := by
  obtain ⟨l1, l2, l3, l4, l5, l6, l7⟩ := hb.lo
  exact h.tag hb.r (by omega) (by simp) (fun g hg => res4_block hg)
end
end Go.Proofs.Yteebjeifbccbnaa
