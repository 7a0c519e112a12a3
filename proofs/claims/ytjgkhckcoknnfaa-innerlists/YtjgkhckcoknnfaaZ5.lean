/- Texts of this seat, joined: ISet, IOps, IPage, HNew, IRow, IFrames, BOpen, HCount: each opens with what it holds. -/
import Derived.Test.YtjgkhckcoknnfaaZ4
import Derived.Deep.RegionHeld3
import Derived.Test.YtjgkhckcoknnfaaZ2
import Derived.Test.YtjgkhckcoknnfaaZ1
import Derived.Deep.OwnRows
import Derived.BigRegion
import Derived.Laws.AppendOwnNone
import Derived.Test.YtjgkhckcoknnfaaRows
import Derived.ProofKit
import Derived.WalkKit
import Derived.OpenShut
import Derived.ShutString
import Derived.ChangeOld
import Derived.Laws.IdiomArrays
/- A zspage in memory (ObjsAt), what turns it, and the walks of isFree, read, write. -/
namespace Go.Proofs.Ytjgkhckcoknnfaa
open Go.RowKit

/-- A zspage's objects in block q, its set in s and g, its row behind ar, all in blocks from C to less than D. -/
structure ObjsAt (C D : Nat) (w : World) (q : Nat) (tg : TypeId) (s g : Nat) (ar : Option Addr) (cr : Nat) (G : PG) : Prop where
  head : w.heap[q]? = some (.cells #[.pointer (some ⟨s, 0, none⟩), .int .i64 (G.c : Nat), .slice ar (rowL G.F).length cr, .int .i64 (G.f : Nat)] tg (0, 0))
  set : SetAt C w s g G.x
  row : ∃ gr, ar = some ⟨gr, 0, none⟩ ∧ C ≤ gr ∧ gr < D ∧ gr ≠ q ∧ gr ≠ g ∧ ∀ i, i < (rowL G.F).length → w.cell? ⟨gr, i, none⟩ = some (.int .i64 ((rowL G.F).getD i 0))
  loc : C ≤ q ∧ q < D ∧ s < D ∧ g < D ∧ q ≠ s ∧ q ≠ g
  hi : D ≤ w.heap.size
section
variable {B E C D q s g cr r : Nat} {w w' : World} {tg : TypeId} {ar : Option Addr} {G : PG} {R : RS}
theorem ObjsAt.kept (h : ObjsAt C D w q tg s g ar cr G) (hs : w.heap.size ≤ w'.heap.size) (hk : ∀ i, C ≤ i → i < D → w'.heap[i]? = w.heap[i]?) : ObjsAt C D w' q tg s g ar cr G := by
  obtain ⟨gr, e, r1, r2, r3, r4, r5⟩ := h.row
  obtain ⟨l0, l1, l2, l3, l4, l5⟩ := h.loc
  refine ⟨(hk q l0 l1).trans h.head, h.set.of_blocks (hk s h.set.lo l2) (hk g h.set.bltg.2.2 l3), ⟨gr, e, r1, r2, r3, r4, fun i hi => ?_⟩, h.loc, Nat.le_trans h.hi hs⟩
  rw [← r5 i hi]
  exact World.cell?_of_block (hk gr r1 r2)
theorem ObjsAt.turns (h : ObjsAt C D w q tg s g ar cr G) (hd : D ≤ B ∨ E ≤ C) (ht : Turns B E w w') : ObjsAt C D w' q tg s g ar cr G :=
  h.kept ht.size fun i h1 h2 => ht.block i (Nat.lt_of_lt_of_le h2 h.hi) (by omega)
theorem ObjsAt.below (h : ObjsAt C D w q tg s g ar cr G) (hb : Below w.heap.size w w') : ObjsAt C D w' q tg s g ar cr G :=
  h.kept hb.size fun i _ h2 => hb.block i (Nat.lt_of_lt_of_le h2 h.hi)
theorem ObjsAt.c0 (h : ObjsAt C D w q tg s g ar cr G) : w.cell? ⟨q, 0, none⟩ = some (.pointer (some ⟨s, 0, none⟩)) := by rw [cell_of_row w q 0 _ _ _ h.head]; rfl
theorem ObjsAt.c1 (h : ObjsAt C D w q tg s g ar cr G) : w.cell? ⟨q, 1, none⟩ = some (.int .i64 (G.c : Nat)) := by rw [cell_of_row w q 1 _ _ _ h.head]; rfl
theorem ObjsAt.c2 (h : ObjsAt C D w q tg s g ar cr G) : w.cell? ⟨q, 2, none⟩ = some (.slice ar (rowL G.F).length cr) := by rw [cell_of_row w q 2 _ _ _ h.head]; rfl
theorem ObjsAt.c3 (h : ObjsAt C D w q tg s g ar cr G) : w.cell? ⟨q, 3, none⟩ = some (.int .i64 (G.f : Nat)) := by rw [cell_of_row w q 3 _ _ _ h.head]; rfl
theorem ObjsAt.f3 (h : ObjsAt C D w q tg s g ar cr G) : w.frozen? ⟨q, 3, none⟩ = false := frozen_of_row w q 3 _ _ h.head
theorem ObjsAt.setP (h : ObjsAt C D w q tg s g ar cr G) : SetP C w (some ⟨s, 0, none⟩) (some g) G.x := .inr ⟨s, g, rfl, rfl, h.set⟩
theorem ObjsAt.rowAt (h : ObjsAt C D w q tg s g ar cr G) (hd : D ≤ B ∨ E ≤ C) : RowAt w B E ar (rowL G.F) := by
  obtain ⟨gr, e, r1, r2, r3, r4, r5⟩ := h.row
  exact .inr ⟨gr, 0, e, Nat.lt_of_lt_of_le r2 h.hi, by omega, fun i hi => by rw [Nat.zero_add]; exact r5 i hi⟩
theorem ObjsAt.setF (h : ObjsAt C D w q tg s g ar cr G) (f : Nat) : ObjsAt C D (w.setCell ⟨q, 3, none⟩ (.int .i64 (f : Nat))) q tg s g ar cr { G with f := f } := by
  obtain ⟨gr, e, r1, r2, r3, r4, r5⟩ := h.row
  obtain ⟨l0, l1, l2, l3, l4, l5⟩ := h.loc
  refine ⟨?_, h.set.of_blocks (Below.heap_setCell _ _ _ _ (by show s ≠ q; omega)) (Below.heap_setCell _ _ _ _ (by show g ≠ q; omega)), ⟨gr, e, r1, r2, r3, r4, fun i hi => ?_⟩, h.loc, by simpa using h.hi⟩
  · rw [heap_setCell_same w q 3 _ _ _ h.head]; rfl
  · rw [← r5 i hi]
    exact World.cell?_of_block (Below.heap_setCell _ _ _ _ (by show gr ≠ q; exact r3))
theorem ObjsAt.setX (h : ObjsAt C D w q tg s g ar cr G) {x : List Bool} (hs : SetP C w' (some ⟨s, 0, none⟩) (some g) x) (hg : w.grownBy w' (some g)) : ObjsAt C D w' q tg s g ar cr { G with x := x } := by
  obtain ⟨gr, e, r1, r2, r3, r4, r5⟩ := h.row
  obtain ⟨l0, l1, l2, l3, l4, l5⟩ := h.loc
  have hb : ∀ k, k < D → k ≠ g → w'.heap[k]? = w.heap[k]? := fun k h1 h2 => hg.block k (Nat.lt_of_lt_of_le h1 h.hi) (by intro e; simp at e; omega)
  refine ⟨(hb q l1 l5).trans h.head, ?_, ⟨gr, e, r1, r2, r3, r4, fun i hi => ?_⟩, h.loc, Nat.le_trans h.hi hg.size⟩
  · rcases hs with ⟨h1, _⟩ | ⟨s', g', h1, h2, h3⟩
    · cases h1
    · cases h1
      cases h2
      exact h3
  · rw [← r5 i hi]
    exact World.cell?_of_block (hb gr r2 r4)

theorem keeps_set (w : World) (p : Addr) (v : Value) : Keeps (fun k => k ≠ p.block) w (w.setCell p v) := ⟨rfl, rfl, rfl, by simp, fun _ _ h2 => Below.heap_setCell _ _ _ _ h2⟩
theorem keeps_drew (K : Nat → Prop) (w : World) (m : Nat) : Keeps K w (w.drewN m) := keeps_all (drewN_below _ _ _)
/-- Neither of the blocks from B to less than E, nor of those from C to less than D. -/
def Off (B E C D i : Nat) : Prop := (i < B ∨ E ≤ i) ∧ (i < C ∨ D ≤ i)
theorem off_turns (C D : Nat) (ht : Turns B E w w') : Keeps (Off B E C D) w w' := (turns_keeps ht).mono fun _ _ h => h.1
theorem off_set (B E : Nat) (w : World) {p : Addr} (v : Value) (h1 : C ≤ p.block) (h2 : p.block < D) : Keeps (Off B E C D) w (w.setCell p v) := (keeps_set w p v).mono fun k _ h e => by subst e; have := h.2; omega
theorem off_grown (B E : Nat) (h : w.grownBy w' (some g)) (h1 : C ≤ g) (h2 : g < D) : Keeps (Off B E C D) w w' := keeps_grown h fun k e h3 => by cases e; have := h3.2; omega
theorem RamAt.set (hr : RamAt B E w r R) (hd : D ≤ B ∨ E ≤ C) {p : Addr} (v : Value) (h1 : C ≤ p.block) (h2 : p.block < D) : RamAt B E (w.setCell p v) r R :=
  hr.kept (by simp) fun i _ _ => Below.heap_setCell _ _ _ _ (by omega)
theorem RamAt.grow (hr : RamAt B E w r R) (hd : D ≤ B ∨ E ≤ C) (h : w.grownBy w' (some g)) (h1 : C ≤ g) (h2 : g < D) : RamAt B E w' r R :=
  hr.kept h.size fun i _ hi => h.block i (Nat.lt_of_lt_of_le hi hr.hi.1) (by intro e; simp at e; omega)

/-- Is object n there and free? -/
def freeB (x : List Bool) (n : Int) : Bool := mayB x n && !hasB x n
theorem freeB_nat {x : List Bool} {n : Nat} (h : n < x.length) : freeB x n = !x.getD n false := by rw [freeB, mayB_nat h, hasB_nat, Bool.true_and]
theorem freeB_of {x : List Bool} {n : Int} (h : freeB x n = true) : ∃ k : Nat, n = k ∧ k < x.length ∧ x.getD k false = false := by
  unfold freeB at h
  rw [Bool.and_eq_true] at h
  obtain ⟨h1, h2⟩ := h
  obtain ⟨h3, h4⟩ := of_decide_eq_true h1
  obtain ⟨k, rfl⟩ := Int.eq_ofNat_of_zero_le h3
  refine ⟨k, rfl, by omega, ?_⟩
  rw [hasB_nat] at h2
  cases h5 : x.getD k false
  · rfl
  · rw [h5] at h2; cases h2
theorem freeB_no {x : List Bool} {n : Int} (h : mayB x n = false) : freeB x n = false := by rw [freeB, h, Bool.false_and]
set_option maxHeartbeats 400000 in
theorem isFree_any (n : Int) (w : World) (h : ObjsAt C D w q tg s g ar cr G) :
    Calls Try.prog 69 #[.pointer (some ⟨q, 0, none⟩), .int .i64 n] w fun e w' => e = .returned (.bool (freeB G.x n)) ∧ ∃ m, w' = w.drewN m := by
  have c0 := h.c0
  have hs := h.setP
  have H : Hid (SetP C w (some ⟨s, 0, none⟩) (some g) G.x) := hs
  clear h hs
  by_cases h0 : 0 ≤ n
  · by_cases h1 : n < G.x.length
    · have HE : Hid (freeB G.x n = !hasB G.x n) := by show _ = _; unfold freeB; rw [show mayB G.x n = true from decide_eq_true ⟨h0, h1⟩, Bool.true_and]
      rw [HE.out]
      generalize hx : G.x = x at *
      have HX : Hid (SetP C w (some ⟨s, 0, none⟩) (some g) x) := H.out
      clear H hx HE
      go_enter Try.func69, Try.ntmps69
      go_wp2_with (first | (go_at_call 35; refine (size_any _ HX.out).mono ?_; rintro e w' ⟨rfl, rfl⟩) | (go_at_call 37; refine (has_any n _ HX.out).mono ?_; rintro e w' ⟨rfl, m, rfl⟩))
      go_ret
      exact ⟨rfl, _, rfl⟩
    · have HE : Hid (freeB G.x n = false) := freeB_no (decide_eq_false (by omega))
      go_enter Try.func69, Try.ntmps69
      go_wp2_with (go_at_call 35; refine (size_any _ H.out).mono ?_; rintro e w' ⟨rfl, rfl⟩)
      go_ret
      exact ⟨retBool HE.out.symm, 0, rfl⟩
  · have HE : Hid (freeB G.x n = false) := freeB_no (decide_eq_false (by omega))
    go_enter Try.func69, Try.ntmps69
    go_wp2
    go_ret
    exact ⟨retBool HE.out.symm, 0, rfl⟩
theorem zr_yes {n M nF S : Nat} (hG : PGok R G) (hn : n < G.x.length) (hM : M ≤ jSz G.c) (w : World) (h : ObjsAt C D w q tg s g ar cr G) (hr : RamAt B E w r R) (hd : D ≤ B ∨ E ≤ C) (hF : (rowL G.F).length = nF) (hS : jSz G.c = S) :
    Calls Try.prog 80 #[.pointer (some ⟨r, 0, none⟩), .slice ar nF cr, .int .i64 (S : Nat), .int .i64 (n : Nat), .int .i64 0, .int .i64 (M : Nat)] w fun e w' => ∃ v R', e = .returned (.tuple #[v, .bool true]) ∧
      w'.ownsRow w.heap.size 5 1 v M (bv (seg (allZ R G.F) (n * S) M)) ∧ RamAt B E w' r R' ∧ RStay R R' ∧ Turns B E w w' := by
  subst hF hS
  refine (zRead_any (cr := cr) w hr (h.rowAt hd) (F := 0) (by omega) (hG.zae hn hM)).mono ?_
  rintro e w' ⟨v, rfl, own, ram, ht⟩
  rw [hG.red hn hM, length_seg (by rw [hG.all]; have := hG.room hn; omega)] at own
  exact ⟨v, _, by rw [hG.are hn hM], own, ram, touz_stay _ _ _ _, ht⟩
theorem zr_no {n M nF S : Nat} (hG : PGok R G) (hM : jSz G.c < M) (w : World) (h : ObjsAt C D w q tg s g ar cr G) (hr : RamAt B E w r R) (hd : D ≤ B ∨ E ≤ C) (hF : (rowL G.F).length = nF) (hS : jSz G.c = S) :
    Calls Try.prog 80 #[.pointer (some ⟨r, 0, none⟩), .slice ar nF cr, .int .i64 (S : Nat), .int .i64 (n : Nat), .int .i64 0, .int .i64 (M : Nat)] w fun e w' => ∃ v, e = .returned (.tuple #[v, .bool false]) ∧
      w'.ownsRow w.heap.size 5 1 v 0 [] ∧ RamAt B E w' r R ∧ Turns B E w w' := by
  subst hF hS
  have h0 : 0 < M := by have := hG.sz; omega
  refine (zRead_any (cr := cr) w hr (h.rowAt hd) (F := 0) (by omega) (zae_no hM)).mono ?_
  rintro e w' ⟨v, rfl, own, ram, ht⟩
  rw [redZ, are_no h0] at own
  rw [touZ, are_no h0] at ram
  exact ⟨v, by rw [are_no h0], own, ram, ht⟩
theorem zw_yes {n Lb cb nF S : Nat} {pb : Option Addr} {b : List Nat} (hG : PGok R G) (hn : n < G.x.length) (hM : Lb ≤ jSz G.c) (w : World) (h : ObjsAt C D w q tg s g ar cr G) (hr : RamAt B E w r R) (hd : D ≤ B ∨ E ≤ C) (hF : (rowL G.F).length = nF) (hS : jSz G.c = S)
    (hs : ByAt w pb Lb cb b) (ap : Apart B E (.slice pb Lb cb) b) :
    Calls Try.prog 76 #[.pointer (some ⟨r, 0, none⟩), .slice ar nF cr, .int .i64 (S : Nat), .int .i64 (n : Nat), .int .i64 0, .slice pb Lb cb] w fun e w' => ∃ R', e = .returned (.bool true) ∧
      RamAt B E w' r R' ∧ Wrote R R' G.F (n * S) b ∧ Turns B E w w' := by
  subst hF hS
  have hl := hs.len
  refine (zWrite_any (cr := cr) w hr (h.rowAt hd) hs ap (F := 0) (by omega) (hG.zae hn hM)).mono ?_
  rintro e w' ⟨rfl, ram, ht⟩
  subst hl
  exact ⟨_, by rw [hG.are hn hM], ram, hG.wri hn hM, ht⟩
theorem zw_no {n Lb cb nF S : Nat} {pb : Option Addr} {b : List Nat} (hG : PGok R G) (hM : jSz G.c < Lb) (w : World) (h : ObjsAt C D w q tg s g ar cr G) (hr : RamAt B E w r R) (hd : D ≤ B ∨ E ≤ C) (hF : (rowL G.F).length = nF) (hS : jSz G.c = S)
    (hs : ByAt w pb Lb cb b) (ap : Apart B E (.slice pb Lb cb) b) :
    Calls Try.prog 76 #[.pointer (some ⟨r, 0, none⟩), .slice ar nF cr, .int .i64 (S : Nat), .int .i64 (n : Nat), .int .i64 0, .slice pb Lb cb] w fun e w' => e = .returned (.bool false) ∧
      RamAt B E w' r R ∧ Turns B E w w' := by
  subst hF hS
  have h0 : 0 < Lb := by have := hG.sz; omega
  refine (zWrite_any (cr := cr) w hr (h.rowAt hd) hs ap (F := 0) (by omega) (zae_no hM)).mono ?_
  rintro e w' ⟨rfl, ram, ht⟩
  rw [wriZ, are_no h0] at ram
  exact ⟨by rw [are_no h0], ram, ht⟩
set_option maxHeartbeats 1000000 in
theorem oRead_yes {n M : Nat} (hG : PGok R G) (hn : n < G.x.length) (hM : M ≤ jSz G.c) (w : World) (h : ObjsAt C D w q tg s g ar cr G) (hr : RamAt B E w r R) (hd : D ≤ B ∨ E ≤ C) :
    Calls Try.prog 70 #[.pointer (some ⟨q, 0, none⟩), .pointer (some ⟨r, 0, none⟩), .int .i64 (n : Nat), .int .i64 (M : Nat)] w fun e w' => ∃ v R', e = .returned (.tuple #[v, .bool true]) ∧
      w'.ownsRow w.heap.size 5 1 v M (bv (seg (allZ R G.F) (n * jSz G.c) M)) ∧ RamAt B E w' r R' ∧ RStay R R' ∧ Turns B E w w' := by
  have HN : Hid (n < G.x.length) := hn
  clear hn
  have c1 := h.c1
  have c2 := h.c2
  have HC : Hid (∀ w', Turns B E w.drew w' → w'.cell? ⟨q, 1, none⟩ = some (.int .i64 (G.c : Nat)) ∧ w'.cell? ⟨q, 2, none⟩ = some (.slice ar (rowL G.F).length cr)) := fun w' ht => ⟨((h.below (drew_below _ _)).turns hd ht).c1, ((h.below (drew_below _ _)).turns hd ht).c2⟩
  have HH : Hid (ObjsAt C D w.drew q tg s g ar cr G) := h.below (drew_below _ _)
  have HR : Hid (RamAt B E w.drew r R) := hr.below (drew_below _ _)
  have HG : Hid (PGok R G) := hG
  have HM : Hid _ := hM
  have HY : Hid (∀ w, Calls Try.prog 55 #[.int .i64 (G.c : Nat)] w fun e w' => e = .returned (.int .i64 (jSz G.c : Nat)) ∧ w = w') := fun w => size_yes G.c w hG.cls
  have HD : Hid (D ≤ B ∨ E ≤ C) := hd
  clear hG h hr hd hM
  obtain ⟨nF, hnF⟩ : ∃ nF, (rowL G.F).length = nF := ⟨_, rfl⟩
  obtain ⟨S, hS⟩ : ∃ S, jSz G.c = S := ⟨_, rfl⟩
  obtain ⟨c, hc⟩ : ∃ c, G.c = c := ⟨_, rfl⟩
  have HNF : Hid ((rowL G.F).length = nF) := hnF
  have HS : Hid (jSz G.c = S) := hS
  rw [hS, hc] at HY
  rw [hc, hnF] at HC
  rw [hc] at c1
  rw [hnF] at c2
  try rw [hS]
  clear hnF hS hc
  go_enter Try.func70, Try.ntmps70
  go_wp2_with fail
  go_region_held3 (fun w' => w'.cell? ⟨q, 1, none⟩ = some (.int .i64 (c : Nat)) ∧ w'.cell? ⟨q, 2, none⟩ = some (.slice ar nF cr)) (first | (go_keep; done)) (first | (go_at_call 55; refine (HY.out _).mono ?_; rintro e w' ⟨rfl, rfl⟩) | (go_at_call 80; refine (zr_yes HG.out HN.out HM.out _ HH.out HR.out HD.out HNF.out HS.out).mono ?_; rintro e w' ⟨v, R', rfl, own, ram, hst, ht⟩; obtain ⟨k1, k2⟩ := HC.out w' ht))
  all_goals
    go_wp2
    go_ret2
    exact ⟨_, _, rfl, own, ram, hst, (Turns.of_below (drew_below _ _)).trans ht⟩
set_option maxHeartbeats 1000000 in
theorem oRead_no {n M : Nat} (hG : PGok R G) (hM : jSz G.c < M) (w : World) (h : ObjsAt C D w q tg s g ar cr G) (hr : RamAt B E w r R) (hd : D ≤ B ∨ E ≤ C) :
    Calls Try.prog 70 #[.pointer (some ⟨q, 0, none⟩), .pointer (some ⟨r, 0, none⟩), .int .i64 (n : Nat), .int .i64 (M : Nat)] w fun e w' => ∃ v, e = .returned (.tuple #[v, .bool false]) ∧
      w'.ownsRow w.heap.size 5 1 v 0 [] ∧ RamAt B E w' r R ∧ Turns B E w w' := by
  have c1 := h.c1
  have c2 := h.c2
  have HC : Hid (∀ w', Turns B E w.drew w' → w'.cell? ⟨q, 1, none⟩ = some (.int .i64 (G.c : Nat)) ∧ w'.cell? ⟨q, 2, none⟩ = some (.slice ar (rowL G.F).length cr)) := fun w' ht => ⟨((h.below (drew_below _ _)).turns hd ht).c1, ((h.below (drew_below _ _)).turns hd ht).c2⟩
  have HH : Hid (ObjsAt C D w.drew q tg s g ar cr G) := h.below (drew_below _ _)
  have HR : Hid (RamAt B E w.drew r R) := hr.below (drew_below _ _)
  have HG : Hid (PGok R G) := hG
  have HM : Hid _ := hM
  have HY : Hid (∀ w, Calls Try.prog 55 #[.int .i64 (G.c : Nat)] w fun e w' => e = .returned (.int .i64 (jSz G.c : Nat)) ∧ w = w') := fun w => size_yes G.c w hG.cls
  have HD : Hid (D ≤ B ∨ E ≤ C) := hd
  clear hG h hr hd hM
  obtain ⟨nF, hnF⟩ : ∃ nF, (rowL G.F).length = nF := ⟨_, rfl⟩
  obtain ⟨S, hS⟩ : ∃ S, jSz G.c = S := ⟨_, rfl⟩
  obtain ⟨c, hc⟩ : ∃ c, G.c = c := ⟨_, rfl⟩
  have HNF : Hid ((rowL G.F).length = nF) := hnF
  have HS : Hid (jSz G.c = S) := hS
  rw [hS, hc] at HY
  rw [hc, hnF] at HC
  rw [hc] at c1
  rw [hnF] at c2
  try rw [hS]
  clear hnF hS hc
  go_enter Try.func70, Try.ntmps70
  go_wp2_with fail
  go_region_held3 (fun w' => w'.cell? ⟨q, 1, none⟩ = some (.int .i64 (c : Nat)) ∧ w'.cell? ⟨q, 2, none⟩ = some (.slice ar nF cr)) (first | (go_keep; done)) (first | (go_at_call 55; refine (HY.out _).mono ?_; rintro e w' ⟨rfl, rfl⟩) | (go_at_call 80; refine (zr_no HG.out HM.out _ HH.out HR.out HD.out HNF.out HS.out).mono ?_; rintro e w' ⟨v, rfl, own, ram, ht⟩; obtain ⟨k1, k2⟩ := HC.out w' ht))
  all_goals
    go_wp2
    go_ret2
    exact ⟨_, rfl, own, ram, (Turns.of_below (drew_below _ _)).trans ht⟩
set_option maxHeartbeats 1000000 in
theorem oWrite_yes {n Lb cb : Nat} {pb : Option Addr} {b : List Nat} (hG : PGok R G) (hn : n < G.x.length) (hM : Lb ≤ jSz G.c) (w : World) (h : ObjsAt C D w q tg s g ar cr G) (hr : RamAt B E w r R) (hd : D ≤ B ∨ E ≤ C) (hs : ByAt w pb Lb cb b) (ap : Apart B E (.slice pb Lb cb) b) :
    Calls Try.prog 57 #[.pointer (some ⟨q, 0, none⟩), .pointer (some ⟨r, 0, none⟩), .int .i64 (n : Nat), .slice pb Lb cb] w fun e w' => ∃ R', e = .returned (.bool true) ∧
      RamAt B E w' r R' ∧ Wrote R R' G.F (n * jSz G.c) b ∧ Turns B E w w' := by
  have HN : Hid (n < G.x.length) := hn
  have HB : Hid (ByAt w.drew pb Lb cb b) := hs.later (drew_below _ _)
  have HA : Hid (Apart B E (.slice pb Lb cb) b) := ap
  clear hn hs ap
  have c1 := h.c1
  have c2 := h.c2
  have HC : Hid (∀ w', Turns B E w.drew w' → w'.cell? ⟨q, 1, none⟩ = some (.int .i64 (G.c : Nat)) ∧ w'.cell? ⟨q, 2, none⟩ = some (.slice ar (rowL G.F).length cr)) := fun w' ht => ⟨((h.below (drew_below _ _)).turns hd ht).c1, ((h.below (drew_below _ _)).turns hd ht).c2⟩
  have HH : Hid (ObjsAt C D w.drew q tg s g ar cr G) := h.below (drew_below _ _)
  have HR : Hid (RamAt B E w.drew r R) := hr.below (drew_below _ _)
  have HG : Hid (PGok R G) := hG
  have HM : Hid _ := hM
  have HY : Hid (∀ w, Calls Try.prog 55 #[.int .i64 (G.c : Nat)] w fun e w' => e = .returned (.int .i64 (jSz G.c : Nat)) ∧ w = w') := fun w => size_yes G.c w hG.cls
  have HD : Hid (D ≤ B ∨ E ≤ C) := hd
  clear hG h hr hd hM
  obtain ⟨nF, hnF⟩ : ∃ nF, (rowL G.F).length = nF := ⟨_, rfl⟩
  obtain ⟨S, hS⟩ : ∃ S, jSz G.c = S := ⟨_, rfl⟩
  obtain ⟨c, hc⟩ : ∃ c, G.c = c := ⟨_, rfl⟩
  have HNF : Hid ((rowL G.F).length = nF) := hnF
  have HS : Hid (jSz G.c = S) := hS
  rw [hS, hc] at HY
  rw [hc, hnF] at HC
  rw [hc] at c1
  rw [hnF] at c2
  try rw [hS]
  clear hnF hS hc
  go_enter Try.func57, Try.ntmps57
  go_wp2_with fail
  go_region_held3 (fun w' => w'.cell? ⟨q, 1, none⟩ = some (.int .i64 (c : Nat)) ∧ w'.cell? ⟨q, 2, none⟩ = some (.slice ar nF cr)) (first | (go_keep; done)) (first | (go_at_call 55; refine (HY.out _).mono ?_; rintro e w' ⟨rfl, rfl⟩) | (go_at_call 76; refine (zw_yes HG.out HN.out HM.out _ HH.out HR.out HD.out HNF.out HS.out HB.out HA.out).mono ?_; rintro e w' ⟨R', rfl, ram, hst, ht⟩; obtain ⟨k1, k2⟩ := HC.out w' ht))
  all_goals
    go_wp2
    go_ret
    exact ⟨_, rfl, ram, hst, (Turns.of_below (drew_below _ _)).trans ht⟩
set_option maxHeartbeats 1000000 in
theorem oWrite_no {n Lb cb : Nat} {pb : Option Addr} {b : List Nat} (hG : PGok R G) (hM : jSz G.c < Lb) (w : World) (h : ObjsAt C D w q tg s g ar cr G) (hr : RamAt B E w r R) (hd : D ≤ B ∨ E ≤ C) (hs : ByAt w pb Lb cb b) (ap : Apart B E (.slice pb Lb cb) b) :
    Calls Try.prog 57 #[.pointer (some ⟨q, 0, none⟩), .pointer (some ⟨r, 0, none⟩), .int .i64 (n : Nat), .slice pb Lb cb] w fun e w' => e = .returned (.bool false) ∧
      RamAt B E w' r R ∧ Turns B E w w' := by
  have HB : Hid (ByAt w.drew pb Lb cb b) := hs.later (drew_below _ _)
  have HA : Hid (Apart B E (.slice pb Lb cb) b) := ap
  clear hs ap
  have c1 := h.c1
  have c2 := h.c2
  have HC : Hid (∀ w', Turns B E w.drew w' → w'.cell? ⟨q, 1, none⟩ = some (.int .i64 (G.c : Nat)) ∧ w'.cell? ⟨q, 2, none⟩ = some (.slice ar (rowL G.F).length cr)) := fun w' ht => ⟨((h.below (drew_below _ _)).turns hd ht).c1, ((h.below (drew_below _ _)).turns hd ht).c2⟩
  have HH : Hid (ObjsAt C D w.drew q tg s g ar cr G) := h.below (drew_below _ _)
  have HR : Hid (RamAt B E w.drew r R) := hr.below (drew_below _ _)
  have HG : Hid (PGok R G) := hG
  have HM : Hid _ := hM
  have HY : Hid (∀ w, Calls Try.prog 55 #[.int .i64 (G.c : Nat)] w fun e w' => e = .returned (.int .i64 (jSz G.c : Nat)) ∧ w = w') := fun w => size_yes G.c w hG.cls
  have HD : Hid (D ≤ B ∨ E ≤ C) := hd
  clear hG h hr hd hM
  obtain ⟨nF, hnF⟩ : ∃ nF, (rowL G.F).length = nF := ⟨_, rfl⟩
  obtain ⟨S, hS⟩ : ∃ S, jSz G.c = S := ⟨_, rfl⟩
  obtain ⟨c, hc⟩ : ∃ c, G.c = c := ⟨_, rfl⟩
  have HNF : Hid ((rowL G.F).length = nF) := hnF
  have HS : Hid (jSz G.c = S) := hS
  rw [hS, hc] at HY
  rw [hc, hnF] at HC
  rw [hc] at c1
  rw [hnF] at c2
  try rw [hS]
  clear hnF hS hc
  go_enter Try.func57, Try.ntmps57
  go_wp2_with fail
  go_region_held3 (fun w' => w'.cell? ⟨q, 1, none⟩ = some (.int .i64 (c : Nat)) ∧ w'.cell? ⟨q, 2, none⟩ = some (.slice ar nF cr)) (first | (go_keep; done)) (first | (go_at_call 55; refine (HY.out _).mono ?_; rintro e w' ⟨rfl, rfl⟩) | (go_at_call 76; refine (zw_no HG.out HM.out _ HH.out HR.out HD.out HNF.out HS.out HB.out HA.out).mono ?_; rintro e w' ⟨rfl, ram, ht⟩; obtain ⟨k1, k2⟩ := HC.out w' ht))
  all_goals
    go_wp2
    go_ret
    exact ⟨rfl, ram, (Turns.of_below (drew_below _ _)).trans ht⟩
end
end Go.Proofs.Ytjgkhckcoknnfaa
/- The walks of behind, head, push. -/
namespace Go.Proofs.Ytjgkhckcoknnfaa
open Go.RowKit
section
variable {B E C D q s g cr r : Nat} {w w' : World} {tg : TypeId} {ar : Option Addr} {G : PG} {R : RS}
theorem behind_no (n : Int) (r' : Value) (hf : freeB G.x n = false) (w : World) (h : ObjsAt C D w q tg s g ar cr G) :
    Calls Try.prog 44 #[.pointer (some ⟨q, 0, none⟩), r', .int .i64 n] w fun e w' => e = .returned (.tuple #[.int .i64 0, .bool false]) ∧ ∃ m, w' = w.drewN m := by
  have HF : Hid (freeB G.x n = false) := hf
  have HH : Hid (ObjsAt C D w q tg s g ar cr G) := h
  clear hf h
  go_enter Try.func44, Try.ntmps44
  go_wp2_with fail
  refine (isFree_any _ _ HH.out).mono ?_
  rintro e w1 ⟨rfl, m, rfl⟩
  rw [HF.out]
  go_wp2
  go_ret2
  exact ⟨rfl, _, rfl⟩
set_option maxHeartbeats 400000 in
theorem behind_yes {n : Nat} (hG : PGok R G) (hn : n < G.x.length) (hf : G.x.getD n false = false) (w : World) (h : ObjsAt C D w q tg s g ar cr G) (hr : RamAt B E w r R) (hd : D ≤ B ∨ E ≤ C) :
    Calls Try.prog 44 #[.pointer (some ⟨q, 0, none⟩), .pointer (some ⟨r, 0, none⟩), .int .i64 (n : Nat)] w fun e w' => ∃ R', e = .returned (.tuple #[.int .i64 (lnkZ (allZ R G.F) (jSz G.c) n : Nat), .bool true]) ∧
      RamAt B E w' r R' ∧ RStay R R' ∧ Turns B E w w' := by
  have HF : Hid (freeB G.x n = true) := by show _ = _; rw [freeB_nat hn, hf]; rfl
  have HH : Hid (ObjsAt C D w q tg s g ar cr G) := h
  have HR : Hid (RamAt B E w r R) := hr
  have HG : Hid (PGok R G) := hG
  have HN : Hid (n < G.x.length) := hn
  have HD : Hid (D ≤ B ∨ E ≤ C) := hd
  have HL : Hid (getTo (seg (allZ R G.F) (n * jSz G.c) 2) 0 2 = lnkZ (allZ R G.F) (jSz G.c) n) := lnk_seg _ _ _
  have H8 : Hid (∀ x ∈ seg (allZ R G.F) (n * jSz G.c) 2, x < 256) := seg_byte (by
    intro x hx
    obtain ⟨k, _, hk⟩ := List.mem_flatMap.1 hx
    exact seg_byte hr.byte x hk)
  have hlt : lnkZ (allZ R G.F) (jSz G.c) n < 65536 := by
    rw [← lnk_seg]
    exact getTo_lt (a := 0) (k := 2) H8.out
  have HLN : Hid ((seg (allZ R G.F) (n * jSz G.c) 2).length = 2) := length_seg (by rw [hG.all]; have := hG.room hn; have := hG.sz; omega)
  have HQ : Hid (∀ m, Calls Try.prog 70 #[.pointer (some ⟨q, 0, none⟩), .pointer (some ⟨r, 0, none⟩), .int .i64 (n : Nat), .int .i64 (2 : Nat)] (w.drewN m) fun e w' => ∃ v R', e = .returned (.tuple #[v, .bool true]) ∧
      w'.ownsRow (w.drewN m).heap.size 5 1 v 2 (bv (seg (allZ R G.F) (n * jSz G.c) 2)) ∧ RamAt B E w' r R' ∧ RStay R R' ∧ Turns B E (w.drewN m) w') := fun m =>
    oRead_yes (M := 2) HG.out HN.out (by have := HG.out.sz; omega) _ (HH.out.below (drewN_below _ _ _)) (HR.out.below (drewN_below _ _ _)) HD.out
  clear hf h hr hG hn hd HD HG HR
  generalize seg (allZ R G.F) (n * jSz G.c) 2 = Y at *
  generalize lnkZ (allZ R G.F) (jSz G.c) n = K at *
  go_enter Try.func44, Try.ntmps44
  go_wp2_with fail
  refine (isFree_any _ _ HH.out).mono ?_
  rintro e w1 ⟨rfl, m, rfl⟩
  rw [HF.out]
  go_wp2_with fail
  refine (HQ.out m).mono ?_
  rintro e w2 ⟨v, R', rfl, own, ram, st, ht⟩
  have HOW : Hid _ := own
  have HT : Hid (Turns B E w w2) := (Turns.of_below (drewN_below _ _ _)).trans ht
  obtain ⟨a, c, rfl⟩ := row_slice own
  have HBY : Hid (ByAt w2 a 2 c Y) := by_own own H8.out
  clear own ht HOW
  go_wp2_with fail
  refine (get_yes a 2 c 0 2 0 2 rfl rfl Y w2 (by unfold maxLen; omega) HLN.out (nums_src HBY.out.src) HBY.out.byte (by omega) (by omega)).mono ?_
  rintro e w3 ⟨rfl, rfl⟩
  rw [HL.out]
  go_wp2
  go_ret2
  exact ⟨R', rfl, ram, st, HT.out⟩
theorem head_some {n : Nat} (hf : G.f = n + 1) (hn : n < G.x.length) (h0 : G.x.getD n false = false) (w : World) (h : ObjsAt C D w q tg s g ar cr G) :
    Calls Try.prog 46 #[.pointer (some ⟨q, 0, none⟩)] w fun e w' => e = .returned (.tuple #[.int .i64 (n : Nat), .bool true]) ∧ ∃ m, w' = w.drewN m := by
  have c3 := h.c3
  rw [hf] at c3
  have HF : Hid (freeB G.x n = true) := by show _ = _; rw [freeB_nat hn, h0]; rfl
  have HH : Hid (ObjsAt C D w q tg s g ar cr G) := h
  have hs : n < 4096 := Nat.lt_of_lt_of_le hn h.set.small
  clear hf hn h0 h
  go_enter Try.func46, Try.ntmps46
  go_wp2_with fail
  refine (isFree_any _ _ HH.out).mono ?_
  rintro e w1 ⟨rfl, m, rfl⟩
  rw [HF.out]
  go_wp2
  go_ret2
  exact ⟨rfl, _, rfl⟩
theorem head_none (hf : G.f = 0) (hx : frstB G.x = false) (w : World) (h : ObjsAt C D w q tg s g ar cr G) :
    Calls Try.prog 46 #[.pointer (some ⟨q, 0, none⟩)] w fun e w' => ∃ v, e = .returned (.tuple #[v, .bool false]) ∧ ∃ m, w' = w.drewN m := by
  have c0 := h.c0
  have c3 := h.c3
  rw [hf] at c3
  have HF : Hid (freeB G.x (-1) = false) := freeB_no (decide_eq_false (by omega))
  have HX : Hid (frstB G.x = false) := hx
  have HH : Hid (ObjsAt C D w q tg s g ar cr G) := h
  clear hf hx h
  go_enter Try.func46, Try.ntmps46
  go_wp2_with fail
  refine (isFree_any _ _ HH.out).mono ?_
  rintro e w1 ⟨rfl, m, rfl⟩
  rw [HF.out]
  go_wp2_with fail
  refine (first_any _ (HH.out.setP.drewN m)).mono ?_
  rintro e w2 ⟨rfl, m2, rfl⟩
  rw [HX.out]
  go_wp2
  go_ret2
  exact ⟨_, rfl, m + m2, by simp⟩
set_option maxHeartbeats 400000 in
theorem push_any {n : Nat} (hG : PGok R G) (hn : n < G.x.length) (hf : G.f ≤ 256) (w : World) (h : ObjsAt C D w q tg s g ar cr G) (hr : RamAt B E w r R) (hd : D ≤ B ∨ E ≤ C) :
    Calls Try.prog 32 #[.pointer (some ⟨q, 0, none⟩), .pointer (some ⟨r, 0, none⟩), .int .i64 (n : Nat)] w fun e w' => ∃ R', e = .returned (.bool true) ∧
      RamAt B E w' r R' ∧ Wrote R R' G.F (n * jSz G.c) (putN 2 G.f) ∧ ObjsAt C D w' q tg s g ar cr { G with f := n + 1 } ∧ Keeps (Off B E C D) w w' := by
  have c3 := h.c3
  have HH : Hid (ObjsAt C D w q tg s g ar cr G) := h
  have HR : Hid (RamAt B E w r R) := hr
  have HG : Hid (PGok R G) := hG
  have HN : Hid (n < G.x.length) := hn
  have HD : Hid (D ≤ B ∨ E ≤ C) := hd
  have HE : Hid (∀ g, w.heap.size ≤ g → E ≤ g) := fun g hg => Nat.le_trans hr.hi.1 hg
  have hs : n < 4096 := Nat.lt_of_lt_of_le hn h.set.small
  obtain ⟨f, hfe⟩ : ∃ f, G.f = f := ⟨_, rfl⟩
  have HFE : Hid (putAll 2 [f] = putN 2 G.f) := by show _ = _; rw [hfe]; simp [putAll]
  rw [hfe] at hf c3
  clear h hr hG hn hd hfe
  go_enter Try.func32, Try.ntmps32
  go_wp2_with fail
  obtain ⟨W, hW⟩ : ∃ W, W = w.alloc (.cells #[.int .u64 (f : Nat)] 101) := ⟨_, rfl⟩
  have hbw : Below w.heap.size w W := by rw [hW]; exact (Below.refl _ w).alloc (Nat.le_refl _) _
  have hnum : NumsAt .u64 W (some ⟨w.heap.size, 0, none⟩) [f] := by
    refine .inr ⟨w.heap.size, 0, rfl, by rw [hW]; simp, fun i hi => ?_⟩
    obtain rfl : i = 0 := by simpa using hi
    rw [hW, cell_of_row _ w.heap.size 0 _ _ _ (heap_alloc_new w _)]
    rfl
  rw [← hW]
  clear hW
  refine (put_any 2 1 1 2 rfl (some ⟨w.heap.size, 0, none⟩) [f] W (by omega) (by omega) rfl hnum).mono ?_
  rintro e w1 ⟨rfl, own, hb1⟩
  rw [HFE.out] at own
  have HB1 : Hid (Below w.heap.size w w1) := hbw.trans (hb1.mono hbw.size)
  have HBY : Hid (ByAt w1 (some ⟨W.heap.size, 0, none⟩) (1 * 2) (1 * 2) (putN 2 G.f)) := by_row own (putN2_byte _)
  have HAP : Hid (Apart B E (.slice (some ⟨W.heap.size, 0, none⟩) (1 * 2) (1 * 2)) (putN 2 G.f)) := apart_row own (HE.out _ hbw.size)
  have HSZ : Hid (w.heap.size ≤ W.heap.size) := hbw.size
  clear own hb1 hbw hnum
  go_wp2_with fail
  refine (oWrite_yes HG.out HN.out (by have := HG.out.sz; omega) _ (HH.out.below HB1.out) (HR.out.below HB1.out) HD.out HBY.out HAP.out).mono ?_
  rintro e w2 ⟨R', rfl, ram, hw, ht⟩
  have HO : Hid (ObjsAt C D w2 q tg s g ar cr G) := (HH.out.below HB1.out).turns HD.out ht
  have HT : Hid (Turns B E w w2) := (Turns.of_below HB1.out).trans ht
  have f3 := HO.out.f3
  have HW : Hid (Wrote R R' G.F (n * jSz G.c) (putN 2 G.f)) := hw
  have HRR : Hid (RamAt B E w2 r R') := ram
  have d3 := HO.out.c3
  clear ht c3 hw ram
  go_wp2
  go_ret
  have hk := HO.out.setF (n + 1)
  have hl := HO.out.loc
  exact ⟨R', rfl, HRR.out.set HD.out _ hl.1 hl.2.1, HW.out, hk, (off_turns C D HT.out).trans (off_set B E _ _ hl.1 hl.2.1)⟩
end
end Go.Proofs.Ytjgkhckcoknnfaa
/- The walks of a zspage's own, Take, Give, Read, Write, Has, Many, Used, Class. -/
namespace Go.Proofs.Ytjgkhckcoknnfaa
open Go.RowKit
section
variable {B E C D q s g cr r : Nat} {w w' : World} {tg : TypeId} {ar : Option Addr} {G : PG} {R : RS} {L : List Nat}
theorem pOwn_some (q : Nat) (w : World) : Calls Try.prog 33 #[.pointer (some ⟨q, 0, none⟩)] w fun e w' => e = .returned (.pointer (some ⟨q, 0, none⟩)) ∧ w = w' := by
  go_enter Try.func33, Try.ntmps33
  go_wp2
  go_ret
  exact ⟨rfl, rfl⟩
theorem pClass_some (w : World) (h : ObjsAt C D w q tg s g ar cr G) : Calls Try.prog 8 #[.pointer (some ⟨q, 0, none⟩)] w fun e w' => e = .returned (.int .i64 (G.c : Nat)) ∧ w = w' := by
  have c1 := h.c1
  clear h
  go_enter Try.func8, Try.ntmps8
  go_wp2_with fail
  refine (pOwn_some q w).mono ?_
  rintro e w1 ⟨rfl, rfl⟩
  go_wp2
  go_ret
  exact ⟨rfl, rfl⟩
theorem pMany_some (w : World) (h : ObjsAt C D w q tg s g ar cr G) : Calls Try.prog 10 #[.pointer (some ⟨q, 0, none⟩)] w fun e w' => e = .returned (.int .i64 (G.x.length : Nat)) ∧ w = w' := by
  have c0 := h.c0
  have HH : Hid (ObjsAt C D w q tg s g ar cr G) := h
  clear h
  go_enter Try.func10, Try.ntmps10
  go_wp2_with fail
  refine (pOwn_some q w).mono ?_
  rintro e w1 ⟨rfl, rfl⟩
  go_wp2_with fail
  refine (size_any _ HH.out.setP).mono ?_
  rintro e w1 ⟨rfl, rfl⟩
  go_wp2
  go_ret
  exact ⟨rfl, rfl⟩
theorem pUsed_some (w : World) (h : ObjsAt C D w q tg s g ar cr G) : Calls Try.prog 11 #[.pointer (some ⟨q, 0, none⟩)] w fun e w' => e = .returned (.int .i64 ((allL G.x).length : Nat)) ∧ w = w' := by
  have c0 := h.c0
  have HH : Hid (ObjsAt C D w q tg s g ar cr G) := h
  clear h
  go_enter Try.func11, Try.ntmps11
  go_wp2_with fail
  refine (pOwn_some q w).mono ?_
  rintro e w1 ⟨rfl, rfl⟩
  go_wp2_with fail
  refine (len_any _ HH.out.setP).mono ?_
  rintro e w1 ⟨rfl, rfl⟩
  go_wp2
  go_ret
  exact ⟨rfl, rfl⟩
theorem pHas_some (n : Int) (w : World) (h : ObjsAt C D w q tg s g ar cr G) : Calls Try.prog 12 #[.pointer (some ⟨q, 0, none⟩), .int .i64 n] w fun e w' => e = .returned (.bool (hasB G.x n)) ∧ ∃ m, w' = w.drewN m := by
  have c0 := h.c0
  have HH : Hid (ObjsAt C D w q tg s g ar cr G) := h
  clear h
  go_enter Try.func12, Try.ntmps12
  go_wp2_with fail
  refine (pOwn_some q w).mono ?_
  rintro e w1 ⟨rfl, rfl⟩
  go_wp2_with fail
  refine (has_any n _ HH.out.setP).mono ?_
  rintro e w1 ⟨rfl, m, rfl⟩
  go_wp2
  go_ret
  exact ⟨rfl, m, rfl⟩
theorem pTake_none (hG : GoodP R G []) (r' : Value) (w : World) (h : ObjsAt C D w q tg s g ar cr G) : Calls Try.prog 20 #[.pointer (some ⟨q, 0, none⟩), r'] w fun e w' => e = .returned (.tuple #[.int .i64 0, .bool false]) ∧ ∃ m, w' = w.drewN m := by
  have HF : Hid (G.f = 0) := hG.path
  have HX : Hid (frstB G.x = false) := by
    show _ = _
    cases hb : frstB G.x
    · rfl
    · obtain ⟨h1, h2⟩ := frstN_yes hb
      have h3 := frst_has h2
      rw [hasB_nat] at h3
      have := (hG.mem (frst G.x)).2 ⟨h2, h3⟩
      cases this
  have HH : Hid (ObjsAt C D w q tg s g ar cr G) := h
  clear h hG
  go_enter Try.func20, Try.ntmps20
  go_wp2_with fail
  refine (pOwn_some q w).mono ?_
  rintro e w1 ⟨rfl, rfl⟩
  go_wp2_with fail
  refine (head_none HF.out HX.out _ HH.out).mono ?_
  rintro e w1 ⟨v, rfl, m, rfl⟩
  go_wp2
  go_ret2
  exact ⟨rfl, m, rfl⟩
set_option maxHeartbeats 400000 in
theorem pTake_some {n : Nat} (hG : GoodP R G (n :: L)) (w : World) (h : ObjsAt C D w q tg s g ar cr G) (hr : RamAt B E w r R) (hd : D ≤ B ∨ E ≤ C) :
    Calls Try.prog 20 #[.pointer (some ⟨q, 0, none⟩), .pointer (some ⟨r, 0, none⟩)] w fun e w' => ∃ R', e = .returned (.tuple #[.int .i64 (n : Nat), .bool true]) ∧
      RamAt B E w' r R' ∧ RStay R R' ∧ ObjsAt C D w' q tg s g ar cr { G with x := putL G.x n true, f := lnkZ (allZ R G.F) (jSz G.c) n } ∧ Keeps (Off B E C D) w w' := by
  obtain ⟨hn, h0⟩ := (hG.mem n).1 (by simp)
  have HF : Hid (G.f = n + 1) := hG.path.1
  have HN : Hid (n < G.x.length) := hn
  have H0 : Hid (G.x.getD n false = false) := h0
  have HB : Hid ((mayB G.x n && !hasB G.x n) = true) := by show _ = _; have := freeB_nat hn; rw [h0] at this; exact this
  have HH : Hid (ObjsAt C D w q tg s g ar cr G) := h
  have HR : Hid (RamAt B E w r R) := hr
  have HG : Hid (PGok R G) := hG.ok
  have HD : Hid (D ≤ B ∨ E ≤ C) := hd
  clear h hr hG hd hn h0
  have HQ : Hid (∀ m, Calls Try.prog 44 #[.pointer (some ⟨q, 0, none⟩), .pointer (some ⟨r, 0, none⟩), .int .i64 (n : Nat)] (w.drewN m) fun e w' => ∃ R', e = .returned (.tuple #[.int .i64 (lnkZ (allZ R G.F) (jSz G.c) n : Nat), .bool true]) ∧
      RamAt B E w' r R' ∧ RStay R R' ∧ Turns B E (w.drewN m) w') := fun m => behind_yes HG.out HN.out H0.out _ (HH.out.below (drewN_below _ _ _)) (HR.out.below (drewN_below _ _ _)) HD.out
  generalize lnkZ (allZ R G.F) (jSz G.c) n = K at *
  go_enter Try.func20, Try.ntmps20
  go_wp2_with fail
  refine (pOwn_some q w).mono ?_
  rintro e w1 ⟨rfl, rfl⟩
  go_wp2_with fail
  refine (head_some HF.out HN.out H0.out _ HH.out).mono ?_
  rintro e w1 ⟨rfl, m, rfl⟩
  go_wp2_with fail
  refine (HQ.out m).mono ?_
  rintro e w2 ⟨R', rfl, ram, st, ht⟩
  have HO : Hid (ObjsAt C D w2 q tg s g ar cr G) := (HH.out.below (drewN_below _ _ m)).turns HD.out ht
  have HT : Hid (Turns B E w w2) := (Turns.of_below (drewN_below _ _ m)).trans ht
  have HRR : Hid (RamAt B E w2 r R') := ram
  have hl := HO.out.loc
  have HO3 : Hid (ObjsAt C D (w2.setCell ⟨q, 3, none⟩ (.int .i64 (K : Nat))) q tg s g ar cr { G with f := K }) := HO.out.setF K
  have HR3 : Hid (RamAt B E (w2.setCell ⟨q, 3, none⟩ (.int .i64 (K : Nat))) r R') := ram.set HD.out _ hl.1 hl.2.1
  have HK3 : Hid (Keeps (Off B E C D) w (w2.setCell ⟨q, 3, none⟩ (.int .i64 (K : Nat)))) := (off_turns C D HT.out).trans (off_set B E _ _ hl.1 hl.2.1)
  have f3 := HO.out.f3
  have c3 := HO.out.c3
  have HL : Hid (C ≤ g ∧ g < D) := ⟨HO.out.set.bltg.2.2, hl.2.2.2.1⟩
  clear ht ram hl
  go_upto_region 9 with (fail)
  generalize w2.setCell ⟨q, 3, none⟩ (.int .i64 (K : Nat)) = w3 at *
  have c0 := HO3.out.c0
  clear c3 f3
  go_wp2_with fail
  refine (bput_any n _ HO3.out.setP).mono ?_
  rintro e w4 ⟨rfl, hs4, hg4⟩
  rw [HB.out]
  have HO4 : Hid _ := HO3.out.setX hs4 hg4
  have HR4 : Hid (RamAt B E w4 r R') := HR3.out.grow HD.out hg4 HL.out.1 HL.out.2
  have HK4 : Hid (Keeps (Off B E C D) w w4) := HK3.out.trans (off_grown B E hg4 HL.out.1 HL.out.2)
  clear hs4 hg4
  go_wp2
  go_ret2
  exact ⟨R', rfl, HR4.out, st, HO4.out, HK4.out⟩
theorem pGive_no {n : Int} (hx : hasB G.x n = false) (r' : Value) (w : World) (h : ObjsAt C D w q tg s g ar cr G) : Calls Try.prog 21 #[.pointer (some ⟨q, 0, none⟩), r', .int .i64 n] w fun e w' => e = .returned (.bool false) ∧ ∃ m, w' = w.drewN m := by
  have HX : Hid (hasB G.x n = false) := hx
  have HH : Hid (ObjsAt C D w q tg s g ar cr G) := h
  have c0 := h.c0
  clear h hx
  go_enter Try.func21, Try.ntmps21
  go_wp2_with fail
  refine (pOwn_some q w).mono ?_
  rintro e w1 ⟨rfl, rfl⟩
  go_wp2_with fail
  refine (has_any n _ HH.out.setP).mono ?_
  rintro e w1 ⟨rfl, m, rfl⟩
  rw [HX.out]
  go_wp2
  go_ret
  exact ⟨rfl, m, rfl⟩
set_option maxHeartbeats 400000 in
theorem pGive_yes {n : Nat} (hG : PGok R G) (hf : G.f ≤ 256) (hn : n < G.x.length) (hx : G.x.getD n false = true) (w : World) (h : ObjsAt C D w q tg s g ar cr G) (hr : RamAt B E w r R) (hd : D ≤ B ∨ E ≤ C) :
    Calls Try.prog 21 #[.pointer (some ⟨q, 0, none⟩), .pointer (some ⟨r, 0, none⟩), .int .i64 (n : Nat)] w fun e w' => ∃ R', e = .returned (.bool true) ∧
      RamAt B E w' r R' ∧ Wrote R R' G.F (n * jSz G.c) (putN 2 G.f) ∧ ObjsAt C D w' q tg s g ar cr { G with x := putL G.x n false, f := n + 1 } ∧ Keeps (Off B E C D) w w' := by
  have HX : Hid (hasB G.x n = true) := by show _ = _; rw [hasB_nat, hx]
  have HH : Hid (ObjsAt C D w q tg s g ar cr G) := h
  have c0 := h.c0
  have HR : Hid (RamAt B E w r R) := hr
  have HG : Hid (PGok R G) := hG
  have HD : Hid (D ≤ B ∨ E ≤ C) := hd
  have HN : Hid (n < G.x.length) := hn
  have HF : Hid (G.f ≤ 256) := hf
  clear h hx hr hG hd hn hf
  go_enter Try.func21, Try.ntmps21
  go_wp2_with fail
  refine (pOwn_some q w).mono ?_
  rintro e w1 ⟨rfl, rfl⟩
  go_wp2_with fail
  refine (has_any n _ HH.out.setP).mono ?_
  rintro e w1 ⟨rfl, m, rfl⟩
  rw [HX.out]
  go_wp2_with fail
  refine (push_any HG.out HN.out HF.out _ (HH.out.below (drewN_below _ _ _)) (HR.out.below (drewN_below _ _ _)) HD.out).mono ?_
  rintro e w2 ⟨R', rfl, ram, hw, ho, hk⟩
  have HO : Hid (ObjsAt C D w2 q tg s g ar cr { G with f := n + 1 }) := ho
  have HRR : Hid (RamAt B E w2 r R') := ram
  have HK : Hid (Keeps (Off B E C D) w w2) := (keeps_drew _ w m).trans hk
  have HW : Hid (Wrote R R' G.F (n * jSz G.c) (putN 2 G.f)) := hw
  have hl := ho.loc
  have HL : Hid (C ≤ g ∧ g < D) := ⟨ho.set.bltg.2.2, hl.2.2.2.1⟩
  clear c0 hl
  have c0 := ho.c0
  clear ho ram hk hw
  go_wp2_with fail
  refine (drop_any n _ HO.out.setP).mono ?_
  rintro e w4 ⟨rfl, hs4, hg4⟩
  have HO4 : Hid _ := HO.out.setX hs4 hg4
  have HR4 : Hid (RamAt B E w4 r R') := HRR.out.grow HD.out hg4 HL.out.1 HL.out.2
  have HK4 : Hid (Keeps (Off B E C D) w w4) := HK.out.trans (off_grown B E hg4 HL.out.1 HL.out.2)
  clear hs4 hg4
  rw [show hasB ({ G with f := n + 1 } : PG).x n = true from HX.out]
  go_wp2
  go_ret
  exact ⟨R', rfl, HR4.out, HW.out, HO4.out, HK4.out⟩
theorem pRead_no {n : Int} (M : Int) (hx : hasB G.x n = false) (r' : Value) (w : World) (h : ObjsAt C D w q tg s g ar cr G) : Calls Try.prog 49 #[.pointer (some ⟨q, 0, none⟩), r', .int .i64 n, .int .i64 M] w fun e w' => e = .returned (.tuple #[.slice none 0 0, .bool false]) ∧ ∃ m, w' = w.drewN m := by
  have HX : Hid (hasB G.x n = false) := hx
  have HH : Hid (ObjsAt C D w q tg s g ar cr G) := h
  have c0 := h.c0
  clear h hx
  go_enter Try.func49, Try.ntmps49
  go_wp2_with fail
  refine (pOwn_some q w).mono ?_
  rintro e w1 ⟨rfl, rfl⟩
  go_wp2_with fail
  refine (has_any n _ HH.out.setP).mono ?_
  rintro e w1 ⟨rfl, m, rfl⟩
  rw [HX.out]
  go_wp2
  go_ret2
  exact ⟨rfl, m, rfl⟩
theorem pRead_yes {n M : Nat} (hG : PGok R G) (hn : n < G.x.length) (hx : G.x.getD n false = true) (hM : M ≤ jSz G.c) (w : World) (h : ObjsAt C D w q tg s g ar cr G) (hr : RamAt B E w r R) (hd : D ≤ B ∨ E ≤ C) :
    Calls Try.prog 49 #[.pointer (some ⟨q, 0, none⟩), .pointer (some ⟨r, 0, none⟩), .int .i64 (n : Nat), .int .i64 (M : Nat)] w fun e w' => ∃ v R', e = .returned (.tuple #[v, .bool true]) ∧
      w'.ownsRow w.heap.size 5 1 v M (bv (seg (allZ R G.F) (n * jSz G.c) M)) ∧ RamAt B E w' r R' ∧ RStay R R' ∧ Turns B E w w' := by
  have HN : Hid (n < G.x.length) := hn
  clear hn
  have HX : Hid (hasB G.x n = true) := by show _ = _; rw [hasB_nat, hx]
  have HH : Hid (ObjsAt C D w q tg s g ar cr G) := h
  have c0 := h.c0
  have HR : Hid (RamAt B E w r R) := hr
  have HG : Hid (PGok R G) := hG
  have HD : Hid (D ≤ B ∨ E ≤ C) := hd
  have HM : Hid _ := hM
  clear h hx hr hG hd hM
  go_enter Try.func49, Try.ntmps49
  go_wp2_with fail
  refine (pOwn_some q w).mono ?_
  rintro e w1 ⟨rfl, rfl⟩
  go_wp2_with fail
  refine (has_any n _ HH.out.setP).mono ?_
  rintro e w1 ⟨rfl, m, rfl⟩
  rw [HX.out]
  go_wp2_with fail
  refine (oRead_yes HG.out HN.out HM.out _ (HH.out.below (drewN_below _ _ _)) (HR.out.below (drewN_below _ _ _)) HD.out).mono ?_
  rintro e w2 ⟨v, R', rfl, own, ram, st, ht⟩
  go_wp2
  go_ret2
  exact ⟨_, _, rfl, own, ram, st, (Turns.of_below (drewN_below _ _ _)).trans ht⟩
theorem pRead_far {n M : Nat} (hG : PGok R G) (hx : G.x.getD n false = true) (hM : jSz G.c < M) (w : World) (h : ObjsAt C D w q tg s g ar cr G) (hr : RamAt B E w r R) (hd : D ≤ B ∨ E ≤ C) :
    Calls Try.prog 49 #[.pointer (some ⟨q, 0, none⟩), .pointer (some ⟨r, 0, none⟩), .int .i64 (n : Nat), .int .i64 (M : Nat)] w fun e w' => ∃ v, e = .returned (.tuple #[v, .bool false]) ∧
      w'.ownsRow w.heap.size 5 1 v 0 [] ∧ RamAt B E w' r R ∧ Turns B E w w' := by
  have HX : Hid (hasB G.x n = true) := by show _ = _; rw [hasB_nat, hx]
  have HH : Hid (ObjsAt C D w q tg s g ar cr G) := h
  have c0 := h.c0
  have HR : Hid (RamAt B E w r R) := hr
  have HG : Hid (PGok R G) := hG
  have HD : Hid (D ≤ B ∨ E ≤ C) := hd
  have HM : Hid _ := hM
  clear h hx hr hG hd hM
  go_enter Try.func49, Try.ntmps49
  go_wp2_with fail
  refine (pOwn_some q w).mono ?_
  rintro e w1 ⟨rfl, rfl⟩
  go_wp2_with fail
  refine (has_any n _ HH.out.setP).mono ?_
  rintro e w1 ⟨rfl, m, rfl⟩
  rw [HX.out]
  go_wp2_with fail
  refine (oRead_no HG.out HM.out _ (HH.out.below (drewN_below _ _ _)) (HR.out.below (drewN_below _ _ _)) HD.out).mono ?_
  rintro e w2 ⟨v, rfl, own, ram, ht⟩
  go_wp2
  go_ret2
  exact ⟨_, rfl, own, ram, (Turns.of_below (drewN_below _ _ _)).trans ht⟩
theorem pWrite_no {n : Int} (b : Value) (hx : hasB G.x n = false) (r' : Value) (w : World) (h : ObjsAt C D w q tg s g ar cr G) : Calls Try.prog 50 #[.pointer (some ⟨q, 0, none⟩), r', .int .i64 n, b] w fun e w' => e = .returned (.bool false) ∧ ∃ m, w' = w.drewN m := by
  have HX : Hid (hasB G.x n = false) := hx
  have HH : Hid (ObjsAt C D w q tg s g ar cr G) := h
  have c0 := h.c0
  clear h hx
  go_enter Try.func50, Try.ntmps50
  go_wp2_with fail
  refine (pOwn_some q w).mono ?_
  rintro e w1 ⟨rfl, rfl⟩
  go_wp2_with fail
  refine (has_any n _ HH.out.setP).mono ?_
  rintro e w1 ⟨rfl, m, rfl⟩
  rw [HX.out]
  go_wp2
  go_ret
  exact ⟨rfl, m, rfl⟩
theorem pWrite_yes {n Lb cb : Nat} {pb : Option Addr} {b : List Nat} (hG : PGok R G) (hn : n < G.x.length) (hx : G.x.getD n false = true) (hM : Lb ≤ jSz G.c) (w : World) (h : ObjsAt C D w q tg s g ar cr G) (hr : RamAt B E w r R) (hd : D ≤ B ∨ E ≤ C)
    (hs : ByAt w pb Lb cb b) (ap : Apart B E (.slice pb Lb cb) b) :
    Calls Try.prog 50 #[.pointer (some ⟨q, 0, none⟩), .pointer (some ⟨r, 0, none⟩), .int .i64 (n : Nat), .slice pb Lb cb] w fun e w' => ∃ R', e = .returned (.bool true) ∧
      RamAt B E w' r R' ∧ Wrote R R' G.F (n * jSz G.c) b ∧ Turns B E w w' := by
  have HN : Hid (n < G.x.length) := hn
  have HB : Hid (ByAt w pb Lb cb b) := hs
  have HA : Hid (Apart B E (.slice pb Lb cb) b) := ap
  clear hn hs ap
  have HX : Hid (hasB G.x n = true) := by show _ = _; rw [hasB_nat, hx]
  have HH : Hid (ObjsAt C D w q tg s g ar cr G) := h
  have c0 := h.c0
  have HR : Hid (RamAt B E w r R) := hr
  have HG : Hid (PGok R G) := hG
  have HD : Hid (D ≤ B ∨ E ≤ C) := hd
  have HM : Hid _ := hM
  clear h hx hr hG hd hM
  go_enter Try.func50, Try.ntmps50
  go_wp2_with fail
  refine (pOwn_some q w).mono ?_
  rintro e w1 ⟨rfl, rfl⟩
  go_wp2_with fail
  refine (has_any n _ HH.out.setP).mono ?_
  rintro e w1 ⟨rfl, m, rfl⟩
  rw [HX.out]
  go_wp2_with fail
  refine (oWrite_yes HG.out HN.out HM.out _ (HH.out.below (drewN_below _ _ _)) (HR.out.below (drewN_below _ _ _)) HD.out (HB.out.later (drewN_below _ _ _)) HA.out).mono ?_
  rintro e w2 ⟨R', rfl, ram, hw, ht⟩
  go_wp2
  go_ret
  exact ⟨_, rfl, ram, hw, (Turns.of_below (drewN_below _ _ _)).trans ht⟩
theorem pWrite_far {n Lb cb : Nat} {pb : Option Addr} {b : List Nat} (hG : PGok R G) (hx : G.x.getD n false = true) (hM : jSz G.c < Lb) (w : World) (h : ObjsAt C D w q tg s g ar cr G) (hr : RamAt B E w r R) (hd : D ≤ B ∨ E ≤ C)
    (hs : ByAt w pb Lb cb b) (ap : Apart B E (.slice pb Lb cb) b) :
    Calls Try.prog 50 #[.pointer (some ⟨q, 0, none⟩), .pointer (some ⟨r, 0, none⟩), .int .i64 (n : Nat), .slice pb Lb cb] w fun e w' => e = .returned (.bool false) ∧
      RamAt B E w' r R ∧ Turns B E w w' := by
  have HB : Hid (ByAt w pb Lb cb b) := hs
  have HA : Hid (Apart B E (.slice pb Lb cb) b) := ap
  clear hs ap
  have HX : Hid (hasB G.x n = true) := by show _ = _; rw [hasB_nat, hx]
  have HH : Hid (ObjsAt C D w q tg s g ar cr G) := h
  have c0 := h.c0
  have HR : Hid (RamAt B E w r R) := hr
  have HG : Hid (PGok R G) := hG
  have HD : Hid (D ≤ B ∨ E ≤ C) := hd
  have HM : Hid _ := hM
  clear h hx hr hG hd hM
  go_enter Try.func50, Try.ntmps50
  go_wp2_with fail
  refine (pOwn_some q w).mono ?_
  rintro e w1 ⟨rfl, rfl⟩
  go_wp2_with fail
  refine (has_any n _ HH.out.setP).mono ?_
  rintro e w1 ⟨rfl, m, rfl⟩
  rw [HX.out]
  go_wp2_with fail
  refine (oWrite_no HG.out HM.out _ (HH.out.below (drewN_below _ _ _)) (HR.out.below (drewN_below _ _ _)) HD.out (HB.out.later (drewN_below _ _ _)) HA.out).mono ?_
  rintro e w2 ⟨rfl, ram, ht⟩
  go_wp2
  go_ret
  exact ⟨rfl, ram, (Turns.of_below (drewN_below _ _ _)).trans ht⟩
end
end Go.Proofs.Ytjgkhckcoknnfaa
/- The walk of New: frames that are all Free, in new memory. -/
namespace Go.Proofs.Ytjgkhckcoknnfaa
open Go.RowKit

theorem fo_repset (m k : Nat) : (List.replicate m (0 : Int)).set k 0 = List.replicate m 0 := by
  apply List.ext_getElem?
  intro i
  rw [List.getElem?_set]
  split
  · subst k
    split
    · rename_i h
      have : i < m := by simpa using h
      simp [this]
    · rename_i h
      rw [List.getElem?_eq_none (by omega)]
  · rfl
theorem fo_down {T : List Nat} {m : Nat} (hl : T.length = m) (h : ∀ j, j < m → T.getD j 0 = m - 1 - j) : T = fdown m := by
  apply List.ext_getElem (by rw [hl, fdown_len])
  intro i h1 h2
  have e1 := h i (by omega)
  have e2 := fdown_at (m := m) (i := i) (by omega)
  rw [← e2] at e1
  simpa [List.getD, h1, h2] using e1
theorem fo_made (w : World) (m : Nat) (hm : m ≤ 96) {B : Nat} (hB : B ≤ w.heap.size) :
    (w.alloc (.cells (madeCells #[Value.int .i64 0] m) 3)).ownsRow B 3 1 (.slice (some ⟨w.heap.size, 0, none⟩) m m) m (List.replicate m (.int .i64 0)) := by
  have h := World.ownsRow_lit (base := B) (e := 3) (size := 1) w (madeCells #[Value.int .i64 0] m) m hB (by unfold maxLen; omega) (by simp [madeCells])
  rw [toList_madeCells_one] at h
  exact h
theorem FrParts.made (w : World) (m : Nat) (hm : m ≤ 96) {g1 g2 : Nat} (hg : (g1 = w.heap.size ∧ g2 = w.heap.size + 1) ∨ (g1 = w.heap.size + 1 ∧ g2 = w.heap.size)) :
    FrParts w.heap.size (w.heap.size + 3) (((w.alloc (.cells (madeCells #[Value.int .i64 0] m) 3)).alloc (.cells (madeCells #[Value.int .i64 0] m) 3)).alloc (.cells #[.slice (some ⟨g1, 0, none⟩) m m, .slice (some ⟨g2, 0, none⟩) m m, .int .i64 0] 95)).drew
      (w.heap.size + 1 + 1) g1 g2 m 0 (List.replicate m 0) (List.replicate m 0) := by
  have hw := heap_alloc_new ((w.alloc (.cells (madeCells #[Value.int .i64 0] m) 3)).alloc (.cells (madeCells #[Value.int .i64 0] m) 3)) (.cells #[.slice (some ⟨g1, 0, none⟩) m m, .slice (some ⟨g2, 0, none⟩) m m, .int .i64 0] 95)
  have r1 := (((fo_made w m hm (Nat.le_refl _)).alloc (.cells (madeCells #[Value.int .i64 0] m) 3)).alloc (.cells #[.slice (some ⟨g1, 0, none⟩) m m, .slice (some ⟨g2, 0, none⟩) m m, .int .i64 0] 95)).drew
  have r2 := ((fo_made (w.alloc (.cells (madeCells #[Value.int .i64 0] m) 3)) m hm (B := w.heap.size) (by simp)).alloc (.cells #[.slice (some ⟨g1, 0, none⟩) m m, .slice (some ⟨g2, 0, none⟩) m m, .int .i64 0] 95)).drew
  simp only [World.size_alloc] at hw r2
  have e1 : fzv (List.replicate m 0) = List.replicate m (Value.int .i64 0) := by simp [fzv]
  have e2 : fiv (List.replicate m 0) = List.replicate m (Value.int .i64 0) := by simp [fiv]
  refine ⟨hm, by omega, by omega, by omega, by simp [World.drew], by omega, by omega, by omega, ?_, ?_, ?_⟩
  · rw [List.length_replicate]; exact hw
  · rw [e1]
    rcases hg with ⟨rfl, rfl⟩ | ⟨rfl, rfl⟩
    · exact r1
    · exact r2
  · rw [e2, List.length_replicate]
    rcases hg with ⟨rfl, rfl⟩ | ⟨rfl, rfl⟩
    · exact r2
    · exact r1

set_option maxHeartbeats 1000000 in
theorem fNew_any (m : Nat) (h8 : 8 ≤ m) (hm : m ≤ 96) (w : World) :
    Calls Try.prog 27 #[.int .i64 (m : Nat)] w fun e w' => ∃ p, e = .returned (.tuple #[.pointer p, .int .i64 0]) ∧ FramesP w.heap.size w'.heap.size w' p m 0 (List.replicate m 0) (fdown m) ∧ Below w.heap.size w w' := by
  have hmk := fun w => run_make_row' (P := Try.prog) 30 3 (.int .i64 0) 8 Try.underlying30 Try.infoInt rfl .i64 .i64 m (by omega) (by omega) w
  go_enter Try.func27, Try.ntmps27
  go_wp2_with fail
  go_region
  · have hp := FrParts.made w m hm (g1 := w.heap.size) (g2 := w.heap.size + 1) (.inl ⟨rfl, rfl⟩)
    have hb : Below w.heap.size w (((w.alloc (.cells (madeCells #[Value.int .i64 0] m) 3)).alloc (.cells (madeCells #[Value.int .i64 0] m) 3)).alloc (.cells #[.slice (some ⟨w.heap.size, 0, none⟩) m m, .slice (some ⟨w.heap.size + 1, 0, none⟩) m m, .int .i64 0] 95)).drew :=
      ((((Below.refl _ w).alloc (Nat.le_refl _) _).alloc (by simp) _).alloc (by simp; omega) _).drew
    have hz : ((((w.alloc (.cells (madeCells #[Value.int .i64 0] m) 3)).alloc (.cells (madeCells #[Value.int .i64 0] m) 3)).alloc (.cells #[.slice (some ⟨w.heap.size, 0, none⟩) m m, .slice (some ⟨w.heap.size + 1, 0, none⟩) m m, .int .i64 0] 95)).drew).heap.size = w.heap.size + 3 := by simp [World.drew]
    generalize (((w.alloc (.cells (madeCells #[Value.int .i64 0] m) 3)).alloc (.cells (madeCells #[Value.int .i64 0] m) 3)).alloc (.cells #[.slice (some ⟨w.heap.size, 0, none⟩) m m, .slice (some ⟨w.heap.size + 1, 0, none⟩) m m, .int .i64 0] 95)).drew = w1 at *
    obtain ⟨b, hbb⟩ : ∃ b, b = w.heap.size + 1 + 1 := ⟨_, rfl⟩
    obtain ⟨g1, hg1⟩ : ∃ g, g = w.heap.size := ⟨_, rfl⟩
    obtain ⟨g2, hg2⟩ : ∃ g, g = w.heap.size + 1 := ⟨_, rfl⟩
    have HP : Hid (FrParts w.heap.size (w.heap.size + 3) w1 b g1 g2 m 0 (List.replicate m 0) (List.replicate m 0)) := by
      subst hbb hg1 hg2
      exact hp
    rw [← hbb]
    have HB : Hid (Below w.heap.size w w1) := hb
    have HZ : Hid _ := hz
    clear hp hb hz hmk hbb hg1 hg2
    go_wp2_with fail
    go_loopw [5, 19] (fun _ i wr => ∃ (k : Nat) (T : List Nat), k ≤ m ∧ i = .int .i64 k ∧ FrParts w.heap.size (w.heap.size + 3) wr b g1 g2 m 0 (List.replicate m 0) T ∧ T.length = m ∧ (∀ j, j < k → T.getD j 0 = m - 1 - j) ∧ Below w.heap.size w wr ∧ wr.heap.size = w.heap.size + 3) (fun _ i _ => m - (intOf i).toNat)
    case atStart => exact ⟨0, _, Nat.zero_le _, rfl, HP.out, by simp, by intro j hj; omega, HB.out, HZ.out⟩
    case round =>
      obtain ⟨k, T, hk, rfl, hpr, hl, ha, hbe, hsz⟩ := hrel
      have HPR : Hid (FrParts w.heap.size (w.heap.size + 3) wr b g1 g2 m 0 (List.replicate m 0) T) := hpr
      have HL : Hid (T.length = m) := hl
      have HA : Hid _ := ha
      have HBE : Hid _ := hbe
      have HSZ : Hid _ := hsz
      by_cases hlt : k < m
      · have c0 := hpr.cell0
        have c1 := hpr.cell1
        have n1 := hpr.ne1
        have n2 := hpr.ne2
        have n3 := hpr.ne3
        have cO := hpr.cellO hlt
        have cS := hpr.cellS (j := k) (by omega)
        have fO := hpr.frozenO k
        have fS := hpr.frozenS k
        rw [hl] at c1
        generalize (List.replicate m (0 : Int)).getD k 0 = vO at *
        generalize ((T.getD k 0 : Nat) : Int) = vS at *
        have i1 : (k : Int) < (m : Int) := by omega
        clear hl hpr ha hbe hsz
        go_wp2
        go_roundw
        case rel =>
          have e : ((m : Int) - 1 - (k : Int)) = ((m - 1 - k : Nat) : Int) := by omega
          have hp2 := (HPR.out.setO k 0).setS k (m - 1 - k)
          rw [fo_repset] at hp2
          refine ⟨k + 1, T.set k (m - 1 - k), by omega, by go_num, ?_, by rw [List.length_set]; exact HL.out, ?_, (HBE.out.setCell (p := ⟨g1, k, none⟩) HPR.out.g1s.1 _).setCell (p := ⟨g2, k, none⟩) HPR.out.g2s.1 _, by simpa using HSZ.out⟩
          · rw [e]; exact hp2
          · intro j hj
            by_cases e : k = j
            · subst e
              simp [List.getD, HL.out, hlt]
            · rw [List.getD_eq_getElem?_getD, List.getElem?_set_ne e, ← List.getD_eq_getElem?_getD]
              exact HA.out j (by omega)
        case measure => simp [intOf]; omega
      · have e : k = m := by omega
        subst e
        clear hl hpr ha hbe hsz
        go_wp2
        go_ret2
        refine ⟨_, rfl, ⟨FrOk.start k, .inr ⟨b, g1, g2, rfl, ?_⟩⟩, HBE.out⟩
        have e := HPR.out
        rw [fo_down HL.out HA.out] at e
        rw [HSZ.out]
        exact e
  · have hp := FrParts.made w m hm (g1 := w.heap.size + 1) (g2 := w.heap.size) (.inr ⟨rfl, rfl⟩)
    have hb : Below w.heap.size w (((w.alloc (.cells (madeCells #[Value.int .i64 0] m) 3)).alloc (.cells (madeCells #[Value.int .i64 0] m) 3)).alloc (.cells #[.slice (some ⟨w.heap.size + 1, 0, none⟩) m m, .slice (some ⟨w.heap.size, 0, none⟩) m m, .int .i64 0] 95)).drew :=
      ((((Below.refl _ w).alloc (Nat.le_refl _) _).alloc (by simp) _).alloc (by simp; omega) _).drew
    have hz : ((((w.alloc (.cells (madeCells #[Value.int .i64 0] m) 3)).alloc (.cells (madeCells #[Value.int .i64 0] m) 3)).alloc (.cells #[.slice (some ⟨w.heap.size + 1, 0, none⟩) m m, .slice (some ⟨w.heap.size, 0, none⟩) m m, .int .i64 0] 95)).drew).heap.size = w.heap.size + 3 := by simp [World.drew]
    generalize (((w.alloc (.cells (madeCells #[Value.int .i64 0] m) 3)).alloc (.cells (madeCells #[Value.int .i64 0] m) 3)).alloc (.cells #[.slice (some ⟨w.heap.size + 1, 0, none⟩) m m, .slice (some ⟨w.heap.size, 0, none⟩) m m, .int .i64 0] 95)).drew = w1 at *
    obtain ⟨b, hbb⟩ : ∃ b, b = w.heap.size + 1 + 1 := ⟨_, rfl⟩
    obtain ⟨g1, hg1⟩ : ∃ g, g = w.heap.size + 1 := ⟨_, rfl⟩
    obtain ⟨g2, hg2⟩ : ∃ g, g = w.heap.size := ⟨_, rfl⟩
    have HP : Hid (FrParts w.heap.size (w.heap.size + 3) w1 b g1 g2 m 0 (List.replicate m 0) (List.replicate m 0)) := by
      subst hbb hg1 hg2
      exact hp
    rw [← hbb]
    have HB : Hid (Below w.heap.size w w1) := hb
    have HZ : Hid _ := hz
    clear hp hb hz hmk hbb hg1 hg2
    go_wp2_with fail
    go_loopw [5, 19] (fun _ i wr => ∃ (k : Nat) (T : List Nat), k ≤ m ∧ i = .int .i64 k ∧ FrParts w.heap.size (w.heap.size + 3) wr b g1 g2 m 0 (List.replicate m 0) T ∧ T.length = m ∧ (∀ j, j < k → T.getD j 0 = m - 1 - j) ∧ Below w.heap.size w wr ∧ wr.heap.size = w.heap.size + 3) (fun _ i _ => m - (intOf i).toNat)
    case atStart => exact ⟨0, _, Nat.zero_le _, rfl, HP.out, by simp, by intro j hj; omega, HB.out, HZ.out⟩
    case round =>
      obtain ⟨k, T, hk, rfl, hpr, hl, ha, hbe, hsz⟩ := hrel
      have HPR : Hid (FrParts w.heap.size (w.heap.size + 3) wr b g1 g2 m 0 (List.replicate m 0) T) := hpr
      have HL : Hid (T.length = m) := hl
      have HA : Hid _ := ha
      have HBE : Hid _ := hbe
      have HSZ : Hid _ := hsz
      by_cases hlt : k < m
      · have c0 := hpr.cell0
        have c1 := hpr.cell1
        have n1 := hpr.ne1
        have n2 := hpr.ne2
        have n3 := hpr.ne3
        have cO := hpr.cellO hlt
        have cS := hpr.cellS (j := k) (by omega)
        have fO := hpr.frozenO k
        have fS := hpr.frozenS k
        rw [hl] at c1
        generalize (List.replicate m (0 : Int)).getD k 0 = vO at *
        generalize ((T.getD k 0 : Nat) : Int) = vS at *
        have i1 : (k : Int) < (m : Int) := by omega
        clear hl hpr ha hbe hsz
        go_wp2
        go_roundw
        case rel =>
          have e : ((m : Int) - 1 - (k : Int)) = ((m - 1 - k : Nat) : Int) := by omega
          have hp2 := (HPR.out.setO k 0).setS k (m - 1 - k)
          rw [fo_repset] at hp2
          refine ⟨k + 1, T.set k (m - 1 - k), by omega, by go_num, ?_, by rw [List.length_set]; exact HL.out, ?_, (HBE.out.setCell (p := ⟨g1, k, none⟩) HPR.out.g1s.1 _).setCell (p := ⟨g2, k, none⟩) HPR.out.g2s.1 _, by simpa using HSZ.out⟩
          · rw [e]; exact hp2
          · intro j hj
            by_cases e : k = j
            · subst e
              simp [List.getD, HL.out, hlt]
            · rw [List.getD_eq_getElem?_getD, List.getElem?_set_ne e, ← List.getD_eq_getElem?_getD]
              exact HA.out j (by omega)
        case measure => simp [intOf]; omega
      · have e : k = m := by omega
        subst e
        clear hl hpr ha hbe hsz
        go_wp2
        go_ret2
        refine ⟨_, rfl, ⟨FrOk.start k, .inr ⟨b, g1, g2, rfl, ?_⟩⟩, HBE.out⟩
        have e := HPR.out
        rw [fo_down HL.out HA.out] at e
        rw [HSZ.out]
        exact e
theorem fNew_bad (n : Int) (h : n < 8 ∨ 96 < n) (w : World) :
    Calls Try.prog 27 #[.int .i64 n] w fun e w' => e = .returned (.tuple #[.pointer none, .int .i64 1]) ∧ w = w' := by
  by_cases h1 : n < 8
  · go_enter Try.func27, Try.ntmps27
    go_wp2
    go_ret2
    exact ⟨rfl, rfl⟩
  · have h2 : 96 < n := by omega
    go_enter Try.func27, Try.ntmps27
    go_wp2
    go_ret2
    exact ⟨rfl, rfl⟩
end Go.Proofs.Ytjgkhckcoknnfaa
/- The walks of slices.Clone at ints, of Row; of a nil zspage's calls, and of one that is closed. -/
namespace Go.Proofs.Ytjgkhckcoknnfaa
open Go.RowKit
section
variable {B E C D q s g cr r : Nat} {w w' : World} {tg : TypeId} {ar : Option Addr} {G : PG} {R : RS} {L : List Nat}
set_option maxHeartbeats 400000 in
theorem iclone_src {n : Nat} {v : Value} {xs : List Int} (w : World) (h : SrcAt w v n 1 (fzv xs)) (hs : n ≤ 8192) :
    Calls Try.prog 34 #[v] w fun e w' => ∃ v', e = .returned v' ∧ w'.ownsRow w.heap.size 3 1 v' n (fzv xs) ∧ Below w.heap.size w w' := by
  rcases h with ⟨rfl, rfl, h⟩ | ⟨ad, c, rfl, h2, h3⟩
  · have heq := fun w => Go.Lib.run_eql_slice_nil (P := Try.prog) w 30 3 none 0 0 0 0 Try.underlying30
    have HN : Hid (w.ownsRow w.heap.size 3 1 (.slice none 0 0) 0 (fzv xs)) := by show World.ownsRow _ _ _ _ _ _ _; rw [h]; exact World.ownsRow_nil _ _ _ _
    clear h
    go_enter Try.func34, Try.ntmps34
    go_wp2
    go_ret
    exact ⟨_, rfl, HN.out, Below.refl _ _⟩
  · obtain ⟨i0, hi, hz0, hz1, hz2⟩ := info_parts Try.infoInt
    have HZL : Hid ((fzv xs).length = n * 1) := h2
    have HC : Hid (∀ j u, (fzv xs)[j]? = some u → ad.block < w.heap.size ∧ w.cell? (ad.add j) = some u) := h3
    have heq := fun w => Go.Lib.run_eql_slice_nil (P := Try.prog) w 30 3 (some ad) n c 0 0 Try.underlying30
    clear h2 h3
    go_enter Try.func34, Try.ntmps34
    go_wp2_with (at_builtin; refine wpList_append_own _ rfl _ _ 30 rfl w.heap.size 3 i0 (.int .i64 0) 1 8 Try.underlying30 hi hz0 hz1 hz2 rfl (by decide) _ _ _ rfl (World.ownsRow_made w #[] 0 (Nat.le_refl _) (by unfold maxLen; omega) rfl) ad n c (fzv xs) rfl HZL.out ?c1 (fzv_one _) ?c3 ?c4 ?c5 ?_)
    case c1 =>
      intro j u hj
      obtain ⟨h1, h2⟩ := HC.out j u hj
      rw [← h2]
      exact World.cell?_of_block (by rw [block_add]; exact Below.heap_alloc w _ _ h1)
    case c3 => unfold maxLen; omega
    case c4 => omega
    case c5 => simp
    intro v2 w2 own2 gr2 _
    have b2 : Below w.heap.size w w2 := ((Below.refl _ w).alloc (Nat.le_refl _) _).grown gr2 (by simp) (fun i hi => by simp [Value.ownBlock] at hi; omega)
    have own2' : w2.ownsRow w.heap.size 3 1 v2 n (fzv xs) := by simpa using own2
    clear own2 gr2
    go_wp2
    go_ret
    exact ⟨_, rfl, own2', b2⟩
theorem ObjsAt.src (h : ObjsAt C D w q tg s g ar cr G) : SrcAt w (.slice ar (rowL G.F).length cr) (rowL G.F).length 1 (fzv (rowL G.F)) := by
  obtain ⟨gr, rfl, r1, r2, r3, r4, r5⟩ := h.row
  refine .inr ⟨⟨gr, 0, none⟩, cr, rfl, by simp [fzv], fun j u hj => ⟨Nat.lt_of_lt_of_le r2 h.hi, ?_⟩⟩
  have hl := (List.getElem?_eq_some_iff.1 hj).1
  have hl' : j < (rowL G.F).length := by simpa [fzv] using hl
  rw [fzv_at _ _ hl'] at hj
  rw [add_lit', Nat.zero_add, r5 j hl']
  exact hj
theorem pRow_some (w : World) (h : ObjsAt C D w q tg s g ar cr G) (hF : G.F.length ≤ 4) : Calls Try.prog 9 #[.pointer (some ⟨q, 0, none⟩)] w fun e w' => ∃ v, e = .returned v ∧
    w'.ownsRow w.heap.size 3 1 v (rowL G.F).length (fzv (rowL G.F)) ∧ Below w.heap.size w w' := by
  have c2 := h.c2
  have HS : Hid _ := h.src
  have HL : Hid ((rowL G.F).length ≤ 8192) := by show _ ≤ _; rw [rowL_len]; omega
  clear h hF
  go_enter Try.func9, Try.ntmps9
  go_wp2_with fail
  refine (pOwn_some q w).mono ?_
  rintro e w1 ⟨rfl, rfl⟩
  go_wp2_with fail
  refine (iclone_src w HS.out HL.out).mono ?_
  rintro e w2 ⟨v, rfl, own, hb⟩
  go_wp2
  go_ret
  exact ⟨_, rfl, own, hb⟩

/-- A zspage that has nothing: none, or one that is closed. -/
def GoneZ (w : World) (q : Nat) (c : Nat) (tg : TypeId) : Prop := w.heap[q]? = some (.cells #[.pointer none, .int .i64 (c : Nat), .slice none 0 0, .int .i64 0] tg (0, 0))
theorem GoneZ.c0 {c : Nat} (h : GoneZ w q c tg) : w.cell? ⟨q, 0, none⟩ = some (.pointer none) := by rw [cell_of_row w q 0 _ _ _ h]; rfl
theorem GoneZ.c1 {c : Nat} (h : GoneZ w q c tg) : w.cell? ⟨q, 1, none⟩ = some (.int .i64 (c : Nat)) := by rw [cell_of_row w q 1 _ _ _ h]; rfl
theorem GoneZ.c2 {c : Nat} (h : GoneZ w q c tg) : w.cell? ⟨q, 2, none⟩ = some (.slice none 0 0) := by rw [cell_of_row w q 2 _ _ _ h]; rfl
/-- A zspage p that has nothing. -/
def GoneP (w : World) (p : Option Addr) (c : Nat) : Prop := (p = none ∧ c = 0) ∨ ∃ q tg, p = some ⟨q, 0, none⟩ ∧ GoneZ w q c tg
theorem GoneP.below {w w' : World} {p : Option Addr} {c : Nat} (h : GoneP w p c) (hb : Below w.heap.size w w') : GoneP w' p c := by
  rcases h with h | ⟨q, tg, h1, h2⟩
  · exact .inl h
  · exact .inr ⟨q, tg, h1, (hb.block q (Array.getElem?_eq_some_iff.1 h2).1).trans h2⟩
theorem pOwn_gone {p : Option Addr} {c : Nat} (w : World) (h : GoneP w p c) : Calls Try.prog 33 #[.pointer p] w fun e w' => ∃ q tg, e = .returned (.pointer (some ⟨q, 0, none⟩)) ∧ GoneZ w' q c tg ∧ Below w.heap.size w w' := by
  rcases h with ⟨rfl, rfl⟩ | ⟨q, tg, rfl, h⟩
  · have hb : ∀ o, Below w.heap.size w (w.alloc o) := fun o => (Below.refl _ w).alloc (Nat.le_refl _) _
    have HN : Hid (∀ o, (w.alloc o).heap[w.heap.size]? = some o) := fun o => heap_alloc_new w o
    go_enter Try.func33, Try.ntmps33
    go_wp2
    go_ret
    exact ⟨_, _, rfl, HN.out _, hb _⟩
  · refine (pOwn_some q w).mono ?_
    rintro e w1 ⟨rfl, rfl⟩
    exact ⟨q, tg, rfl, h, Below.refl _ _⟩
theorem pClass_gone {p : Option Addr} {c : Nat} (w : World) (h : GoneP w p c) : Calls Try.prog 8 #[.pointer p] w fun e w' => e = .returned (.int .i64 (c : Nat)) ∧ Below w.heap.size w w' := by
  have H : Hid (GoneP w p c) := h
  clear h
  go_enter Try.func8, Try.ntmps8
  go_wp2_with fail
  refine (pOwn_gone w H.out).mono ?_
  rintro e w1 ⟨q1, tg1, rfl, hg, hb⟩
  have c0 := hg.c0
  have c1 := hg.c1
  have c2 := hg.c2
  have HB : Hid (Below w.heap.size w w1) := hb
  clear hg hb
  go_wp2
  go_ret
  exact ⟨rfl, HB.out⟩
theorem pRow_gone {p : Option Addr} {c : Nat} (w : World) (h : GoneP w p c) : Calls Try.prog 9 #[.pointer p] w fun e w' => ∃ v, e = .returned v ∧ w'.ownsRow w.heap.size 3 1 v 0 [] ∧ Below w.heap.size w w' := by
  have H : Hid (GoneP w p c) := h
  clear h
  go_enter Try.func9, Try.ntmps9
  go_wp2_with fail
  refine (pOwn_gone w H.out).mono ?_
  rintro e w1 ⟨q1, tg1, rfl, hg, hb⟩
  have c0 := hg.c0
  have c1 := hg.c1
  have c2 := hg.c2
  have HB : Hid (Below w.heap.size w w1) := hb
  clear hg hb
  go_wp2_with fail
  refine (iclone_src (xs := []) w1 (.inl ⟨rfl, rfl, rfl⟩) (by omega)).mono ?_
  rintro e w2 ⟨v, rfl, own, hb⟩
  have HB2 : Hid (Below w.heap.size w w2) := HB.out.trans (hb.mono HB.out.size)
  have HO : Hid (w2.ownsRow w.heap.size 3 1 v 0 []) := rowMono own HB.out.size
  clear own hb
  go_wp2
  go_ret
  exact ⟨_, rfl, HO.out, HB2.out⟩
theorem pMany_gone {p : Option Addr} {c : Nat} (w : World) (h : GoneP w p c) : Calls Try.prog 10 #[.pointer p] w fun e w' => e = .returned (.int .i64 0) ∧ Below w.heap.size w w' := by
  have H : Hid (GoneP w p c) := h
  clear h
  go_enter Try.func10, Try.ntmps10
  go_wp2_with fail
  refine (pOwn_gone w H.out).mono ?_
  rintro e w1 ⟨q1, tg1, rfl, hg, hb⟩
  have c0 := hg.c0
  have c1 := hg.c1
  have c2 := hg.c2
  have HB : Hid (Below w.heap.size w w1) := hb
  clear hg hb
  go_wp2_with fail
  refine (size_any (x := []) w1 (.inl ⟨rfl, rfl, rfl⟩ : SetP 0 w1 none none [])).mono ?_
  rintro e w2 ⟨rfl, rfl⟩
  go_wp2
  go_ret
  exact ⟨rfl, HB.out⟩
theorem pUsed_gone {p : Option Addr} {c : Nat} (w : World) (h : GoneP w p c) : Calls Try.prog 11 #[.pointer p] w fun e w' => e = .returned (.int .i64 0) ∧ Below w.heap.size w w' := by
  have H : Hid (GoneP w p c) := h
  clear h
  go_enter Try.func11, Try.ntmps11
  go_wp2_with fail
  refine (pOwn_gone w H.out).mono ?_
  rintro e w1 ⟨q1, tg1, rfl, hg, hb⟩
  have c0 := hg.c0
  have c1 := hg.c1
  have c2 := hg.c2
  have HB : Hid (Below w.heap.size w w1) := hb
  clear hg hb
  go_wp2_with fail
  refine (len_any (x := []) w1 (.inl ⟨rfl, rfl, rfl⟩ : SetP 0 w1 none none [])).mono ?_
  rintro e w2 ⟨rfl, rfl⟩
  go_wp2
  go_ret
  exact ⟨rfl, HB.out⟩
theorem pHas_gone {p : Option Addr} {c : Nat} (n : Int) (w : World) (h : GoneP w p c) : Calls Try.prog 12 #[.pointer p, .int .i64 n] w fun e w' => e = .returned (.bool false) ∧ Below w.heap.size w w' := by
  have H : Hid (GoneP w p c) := h
  clear h
  go_enter Try.func12, Try.ntmps12
  go_wp2_with fail
  refine (pOwn_gone w H.out).mono ?_
  rintro e w1 ⟨q1, tg1, rfl, hg, hb⟩
  have c0 := hg.c0
  have c1 := hg.c1
  have c2 := hg.c2
  have HB : Hid (Below w.heap.size w w1) := hb
  clear hg hb
  go_wp2_with fail
  refine (has_any (x := []) n w1 (.inl ⟨rfl, rfl, rfl⟩ : SetP 0 w1 none none [])).mono ?_
  rintro e w2 ⟨rfl, m, rfl⟩
  rw [show hasB [] n = false by simp [hasB]]
  have HB2 : Hid (Below w.heap.size w (w1.drewN m)) := HB.out.trans (drewN_below _ _ _)
  go_wp2
  go_ret
  exact ⟨rfl, HB2.out⟩
theorem pClose_nil (r' : Value) (w : World) : Calls Try.prog 13 #[.pointer none, r'] w fun e w' => e = .returned (.bool false) ∧ Below w.heap.size w w' := by
  have H : Hid (GoneP w none 0) := .inl ⟨rfl, rfl⟩
  go_enter Try.func13, Try.ntmps13
  go_wp2_with fail
  refine (pOwn_gone w H.out).mono ?_
  rintro e w1 ⟨q1, tg1, rfl, hg, hb⟩
  have HB : Hid (Below w.heap.size w w1) := hb
  clear hg hb
  go_wp2
  go_ret
  exact ⟨rfl, HB.out⟩
end
end Go.Proofs.Ytjgkhckcoknnfaa
/- Frames taken one after the other, and given back: plain facts. -/
namespace Go.Proofs.Ytjgkhckcoknnfaa
open Go.RowKit

theorem fcntTo_next (O zs : List Int) (k : Nat) : fcntTo O zs (k + 1) = fcntTo O zs k + (if O.getD k 0 ∈ zs then 1 else 0) := by
  split
  · rename_i h; exact fcntTo_yes h
  · rename_i h; exact fcntTo_no h
theorem fcntTo_set {O : List Int} {n : Nat} (v : Int) (zs : List Int) (hn : n < O.length) : ∀ k, fcntTo (O.set n v) zs k + (if n < k ∧ O.getD n 0 ∈ zs then 1 else 0) = fcntTo O zs k + (if n < k ∧ v ∈ zs then 1 else 0)
  | 0 => by simp [fcntTo]
  | k + 1 => by
    have ih := fcntTo_set v zs hn k
    have hk := fo_set O n k v hn
    rw [fcntTo_next, fcntTo_next, hk]
    by_cases e : n = k
    · subst e
      rw [if_pos rfl]
      rw [if_neg (by omega), if_neg (by omega)] at ih
      by_cases h1 : O.getD n 0 ∈ zs <;> by_cases h2 : v ∈ zs <;> simp only [h1, h2, and_true, and_false, if_true, if_false, Nat.lt_succ_self] <;> omega
    · rw [if_neg e]
      have e2 : n < k + 1 ↔ n < k := by omega
      simp only [e2]
      omega
theorem fcnt_set {O : List Int} {n : Nat} (v : Int) (zs : List Int) (hn : n < O.length) : fcnt (O.set n v) zs + (if O.getD n 0 ∈ zs then 1 else 0) = fcnt O zs + (if v ∈ zs then 1 else 0) := by
  have h := fcntTo_set v zs hn O.length
  unfold fcnt
  rw [List.length_set]
  simpa only [hn, true_and] using h

/-- These frames were taken for Pool. -/
structure TookZ (R R' : RS) (F : List Nat) : Prop where
  m : R'.m = R.m
  ok : FrOk R'.m R'.O R'.S
  len : R'.P.length = R'.m * 4096
  cnt : R'.S.length + F.length = R.S.length
  nd : F.Nodup
  was : ∀ n ∈ F, n < R.m ∧ R.O.getD n 0 = 0
  own : ∀ n ∈ F, R'.O.getD n 0 = 3
  oth : ∀ n, n ∉ F → R'.O.getD n 0 = R.O.getD n 0
  pool : fcnt R'.O [3] = fcnt R.O [3] + F.length
  byt : ∀ i, i / 4096 ∉ F → R'.P.getD i 0 = R.P.getD i 0
theorem TookZ.start {R : RS} (hok : FrOk R.m R.O R.S) (hl : R.P.length = R.m * 4096) : TookZ R R [] :=
  ⟨rfl, hok, hl, rfl, List.nodup_nil, fun _ h => (by cases h), fun _ h => (by cases h), fun _ _ => rfl, rfl, fun _ _ => rfl⟩
set_option maxRecDepth 100000 in
theorem TookZ.step {R R' : RS} {F : List Nat} (h : TookZ R R' F) (hs : 0 < R'.S.length) : TookZ R (R'.tk 3) (F ++ [tkN R'.S 3]) := by
  have hb : tkB R'.S 3 = true := tk_yes hs (by omega) (by omega)
  obtain ⟨hn, h0⟩ := h.ok.top hs
  have eN : tkN R'.S 3 = R'.S.getD (R'.S.length - 1) 0 := by rw [tkN, if_pos hb]
  have eO : (R'.tk 3).O = R'.O.set (R'.S.getD (R'.S.length - 1) 0) 3 := by show tkO R'.O R'.S 3 = _; rw [tkO, if_pos hb]
  have eS : (R'.tk 3).S = R'.S.take (R'.S.length - 1) := by show tkS R'.S 3 = _; rw [tkS, if_pos hb]
  have eP : (R'.tk 3).P = putAt R'.P (tkN R'.S 3 * 4096) (List.replicate 4096 0) := by show tkP R'.S R'.P 3 = _; rw [tkP, if_pos hb]
  rw [eN] at *
  generalize R'.S.getD (R'.S.length - 1) 0 = n at *
  have hno : n ∉ F := fun hF => by have := h.own n hF; omega
  have hnl : n < R'.O.length := by rw [h.ok.len]; exact hn
  have hg : ∀ j, (R'.tk 3).O.getD j 0 = if n = j then 3 else R'.O.getD j 0 := fun j => by rw [eO]; exact fo_set _ _ _ _ hnl
  have hpl : n * 4096 + 4096 ≤ R'.P.length := by rw [h.len]; have := plc_le (a := 0) (s := 4096) hn (by omega); omega
  refine ⟨h.m, h.ok.tk 3, ?_, ?_, ?_, ?_, ?_, ?_, ?_, ?_⟩
  · rw [eP, length_putAt (by rw [List.length_replicate]; exact hpl)]
    exact h.len
  · rw [eS, List.length_take, List.length_append, List.length_singleton]
    have := h.cnt
    omega
  · rw [List.nodup_append]
    refine ⟨h.nd, by simp, fun a ha b hb e => ?_⟩
    simp at hb
    subst hb e
    exact hno ha
  · intro k hk
    rcases List.mem_append.1 hk with h1 | h1
    · exact h.was k h1
    · obtain rfl : k = n := by simpa using h1
      exact ⟨by rw [← h.m]; exact hn, by rw [← h.oth k hno]; exact h0⟩
  · intro k hk
    rw [hg]
    rcases List.mem_append.1 hk with h1 | h1
    · split
      · rfl
      · exact h.own k h1
    · rw [if_pos (List.mem_singleton.1 h1).symm]
  · intro k hk
    rw [List.mem_append, List.mem_singleton, not_or] at hk
    rw [hg, if_neg (by omega)]
    exact h.oth k hk.1
  · have := fcnt_set 3 [3] hnl
    rw [h0, if_neg (by simp), if_pos (by simp)] at this
    have h5 := h.pool
    rw [eO, List.length_append, List.length_singleton]
    omega
  · intro i hi
    rw [List.mem_append, List.mem_singleton, not_or] at hi
    rw [eP, putAt_getD (by rw [List.length_replicate]; exact hpl), List.length_replicate, if_neg (by omega)]
    exact h.byt i hi.1
theorem TookZ.row {R R' : RS} {F : List Nat} (h : TookZ R R' F) : RowOk R' F :=
  ⟨h.len, h.nd, fun n hn => by rw [h.m]; exact (h.was n hn).1, fun n hn => by unfold RS.own; rw [ownI_nat, h.own n hn]; omega⟩
theorem TookZ.far {R R' : RS} {F G : List Nat} (h : TookZ R R' F) (hG : RowOk R G) : RowOk R' G ∧ allZ R' G = allZ R G ∧ ∀ n ∈ F, n ∉ G := by
  have hd : ∀ n ∈ F, n ∉ G := fun n hn hg => by
    have h1 := hG.own n hg
    unfold RS.own at h1
    rw [ownI_nat, (h.was n hn).2] at h1
    exact h1 rfl
  have hk : RowOk R' G := ⟨h.len, hG.nd, fun n hn => by rw [h.m]; exact hG.lt n hn, fun n hn => by
    have h1 := hG.own n hn
    unfold RS.own at h1 ⊢
    rw [ownI_nat] at h1 ⊢
    rw [h.oth n (fun hf => hd n hf hn)]
    exact h1⟩
  refine ⟨hk, ?_, hd⟩
  refine ext_getD (by rw [all_len hk.le, all_len hG.le]) fun i hi => ?_
  rw [all_len hk.le] at hi
  have hig : i / 4096 < G.length := by omega
  have hm := mem_getD hig
  generalize hv : G.getD (i / 4096) 0 = v at *
  have e : (v * 4096 + i % 4096) / 4096 = v := by omega
  rw [all_at hk.le hi, all_at hG.le hi, hv, h.byt _ (by rw [e]; exact fun hf => hd v hf hm)]

/-- These frames were given back. -/
structure GaveZ (R R' : RS) (F : List Nat) : Prop where
  m : R'.m = R.m
  ok : FrOk R'.m R'.O R'.S
  cnt : R'.S.length = R.S.length + F.length
  oth : ∀ n, n ∉ F → R'.O.getD n 0 = R.O.getD n 0
  pool : fcnt R'.O [3] + F.length = fcnt R.O [3]
theorem GaveZ.start {R : RS} (hok : FrOk R.m R.O R.S) : GaveZ R R [] := ⟨rfl, hok, rfl, fun _ _ => rfl, rfl⟩
theorem GaveZ.step {R R' : RS} {F : List Nat} {n : Nat} (h : GaveZ R R' F) (hn : n < R.m) (h3 : R.O.getD n 0 = 3) (hno : n ∉ F) : GaveZ R (R'.gv n) (F ++ [n]) := by
  have h3' : R'.O.getD n 0 = 3 := by rw [h.oth n hno]; exact h3
  have hb : gvB R'.O (n : Int) = true := gv_yes (by omega)
  have eO : (R'.gv n).O = R'.O.set n 0 := by show gvO R'.O (n : Int) = _; rw [gvO, if_pos hb]; rfl
  have eS : (R'.gv n).S = R'.S ++ [n] := by show gvS R'.O R'.S (n : Int) = _; rw [gvS, if_pos hb]; rfl
  have hnl : n < R'.O.length := by rw [h.ok.len, h.m]; exact hn
  refine ⟨h.m, h.ok.gv n, ?_, fun k hk => ?_, ?_⟩
  · rw [eS, List.length_append, List.length_append, h.cnt]
    simp
    omega
  · rw [List.mem_append, List.mem_singleton, not_or] at hk
    rw [eO, fo_set _ _ _ _ hnl, if_neg (by omega)]
    exact h.oth k hk.1
  · have := fcnt_set 0 [3] hnl
    rw [h3', if_pos (by simp), if_neg (by simp)] at this
    have := h.pool
    rw [eO, List.length_append, List.length_singleton]
    omega
end Go.Proofs.Ytjgkhckcoknnfaa
/- Opening what a law is handed: an integer, a slice of integers of any kind (signed too). -/
namespace Go.Proofs.Ytjgkhckcoknnfaa
open Go.ChangeShapes Go.WideShapes Go.ChangeAt Go.RowKit

/-- A list of integers that lies in memory, read through a slice value. -/
def IntsAt (k : IntKind) (w : World) (a : Option Addr) (zs : List Int) : Prop :=
  zs = [] ∨ ∃ b off, a = some ⟨b, off, none⟩ ∧ b < w.heap.size ∧ ∀ i, i < zs.length → w.cell? ⟨b, off + i, none⟩ = some (.int k (zs.getD i 0))
theorem IntsAt.later {k : IntKind} {w w' : World} {a : Option Addr} {zs : List Int} (h : IntsAt k w a zs) (hb : Below w.heap.size w w') {i : Nat} (hi : i < zs.length) :
    ∃ b off, a = some ⟨b, off, none⟩ ∧ w'.cell? ⟨b, off + i, none⟩ = some (.int k (zs.getD i 0)) := by
  rcases h with rfl | ⟨b, off, rfl, hlt, hc⟩
  · simp at hi
  · exact ⟨b, off, rfl, by rw [hb.cell (p := ⟨b, off + i, none⟩) hlt]; exact hc i hi⟩

variable {H : Type} {enc : TypeId × Value → H} {P : Program} {w : World} {base : Nat}
theorem openOne {k : IntKind} {t : TypeId} {v : Value} {d : DataW H} {p : List MemPlace} (hu : P.underlying t = some (.int k)) (o : Value.okWide P w .any base t v)
    (h : DataW.Trod enc P w 0 (fun _ => true) true t v d p) : ∃ x : Int, v = .int k x ∧ (Lit.int k x).wf = true := by
  obtain ⟨x, h1, _, _, h4⟩ := open_int hu o h
  exact ⟨x, h1, h4⟩
theorem openList {k : IntKind} {t e : TypeId} {v : Value} {d : DataW H} {p : List MemPlace} (ht : P.underlying t = some (.slice e)) (he : P.underlying e = some (.int k)) (hce : P.cellsOf e = 1)
    (o : Value.okWide P w .any base t v) (h : DataW.Trod enc P w 0 (fun _ => true) true t v d p) :
    ∃ (a : Option Addr) (L c : Nat) (zs : List Int), v = .slice a L c ∧ zs.length = L ∧ L ≤ maxLen ∧ IntsAt k w a zs ∧ ∀ x ∈ zs, (Lit.int k x).wf = true := by
  obtain ⟨a, L, c, rfl⟩ := okWide_slice ht o
  obtain ⟨fuel, hf⟩ := h
  rcases open_ints ht he hce hf with ⟨hcs, _⟩ | ⟨x, l, c', zs, hcs, _, hl, hm, hz, _, hcell, hwz⟩
  · simp [Value.cells] at hcs
    obtain ⟨rfl, rfl, rfl⟩ := hcs
    exact ⟨none, 0, 0, [], rfl, rfl, by unfold maxLen; omega, .inl rfl, by simp⟩
  · simp [Value.cells] at hcs
    obtain ⟨rfl, rfl, rfl⟩ := hcs
    have hzl : zs.length = c := by simpa using hz
    refine ⟨_, L, c, zs.take L, rfl, by simp; omega, Nat.le_trans hl hm, ?_, fun y hy => hwz y (List.mem_of_mem_take hy)⟩
    by_cases h0 : L = 0
    · left; simp [h0]
    · right
      obtain ⟨b, off, spot⟩ := x
      have hc0 := hcell 0 (by omega)
      have hspot : spot = none := by simpa [Addr.add] using World.cell?_spot hc0
      subst hspot
      refine ⟨b, off, rfl, ?_, ?_⟩
      · have := World.block_lt_of_cell? w _ hc0
        simpa [Addr.add] using this
      · intro i hi
        have hi' : i < zs.length := by simp at hi; omega
        have hiL : i < L := by simp at hi; omega
        have hci := hcell i hi'
        rw [show (⟨b, off, none⟩ : Addr).add i = ⟨b, off + i, none⟩ by unfold Addr.add; split <;> simp_all] at hci
        rw [hci]
        simp [List.getD, hi', hiL]
end Go.Proofs.Ytjgkhckcoknnfaa
/- The walk of Count: each frame is counted once, however often its owner is told. -/
namespace Go.Proofs.Ytjgkhckcoknnfaa
open Go.RowKit

def askCells (p : Nat → Bool) : Array Value := #[.bool (p 0), .bool (p 1), .bool (p 2), .bool (p 3)]
theorem askCells_at (p : Nat → Bool) : ∀ {j : Nat}, j < 4 → (askCells p)[j]? = some (.bool (p j))
  | 0, _ | 1, _ | 2, _ | 3, _ => rfl
theorem askCells_set (p : Nat → Bool) : ∀ {j : Nat}, j < 4 → (askCells p).setIfInBounds j (.bool true) = askCells (fun i => if i = j then true else p i)
  | 0, _ | 1, _ | 2, _ | 3, _ => rfl
theorem askCells_congr {p q : Nat → Bool} (h : ∀ j, j < 4 → p j = q j) : askCells p = askCells q := by
  unfold askCells; rw [h 0 (by omega), h 1 (by omega), h 2 (by omega), h 3 (by omega)]
def askP (zs : List Int) (k j : Nat) : Bool := decide ((j : Int) ∈ zs.take k)
theorem fo_next {zs : List Int} {k : Nat} (hk : k < zs.length) : zs.take (k + 1) = zs.take k ++ [zs.getD k 0] := by
  rw [List.take_add_one, List.getElem?_eq_getElem hk, List.getD_eq_getElem?_getD, List.getElem?_eq_getElem hk]; rfl
theorem askP_yes {zs : List Int} {k z : Nat} (hk : k < zs.length) (hz : zs.getD k 0 = (z : Int)) (j : Nat) : askP zs (k + 1) j = if j = z then true else askP zs k j := by
  unfold askP
  rw [fo_next hk, hz]
  by_cases e : j = z
  · subst e; simp
  · rw [if_neg e]
    have : ¬ (j : Int) = (z : Int) := by omega
    simp [this]
theorem askP_no {zs : List Int} {k j : Nat} (hk : k < zs.length) (hz : isO (zs.getD k 0) = false) (hj : j < 4) : askP zs (k + 1) j = askP zs k j := by
  unfold askP
  rw [fo_next hk]
  have h1 := of_decide_eq_false hz
  have : ¬ (j : Int) = zs.getD k 0 := by omega
  simp only [List.mem_append, List.mem_singleton, this, or_false]

set_option maxHeartbeats 1000000 in
theorem fCount_any {B E m : Nat} {t : Int} {p : Option Addr} {O : List Int} {S : List Nat} (a : Option Addr) (L c : Nat) (zs : List Int) (w : World) (h : FramesP B E w p m t O S) (hz : IntsAt .i64 w a zs) (hzl : zs.length = L) (hL : L ≤ 1000) :
    Calls Try.prog 42 #[.pointer p, .slice a L c] w fun e w' => e = .returned (.int .i64 (fcnt O zs : Nat)) ∧ Below w.heap.size w w' := by
  have hsm := h.small
  have HL : Hid (O.length = m) := h.good.len
  have HOW : Hid _ := h.good.own
  have H : Hid (FramesP B E w p m t O S) := h
  have HZ : Hid (IntsAt .i64 w a zs) := hz
  have HZL : Hid (zs.length = L) := hzl
  clear h hz hzl
  go_enter Try.func42, Try.ntmps42
  go_wp2_with fail
  go_loopw [7, 12] (fun _ i wr => ∃ k : Nat, k ≤ L ∧ i = .int .i64 k ∧ wr.heap[w.heap.size]? = some (.cells (askCells (askP zs k)) 105 (0, 0)) ∧ Below w.heap.size w wr) (fun _ i _ => L - (intOf i).toNat)
  case atStart => exact ⟨0, Nat.zero_le _, rfl, by rw [heap_alloc_new]; simp [askCells, askP], (Below.refl _ _).alloc (Nat.le_refl _) _⟩
  case round =>
    obtain ⟨k, hk, rfl, hc, hb⟩ := hrel
    have HC : Hid (wr.heap[w.heap.size]? = some (.cells (askCells (askP zs k)) 105 (0, 0))) := hc
    by_cases hlt : k < L
    · obtain ⟨bz, off, rfl, cz⟩ := HZ.out.later hb (i := k) (by have := HZL.out; omega)
      have hkz : k < zs.length := by have := HZL.out; omega
      have i1 : (k : Int) < (L : Int) := by omega
      cases hO : isO (zs.getD k 0) with
      | true =>
        obtain ⟨z1, z2⟩ := of_decide_eq_true hO
        obtain ⟨z, hz⟩ := Int.eq_ofNat_of_zero_le z1
        rw [hz] at cz hO z2
        have z4 : z < 4 := by omega
        have cA := cell_of_row wr w.heap.size z _ _ _ hc
        rw [askCells_at _ z4] at cA
        have fA := frozen_of_row wr w.heap.size z _ _ hc
        have HO : Hid (isO (z : Int) = true) := hO
        have HV : Hid (zs.getD k 0 = (z : Int)) := hz
        generalize askP zs k z = q at *
        clear hO z1 hz hc hkz
        go_wp2_with (go_at_call 67; refine (isOwner_is _ _ HO.out).mono ?_; rintro e w' ⟨rfl, rfl⟩)
        go_roundw
        case rel =>
          refine ⟨k + 1, by omega, by go_num, ?_, hb.setCell (p := ⟨w.heap.size, z, none⟩) (Nat.le_refl _) _⟩
          rw [heap_setCell_same _ _ _ _ _ _ HC.out, askCells_set _ z4]
          congr 2
          apply askCells_congr
          intro j _
          exact (askP_yes (by have := HZL.out; omega) HV.out j).symm
        case measure => simp [intOf]; omega
      | false =>
        have HO : Hid (isO (zs.getD k 0) = false) := hO
        generalize hz : zs.getD k 0 = z at *
        have HV : Hid _ := hz
        clear hO hz hc hkz
        go_wp2_with (go_at_call 67; refine (isOwner_is _ _ HO.out).mono ?_; rintro e w' ⟨rfl, rfl⟩)
        go_roundw
        case rel =>
          refine ⟨k + 1, by omega, by go_num, ?_, hb⟩
          rw [HC.out]
          congr 2
          apply askCells_congr
          intro j hj
          exact (askP_no (by have := HZL.out; omega) (by rw [HV.out]; exact HO.out) hj).symm
        case measure => simp [intOf]; omega
    · have e : k = L := by omega
      subst e
      have HA : Hid (wr.heap[w.heap.size]? = some (.cells (askCells (fun j => decide ((j : Int) ∈ zs))) 105 (0, 0))) := by
        show _ = _
        rw [HC.out]
        congr 2
        apply askCells_congr
        intro j _
        rw [askP, List.take_of_length_le (by rw [HZL.out]; omega)]
      have H2 : Hid (FramesP B E wr p m t O S) := H.out.below hb
      clear hc
      go_wp2_with (go_at_call 68; refine (fMany_any _ H2.out).mono ?_; rintro e w' ⟨rfl, rfl⟩)
      go_loopw [8, 9, 23] (fun n _ i wq => ∃ j : Nat, j ≤ m ∧ i = .int .i64 j ∧ n = .int .i64 (fcntTo O zs j : Nat) ∧ wr = wq) (fun _ _ i _ => m - (intOf i).toNat)
      case atStart => exact ⟨0, Nat.zero_le _, rfl, rfl, rfl⟩
      case round =>
        obtain ⟨j, hj, rfl, rfl, rfl⟩ := hrel
        have hcl := fcntTo_le O zs j
        by_cases hlt : j < m
        · rcases H2.out.2 with ⟨_, rfl, _⟩ | ⟨b, g1, g2, rfl, hp⟩
          · omega
          have c0 := hp.cell0
          have cO := hp.cellO hlt
          have i1 : (j : Int) < (m : Int) := by omega
          obtain ⟨o1, o2⟩ := HOW.out j
          obtain ⟨q, hq⟩ := Int.eq_ofNat_of_zero_le o1
          have hq4 : q < 4 := by omega
          have hq4' : (q : Int) < 4 := by omega
          have cA := cell_of_row wr w.heap.size q _ _ _ HA.out
          rw [askCells_at _ hq4] at cA
          rw [hq] at cO
          by_cases hin : (q : Int) ∈ zs
          · have HT : Hid _ := fcntTo_yes (O := O) (zs := zs) (k := j) (by rw [hq]; exact hin)
            rw [decide_eq_true hin] at cA
            generalize hN : fcntTo O zs j = N at *
            clear hN hp hq hin o1 o2
            go_wp2
            go_roundw
            case rel => exact ⟨j + 1, by omega, by go_num, by rw [HT.out]; go_num, trivial⟩
            case measure => simp [intOf]; omega
          · have HT : Hid _ := fcntTo_no (O := O) (zs := zs) (k := j) (by rw [hq]; exact hin)
            rw [decide_eq_false hin] at cA
            generalize hN : fcntTo O zs j = N at *
            clear hN hp hq hin o1 o2
            go_wp2
            go_roundw
            case rel => exact ⟨j + 1, by omega, by go_num, by rw [HT.out], trivial⟩
            case measure => simp [intOf]; omega
        · have e : j = m := by omega
          subst e
          go_wp2
          go_ret
          exact ⟨retInt (by rw [fcnt, HL.out]), hb⟩
theorem IntsAt.made (w : World) (zs : List Int) (c : Array Value) (hc : c = (fzv zs).toArray) : IntsAt .i64 (w.alloc (.cells c 3)) (some ⟨w.heap.size, 0, none⟩) zs := by
  subst hc
  by_cases h0 : zs = []
  · exact .inl h0
  · refine .inr ⟨w.heap.size, 0, rfl, by simp, fun i hi => ?_⟩
    rw [Nat.zero_add, cell_of_row _ w.heap.size i _ _ _ (heap_alloc_new w _)]
    have := fzv_at zs i hi
    simpa using this
theorem count_is {B E m : Nat} {t : Int} {p : Option Addr} {O : List Int} {S : List Nat} {a : Option Addr} {L c : Nat} {zs : List Int} (w : World) (h : FramesP B E w p m t O S) (hz : IntsAt .i64 w a zs) (hzl : zs.length = L) (hL : L ≤ 1000) {n : Nat} (hn : fcnt O zs = n) :
    Calls Try.prog 42 #[.pointer p, .slice a L c] w fun e w' => e = .returned (.int .i64 (n : Nat)) ∧ Below w.heap.size w w' := by
  rw [← hn]; exact fCount_any a L c zs w h hz hzl hL
end Go.Proofs.Ytjgkhckcoknnfaa
