/- Texts of this seat, joined: WSet, WTouch, GBy, WOps, ZPlain, GRange, GKeep, ZRows, ZMay, ZIter, GSeq, ZSeq: each opens with what it holds. -/
import Derived.Test.YtjgkhckcoknnfaaZ1
import Derived.RangeFuncNested
import Derived.RangeFuncBound
import Derived.RangeFuncCalls
import Derived.RangeFuncLeaves
import Derived.Shelf.Abstract
import Derived.Shelf.RegionOpen
import Derived.OwnWalkIn
import Derived.TacticsInMore
import Derived.LoopNIn
import Derived.LoopIn
import Derived.BigRegionIn
import Derived.BigGuardIn
import Derived.Deep.AppendLies
/- The bytes of frames in memory (CellsAt, RamAt; RamP: a RAM, or none), what turns them, and the walks of own, isThere: MSet of layer 6, for seats of today. -/
namespace Go.Proofs.Ytjgkhckcoknnfaa
open Go.RowKit

structure CellsAt (B F E : Nat) (w : World) (r g : Nat) (pf : Option Addr) (tg : TypeId) (vP : Value) (R : RS) : Prop where
  fr : FramesP B F w pf R.m R.t R.O R.S
  head : w.heap[r]? = some (.cells #[.pointer pf, vP, .int .i64 R.x] tg (0, 0))
  vp : R.m = 0 ∨ (vP = .slice (some ⟨g, 0, none⟩) R.m R.m ∧ w.heap[g]? = some (.cells (bv R.P).toArray 82 (0, 0)) ∧ F ≤ g ∧ g < E ∧ r ≠ g)
  len : R.P.length = R.m * 4096
  byte : ∀ x ∈ R.P, x < 256
  lo : B ≤ F ∧ F ≤ r ∧ r < E
  hi : E ≤ w.heap.size
section
variable {B F E r g : Nat} {w w' : World} {pf : Option Addr} {tg : TypeId} {vP : Value} {R : RS}
theorem CellsAt.c0 (h : CellsAt B F E w r g pf tg vP R) : w.cell? ⟨r, 0, none⟩ = some (.pointer pf) := by rw [cell_of_row w r 0 _ _ _ h.head]; rfl
theorem CellsAt.c1 (h : CellsAt B F E w r g pf tg vP R) : w.cell? ⟨r, 1, none⟩ = some vP := by rw [cell_of_row w r 1 _ _ _ h.head]; rfl
theorem CellsAt.c2 (h : CellsAt B F E w r g pf tg vP R) : w.cell? ⟨r, 2, none⟩ = some (.int .i64 R.x) := by rw [cell_of_row w r 2 _ _ _ h.head]; rfl
theorem CellsAt.f2 (h : CellsAt B F E w r g pf tg vP R) : w.frozen? ⟨r, 2, none⟩ = false := frozen_of_row w r 2 _ _ h.head
theorem CellsAt.ol (h : CellsAt B F E w r g pf tg vP R) : R.O.length = R.m := h.fr.good.len
theorem CellsAt.rows (h : CellsAt B F E w r g pf tg vP R) {n : Nat} (hn : n < R.m) : w.heap[g]? = some (.cells (bv R.P).toArray 82 (0, 0)) ∧ F ≤ g ∧ g < E ∧ r ≠ g := by
  rcases h.vp with h1 | ⟨_, h2⟩
  · omega
  · exact h2
theorem CellsAt.kept (h : CellsAt B F E w r g pf tg vP R) (hs : w.heap.size ≤ w'.heap.size) (hk : ∀ i, B ≤ i → i < E → w'.heap[i]? = w.heap[i]?) : CellsAt B F E w' r g pf tg vP R := by
  obtain ⟨l0, l1, l2⟩ := h.lo
  refine ⟨h.fr.kept hs (fun i hB hi => hk i hB (by omega)), (hk r (by omega) l2).trans h.head, ?_, h.len, h.byte, h.lo, Nat.le_trans h.hi hs⟩
  rcases h.vp with h1 | ⟨h1, h2, h3⟩
  · exact .inl h1
  · exact .inr ⟨h1, (hk g (by omega) h3.2.1).trans h2, h3⟩
theorem CellsAt.below (h : CellsAt B F E w r g pf tg vP R) (hb : Below w.heap.size w w') : CellsAt B F E w' r g pf tg vP R :=
  h.kept hb.size (fun i _ hi => hb.block i (Nat.lt_of_lt_of_le hi h.hi))
theorem CellsAt.setX (h : CellsAt B F E w r g pf tg vP R) (y : Int) : CellsAt B F E (w.setCell ⟨r, 2, none⟩ (.int .i64 y)) r g pf tg vP { R with x := y } := by
  obtain ⟨l0, l1, l2⟩ := h.lo
  refine ⟨h.fr.kept (by simp) (fun i _ hi => Below.heap_setCell _ _ _ _ (by show i ≠ r; omega)), ?_, ?_, h.len, h.byte, h.lo, by simpa using h.hi⟩
  · rw [heap_setCell_same w r 2 _ _ _ h.head]; rfl
  · rcases h.vp with h1 | ⟨h1, h2, h3⟩
    · exact .inl h1
    · exact .inr ⟨h1, by rw [Below.heap_setCell _ _ _ _ (by show g ≠ r; omega)]; exact h2, h3⟩
theorem CellsAt.setP (h : CellsAt B F E w r g pf tg vP R) (hm : 0 < R.m) {P' : List Nat} (hl : P'.length = R.P.length) (hb : ∀ x ∈ P', x < 256) : CellsAt B F E (w.setRow g (bv P').toArray) r g pf tg vP { R with P := P' } := by
  obtain ⟨l0, l1, l2⟩ := h.lo
  obtain ⟨h2, h3⟩ := h.rows hm
  refine ⟨h.fr.kept (by simp [World.setRow]) (fun i _ hi => setRow_other w g i _ (by omega)), ?_, ?_, by rw [hl]; exact h.len, hb, h.lo, by have := h.hi; simpa [World.setRow] using this⟩
  · rw [setRow_other w g r _ h3.2.2]; exact h.head
  · rcases h.vp with h1 | ⟨h1, _⟩
    · exact .inl h1
    · exact .inr ⟨h1, setRow_heap w g _ _ _ _ h2, h3⟩
theorem CellsAt.step (h : CellsAt B F E w r g pf tg vP R) {t' : Int} {O' : List Int} {S' : List Nat} (hf : FramesP B F w' pf R.m t' O' S') (ht : Turns B F w w') : CellsAt B F E w' r g pf tg vP { R with t := t', O := O', S := S' } := by
  obtain ⟨l0, l1, l2⟩ := h.lo
  have hi := h.hi
  refine ⟨hf, (ht.block r (by omega) (.inr l1)).trans h.head, ?_, h.len, h.byte, h.lo, Nat.le_trans h.hi ht.size⟩
  rcases h.vp with h1 | ⟨h1, h2, h3⟩
  · exact .inl h1
  · exact .inr ⟨h1, (ht.block g (by omega) (.inr h3.1)).trans h2, h3⟩
theorem CellsAt.cellP (h : CellsAt B F E w r g pf tg vP R) {i : Nat} (hi : i < R.m * 4096) : w.cell? ⟨g, i, none⟩ = some (.int .u8 (R.P.getD i 0 : Nat)) := by
  obtain ⟨h1, _⟩ := h.rows (n := 0) (by omega)
  rw [cell_of_row w g i _ _ _ h1]
  have := bv_at R.P i (by rw [h.len]; exact hi)
  simpa using this
end

/-- The bytes of frames in block r, all in the blocks from B to less than E. -/
def RamAt (B E : Nat) (w : World) (r : Nat) (R : RS) : Prop := ∃ F g pf tg vP, CellsAt B F E w r g pf tg vP R
/-- A RAM, or none. -/
def RamP (B E : Nat) (w : World) (p : Option Addr) (R : RS) : Prop := (p = none ∧ R = RS.no) ∨ ∃ r, p = some ⟨r, 0, none⟩ ∧ RamAt B E w r R
section
variable {B E r : Nat} {w w' : World} {R : RS} {p : Option Addr}
theorem RamAt.kept (h : RamAt B E w r R) (hs : w.heap.size ≤ w'.heap.size) (hk : ∀ i, B ≤ i → i < E → w'.heap[i]? = w.heap[i]?) : RamAt B E w' r R := by
  obtain ⟨F, g, pf, tg, vP, h⟩ := h; exact ⟨F, g, pf, tg, vP, h.kept hs hk⟩
theorem RamAt.below (h : RamAt B E w r R) (hb : Below w.heap.size w w') : RamAt B E w' r R := by
  obtain ⟨F, g, pf, tg, vP, h⟩ := h; exact ⟨F, g, pf, tg, vP, h.below hb⟩
theorem RamAt.good (h : RamAt B E w r R) : FrOk R.m R.O R.S := by obtain ⟨F, g, pf, tg, vP, h⟩ := h; exact h.fr.good
theorem RamAt.small (h : RamAt B E w r R) : R.m ≤ 96 := by obtain ⟨F, g, pf, tg, vP, h⟩ := h; exact h.fr.small
theorem RamAt.len (h : RamAt B E w r R) : R.P.length = R.m * 4096 := by obtain ⟨F, g, pf, tg, vP, h⟩ := h; exact h.len
theorem RamAt.byte (h : RamAt B E w r R) : ∀ x ∈ R.P, x < 256 := by obtain ⟨F, g, pf, tg, vP, h⟩ := h; exact h.byte
theorem RamAt.hi (h : RamAt B E w r R) : E ≤ w.heap.size ∧ r < E ∧ B ≤ r := by obtain ⟨F, g, pf, tg, vP, h⟩ := h; have := h.lo; exact ⟨h.hi, by omega, by omega⟩
theorem RamP.kept (h : RamP B E w p R) (hs : w.heap.size ≤ w'.heap.size) (hk : ∀ i, B ≤ i → i < E → w'.heap[i]? = w.heap[i]?) : RamP B E w' p R := by
  rcases h with h | ⟨r, h1, h2⟩
  · exact .inl h
  · exact .inr ⟨r, h1, h2.kept hs hk⟩
theorem RamP.below (h : RamP B E w p R) (hb : Below w.heap.size w w') : RamP B E w' p R := by
  rcases h with h | ⟨r, h1, h2⟩
  · exact .inl h
  · exact .inr ⟨r, h1, h2.below hb⟩
theorem RamP.good (h : RamP B E w p R) : FrOk R.m R.O R.S := by
  rcases h with ⟨_, rfl⟩ | ⟨r, _, h2⟩
  · exact FrOk.start 0
  · exact h2.good
theorem RamP.small (h : RamP B E w p R) : R.m ≤ 96 := by
  rcases h with ⟨_, rfl⟩ | ⟨r, _, h2⟩
  · exact Nat.zero_le _
  · exact h2.small
theorem RamP.len (h : RamP B E w p R) : R.P.length = R.m * 4096 := by
  rcases h with ⟨_, rfl⟩ | ⟨r, _, h2⟩
  · rfl
  · exact h2.len
theorem RamP.byte (h : RamP B E w p R) : ∀ x ∈ R.P, x < 256 := by
  rcases h with ⟨_, rfl⟩ | ⟨r, _, h2⟩
  · intro x hx; cases hx
  · exact h2.byte
theorem RamP.nil (B E : Nat) (w : World) : RamP B E w none RS.no := .inl ⟨rfl, rfl⟩
theorem RamP.some (h : RamAt B E w r R) : RamP B E w (some ⟨r, 0, none⟩) R := .inr ⟨r, rfl, h⟩
end

theorem own_some (r : Nat) (w : World) : Calls Try.prog 40 #[.pointer (some ⟨r, 0, none⟩)] w fun e w' => e = .returned (.pointer (some ⟨r, 0, none⟩)) ∧ w = w' := by
  go_enter Try.func40, Try.ntmps40
  go_wp2
  go_ret
  exact ⟨rfl, rfl⟩
theorem own_nil (w : World) : Calls Try.prog 40 #[.pointer none] w fun e w' => e = .returned (.pointer (some ⟨w.heap.size, 0, none⟩)) ∧ w' = w.alloc (.cells #[.pointer none, .slice none 0 0, .int .i64 0] 66) := by
  go_enter Try.func40, Try.ntmps40
  go_wp2
  go_ret
  exact ⟨rfl, rfl⟩
/-- What own answers: cells in block r, that are those of the RAM p, or none. -/
structure Owns (B E : Nat) (w : World) (p : Option Addr) (R : RS) (w1 : World) (B1 F E1 r g : Nat) (pf : Option Addr) (tg : TypeId) (vP : Value) : Prop where
  at_ : CellsAt B1 F E1 w1 r g pf tg vP R
  bel : Below w.heap.size w w1
  turn : ∀ w2, Turns B1 E1 w1 w2 → Turns B E w w2
  back : ∀ w2 R2, CellsAt B1 F E1 w2 r g pf tg vP R2 → R2.m = R.m → (R.m = 0 → R2.x = R.x) → RamP B E w2 p R2
  apart : ∀ q, q < w.heap.size → q < B ∨ E ≤ q → q < B1 ∨ E1 ≤ q
theorem own_any {B E : Nat} {p : Option Addr} {R : RS} (w : World) (h : RamP B E w p R) : Calls Try.prog 40 #[.pointer p] w fun e w1 => ∃ B1 F E1 r g pf tg vP, e = .returned (.pointer (some ⟨r, 0, none⟩)) ∧ Owns B E w p R w1 B1 F E1 r g pf tg vP := by
  rcases h with ⟨rfl, rfl⟩ | ⟨r, rfl, F, g, pf, tg, vP, h⟩
  · refine (own_nil w).mono ?_
    rintro e w1 ⟨rfl, rfl⟩
    refine ⟨w.heap.size, w.heap.size, w.heap.size + 1, w.heap.size, 0, none, 66, .slice none 0 0, rfl, ?_, (Below.refl _ w).alloc (Nat.le_refl _) _, ?_, ?_, ?_⟩
    · exact ⟨FramesP.nil _ _ _, heap_alloc_new w _, .inl rfl, rfl, (by intro x hx; cases hx), ⟨Nat.le_refl _, Nat.le_refl _, by omega⟩, by simp⟩
    · intro w2 h2
      have hb : Below w.heap.size w (w.alloc (.cells #[.pointer none, .slice none 0 0, .int .i64 0] 66)) := (Below.refl _ w).alloc (Nat.le_refl _) _
      exact Turns.of_below (hb.trans (h2.below hb.size))
    · intro w2 R2 h2 hm hx
      refine .inl ⟨rfl, ?_⟩
      have hx := hx rfl
      obtain ⟨m, t, x, O, S, P⟩ := R2
      obtain rfl : m = 0 := hm
      obtain rfl : x = 0 := hx
      have hO : O = [] := List.eq_nil_of_length_eq_zero h2.fr.good.len
      have hP : P = [] := List.eq_nil_of_length_eq_zero (by have := h2.len; simpa using this)
      have hS : S = [] := List.eq_nil_of_length_eq_zero (Nat.le_zero.1 h2.fr.good.slen)
      subst hO hP hS
      rcases h2.fr.2 with ⟨_, _, ht, _⟩ | ⟨b, g1, g2, e, _⟩
      · obtain rfl : t = 0 := ht
        rfl
      · cases e
    · intro q h1 h2
      exact .inl h1
  · refine (own_some r w).mono ?_
    rintro e w1 ⟨rfl, rfl⟩
    exact ⟨B, F, E, r, g, pf, tg, vP, rfl, h, Below.refl _ _, fun w2 h2 => h2, fun w2 R2 h2 _ _ => .inr ⟨r, rfl, F, g, pf, tg, vP, h2⟩, fun q _ h2 => h2⟩
def inB (a s : Int) : Bool := decide (0 ≤ a ∧ 0 ≤ s ∧ a + s ≤ 4096)
set_option maxHeartbeats 400000 in
theorem ramThere_any (a s : Int) (w : World) (h1 : s ≤ 9223372036854775807) (h2 : -9223372036854775808 ≤ s) :
    Calls Try.prog 74 #[.int .i64 a, .int .i64 s] w fun e w' => e = .returned (.bool (inB a s)) ∧ w = w' := by
  by_cases ha : 0 ≤ a
  · by_cases hs : 0 ≤ s
    · go_enter Try.func74, Try.ntmps74
      go_wp2
      go_ret
      refine ⟨retBool ?_, rfl⟩
      unfold inB
      apply decide_eq_decide.2
      omega
    · go_enter Try.func74, Try.ntmps74
      go_wp2
      go_ret
      exact ⟨retBool (decide_eq_false (by omega)).symm, rfl⟩
  · go_enter Try.func74, Try.ntmps74
    go_wp2
    go_ret
    exact ⟨retBool (decide_eq_false (by omega)).symm, rfl⟩
theorem ramThere_is {a s : Int} {b : Bool} (w : World) (h1 : s ≤ 9223372036854775807) (h2 : -9223372036854775808 ≤ s) (hb : inB a s = b) :
    Calls Try.prog 74 #[.int .i64 a, .int .i64 s] w fun e w' => e = .returned (.bool b) ∧ w = w' := by
  rw [← hb]; exact ramThere_any a s w h1 h2
end Go.Proofs.Ytjgkhckcoknnfaa
/- The walks of touch and touchWord: which part of memory a call may touch: MTouch of layer 6, for seats of today. -/
namespace Go.Proofs.Ytjgkhckcoknnfaa
open Go.RowKit

set_option maxHeartbeats 1000000 in
theorem touch_no {B F E r g : Nat} {pf : Option Addr} {tg : TypeId} {vP : Value} {R : RS} (n a s : Int) (w : World) (h : CellsAt B F E w r g pf tg vP R)
    (h1 : s ≤ 9223372036854775807) (h2 : -9223372036854775808 ≤ s) (hno : thB R.O n a s = false) :
    Calls Try.prog 53 #[.pointer (some ⟨r, 0, none⟩), .int .i64 n, .int .i64 a, .int .i64 s] w fun e w' => e = .returned (.tuple #[.slice none 0 0, .bool false]) ∧ w = w' := by
  have hn := th_not hno
  have c0 := h.c0
  have HF : Hid (FramesP B F w pf R.m R.t R.O R.S) := h.fr
  by_cases h0 : ownI R.O n = 0
  · have H0 : Hid (ownI R.O n = 0) := h0
    clear h hno hn h0
    go_enter Try.func53, Try.ntmps53
    go_wp2_with (go_at_call 73; refine (fOwner_is _ _ HF.out H0.out).mono ?_; rintro e w' ⟨rfl, rfl⟩)
    go_ret2
    exact ⟨rfl, rfl⟩
  · obtain ⟨q, hq⟩ : ∃ q, ownI R.O n = q := ⟨_, rfl⟩
    have HQ : Hid (ownI R.O n = q) := hq
    rw [hq] at h0
    have hq0 : (q == 0) = false := by rw [beq_eq_false_iff_ne]; exact h0
    have HI : Hid (inB a s = false) := decide_eq_false (by omega)
    clear h hno hn hq
    go_enter Try.func53, Try.ntmps53
    go_wp2_with (first | (go_at_call 73; refine (fOwner_is _ _ HF.out HQ.out).mono ?_; rintro e w' ⟨rfl, rfl⟩) | (go_at_call 74; refine (ramThere_is _ h1 h2 HI.out).mono ?_; rintro e w' ⟨rfl, rfl⟩))
    go_ret2
    exact ⟨rfl, rfl⟩

def offOf (a : Nat) : Nat := if a = 4096 then 0 else a
theorem Try.sizePage : (Try.prog.info? 82).map (fun i => i.size) = some 4096 := by kernel_rfl
set_option maxHeartbeats 1000000 in
theorem touch_yes {B F E r g : Nat} {pf : Option Addr} {tg : TypeId} {vP : Value} {R : RS} (n a s : Nat) (w : World) (h : CellsAt B F E w r g pf tg vP R)
    (hn : n < R.m) (h0 : R.O.getD n 0 ≠ 0) (has : a + s ≤ 4096) :
    Calls Try.prog 53 #[.pointer (some ⟨r, 0, none⟩), .int .i64 (n : Nat), .int .i64 (a : Nat), .int .i64 (s : Nat)] w fun e w' => e = .returned (.tuple #[.slice (some ⟨g, n * 4096 + offOf a, none⟩) s (4096 - a), .bool true]) ∧ w' = w.setCell ⟨r, 2, none⟩ (.int .i64 (wrap64 (R.x + 1))) := by
  have c0 := h.c0
  have c1 := h.c1
  have c2 := h.c2
  have f2 := h.f2
  have HF : Hid (FramesP B F w pf R.m R.t R.O R.S) := h.fr
  have hsm := h.fr.small
  obtain ⟨q, hq⟩ : ∃ q, ownI R.O (n : Int) = q := ⟨_, rfl⟩
  have HQ : Hid (ownI R.O (n : Int) = q) := hq
  rw [ownI_nat] at hq
  rw [hq] at h0
  have hq0 : (q == 0) = false := by rw [beq_eq_false_iff_ne]; exact h0
  have HI : Hid (inB (a : Int) (s : Int) = true) := decide_eq_true (by omega)
  rcases h.vp with h1 | ⟨rfl, h1⟩
  · omega
  clear h hq h1
  obtain ⟨m, t, x, O, S, P⟩ := R
  dsimp only at *
  have hnm : (n : Int) < (m : Int) := by omega
  by_cases ha : a = 4096
  · obtain rfl : s = 0 := by omega
    subst ha
    have e0 : n * 4096 + offOf 4096 = n * 4096 := by simp [offOf]
    rw [e0]
    clear e0
    go_enter Try.func53, Try.ntmps53
    go_wp2_with (first | (go_at_call 73; refine (fOwner_is _ _ HF.out HQ.out).mono ?_; rintro e w' ⟨rfl, rfl⟩) | (go_at_call 74; refine (ramThere_is _ (by omega) (by omega) HI.out).mono ?_; rintro e w' ⟨rfl, rfl⟩))
    go_ret2
    exact ⟨rfl, rfl⟩
  · have e0 : offOf a = a := by simp [offOf, ha]
    rw [e0]
    have ha2 : (a : Int) ≤ (a : Int) + (s : Int) := by omega
    have ha3 : (a : Int) + (s : Int) ≤ 4096 := by omega
    go_enter Try.func53, Try.ntmps53
    go_wp2_with (first | (go_at_call 73; refine (fOwner_is _ _ HF.out HQ.out).mono ?_; rintro e w' ⟨rfl, rfl⟩) | (go_at_call 74; refine (ramThere_is _ (by omega) (by omega) HI.out).mono ?_; rintro e w' ⟨rfl, rfl⟩))
    go_ret2
    refine ⟨?_, rfl⟩
    show Ending.returned (.tuple #[.slice (some ⟨g, n * 4096 + a, none⟩) (a + s - a) (4096 - a), .bool true]) = _
    rw [Nat.add_sub_cancel_left]
/-- Behind a touch. -/
theorem CellsAt.touched {B F E r g : Nat} {w : World} {pf : Option Addr} {tg : TypeId} {vP : Value} {R : RS} (h : CellsAt B F E w r g pf tg vP R) :
    CellsAt B F E (w.setCell ⟨r, 2, none⟩ (.int .i64 (wrap64 (R.x + 1)))) r g pf tg vP (R.touch true) ∧ Turns B E w (w.setCell ⟨r, 2, none⟩ (.int .i64 (wrap64 (R.x + 1)))) := by
  have := h.lo
  exact ⟨h.setX _, (Turns.refl B E w).setCell (p := ⟨r, 2, none⟩) (by show B ≤ r; omega) (by show r < E; omega) _⟩
end Go.Proofs.Ytjgkhckcoknnfaa
/- Bytes that a slice value reads, with their capacity: general (of layer 10's texts). -/
namespace Go.Proofs.Ytjgkhckcoknnfaa
open Go.RowKit

/-- Bytes that a slice value reads. -/
structure ByAt (w : World) (p : Option Addr) (L c : Nat) (b : List Nat) : Prop where
  src : SrcAt w (.slice p L c) L 1 (bv b)
  max : c ≤ maxLen
  cap : L ≤ c
  byte : ∀ x ∈ b, x < 256
theorem ByAt.len {w : World} {p : Option Addr} {L c : Nat} {b : List Nat} (h : ByAt w p L c b) : b.length = L := src_len h.src
theorem ByAt.later {w w' : World} {p : Option Addr} {L c : Nat} {b : List Nat} (h : ByAt w p L c b) (hb : Below w.heap.size w w') : ByAt w' p L c b := ⟨h.src.later hb, h.max, h.cap, h.byte⟩
theorem ByAt.short {w : World} {p : Option Addr} {L c : Nat} {b : List Nat} (h : ByAt w p L c b) : L ≤ maxLen := Nat.le_trans h.cap h.max
theorem ByAt.conv {w : World} {p : Option Addr} {L c : Nat} {b : List Nat} (h : ByAt w p L c b) : (convert 49 9 (.slice p L c)).run Try.prog w = .ok (.string (strB b)) w := conv_src h.src

theorem by_row {w : World} {base g L c : Nat} {b : List Nat} (h : w.ownsRow base 5 1 (.slice (some ⟨g, 0, none⟩) L c) L (bv b)) (h8 : ∀ x ∈ b, x < 256) : ByAt w (some ⟨g, 0, none⟩) L c b := ⟨src_row h, (row_cap h).2, (row_cap h).1, h8⟩
/-- Where the bytes lie. -/
theorem ByAt.at {w : World} {p : Option Addr} {L c : Nat} {b : List Nat} (h : ByAt w p L c b) (hL : 0 < L) : ∃ g off, p = some ⟨g, off, none⟩ ∧ g < w.heap.size ∧ ∀ i, i < L → w.cell? ⟨g, off + i, none⟩ = some (.int .u8 (b.getD i 0 : Nat)) := by
  have hl := h.len
  rcases nums_src h.src with rfl | ⟨g, off, rfl, h1, h2⟩
  · simp at hl; omega
  · exact ⟨g, off, rfl, h1, fun i hi => h2 i (by omega)⟩

/-- An element's address. -/
theorem index_at {g o L c q : Nat} {I : Int} (j : Nat) (hI : I = j) (hj : j < L) (hq : q = o + j) (w : World) :
    (Instr.indexAt 49 (.slice (some ⟨g, o, none⟩) L c) (.int .i64 I)).run Try.prog w = .ok (.pointer (some ⟨g, q, none⟩)) w := by
  obtain ⟨i0, h0, hz0, hz1, hz2⟩ := info_parts Try.info5
  have he : Try.prog.elem 49 = 5 := by kernel_rfl
  have hs : (sizeOf 5).run Try.prog w = .ok 1 w := by simp [sizeOf, typeInfo, h0, hz1, go_sem]
  subst hI hq
  rw [run_indexAt_slice (P := Try.prog) w 49 _ _ _ _ _ (by rw [he]; exact Try.underlying49), he, if_pos (by omega), hs]
  simp only [Result.andThen, Nat.mul_one, Int.toNat_natCast, add_lit']

theorem bv_append (a b : List Nat) : bv (a ++ b) = bv a ++ bv b := by simp [bv]
/-- A part of bytes: b[l:h]. -/
theorem ByAt.part {w : World} {g o L c : Nat} {b : List Nat} (h : ByAt w (some ⟨g, o, none⟩) L c b) {l s : Nat} (hl : l + s ≤ L) (hs : 0 < s) : ByAt w (some ⟨g, o + l, none⟩) s (c - l) (seg b l s) := by
  have hlen := h.len
  obtain ⟨g', o', e, hg, hc⟩ := h.at (by omega)
  cases e
  refine ⟨src_cell (length_seg (by omega)) hg fun j hj => ?_, by have := h.max; omega, by have := h.cap; omega, seg_byte h.byte⟩
  rw [seg_getD hj, Nat.add_assoc]
  exact hc (l + j) (by omega)
theorem run_part {g o L c l s : Nat} {A H : Int} (hA : A = l) (hH : H = (l + s : Nat)) (hc : l + s ≤ c) (hs : 0 < s) (w : World) :
    (Instr.slice 49 (.slice (some ⟨g, o, none⟩) L c) (some (.int .i64 A)) (some (.int .i64 H)) none).run Try.prog w = .ok (.slice (some ⟨g, o + l, none⟩) s (c - l)) w := by
  obtain ⟨i0, h0, hz0, hz1, hz2⟩ := info_parts Try.info5
  have he : Try.prog.elem 49 = 5 := by kernel_rfl
  subst hA hH
  rw [run_slice_lh (P := Try.prog) w 49 _ _ _ (by rw [he]; exact Try.underlying49) .i64 .i64 _ _ (by omega) (by omega) (by omega), he]
  have hs : (sizeOf 5).run Try.prog w = .ok 1 w := by simp [sizeOf, typeInfo, h0, hz1, go_sem]
  rw [hs]
  simp only [Result.andThen, sliced, Option.map_some, Nat.mul_one, Int.toNat_natCast, add_lit', Nat.add_sub_cancel_left]
  rw [if_neg (by omega)]
theorem by_own {w : World} {base n : Nat} {a : Option Addr} {c : Nat} {b : List Nat} (h : w.ownsRow base 5 1 (.slice a n c) n (bv b)) (h8 : ∀ x ∈ b, x < 256) : ByAt w a n c b := by
  cases a with
  | none =>
    rcases h.2 with ⟨e, rfl⟩ | ⟨g, cap, cur, e, _⟩
    · cases e
      exact ⟨src_row h, by unfold maxLen; omega, Nat.le_refl _, h8⟩
    · cases e
  | some ad => exact ⟨src_row h, (row_cap h).2, (row_cap h).1, h8⟩
theorem by_nil (w : World) : ByAt w none 0 0 [] := ⟨.inl ⟨rfl, rfl, rfl⟩, by unfold maxLen; omega, Nat.le_refl _, by simp⟩
/-- The first m bytes: b[:m]. -/
theorem ByAt.head {w : World} {p : Option Addr} {L c m : Nat} {b : List Nat} (h : ByAt w p L c b) (hm : m ≤ L) : ByAt w p m c (b.take m) := by
  refine ⟨?_, h.max, Nat.le_trans hm h.cap, fun x hx => h.byte x (List.mem_of_mem_take hx)⟩
  have hl := h.len
  rcases h.src with ⟨e, rfl, _⟩ | ⟨ad, c', e, h2, h3⟩
  · obtain rfl : m = 0 := by omega
    cases e
    exact .inl ⟨rfl, rfl, by simp [bv]⟩
  · cases e
    refine .inr ⟨ad, c, rfl, by simp; omega, fun j u hj => ?_⟩
    obtain ⟨h4, rfl⟩ := bv_some hj
    have h5 : j < m := by simp at h4; omega
    have e2 : (b.take m).getD j 0 = b.getD j 0 := by simp [List.getD, h5]
    rw [e2]
    exact h3 j _ (bv_at b j (by omega))
theorem run_head {p : Option Addr} {n c m : Nat} {M : Int} (hM : M = m) (hc : m ≤ c) (w : World) :
    (Instr.slice 49 (.slice p n c) none (some (.int .i64 M)) none).run Try.prog w = .ok (.slice p m c) w := by
  obtain ⟨i0, h0, hz0, hz1, hz2⟩ := info_parts Try.info5
  have he : Try.prog.elem 49 = 5 := by kernel_rfl
  subst hM
  rw [run_slice_h (P := Try.prog) w 49 _ _ _ (by rw [he]; exact Try.underlying49) .i64 _ (by omega) (by omega), he]
  have hs : (sizeOf 5).run Try.prog w = .ok 1 w := by simp [sizeOf, typeInfo, h0, hz1, go_sem]
  have ha : ∀ a : Addr, a.add 0 = a := fun a => by unfold Addr.add; cases a; split <;> simp_all
  rw [hs]
  cases p with
  | none => simp [Result.andThen, sliced]
  | some a => simp [Result.andThen, sliced, ha]
end Go.Proofs.Ytjgkhckcoknnfaa
/- The walks of a RAM's Read, Write, Owner, Many, Touches, of a RAM that is there or isn't: MOps, MWrite of layer 6, for seats of today. -/
namespace Go.Proofs.Ytjgkhckcoknnfaa
open Go.RowKit

theorem rs_none {B E : Nat} {w : World} {p : Option Addr} {R : RS} (h : RamP B E w p R) (h0 : R.m = 0) (n : Int) : ownI R.O n = 0 := by
  have := h.good.len
  rw [h0] at this
  rw [List.eq_nil_of_length_eq_zero this, ownI_nil]
theorem may_none {B E : Nat} {w : World} {p : Option Addr} {R : RS} (h : RamP B E w p R) (h0 : R.m = 0) (n a s : Int) : thB R.O n a s = false := decide_eq_false (by rw [rs_none h h0]; simp)

set_option maxHeartbeats 1000000 in
theorem wRead {B E : Nat} {p : Option Addr} {R : RS} (n a s : Int) (w : World) (h : RamP B E w p R) (h1 : s ≤ 9223372036854775807) (h2 : -9223372036854775808 ≤ s) :
    Calls Try.prog 84 #[.pointer p, .int .i64 n, .int .i64 a, .int .i64 s] w fun e w' => ∃ v, e = .returned (.tuple #[v, .bool (R.may n a s)]) ∧
      w'.ownsRow w.heap.size 5 1 v (R.rd n a s).length (bv (R.rd n a s)) ∧ RamP B E w' p (R.touch (R.may n a s)) ∧ Turns B E w w' := by
  have HP : Hid (RamP B E w p R) := h
  unfold RS.may RS.rd
  cases hb : thB R.O n a s with
  | false =>
    rw [rd_no hb]
    have HB : Hid (thB R.O n a s = false) := hb
    clear hb h
    go_enter Try.func84, Try.ntmps84
    go_wp2_with fail
    refine (own_any _ HP.out).mono ?_
    rintro e w1 ⟨B1, F, E1, r, g, pf, tg, vP, rfl, how⟩
    have HO : Hid (Owns B E w p R w1 B1 F E1 r g pf tg vP) := how
    clear how
    go_wp2_with fail
    refine (touch_no n a s w1 HO.out.at_ h1 h2 HB.out).mono ?_
    rintro e w' ⟨rfl, rfl⟩
    go_wp2_with fail
    refine (clone_nil _).mono ?_
    rintro e w' ⟨rfl, rfl⟩
    go_wp2
    go_ret2
    exact ⟨_, rfl, World.ownsRow_nil _ _ _ _, HP.out.below HO.out.bel, Turns.of_below HO.out.bel⟩
  | true =>
    obtain ⟨n, a, s, rfl, rfl, rfl, hn, h0, has⟩ := th_of hb
    rw [h.good.len] at hn
    have hpl := plc_le (s := s) (a := a) hn has
    have hsl := length_seg (P := R.P) (o := n * 4096 + a) (s := s) (by rw [h.len]; exact hpl)
    rw [rd_yes hb, hsl]
    have HSL : Hid ((seg R.P (n * 4096 + a) s).length = s) := hsl
    clear hb h hsl
    go_enter Try.func84, Try.ntmps84
    go_wp2_with fail
    refine (own_any _ HP.out).mono ?_
    rintro e w1 ⟨B1, F, E1, r, g, pf, tg, vP, rfl, how⟩
    have HO : Hid (Owns B E w p R w1 B1 F E1 r g pf tg vP) := how
    clear how
    go_wp2_with fail
    refine (touch_yes n a s w1 HO.out.at_ hn h0 has).mono ?_
    rintro e w2 ⟨rfl, he⟩
    obtain ⟨hh, ht⟩ := HO.out.at_.touched
    rw [← he] at hh ht
    have hg : g < w2.heap.size := by have := (hh.rows (n := n) hn).2; have := hh.hi; omega
    have HH2 : Hid (CellsAt B1 F E1 w2 r g pf tg vP (R.touch true)) := hh
    have HT2 : Hid (Turns B1 E1 w1 w2) := ht
    have HZ : Hid (w.heap.size ≤ w2.heap.size) := Nat.le_trans HO.out.bel.size ht.size
    clear he hh ht
    go_wp2_with fail
    refine (clone_src (b := seg R.P (n * 4096 + a) s) w2 (src_cell HSL.out hg ?_) (by omega)).mono ?_
    · intro j hj
      have e0 : s ≠ 0 → offOf a = a := by intro _; unfold offOf; split <;> omega
      rw [e0 (by omega), HH2.out.cellP (by show _ < R.m * 4096; omega), seg_getD hj]
      rfl
    rintro e w3 ⟨v, rfl, own3, b3⟩
    have HR3 : Hid (w3.ownsRow w.heap.size 5 1 v s (bv (seg R.P (n * 4096 + a) s))) := rowMono own3 HZ.out
    have HF : Hid (RamP B E w3 p (R.touch true)) := HO.out.back _ _ (HH2.out.below b3) rfl (fun e => absurd hn (by omega))
    have HT3 : Hid (Turns B E w w3) := HO.out.turn _ (HT2.out.trans (Turns.of_below b3))
    clear own3 b3
    go_wp2
    go_ret2
    exact ⟨v, rfl, HR3.out, HF.out, HT3.out⟩
/-- What copy does to the pages: bytes b that lie elsewhere are laid from a on in frame n. -/
theorem CellsAt.copied {B F E r g n a L c : Nat} {w : World} {p pf : Option Addr} {tg : TypeId} {vP : Value} {R : RS} {b : List Nat} (h : CellsAt B F E w r g pf tg vP R) (hn : n < R.m) (has : a + L ≤ 4096)
    (hb : ByAt w p L c b) :
    ∃ w2, (∀ ty, (Builtin.copy_ #[49, 49] ty #[.slice (some ⟨g, n * 4096 + offOf a, none⟩) L (4096 - a), .slice p L c]).run Try.prog w = .ok (.int .i64 (L : Int)) w2) ∧
      CellsAt B F E w2 r g pf tg vP { R with P := putAt R.P (n * 4096 + a) b } ∧ Turns B E w w2 := by
  obtain ⟨hgp, h3⟩ := h.rows hn
  have hl := hb.len
  have hpl : n * 4096 + a + L ≤ R.P.length := by have := plc_le (s := L) hn has; have := h.len; omega
  have ho : offOf a ≤ a := by unfold offOf; split <;> omega
  have hlo := h.lo
  refine ⟨w.setRow g (bv (putAt R.P (n * 4096 + a) b)).toArray, fun ty => ?_, h.setP (by omega) (length_putAt (by omega)) (putAt_byte h.byte hb.byte), (Turns.refl B E w).setRow (by omega) (by omega) _⟩
  have h4 := copy_row (o := n * 4096 + offOf a) (cap := 4096 - a) hgp (by rw [hl]; omega) hb.src ty
  rw [h4]
  by_cases ha : a = 4096
  · have hb0 : b = [] := List.eq_nil_of_length_eq_zero (by omega)
    rw [hb0, putAt_nil, putAt_nil]
  · have e0 : offOf a = a := by simp [offOf, ha]
    rw [e0]
theorem ByAt.turns {B E L c : Nat} {w w' : World} {p : Option Addr} {b : List Nat} (h : ByAt w p L c b) (ap : Apart B E (.slice p L c) b) (ht : Turns B E w w') : ByAt w' p L c b := ⟨src_turns h.src ap ht, h.max, h.cap, h.byte⟩
/-- What reads outside of a RAM's blocks reads outside of what own answers. -/
theorem Owns.source {B E B1 F E1 r g L c : Nat} {w w1 : World} {p q pf : Option Addr} {tg : TypeId} {vP : Value} {R : RS} {b : List Nat} (h : Owns B E w p R w1 B1 F E1 r g pf tg vP) (hs : ByAt w q L c b) (ap : Apart B E (.slice q L c) b) : Apart B1 E1 (.slice q L c) b := by
  intro ad m c' e hb
  cases e
  have hL : 0 < L := by
    have := hs.len
    rcases Nat.eq_zero_or_pos L with h0 | h0
    · exact absurd (List.eq_nil_of_length_eq_zero (by omega)) hb
    · exact h0
  obtain ⟨gq, o, e, hq, _⟩ := hs.at hL
  cases e
  exact h.apart _ hq (ap _ _ _ rfl hb)
set_option maxHeartbeats 1000000 in
theorem wWrite {B E : Nat} {p : Option Addr} {R : RS} {q : Option Addr} {L c : Nat} {b : List Nat} (n a : Int) (w : World) (h : RamP B E w p R) (hs : ByAt w q L c b) (ap : Apart B E (.slice q L c) b) :
    Calls Try.prog 25 #[.pointer p, .int .i64 n, .int .i64 a, .slice q L c] w fun e w' => e = .returned (.bool (R.may n a L)) ∧ RamP B E w' p (R.wr n a b) ∧ Turns B E w w' := by
  have hL := hs.short
  unfold maxLen at hL
  have hl := hs.len
  have HP : Hid (RamP B E w p R) := h
  have HS : Hid (ByAt w q L c b) := hs
  have HA : Hid (Apart B E (.slice q L c) b) := ap
  cases hb : R.may n a L with
  | false =>
    rw [RS.wr_may_no (by rw [hl]; exact hb)]
    have HB : Hid (thB R.O n a L = false) := hb
    have hcg := fun (w : World) (ty : TypeId) => copy_gone (w := w) (a := q) (L := L) (c := c) ty
    clear hb h hs ap hl
    go_enter Try.func25, Try.ntmps25
    go_wp2_with fail
    refine (own_any _ HP.out).mono ?_
    rintro e w1 ⟨B1, F, E1, r, g, pf, tg, vP, rfl, how⟩
    have HO : Hid (Owns B E w p R w1 B1 F E1 r g pf tg vP) := how
    clear how
    go_wp2_with fail
    refine (touch_no n a L w1 HO.out.at_ (by omega) (by omega) HB.out).mono ?_
    rintro e w' ⟨rfl, rfl⟩
    go_wp2
    go_ret
    exact ⟨rfl, HP.out.below HO.out.bel, Turns.of_below HO.out.bel⟩
  | true =>
    have hb' : thB R.O n a L = true := hb
    obtain ⟨n, a, s, rfl, rfl, hs', hn, h0, has⟩ := th_of hb'
    obtain rfl : L = s := by omega
    have HW : Hid (R.wr n a b = { R with x := wrap64 (R.x + 1), P := putAt R.P (n * 4096 + a) b }) := by show _ = _; rw [RS.wr_may_yes (by rw [hl]; exact hb), plc_nat]
    rw [h.good.len] at hn
    clear hb h hs ap hl hs' hb'
    go_enter Try.func25, Try.ntmps25
    go_wp2_with fail
    refine (own_any _ HP.out).mono ?_
    rintro e w1 ⟨B1, F, E1, r, g, pf, tg, vP, rfl, how⟩
    have HO : Hid (Owns B E w p R w1 B1 F E1 r g pf tg vP) := how
    clear how
    go_wp2_with fail
    refine (touch_yes n a L w1 HO.out.at_ hn h0 has).mono ?_
    rintro e w2 ⟨rfl, he⟩
    obtain ⟨hh, ht⟩ := HO.out.at_.touched
    rw [← he] at hh ht
    have hb2 : ByAt w2 q L c b := (HS.out.later HO.out.bel).turns (HO.out.source HS.out HA.out) ht
    obtain ⟨w3, hrun, hp3, ht3⟩ := hh.copied (L := L) (c := c) hn has hb2
    have HF : Hid (RamP B E w3 p (R.wr n a b)) := by rw [HW.out]; exact HO.out.back _ _ hp3 rfl (fun e => absurd hn (by omega))
    have HT3 : Hid (Turns B E w w3) := HO.out.turn _ (ht.trans ht3)
    clear he hh ht hb2 hp3 ht3
    go_wp2
    go_ret
    exact ⟨rfl, HF.out, HT3.out⟩
theorem wOwner {B E : Nat} {p : Option Addr} {R : RS} (n : Int) (w : World) (h : RamP B E w p R) :
    Calls Try.prog 64 #[.pointer p, .int .i64 n] w fun e w' => e = .returned (.int .i64 (R.own n)) ∧ Below w.heap.size w w' := by
  have HP : Hid (RamP B E w p R) := h
  clear h
  unfold RS.own
  go_enter Try.func64, Try.ntmps64
  go_wp2_with fail
  refine (own_any _ HP.out).mono ?_
  rintro e w1 ⟨B1, F, E1, r, g, pf, tg, vP, rfl, how⟩
  have c0 := how.at_.c0
  have HO : Hid (Owns B E w p R w1 B1 F E1 r g pf tg vP) := how
  clear how
  go_wp2_with fail
  refine (fOwner_any n w1 HO.out.at_.fr).mono ?_
  rintro e w' ⟨rfl, rfl⟩
  go_wp2
  go_ret
  exact ⟨rfl, HO.out.bel⟩
end Go.Proofs.Ytjgkhckcoknnfaa
/- Pieces of an object's bytes: plain facts. -/
namespace Go.Proofs.Ytjgkhckcoknnfaa
open Go.RowKit

/-- A piece: which frame, from where on, how many. -/
structure Pz where
  f : Nat
  a : Nat
  l : Nat
/-- How many bytes from s to e lie in the frame of the first. -/
def pzL (s e : Nat) : Nat := min (e - s) (4096 - s % 4096)
def pzAt (s e : Nat) : Pz := ⟨s / 4096, s % 4096, pzL s e⟩
/-- Where the frame of a byte ends. -/
def pzM (a : Nat) : Nat := (a / 4096 + 1) * 4096
/-- The pieces of the bytes from a to e: two at most. -/
def pcsZ (a e : Nat) : List Pz := if e ≤ a then [] else if e ≤ pzM a then [⟨a / 4096, a % 4096, e - a⟩] else [⟨a / 4096, a % 4096, pzM a - a⟩, ⟨a / 4096 + 1, 0, e - pzM a⟩]
theorem pcs_none {a e : Nat} (h : e ≤ a) : pcsZ a e = [] := if_pos h
theorem pcs_one {a e : Nat} (h : a < e) (h1 : e ≤ pzM a) : pcsZ a e = [⟨a / 4096, a % 4096, e - a⟩] := by rw [pcsZ, if_neg (by omega), if_pos h1]
theorem pcs_two {a e : Nat} (h1 : pzM a < e) : pcsZ a e = [⟨a / 4096, a % 4096, pzM a - a⟩, ⟨a / 4096 + 1, 0, e - pzM a⟩] := by
  have : a < pzM a := by unfold pzM; omega
  rw [pcsZ, if_neg (by omega), if_neg (by omega)]
theorem pcs_len (a e : Nat) : (pcsZ a e).length ≤ 2 := by
  unfold pcsZ
  split
  · simp
  · split <;> simp
theorem pzL_pos {s e : Nat} (h : s < e) : 0 < pzL s e ∧ s + pzL s e ≤ e ∧ pzL s e ≤ 4096 ∧ (s + pzL s e = e ∨ (s + pzL s e) % 4096 = 0) ∧ s % 4096 + pzL s e ≤ 4096 := by unfold pzL; omega
theorem pcs_told {a s e : Nat} (h : e ≤ a + 4096) (h1 : a ≤ s) (h2 : s < e) (h3 : s = a ∨ s % 4096 = 0) : pcsZ a (s + pzL s e) = pcsZ a s ++ [pzAt s e] := by
  have hm : pzM a = (a / 4096 + 1) * 4096 := rfl
  have hl := pzL_pos h2
  by_cases hs : s = a
  · subst hs
    have h5 : pzL s e = min (e - s) (4096 - s % 4096) := rfl
    rw [pcs_none (Nat.le_refl _), pcs_one (by omega) (by omega), Nat.add_sub_cancel_left]
    rfl
  · have h4 : s = pzM a := by omega
    have h5 : pzL s e = min (e - s) (4096 - s % 4096) := rfl
    have h6 : s / 4096 = a / 4096 + 1 := by omega
    have h7 : s % 4096 = 0 := by omega
    rw [pcs_two (a := a) (e := s + pzL s e) (by omega), pcs_one (a := a) (e := s) (by omega) (by omega), pzAt, h6, h7, show s + pzL s e - pzM a = pzL s e by omega, ← h4]
    rfl
/-- One byte more: in a frame of which no byte is there yet, or in the last piece's. -/
theorem pcs_new {a t : Nat} (h2 : t < a + 4096) (h : t = a ∨ t = pzM a) : pcsZ a (t + 1) = pcsZ a t ++ [⟨t / 4096, t % 4096, 1⟩] := by
  have hm : pzM a = (a / 4096 + 1) * 4096 := rfl
  rcases h with rfl | h
  · rw [pcs_none (Nat.le_refl _), pcs_one (by omega) (by omega), Nat.add_sub_cancel_left]
    rfl
  · have h6 : t / 4096 = a / 4096 + 1 := by omega
    have h7 : t % 4096 = 0 := by omega
    rw [pcs_two (a := a) (e := t + 1) (by omega), pcs_one (a := a) (e := t) (by omega) (by omega), h6, h7, show t + 1 - pzM a = 1 by omega, ← h]
    rfl
theorem pcs_more {a t : Nat} (h1 : a < t) (h2 : t < a + 4096) (h : t ≠ pzM a) : ∃ (pre : List Pz) (x l : Nat), pcsZ a t = pre ++ [⟨t / 4096, x, l⟩] ∧ pcsZ a (t + 1) = pre ++ [⟨t / 4096, x, l + 1⟩] := by
  have hm : pzM a = (a / 4096 + 1) * 4096 := rfl
  by_cases h3 : t < pzM a
  · have h6 : t / 4096 = a / 4096 := by omega
    refine ⟨[], a % 4096, t - a, ?_, ?_⟩
    · rw [pcs_one h1 (by omega), h6]
      rfl
    · rw [pcs_one (by omega) (by omega), h6, show t + 1 - a = t - a + 1 by omega]
      rfl
  · have h6 : t / 4096 = a / 4096 + 1 := by omega
    refine ⟨[⟨a / 4096, a % 4096, pzM a - a⟩], 0, t - pzM a, ?_, ?_⟩
    · rw [pcs_two (by omega), h6]
      rfl
    · rw [pcs_two (by omega), h6, show t + 1 - pzM a = t - pzM a + 1 by omega]
      rfl
/-- Where a new frame begins the last piece lies in another one. -/
theorem pcs_turn {a t : Nat} (h1 : a < t) (h : t = pzM a) : pcsZ a t = [⟨a / 4096, a % 4096, t - a⟩] ∧ a / 4096 ≠ t / 4096 := by
  have hm : pzM a = (a / 4096 + 1) * 4096 := rfl
  exact ⟨pcs_one h1 (by omega), by omega⟩
/-- All pieces lie in their frames. -/
theorem pcs_in {a e : Nat} (he : e ≤ a + 4096) : ∀ p ∈ pcsZ a e, p.a + p.l ≤ 4096 ∧ p.f * 4096 + p.a + p.l ≤ e ∧ a ≤ p.f * 4096 + p.a := by
  intro p hp
  have hm : pzM a = (a / 4096 + 1) * 4096 := rfl
  unfold pcsZ at hp
  split at hp
  · simp at hp
  · split at hp
    · obtain rfl : p = _ := by simpa using hp
      refine ⟨?_, ?_, ?_⟩ <;> simp only <;> omega
    · rcases (by simpa using hp : p = _ ∨ p = _) with rfl | rfl <;> refine ⟨?_, ?_, ?_⟩ <;> simp only <;> omega

def pzC (p : Pz) : List Value := [.int .i64 (p.f : Nat), .int .i64 (p.a : Nat), .int .i64 (p.l : Nat)]
def rowZ (T : List Pz) : List Value := T.flatMap pzC
theorem rowZ_len : ∀ T : List Pz, (rowZ T).length = T.length * 3
  | [] => rfl
  | x :: T => by
    have := rowZ_len T
    unfold rowZ at this ⊢
    rw [List.flatMap_cons, List.length_append, this]
    simp [pzC]
    omega
theorem rowZ_snoc (T : List Pz) (x : Pz) : rowZ (T ++ [x]) = rowZ T ++ pzC x := by simp [rowZ]
theorem rowZ_at : ∀ (T : List Pz) (i j : Nat), i < T.length → j < 3 → (rowZ T)[i * 3 + j]? = (pzC (T.getD i ⟨0, 0, 0⟩))[j]?
  | [], i, j, h, hj => by simp at h
  | x :: T, 0, j, h, hj => by
    show (pzC x ++ rowZ T)[0 * 3 + j]? = _
    rw [List.getElem?_append_left (by simp [pzC]; omega)]
    simp
  | x :: T, i + 1, j, h, hj => by
    show (pzC x ++ rowZ T)[(i + 1) * 3 + j]? = _
    have e : (pzC x).length = 3 := rfl
    rw [List.getElem?_append_right (by omega), e, show (i + 1) * 3 + j - 3 = i * 3 + j by omega, rowZ_at T i j (by simpa using h) hj]
    simp
theorem pzC_one (x : Pz) : ∀ u ∈ pzC x, u.oneCell' = true := by
  intro u hu
  simp only [pzC, List.mem_cons, List.not_mem_nil, or_false] at hu
  rcases hu with rfl | rfl | rfl <;> rfl

/-- May an object be, and its bytes? -/
def ObjZ (S N : Int) : Prop := 64 ≤ S ∧ S ≤ 4096 ∧ S % 64 = 0 ∧ 0 ≤ N ∧ N ≤ 255
def MayZ (S N F M : Int) : Prop := ObjZ S N ∧ 0 ≤ F ∧ 0 ≤ M ∧ F + M ≤ S
/-- From where to where its bytes are told; nowhere, if they may not be. -/
def Zae (S N F M : Int) (a e : Nat) : Prop := (MayZ S N F M ∧ (a : Int) = N * S + F ∧ (e : Int) = N * S + F + M) ∨ (¬ MayZ S N F M ∧ a = 0 ∧ e = 0)
theorem Zae.is (S N F M : Int) : ∃ a e, Zae S N F M a e := by
  by_cases h : MayZ S N F M
  · have hp : 0 ≤ N * S := Int.mul_nonneg h.1.2.2.2.1 (by have := h.1.1; omega)
    obtain ⟨h1, h2, h3, h4⟩ := h
    exact ⟨(N * S + F).toNat, (N * S + F + M).toNat, .inl ⟨⟨h1, h2, h3, h4⟩, by omega, by omega⟩⟩
  · exact ⟨0, 0, .inr ⟨h, rfl, rfl⟩⟩
theorem Zae.le {S N F M : Int} {a e : Nat} (h : Zae S N F M a e) : a ≤ e ∧ e ≤ a + 4096 ∧ e ≤ 1048576 := by
  rcases h with ⟨⟨⟨h1, h2, h3, h4, h5⟩, h6, h7, h8⟩, h9, h10⟩ | ⟨_, rfl, rfl⟩
  · have hp : N * S ≤ 255 * 4096 := Int.mul_le_mul h5 h2 (by omega) (by omega)
    omega
  · omega
end Go.Proofs.Ytjgkhckcoknnfaa
/- Loops over a function: what a round keeps, what is told to it, and one law for the statement: general. -/
namespace Go.Proofs.Ytjgkhckcoknnfaa
open Go.RowKit

/-- The blocks of K lie as they lay; no block has gone. -/
structure Keeps (K : Nat → Prop) (w w' : World) : Prop where
  os : w'.os = w.os
  tape : w'.tape = w.tape
  output : w'.output = w.output
  size : w.heap.size ≤ w'.heap.size
  block : ∀ k, k < w.heap.size → K k → w'.heap[k]? = w.heap[k]?
section
variable {K K' : Nat → Prop} {a b c : World}
theorem Keeps.refl (K : Nat → Prop) (w : World) : Keeps K w w := ⟨rfl, rfl, rfl, Nat.le_refl _, fun _ _ _ => rfl⟩
theorem Keeps.trans (h : Keeps K a b) (k : Keeps K b c) : Keeps K a c :=
  ⟨k.os.trans h.os, k.tape.trans h.tape, k.output.trans h.output, Nat.le_trans h.size k.size, fun i hi hk => (k.block i (Nat.lt_of_lt_of_le hi h.size) hk).trans (h.block i hi hk)⟩
theorem Keeps.mono (h : Keeps K a b) (hk : ∀ k, k < a.heap.size → K' k → K k) : Keeps K' a b := ⟨h.os, h.tape, h.output, h.size, fun k h1 h2 => h.block k h1 (hk k h1 h2)⟩
theorem keeps_below {B : Nat} (h : Below B a b) (hk : ∀ k, k < a.heap.size → K k → k < B) : Keeps K a b := ⟨h.os, h.tape, h.output, h.size, fun k h1 h2 => h.block k (hk k h1 h2)⟩
theorem keeps_all (h : Below a.heap.size a b) : Keeps K a b := keeps_below h fun _ h1 _ => h1
theorem keeps_grown {row : Option Nat} (hg : a.grownBy b row) (hk : ∀ k, row = some k → ¬ K k) : Keeps K a b :=
  ⟨hg.os, hg.tape, hg.output, hg.size, fun k h1 h2 => hg.block k h1 fun e => hk k e.symm h2⟩
theorem Keeps.below {B : Nat} (h : Keeps K a b) (hB : ∀ k, k < B → K k) (hs : B ≤ a.heap.size) : Below B a b :=
  ⟨h.os, h.tape, h.output, h.size, fun k hk => h.block k (by omega) (hB k hk)⟩
theorem Keeps.cell (h : Keeps K a b) {p : Addr} (hp : p.block < a.heap.size) (hk : K p.block) : b.cell? p = a.cell? p := World.cell?_of_block (h.block _ hp hk)
theorem Keeps.frozen (h : Keeps K a b) {p : Addr} (hp : p.block < a.heap.size) (hk : K p.block) : b.frozen? p = a.frozen? p := World.frozen?_of_block (h.block _ hp hk)
theorem Keeps.at (h : Keeps K a b) {k : Nat} {o : Obj} (ho : a.heap[k]? = some o) (hk : K k) : b.heap[k]? = some o := (h.block k (Array.getElem?_eq_some_iff.1 ho).1 hk).trans ho
theorem Keeps.row (h : Keeps K a b) {base size n : Nat} {e : TypeId} {v : Value} {xs : List Value} (hr : a.ownsRow base e size v n xs) (hk : ∀ g, v.ownBlock = some g → K g) : b.ownsRow base e size v n xs := by
  obtain ⟨h1, h2 | ⟨g, cap, cur, rfl, h3, h4, h5⟩⟩ := hr
  · exact ⟨h1, .inl h2⟩
  · exact ⟨h1, .inr ⟨g, cap, cur, rfl, h3, h.at h4 (hk g rfl), h5⟩⟩
end

/-- It abides whatever turns in M, and what is new. -/
def Abides {σ : Type} (J : σ → (Nat → Prop) → World → Prop) : Prop :=
  ∀ s M M' W W', J s M W → Keeps (fun k => ¬ M k) W W' → (∀ k, M' k → M k ∨ (W.heap.size ≤ k ∧ k < W'.heap.size)) → J s M' W'
/-- A round, wherever J holds, for all that may be told there: it goes on, or says no more; what the iterator reads stays. -/
def Rounds {σ α : Type} (P : Program) (l : Nat) (encs : α → Array Value) (K0 : Nat → Prop) (Tell : σ → α → World → Prop) (next : σ → α → σ) (J Jx : σ → (Nat → Prop) → World → Prop) : Prop :=
  ∀ (m : Nat) (s : σ) (M : Nat → Prop) (x : α) (W : World), J s M W → Tell s x W → (∀ k, M k → k < W.heap.size) → YieldAt Fence.wide m P l (encs x) W fun e W' =>
    Keeps (fun k => K0 k ∨ M k) W W' ∧ ((e = .returned (.bool true) ∧ J (next s x) M W') ∨ (e = .returned (.bool false) ∧ Jx (next s x) M W'))
/-- All was told, or a round said no more. -/
def Over {σ : Type} (Done Stop : σ → Prop) (J Jx : σ → (Nat → Prop) → World → Prop) (W' : World) : Prop := (∃ s M, Done s ∧ J s M W') ∨ (∃ s M, Stop s ∧ Jx s M W')
/-- What a function tells to a round, from w on. -/
def Iterates {σ α : Type} (P : Program) (gf : FuncId) (lb : Array Value) (encs : α → Array Value) (K0 : Nat → Prop) (Tell : σ → α → World → Prop) (next : σ → α → σ) (s0 : σ) (Done Stop : σ → Prop) (w : World) : Prop :=
  ∀ (l : Nat) (J Jx : σ → (Nat → Prop) → World → Prop), Abides J → Abides Jx → Rounds P l encs K0 Tell next J Jx → ∀ W, Below w.heap.size w W → J s0 (fun _ => False) W →
    Calls P gf (#[.func (.yield l) #[] #[]] ++ lb) W fun e W' => (∃ v, e = .returned v) ∧ Over Done Stop J Jx W'
/-- How a round's body may end. -/
def roundEnd {σ : Type} (K0 : Nat → Prop) (I Ix : σ → (Nat → Prop) → World → Prop) (s : σ) (M : Nat → Prop) (W : World) : Exit → Act → World → Prop
  | .normal, _, W' => Keeps (fun k => K0 k ∨ M k) W W' ∧ I s M W'
  | .ret, _, W' => Keeps (fun k => K0 k ∨ M k) W W' ∧ Ix s M W'
  | _, _, _ => False
theorem keeps_put (W : World) (l : Nat) (o : Obj) : Keeps (fun k => k ≠ l) W (W.putObj l o) := keeps_grown (grownBy_putObj' W l o) fun k e => by cases e; simp

theorem range_wp {σ α : Type} {P : Program} {n : Nat} {g : Operand} {ps : Array Tmp} {assign body : Code} {Q : Exit → Act → World → Prop} {a : Act} {w : World}
    {gf : FuncId} {lb : Array Value} (hg : a.eval g = .func (.func gf) #[] lb) (eg : ∀ args w, (callFunc gf args).run P w = .ok (.enter gf args) w)
    {encs : α → Array Value} {K0 : Nat → Prop} {Tell : σ → α → World → Prop} {next : σ → α → σ} {s0 : σ} {Done Stop : σ → Prop} (hseq : Iterates P gf lb encs K0 Tell next s0 Done Stop w)
    (hK0 : ∀ k, K0 k → k < w.heap.size) (hps : ∀ x, (encs x).size = ps.size) (I Ix : σ → (Nat → Prop) → World → Prop) (hI : Abides I) (hIx : Abides Ix) (h0 : I s0 (fun _ => False) w)
    (Ax : α → World → Act → World → Prop)
    (hassign : ∀ (m l : Nat) (x : α) (W : World) (K : Act → World → Prop), (∀ a1 W1, Below W.heap.size W W1 → Ax x W a1 W1 → K a1 W1) →
      assign.wpIn (Fence.wide.inRound l) m P (Exit.then K (fun _ _ _ => False)) { tmps := (ps.zip (encs x)).foldl (fun t (p, v) => t.setIfInBounds p v) a.tmps, defers := [] } W)
    (hbody : ∀ (m l : Nat) (s : σ) (M : Nat → Prop) (x : α) (W : World) (a1 : Act) (W1 W2 : World), I s M W → Tell s x W → M l → w.heap.size ≤ l → (∀ k, M k → k < W.heap.size) → Below W.heap.size W W1 → Ax x W a1 W1 → (∃ r : Loop, W1.heap[l]? = some (.loop r)) →
      Keeps (fun k => k ≠ l) W1 W2 → W2.heap.size = W1.heap.size → body.wpIn (Fence.wide.inRound l) m P (roundEnd K0 I Ix (next s x) M W2) a1 W2)
    (hdone : ∀ (D : Nat) (s : σ) (M : Nat → Prop) (W : World), w.heap.size ≤ D → Done s → M D → I s M W → W.heap[D]? = some (.deferred (some [])) → Q .normal { a with defers := { target := .collected D, args := #[] } :: a.defers } W)
    (hstop : ∀ (D : Nat) (s : σ) (M : Nat → Prop) (W : World), w.heap.size ≤ D → Stop s → M D → Ix s M W → W.heap[D]? = some (.deferred (some [])) → Code.ret.wpIn Fence.wide n P Q { a with defers := { target := .collected D, args := #[] } :: a.defers } W) :
    (Code.rangeFunc g ps assign body).wpIn Fence.wide n P Q a w := by
  refine wpIn_rangeFunc fun fn _ => ?_
  generalize hD : w.heap.size = D
  obtain ⟨rec, hrec⟩ : ∃ rec : LoopState → Option Code → Loop, rec = fun st pe => { state := st, pending := pe, fn, tmps := a.tmps, params := ps, assign, body, defers := D } := ⟨_, rfl⟩
  obtain ⟨W1, hW1⟩ : ∃ W1, (w.alloc (.deferred (some []))).alloc (.loop (rec .ready none)) = W1 := ⟨_, rfl⟩
  have hb1 : Below w.heap.size w W1 := by rw [← hW1]; exact ((Below.refl _ w).alloc (Nat.le_refl _) _).alloc (by simp) _
  have hs1 : W1.heap.size = D + 2 := by rw [← hW1]; simp [hD]
  have hl1 : W1.heap[D + 1]? = some (.loop (rec .ready none)) := by
    have := World.alloc_heap_new (w.alloc (.deferred (some []))) (.loop (rec .ready none))
    rw [World.size_alloc, hD] at this
    rw [← hW1]; exact this
  have hk1 : W1.heap[D]? = some (.deferred (some [])) := by
    rw [← hW1, ← hD]; exact (Below.heap_alloc _ _ _ (by simp)).trans (World.alloc_heap_new w _)
  obtain ⟨Mp, hMp⟩ : ∃ Mp : (Nat → Prop) → Nat → Prop, Mp = fun M k => M k ∨ k = D + 1 ∨ k = D := ⟨_, rfl⟩
  have hJA : ∀ (X : σ → (Nat → Prop) → World → Prop) (st : LoopState) (pe : Option Code), Abides X →
      Abides (fun s M W => X s (Mp M) W ∧ W.heap[D + 1]? = some (.loop (rec st pe)) ∧ W.heap[D]? = some (.deferred (some [])) ∧ ¬ M (D + 1) ∧ ¬ M D) := by
    rintro X st pe hX s M M' W W' ⟨h1, h2, h3, h4, h5⟩ hk hM
    have e1 := (Array.getElem?_eq_some_iff.1 h2).1
    refine ⟨hX s (Mp M) (Mp M') W W' h1 (hk.mono fun k _ h6 h7 => h6 (by rw [hMp]; exact .inl h7)) fun k h6 => ?_, hk.at h2 h4, hk.at h3 h5, fun h6 => ?_, fun h6 => ?_⟩
    · rw [hMp] at h6 ⊢
      rcases h6 with h6 | h6
      · rcases hM k h6 with h7 | h7
        · exact .inl (.inl h7)
        · exact .inr h7
      · exact .inl (.inr h6)
    · rcases hM _ h6 with h7 | h7
      · exact h4 h7
      · omega
    · rcases hM _ h6 with h7 | h7
      · exact h5 h7
      · omega
  refine ⟨D + 1, [{ target := .collected D, args := #[] }], W1, { target := .fn (.func gf) lb, args := #[.func (.yield (D + 1)) #[] #[]] }, W1, gf, #[.func (.yield (D + 1)) #[] #[]] ++ lb, W1, ?_, ?_, ?_, ?_, fun h => (by cases h), ?_⟩
  · subst hD
    rw [← hW1, hrec]; exact run_enterLoop_outer _ _ _ _ _
  · simp only [resolve, hg]
    simp [go_sem]
  · intro f' _; trivial
  · simp [invoke, go_sem, eg]
  · refine callsIn_wide.2 ((hseq (D + 1)
      (fun s M W => I s (Mp M) W ∧ W.heap[D + 1]? = some (.loop (rec .ready none)) ∧ W.heap[D]? = some (.deferred (some [])) ∧ ¬ M (D + 1) ∧ ¬ M D)
      (fun s M W => Ix s (Mp M) W ∧ W.heap[D + 1]? = some (.loop (rec .done (some .ret))) ∧ W.heap[D]? = some (.deferred (some [])) ∧ ¬ M (D + 1) ∧ ¬ M D)
      (hJA I _ _ hI) (hJA Ix _ _ hIx) ?_ W1 hb1 ⟨?_, hl1, hk1, id, id⟩).mono ?_)
    · rintro m s M x W ⟨hi, hl, hk, n1, n2⟩ ht hM
      have hlt := (Array.getElem?_eq_some_iff.1 hl).1
      have hy := run_yield (P := P) (args := encs x) hl (by rw [hrec]; exact hps x)
      rw [hrec] at hy
      refine ⟨fn, _, assign, body, hy, roundIn_of_wpIn trivial (hassign m (D + 1) x W _ fun a1 W2 hb2 hax => ?_)⟩
      have hl2 : W2.heap[D + 1]? = some (.loop (rec .ready none)) := (hb2.block _ hlt).trans hl
      have hlt2 := (Array.getElem?_eq_some_iff.1 hl2).1
      refine ⟨_, run_beginRound hl2 (by rw [hrec]), ?_⟩
      have hl3 : (W2.putObj (D + 1) (.loop { rec .ready none with state := .busy })).heap[D + 1]? = some (.loop { rec .ready none with state := .busy }) := World.putObj_heap_same hlt2
      have hk3 : (W2.putObj (D + 1) (.loop { rec .ready none with state := .busy })).heap[D]? = some (.deferred (some [])) := (World.putObj_heap_other (by omega)).trans ((hb2.block _ (by omega)).trans hk)
      have hp3 := keeps_put W2 (D + 1) (.loop { rec .ready none with state := .busy })
      have hs3 : (W2.putObj (D + 1) (.loop { rec .ready none with state := .busy })).heap.size = W2.heap.size := World.putObj_size
      generalize W2.putObj (D + 1) (.loop { rec .ready none with state := .busy }) = W3 at *
      have hMl : Mp M (D + 1) := by rw [hMp]; exact .inr (.inl rfl)
      have hMd : Mp M D := by rw [hMp]; exact .inr (.inr rfl)
      have hMlt : ∀ k, Mp M k → k < W.heap.size := by
        intro k hk4
        rw [hMp] at hk4
        rcases hk4 with h1 | h1 | h1
        · exact hM k h1
        · omega
        · omega
      refine wpIn_mono (hbody m (D + 1) s (Mp M) x W a1 W2 W3 hi ht hMl (by omega) hMlt hb2 hax ⟨_, hl2⟩ hp3 hs3) ?_
      have fin : ∀ (X : σ → (Nat → Prop) → World → Prop) (jump : Option Code) (W4 : World), Abides X → Keeps (fun k => K0 k ∨ Mp M k) W3 W4 → X (next s x) (Mp M) W4 →
          ∃ W5, (Instr.endRound (D + 1) jump).run P W4 = .ok (.bool jump.isNone) W5 ∧ Keeps (fun k => K0 k ∨ M k) W W5 ∧ X (next s x) (Mp M) W5 ∧
            W5.heap[D + 1]? = some (.loop (rec (if jump.isNone then .ready else .done) jump)) ∧ W5.heap[D]? = some (.deferred (some [])) := by
        intro X jump W4 hX hk4 hx4
        have hl4 : W4.heap[D + 1]? = some (.loop { rec .ready none with state := .busy }) := hk4.at hl3 (.inr hMl)
        have hd4 : W4.heap[D]? = some (.deferred (some [])) := hk4.at hk3 (.inr hMd)
        have hend := run_endRound (P := P) jump hl4
        have hp4 := keeps_put W4 (D + 1) (.loop { ({ rec .ready none with state := .busy } : Loop) with state := if jump.isNone then .ready else .done, pending := jump })
        refine ⟨_, hend, ?_, hX _ _ _ _ _ hx4 (hp4.mono fun k _ h1 h2 => h1 (h2 ▸ hMl)) (fun k h1 => .inl h1), ?_, (World.putObj_heap_other (by omega)).trans hd4⟩
        · have hne : ∀ k, K0 k ∨ M k → k ≠ D + 1 := by
            rintro k (h1 | h1) rfl
            · have := hK0 _ h1; omega
            · exact n1 h1
          refine (keeps_all hb2).trans ((hp3.mono fun k _ => hne k).trans ((hk4.mono fun k _ h1 => ?_).trans (hp4.mono fun k _ => hne k)))
          rcases h1 with h1 | h1
          · exact .inl h1
          · exact .inr (by rw [hMp]; exact .inl h1)
        · rw [World.putObj_heap_same (Array.getElem?_eq_some_iff.1 hl4).1, hrec]
      rintro e a3 W4 hp
      cases e with
      | normal =>
        obtain ⟨hk4, hi4⟩ := hp
        obtain ⟨W5, h1, h2, h3, h4, h5⟩ := fin I none W4 hI hk4 hi4
        exact ⟨_, W5, h1, h2, .inl ⟨rfl, h3, h4, h5, n1, n2⟩⟩
      | ret =>
        obtain ⟨hk4, hi4⟩ := hp
        obtain ⟨W5, h1, h2, h3, h4, h5⟩ := fin Ix (some .ret) W4 hIx hk4 hi4
        exact ⟨_, W5, h1, h2, .inr ⟨rfl, h3, h4, h5, n1, n2⟩⟩
      | exit id => exact hp.elim
      | goto t => exact hp.elim
      | panic ch => exact hp.elim
      | outgrown => exact hp.elim
    · refine hI s0 _ _ w W1 h0 (keeps_all hb1) fun k hk => ?_
      rw [hMp] at hk
      rcases hk with h1 | h1 | h1
      · exact h1.elim
      · exact .inr (by omega)
      · exact .inr (by omega)
    · have fin : ∀ (X : σ → (Nat → Prop) → World → Prop) (st : LoopState) (pe : Option Code) (s : σ) (M : Nat → Prop) (W : World), Abides X → X s (Mp M) W → W.heap[D + 1]? = some (.loop (rec st pe)) → st ≠ .busy → W.heap[D]? = some (.deferred (some [])) →
          ∃ W5, (Instr.endLoop (D + 1)).run P W = .ok pe W5 ∧ X s (Mp M) W5 ∧ W5.heap[D]? = some (.deferred (some [])) := by
        intro X st pe s M W hX hx hl hst hd
        have hend := run_endLoop (P := P) hl (by rw [hrec]; exact hst)
        have hpe : (rec st pe).pending = pe := by rw [hrec]
        rw [hpe] at hend
        refine ⟨_, hend, hX _ _ _ _ _ hx ((keeps_put _ _ _).mono fun k _ h1 h2 => h1 ?_) (fun k h1 => .inl h1), (World.putObj_heap_other (by omega)).trans hd⟩
        rw [hMp, h2]; exact .inr (.inl rfl)
      have hMd : ∀ M, Mp M D := fun M => by rw [hMp]; exact .inr (.inr rfl)
      rintro e W2 ⟨⟨v, rfl⟩, (⟨s, M, hS, hi, hl, hk, _, _⟩ | ⟨s, M, hS, hi, hl, hk, _, _⟩)⟩
      · obtain ⟨W5, h1, h2, h3⟩ := fin I _ _ s M W2 hI hi hl (by simp) hk
        exact ⟨none, W5, h1, hdone D s _ W5 (by omega) hS (hMd M) h2 h3⟩
      · obtain ⟨W5, h1, h2, h3⟩ := fin Ix _ _ s M W2 hIx hi hl (by simp) hk
        exact ⟨some .ret, W5, h1, hstop D s _ W5 (by omega) hS (hMd M) h2 h3⟩
theorem Abides.drew {σ : Type} {J : σ → (Nat → Prop) → World → Prop} (h : Abides J) {s : σ} {M : Nat → Prop} {W : World} (hs : J s M W) : J s M W.drew :=
  h s M M W W.drew hs ⟨rfl, rfl, rfl, Nat.le_refl _, fun _ _ _ => rfl⟩ fun _ h1 => .inl h1
theorem Abides.later {σ : Type} {J : σ → (Nat → Prop) → World → Prop} (h : Abides J) {s : σ} {M : Nat → Prop} {W W' : World} (hs : J s M W) (hb : Below W.heap.size W W') : J s M W' :=
  h s M M W W' hs (keeps_all hb) fun _ h1 => .inl h1
end Go.Proofs.Ytjgkhckcoknnfaa
/- Bytes that lie where nothing turned: general. -/
namespace Go.Proofs.Ytjgkhckcoknnfaa
open Go.RowKit
section
variable {K : Nat → Prop} {a b : World}
theorem Keeps.by (h : Keeps K a b) {p : Option Addr} {L cp : Nat} {x : List Nat} (hb : ByAt a p L cp x) (hk : ∀ g o, p = some ⟨g, o, none⟩ → 0 < L → K g) : ByAt b p L cp x := by
  refine ⟨?_, hb.max, hb.cap, hb.byte⟩
  rcases Nat.eq_zero_or_pos L with rfl | h0
  · have hx : x = [] := List.eq_nil_of_length_eq_zero hb.len
    subst hx
    rcases hb.src with h1 | ⟨ad, c', e, h2, _⟩
    · exact .inl h1
    · exact .inr ⟨ad, c', e, h2, fun j u hj => by simp [bv] at hj⟩
  · obtain ⟨g, o, rfl, hg, hc⟩ := hb.at h0
    have hg2 : g < b.heap.size := Nat.lt_of_lt_of_le hg h.size
    refine src_cell hb.len hg2 fun j hj => ?_
    exact (h.cell (p := ⟨g, o + j, none⟩) hg (hk g o rfl h0)).trans (hc j hj)
end

/-- Bytes lie in no loop's record. -/
theorem ByAt.apart {w : World} {p : Option Addr} {L c l : Nat} {x : List Nat} {r : Loop} (h : ByAt w p L c x) (hl : w.heap[l]? = some (.loop r)) : ∀ g o, p = some ⟨g, o, none⟩ → 0 < L → g ≠ l := by
  rintro g o rfl h0 rfl
  obtain ⟨g', o', e, _, hc⟩ := h.at h0
  cases e
  have := hc 0 h0
  simp [World.cell?, hl] at this
end Go.Proofs.Ytjgkhckcoknnfaa
/- A row of frames of a RAM and the pieces of an object in it: plain facts, the row in memory. -/
namespace Go.Proofs.Ytjgkhckcoknnfaa
open Go.RowKit

/-- Does a piece lie in a frame that the row has, and that isn't Free? -/
def isZ (R : RS) (L : List Int) (p : Pz) : Bool := decide (p.f < L.length) && decide (R.own (L.getD p.f 0) ≠ 0)
def fitZ (R : RS) (L : List Int) (T : List Pz) : Bool := T.all (isZ R L)
/-- May M bytes be read and written, whose pieces are those from a to e? -/
def areZ (R : RS) (L : List Int) (M : Int) (a e : Nat) : Bool := fitZ R L (pcsZ a e) && decide (M = (e : Int) - (a : Int))
/-- The bytes of pieces. -/
def gotZ (R : RS) (L : List Int) (T : List Pz) : List Nat := T.flatMap fun p => R.rd (L.getD p.f 0) p.a p.l
/-- Touched so often. -/
def toucZ (R : RS) : Nat → RS
  | 0 => R
  | k + 1 => (toucZ R k).touch true
/-- Bytes laid over pieces. -/
def putZ (L : List Int) : RS → List Pz → List Nat → RS
  | R, [], _ => R
  | R, p :: T, b => putZ L (R.wr (L.getD p.f 0) p.a (b.take p.l)) T (b.drop p.l)

theorem fit_snoc (R : RS) (L : List Int) (T : List Pz) (p : Pz) : fitZ R L (T ++ [p]) = (fitZ R L T && isZ R L p) := by simp [fitZ]
theorem got_snoc (R : RS) (L : List Int) (T : List Pz) (p : Pz) : gotZ R L (T ++ [p]) = gotZ R L T ++ R.rd (L.getD p.f 0) p.a p.l := by simp [gotZ]
theorem touc_O (R : RS) : ∀ k, (toucZ R k).O = R.O ∧ (toucZ R k).P = R.P ∧ (toucZ R k).S = R.S ∧ (toucZ R k).m = R.m
  | 0 => ⟨rfl, rfl, rfl, rfl⟩
  | k + 1 => touc_O R k
theorem touc_rd (R : RS) (k : Nat) (n a s : Int) : (toucZ R k).rd n a s = R.rd n a s := by
  obtain ⟨h1, h2, _⟩ := touc_O R k
  unfold RS.rd
  rw [h1, h2]
theorem touc_may (R : RS) (k : Nat) (n a s : Int) : (toucZ R k).may n a s = R.may n a s := by
  unfold RS.may
  rw [(touc_O R k).1]
theorem is_may {R : RS} {L : List Int} {p : Pz} (h : isZ R L p = true) (hp : p.a + p.l ≤ 4096) : R.may (L.getD p.f 0) p.a p.l = true := by
  unfold isZ RS.own at h
  rw [Bool.and_eq_true, decide_eq_true_eq, decide_eq_true_eq] at h
  exact decide_eq_true ⟨h.2, by omega, by omega, by omega⟩
theorem rd_len {R : RS} (hP : R.P.length = R.m * 4096) (hO : R.O.length = R.m) {n a s : Int} (h : R.may n a s = true) : (R.rd n a s).length = s.toNat := by
  obtain ⟨n, a, s, rfl, rfl, rfl, hn, h0, has⟩ := th_of h
  unfold RS.rd
  rw [rd_yes h, length_seg (by rw [hP]; exact plc_le (by omega) has)]
  rfl
theorem rd_byte {R : RS} (hP : ∀ x ∈ R.P, x < 256) (n a s : Int) : ∀ x ∈ R.rd n a s, x < 256 := by
  intro x hx
  unfold RS.rd rdL at hx
  split at hx
  · exact seg_byte hP x hx
  · cases hx
theorem got_byte {R : RS} (hP : ∀ x ∈ R.P, x < 256) (L : List Int) (T : List Pz) : ∀ x ∈ gotZ R L T, x < 256 := by
  intro x hx
  obtain ⟨p, _, hp⟩ := List.mem_flatMap.1 hx
  exact rd_byte hP _ _ _ x hp
theorem fit_told {R : RS} {L : List Int} {a s e : Nat} (h : fitZ R L (pcsZ a e) = true) (he : e ≤ a + 4096) (h1 : a ≤ s) (h2 : s < e) (h3 : s = a ∨ s % 4096 = 0) : isZ R L (pzAt s e) = true := by
  have hm : pzM a = (a / 4096 + 1) * 4096 := rfl
  have hl := pzL_pos h2
  by_cases h4 : s + pzL s e = e
  · have h5 := pcs_told he h1 h2 h3
    rw [h4] at h5
    rw [h5, fit_snoc, Bool.and_eq_true] at h
    exact h.2
  · -- the first of two
    have h5 := pcs_told he h1 h2 h3
    have h6 := pcs_told (s := s + pzL s e) (a := a) (e := e) he (by omega) (by omega) (by omega)
    have h7 := pzL_pos (s := s + pzL s e) (e := e) (by omega)
    have h8 : s + pzL s e + pzL (s + pzL s e) e = e := by omega
    rw [h8, h5] at h6
    rw [h6, fit_snoc, fit_snoc, Bool.and_eq_true, Bool.and_eq_true] at h
    exact h.1.2
/-- A row in memory, outside of the blocks from B to less than E. -/
def RowAt (w : World) (B E : Nat) (ar : Option Addr) (L : List Int) : Prop := L = [] ∨ ∃ g o, ar = some ⟨g, o, none⟩ ∧ g < w.heap.size ∧ (g < B ∨ E ≤ g) ∧ ∀ i, i < L.length → w.cell? ⟨g, o + i, none⟩ = some (.int .i64 (L.getD i 0))
theorem RowAt.later {w w' : World} {B E : Nat} {ar : Option Addr} {L : List Int} (h : RowAt w B E ar L) (hk : Turns B E w w') : RowAt w' B E ar L := by
  rcases h with h | ⟨g, o, h1, h2, h3, h4⟩
  · exact .inl h
  · refine .inr ⟨g, o, h1, Nat.lt_of_lt_of_le h2 hk.size, h3, fun i hi => ?_⟩
    rw [← h4 i hi]
    exact World.cell?_of_block (hk.block g h2 h3)
theorem RowAt.kept {K : Nat → Prop} {w w' : World} {B E : Nat} {ar : Option Addr} {L : List Int} (h : RowAt w B E ar L) (hk : Keeps K w w') (hK : ∀ i, i < w.heap.size → (i < B ∨ E ≤ i) → K i) : RowAt w' B E ar L := by
  rcases h with h | ⟨g, o, h1, h2, h3, h4⟩
  · exact .inl h
  · refine .inr ⟨g, o, h1, Nat.lt_of_lt_of_le h2 hk.size, h3, fun i hi => ?_⟩
    rw [← h4 i hi]
    exact hk.cell (p := ⟨g, o + i, none⟩) h2 (hK g h2 h3)
theorem RowAt.at {w : World} {B E : Nat} {ar : Option Addr} {L : List Int} (h : RowAt w B E ar L) {i : Nat} (hi : i < L.length) : ∃ g o, ar = some ⟨g, o, none⟩ ∧ g < w.heap.size ∧ (g < B ∨ E ≤ g) ∧ w.cell? ⟨g, o + i, none⟩ = some (.int .i64 (L.getD i 0)) := by
  rcases h with h | ⟨g, o, h1, h2, h3, h4⟩
  · subst h
    simp at hi
  · exact ⟨g, o, h1, h2, h3, h4 i hi⟩
theorem RamAt.keeps {K : Nat → Prop} {B E r : Nat} {w w' : World} {R : RS} (h : RamAt B E w r R) (hk : Keeps K w w') (hK : ∀ i, B ≤ i → i < E → K i) : RamAt B E w' r R :=
  h.kept hk.size fun i h1 h2 => hk.block i (Nat.lt_of_lt_of_le h2 h.hi.1) (hK i h1 h2)
theorem turns_keeps {B E : Nat} {w w' : World} (h : Turns B E w w') : Keeps (fun i => i < B ∨ E ≤ i) w w' := ⟨h.os, h.tape, h.output, h.size, fun k h1 h2 => h.block k h1 h2⟩
/-- Four blocks newly laid. -/
theorem four_new (w : World) (o0 o1 o2 o3 : Obj) {W : World} (hW : W = (((w.alloc o0).alloc o1).alloc o2).alloc o3) :
    Below w.heap.size w W ∧ W.heap.size = w.heap.size + 4 ∧ W.heap[w.heap.size]? = some o0 ∧ W.heap[w.heap.size + 1]? = some o1 ∧ W.heap[w.heap.size + 2]? = some o2 ∧ W.heap[w.heap.size + 3]? = some o3 := by
  subst hW
  refine ⟨(((Below.refl _ w).alloc (Nat.le_refl _) _).alloc (by simp) _).alloc (by simp; omega) _ |>.alloc (by simp; omega) _, by simp, ?_⟩
  show ((((w.heap.push o0).push o1).push o2).push o3)[w.heap.size]? = some o0 ∧ ((((w.heap.push o0).push o1).push o2).push o3)[w.heap.size + 1]? = some o1 ∧
    ((((w.heap.push o0).push o1).push o2).push o3)[w.heap.size + 2]? = some o2 ∧ ((((w.heap.push o0).push o1).push o2).push o3)[w.heap.size + 3]? = some o3
  simp only [Array.getElem?_push, Array.size_push]
  refine ⟨?_, ?_, ?_, ?_⟩
  all_goals repeat (first | rfl | rw [if_neg (by omega)] | rw [if_pos (by omega)])
/-- Whose a frame is: of a RAM that is there, no memory is made. -/
theorem wOwner_at {B E r : Nat} {R : RS} (n : Int) (w : World) (h : RamAt B E w r R) :
    Calls Try.prog 64 #[.pointer (some ⟨r, 0, none⟩), .int .i64 n] w fun e w' => e = .returned (.int .i64 (R.own n)) ∧ w = w' := by
  obtain ⟨F, g, pf, tg, vP, h⟩ := h
  have H : Hid (CellsAt B F E w r g pf tg vP R) := h
  have c0 := h.c0
  clear h
  unfold RS.own
  go_enter Try.func64, Try.ntmps64
  go_wp2_with fail
  refine (own_some r w).mono ?_
  rintro e w1 ⟨rfl, rfl⟩
  go_wp2_with fail
  refine (fOwner_any n w H.out.fr).mono ?_
  rintro e w' ⟨rfl, rfl⟩
  go_wp2
  go_ret
  exact ⟨rfl, rfl⟩
end Go.Proofs.Ytjgkhckcoknnfaa
/- The walks of zspage.isObject, isPart and pieceAt. -/
namespace Go.Proofs.Ytjgkhckcoknnfaa
open Go.RowKit

theorem obj_yes (S N : Int) (w : World) (h : ObjZ S N) : Calls Try.prog 86 #[.int .i64 S, .int .i64 N] w fun e w' => e = .returned (.bool true) ∧ w = w' := by
  obtain ⟨h1, h2, h3, h4, h5⟩ := h
  go_enter Try.func86, Try.ntmps86
  go_wp2
  go_ret
  exact ⟨rfl, rfl⟩
theorem obj_no (S N : Int) (w : World) (h : ¬ ObjZ S N) : Calls Try.prog 86 #[.int .i64 S, .int .i64 N] w fun e w' => e = .returned (.bool false) ∧ w = w' := by
  unfold ObjZ at h
  by_cases h1 : 64 ≤ S
  · by_cases h2 : S ≤ 4096
    · by_cases h3 : S % 64 = 0
      · by_cases h4 : 0 ≤ N
        · have h5 : ¬ N ≤ 255 := by omega
          clear h
          go_enter Try.func86, Try.ntmps86
          go_wp2
          go_ret
          exact ⟨rfl, rfl⟩
        · clear h
          go_enter Try.func86, Try.ntmps86
          go_wp2
          go_ret
          exact ⟨rfl, rfl⟩
      · clear h
        go_enter Try.func86, Try.ntmps86
        go_wp2
        go_ret
        exact ⟨rfl, rfl⟩
    · clear h
      go_enter Try.func86, Try.ntmps86
      go_wp2
      go_ret
      exact ⟨rfl, rfl⟩
  · clear h
    go_enter Try.func86, Try.ntmps86
    go_wp2
    go_ret
    exact ⟨rfl, rfl⟩
theorem part_yes (S F M : Int) (w : World) (hS : 64 ≤ S) (hS2 : S ≤ 4096) (h1 : 0 ≤ F) (h2 : 0 ≤ M) (h3 : F + M ≤ S) : Calls Try.prog 87 #[.int .i64 S, .int .i64 F, .int .i64 M] w fun e w' => e = .returned (.bool true) ∧ w = w' := by
  go_enter Try.func87, Try.ntmps87
  go_wp2
  go_ret
  exact ⟨retBool (decide_eq_true (by omega)), rfl⟩
theorem part_no (S F M : Int) (w : World) (hS : 64 ≤ S) (hS2 : S ≤ 4096) (hF : F < 9223372036854775808) (h : ¬ (0 ≤ F ∧ 0 ≤ M ∧ F + M ≤ S)) : Calls Try.prog 87 #[.int .i64 S, .int .i64 F, .int .i64 M] w fun e w' => e = .returned (.bool false) ∧ w = w' := by
  by_cases h1 : 0 ≤ F
  · by_cases h2 : 0 ≤ M
    · have h3 : ¬ M ≤ S - F := by omega
      clear h
      go_enter Try.func87, Try.ntmps87
      go_wp2
      go_ret
      exact ⟨rfl, rfl⟩
    · clear h
      go_enter Try.func87, Try.ntmps87
      go_wp2
      go_ret
      exact ⟨rfl, rfl⟩
  · clear h
    go_enter Try.func87, Try.ntmps87
    go_wp2
    go_ret
    exact ⟨rfl, rfl⟩
theorem Try.sizePz : (Try.prog.info? 120).map (·.size) = some 3 := by kernel_rfl
theorem Try.undPz : (match Try.prog.underlying 120 with | some (.struct _) => true | _ => false) = true := by kernel_rfl
theorem pieceAt_any (s e : Nat) (w : World) (h : s < e) (he : e ≤ 1048576) : Calls Try.prog 88 #[.int .i64 (s : Nat), .int .i64 (e : Nat)] w fun e' w' =>
    e' = .returned (.agg (pzC (pzAt s e)).toArray) ∧ w' = w.alloc (.cells (pzC (pzAt s e)).toArray 120) := by
  have hmin : ∀ (ts : Array TypeId) (t : TypeId) (w : World), (Builtin.min_ ts t #[.int .i64 ((e : Int) - (s : Int)), .int .i64 (4096 - (s : Int) % 4096)]).run Try.prog w = .ok (.int .i64 (pzL s e : Nat)) w := by
    intro ts t w
    rw [run_min_int2]
    congr 2
    unfold pzL
    split <;> omega
  have H : Hid (pzC (pzAt s e) = [.int .i64 ((s : Int) / 4096), .int .i64 ((s : Int) % 4096), .int .i64 (pzL s e : Nat)]) := by
    show [Value.int .i64 ((s / 4096 : Nat) : Int), .int .i64 ((s % 4096 : Nat) : Int), .int .i64 (pzL s e : Nat)] = _
    rw [Int.natCast_ediv, Int.natCast_emod]
    rfl
  rw [H.out]
  clear H
  go_enter Try.func88, Try.ntmps88
  go_wp2
  exact bodyPost_ret (results_cell_row Try.results88 _ _ w.heap.size _ _ _ _ rfl (heap_alloc_new _ _) Try.underlying120 rfl Try.sizePz) rfl ⟨rfl, rfl⟩
end Go.Proofs.Ytjgkhckcoknnfaa
/- The walk of the function that zspage.pieces tells pieces by. -/
namespace Go.Proofs.Ytjgkhckcoknnfaa
open Go.RowKit
attribute [local go_sem] Oper.semAt_some

theorem cells_three {w : World} {g : Nat} {u0 u1 u2 : Value} {t : TypeId} (h : w.heap[g]? = some (.cells #[u0, u1, u2] t (0, 0))) : w.cell? ⟨g, 0, none⟩ = some u0 ∧ w.cell? ⟨g, 1, none⟩ = some u1 ∧ w.cell? ⟨g, 2, none⟩ = some u2 := by
  refine ⟨?_, ?_, ?_⟩ <;> simp [World.cell?, h]
/-- What a piece is told by. -/
def pcV (e s : Nat) : Array Value := #[.agg (pzC (pzAt s e)).toArray]
/-- What was captured: size, n, from, many. -/
structure CapZ (w : World) (b : Nat) (S N F M : Int) : Prop where
  s : w.cell? ⟨b, 0, none⟩ = some (.int .i64 S)
  n : w.cell? ⟨b + 1, 0, none⟩ = some (.int .i64 N)
  f : w.cell? ⟨b + 2, 0, none⟩ = some (.int .i64 F)
  m : w.cell? ⟨b + 3, 0, none⟩ = some (.int .i64 M)
  lt : b + 4 ≤ w.heap.size
theorem CapZ.below {w w' : World} {b : Nat} {S N F M : Int} (h : CapZ w b S N F M) (hb : Below w.heap.size w w') : CapZ w' b S N F M := by
  have h1 := h.lt
  have h2 := hb.size
  exact ⟨(hb.cell (by show _ < _; simp only; omega)).trans h.s, (hb.cell (by show _ < _; simp only; omega)).trans h.n, (hb.cell (by show _ < _; simp only; omega)).trans h.f, (hb.cell (by show _ < _; simp only; omega)).trans h.m, by omega⟩
def zLb (b : Nat) : Array Value := #[.pointer (some ⟨b, 0, none⟩), .pointer (some ⟨b + 1, 0, none⟩), .pointer (some ⟨b + 2, 0, none⟩), .pointer (some ⟨b + 3, 0, none⟩)]
set_option maxRecDepth 100000 in
set_option maxHeartbeats 1000000 in
theorem pieces_iter {S N F M : Int} {b a e : Nat} {K0 : Nat → Prop} (w : World) (hc : CapZ w b S N F M) (hF : F < 9223372036854775808) (hae : Zae S N F M a e) :
    Iterates Try.prog 85 (zLb b) (pcV e) K0 (fun s x _ => x = s ∧ s < e) (fun s _ => s + pzL s e) a (fun s => e ≤ s) (fun _ => True) w := by
  intro l J Jx hJ hJx hR W hW h0
  have hcW := hc.below hW
  have HR : Hid (Rounds Try.prog l (pcV e) K0 (fun s x _ => x = s ∧ s < e) (fun s _ => s + pzL s e) J Jx) := hR
  have HJ : Hid (Abides J) := hJ
  clear hR hJ hJx hW hc
  obtain ⟨c0, c1, c2, c3, hlt⟩ := hcW
  have hle := hae.le
  unfold zLb
  refine (callsIn_wide (n := 3)).1 ?_
  refine callsIn_of_wp Try.func85 rfl trivial ?_ rfl
  simp only [List.append_toArray, List.cons_append, List.nil_append]
  simp only [Try.ntmps85, List.size_toArray, List.length_cons, List.length_nil, Nat.reduceAdd, Nat.reduceSub, Array.replicate_succ, Array.replicate_zero, List.push_toArray, List.append_toArray, List.nil_append, List.cons_append]
  by_cases hm : MayZ S N F M
  · obtain ⟨_, ha, he⟩ : MayZ S N F M ∧ (a : Int) = N * S + F ∧ (e : Int) = N * S + F + M := by
      rcases hae with h | h
      · exact h
      · exact absurd hm h.1
    obtain ⟨ho, h6, h7, h8⟩ := hm
    have HO : Hid _ := obj_yes S N W ho
    obtain ⟨h1, h2, h3, h4, h5⟩ := ho
    have hp : N * S ≤ 255 * 4096 := Int.mul_le_mul h5 h2 (by omega) (by omega)
    have hp0 : 0 ≤ N * S := Int.mul_nonneg h4 (by omega)
    have HP : Hid _ := part_yes S F M W h1 h2 h6 h7 h8
    have HA : Hid (N * S + F = (a : Int)) := ha.symm
    have HE : Hid (N * S + F + M = (e : Int)) := he.symm
    have H0 : Hid _ := h0
    clear hae h0
    gi_wp2_with fail
    refine ⟨trivial, CallsIn.mono (callsIn_wide.2 HO.out) ?_⟩
    rintro e1 w1 ⟨rfl, rfl⟩
    gi_wp2_with fail
    refine ⟨trivial, CallsIn.mono (callsIn_wide.2 HP.out) ?_⟩
    rintro e1 w1 ⟨rfl, rfl⟩
    gi_wp2_with fail
    rw [HE.out, HA.out]
    clear HE HA HO HP hp hp0 ha he h1 h2 h3 h4 h5 h6 h7 h8 c0 c1 c2 c3
    gi_loopw [6] (fun i wr => ∃ s : Nat, i = .int .i64 s ∧ a ≤ s ∧ s ≤ e ∧ J s (fun _ => False) wr) (fun i _ => e - (intOf i).toNat)
    case atStart => exact ⟨a, rfl, Nat.le_refl _, hle.1, H0.out⟩
    case round =>
      obtain ⟨s, rfl, hs1, hs2, hJ⟩ := hrel
      have HJ1 : Hid (J s (fun _ => False) wr) := hJ
      clear hJ H0
      by_cases hlt2 : s < e
      · have i1 : (s : Int) < (e : Int) := by omega
        have hl := pzL_pos hlt2
        obtain ⟨x0, x1, hx⟩ : ∃ x0 x1 : Int, pzC (pzAt s e) = [.int .i64 x0, .int .i64 x1, .int .i64 (pzL s e : Nat)] := ⟨_, _, rfl⟩
        have hpa := pieceAt_any s e wr hlt2 (by omega)
        have hV : pcV e s = #[.agg #[.int .i64 x0, .int .i64 x1, .int .i64 (pzL s e : Nat)]] := by unfold pcV; rw [hx]
        rw [hx] at hpa
        have HPA : Hid _ := hpa
        clear hpa hx
        gi_wp2_with fail
        refine ⟨trivial, CallsIn.mono (callsIn_wide.2 HPA.out) ?_⟩
        rintro e1 w1 ⟨rfl, rfl⟩
        obtain ⟨q, hq⟩ : ∃ q, wr.heap.size + 1 = q := ⟨_, rfl⟩
        obtain ⟨W3, hW3⟩ : ∃ W3, (wr.alloc (.cells #[.int .i64 x0, .int .i64 x1, .int .i64 (pzL s e : Nat)] 120)).alloc (.cells #[.int .i64 x0, .int .i64 x1, .int .i64 (pzL s e : Nat)] 120) = W3 := ⟨_, rfl⟩
        have hb3 : Below wr.heap.size wr W3 := by rw [← hW3]; exact ((Below.refl _ wr).alloc (Nat.le_refl _) _).alloc (by simp) _
        have hs3 : W3.heap.size = q + 1 := by rw [← hW3, ← hq]; simp
        have hp3 : W3.heap[q]? = some (.cells #[.int .i64 x0, .int .i64 x1, .int .i64 (pzL s e : Nat)] 120 (0, 0)) := by
          have := heap_alloc_new (wr.alloc (.cells #[.int .i64 x0, .int .i64 x1, .int .i64 (pzL s e : Nat)] 120)) (.cells #[.int .i64 x0, .int .i64 x1, .int .i64 (pzL s e : Nat)] 120)
          rw [World.size_alloc, hq] at this
          rw [← hW3]; exact this
        obtain ⟨fn, tmps, assign, body, hy, hRd⟩ := HR.out 2 s (fun k => k = q) s W3 (HJ.out _ _ _ _ _ HJ1.out (keeps_all hb3) fun k hk => .inr ⟨by omega, by omega⟩) ⟨rfl, hlt2⟩ (fun k hk => by omega)
        rw [hV] at hy
        have HRd : Hid _ := hRd
        have HP3 : Hid _ := hp3
        have hx3 := cells_three hp3
        clear hRd hV hp3 hb3
        gi_wp2_with fail
        clear hW3 HJ1 HPA
        refine RoundIn.mono HRd.out ?_
        rintro e4 W4 ⟨hk4, ⟨rfl, hJ4⟩ | ⟨rfl, hJx4⟩⟩
        · have hx4 := cells_three (hk4.at HP3.out (.inr rfl))
          have HJ4 : Hid (J (s + pzL s e) (fun _ => False) W4) := HJ.out _ _ _ _ _ hJ4 (Keeps.refl _ _) fun _ h => h.elim
          clear hJ4 hk4 hx3 hy
          obtain ⟨_, _, hx42⟩ := hx4
          gi_wp2
          go_roundw
          case rel => exact ⟨s + pzL s e, by go_num, by omega, by omega, HJ4.out⟩
          case measure => simp [intOf]; omega
        · have HJ4 : Hid (Jx (s + pzL s e) (fun k => k = q) W4) := hJx4
          clear hJx4 hk4 hx3 hy
          gi_wp2
          refine bodyPost_ret (results_none rfl _ _ _) rfl ?_
          exact ⟨⟨_, rfl⟩, .inr ⟨s + pzL s e, _, trivial, HJ4.out⟩⟩
      · have i1 : ¬ (s : Int) < (e : Int) := by omega
        gi_wp2
        go_end0
        exact ⟨⟨_, rfl⟩, .inl ⟨s, fun _ => False, by omega, HJ1.out⟩⟩
  · obtain ⟨_, rfl, rfl⟩ : ¬ MayZ S N F M ∧ a = 0 ∧ e = 0 := by
      rcases hae with h | h
      · exact absurd h.1 hm
      · exact h
    by_cases ho : ObjZ S N
    · have HO : Hid _ := obj_yes S N W ho
      have h9 : ¬ (0 ≤ F ∧ 0 ≤ M ∧ F + M ≤ S) := fun h => hm ⟨ho, h⟩
      obtain ⟨h1, h2, h3, h4, h5⟩ := ho
      have HP : Hid _ := part_no S F M W h1 h2 hF h9
      have H0 : Hid _ := h0
      clear hae h0 hm h9
      gi_wp2_with fail
      refine ⟨trivial, CallsIn.mono (callsIn_wide.2 HO.out) ?_⟩
      rintro e1 w1 ⟨rfl, rfl⟩
      gi_wp2_with fail
      refine ⟨trivial, CallsIn.mono (callsIn_wide.2 HP.out) ?_⟩
      rintro e1 w1 ⟨rfl, rfl⟩
      gi_wp2_with fail
      refine bodyPost_ret (results_none rfl _ _ _) rfl ?_
      exact ⟨⟨_, rfl⟩, .inl ⟨0, fun _ => False, Nat.le_refl _, H0.out⟩⟩
    · have HO : Hid _ := obj_no S N W ho
      have H0 : Hid _ := h0
      clear hae h0 hm ho
      gi_wp2_with fail
      refine ⟨trivial, CallsIn.mono (callsIn_wide.2 HO.out) ?_⟩
      rintro e1 w1 ⟨rfl, rfl⟩
      gi_wp2_with fail
      refine ⟨trivial, ?_⟩
      gi_wp2_with fail
      refine bodyPost_ret (results_none rfl _ _ _) rfl ?_
      exact ⟨⟨_, rfl⟩, .inl ⟨0, fun _ => False, Nat.le_refl _, H0.out⟩⟩
end Go.Proofs.Ytjgkhckcoknnfaa
/- append within a function that ranges over another one: general. -/
namespace Go.Proofs.Ytjgkhckcoknnfaa
open Go.RowKit
theorem wpListIn_append_lies {F : Fence} {n : Nat} {P : Program} (w : World) {ops : Array Oper} {rest : List Oper} {o : Oper} {a : Act} {Q : Exit → Act → World → Prop} (hgd : o.guard = none) (s x : Operand) (t : TypeId)
    (ho : o.op = .call { callee := .builtin .append, args := #[s, x], argTypes := #[t, t] })
    (base : Nat) (e : TypeId) (i : TypeInfo) (z : Value) (size bytes : Nat) (ht : P.underlying t = some (.slice e)) (hi : P.info? e = some i) (hz : i.zero = some z)
    (hsize : i.size = size) (hby : i.bytes = bytes) (hzs : z.cells.size = size) (hsz : 0 < size)
    (v : Value) (k : Nat) (xs : List Value) (hs : a.eval s = v) (hown : w.ownsRow base e size v k xs)
    (ad : Addr) (m c : Nat) (news : List Value) (hx : a.eval x = .slice (some ad) m c) (hl : news.length = m * size) (hnews : ∀ j u, news[j]? = some u → w.cell? (ad.add j) = some u) (h1 : ∀ u ∈ news, u.oneCell' = true)
    (hm : 0 < m) (h63 : k + m ≤ maxLen) (hbytes : (k + m) * bytes ≤ 140737488355328) (hbase : base ≤ w.heap.size)
    (h : ∀ g cap w', w'.ownsRow base e size (.slice (some ⟨g, 0, none⟩) (k + m) cap) (k + m) (xs ++ news) → w.grownBy w' v.ownBlock → (v.ownBlock = some g ∨ g = w.heap.size) → wpListIn F n P ops Q rest (a.put o.dst (.slice (some ⟨g, 0, none⟩) (k + m) cap)) w') : wpListIn F n P ops Q (o :: rest) a w := by
  refine wpListIn_plain hgd fun K hK' => ?_
  obtain ⟨g, cap, w', hrun, r1, r2, r3, _⟩ := run_append_lies (P := P) w t o.type base e i z size bytes ht hi hz hsize hby hzs hsz v k xs hown ad m c news hl hnews h1 hm h63 hbytes hbase _ rfl
  unfold Oper.wpIn
  refine ⟨?_, ?_⟩
  · simp [Oper.about, ho, resolve, Target.leads, Sem.run_pure]
  · rw [Oper.semAt_plain F _ _ (by rw [ho]; intro c hc'; cases hc')]
    simp [execOp, ho, resolve, invoke, builtin, hs, hx, hrun, Result.andThen]
    exact hK' _ _ (h g cap w' r1 r2 r3)
end Go.Proofs.Ytjgkhckcoknnfaa
/- The walks of zspage.pieces, slices.AppendSeq and slices.Collect at pieces, zspage.Pieces. -/
namespace Go.Proofs.Ytjgkhckcoknnfaa
open Go.RowKit
attribute [local go_sem] Oper.semAt_some

theorem Try.infoPz : (Try.prog.info? 120).map (fun i => (i.zero, i.size, i.bytes)) = some (some (.agg #[.int .i64 0, .int .i64 0, .int .i64 0]), 3, 24) := by kernel_rfl
theorem pieces_any (S N F M : Int) (w : World) :
    Calls Try.prog 83 #[.int .i64 S, .int .i64 N, .int .i64 F, .int .i64 M] w fun e w' => e = .returned (.func (.func 85) #[] (zLb w.heap.size)) ∧ CapZ w' w.heap.size S N F M ∧ Below w.heap.size w w' := by
  have hmf : ∀ (fn : Fn) (first cap : Array Value) (w : World), (Instr.makeFunc fn first cap).run Try.prog w = .ok (.func fn first cap) w := fun _ _ _ _ => rfl
  obtain ⟨W4, hW4⟩ : ∃ W4, (((w.alloc (.cells #[.int .i64 S] 3)).alloc (.cells #[.int .i64 N] 3)).alloc (.cells #[.int .i64 F] 3)).alloc (.cells #[.int .i64 M] 3) = W4 := ⟨_, rfl⟩
  have HC : Hid (CapZ W4 w.heap.size S N F M ∧ Below w.heap.size w W4) := by
    refine ⟨⟨?_, ?_, ?_, ?_, ?_⟩, ?_⟩
    · refine cell_of_one (t := 3) ?_
      rw [← hW4, Below.heap_alloc _ _ _ (by simp <;> omega), Below.heap_alloc _ _ _ (by simp <;> omega), Below.heap_alloc _ _ _ (by simp)]
      exact heap_alloc_new w _
    · refine cell_of_one (t := 3) ?_
      rw [← hW4, Below.heap_alloc _ _ _ (by simp <;> omega), Below.heap_alloc _ _ _ (by simp)]
      have := heap_alloc_new (w.alloc (.cells #[.int .i64 S] 3)) (.cells #[.int .i64 N] 3)
      simpa using this
    · refine cell_of_one (t := 3) ?_
      rw [← hW4, Below.heap_alloc _ _ _ (by simp)]
      have := heap_alloc_new ((w.alloc (.cells #[.int .i64 S] 3)).alloc (.cells #[.int .i64 N] 3)) (.cells #[.int .i64 F] 3)
      simpa using this
    · refine cell_of_one (t := 3) ?_
      have := heap_alloc_new (((w.alloc (.cells #[.int .i64 S] 3)).alloc (.cells #[.int .i64 N] 3)).alloc (.cells #[.int .i64 F] 3)) (.cells #[.int .i64 M] 3)
      rw [← hW4]
      simpa using this
    · rw [← hW4]; simp
    · rw [← hW4]
      exact ((((Below.refl _ w).alloc (Nat.le_refl _) _).alloc (by simp) _).alloc (by simp <;> omega) _).alloc (by simp <;> omega) _
  go_enter Try.func83, Try.ntmps83
  go_wp2
  go_ret
  exact ⟨rfl, HC.out⟩

end Go.Proofs.Ytjgkhckcoknnfaa
