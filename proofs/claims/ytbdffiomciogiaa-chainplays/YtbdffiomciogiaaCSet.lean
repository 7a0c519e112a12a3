/- A chain in memory (Parts, ChainAt, ChainP), what turns it, and the walks of end, mayHave, Has and Len. -/
import Derived.Test.YtbdffiomciogiaaCPlain
import Derived.WalkKit
import Derived.WalkSpells
import Derived.WalkLawsBesides
import Derived.Maps.AppendAt
import Derived.OneCell
import Derived.Deep.QuietTactic
import Derived.BigQuiet
import Derived.Deep.Draws
namespace Go.Proofs.Ytbdffiomciogiaa
open Go.RowKit

theorem retInt {k : IntKind} {a b : Int} (h : a = b) : Ending.returned (.int k a) = .returned (.int k b) := by rw [h]
theorem retBool {a b : Bool} (h : a = b) : Ending.returned (.bool a) = .returned (.bool b) := by rw [h]
theorem heap_drewN (w : World) (n : Nat) : (w.drewN n).heap = w.heap := by simp
theorem drewN_below (B : Nat) (w : World) (n : Nat) : Below B w (w.drewN n) := ⟨rfl, rfl, rfl, Nat.le_refl _, fun _ _ => rfl⟩
def zv (l : List Int) : List Value := l.map fun n : Int => Value.int .i64 n
theorem zv_at (l : List Int) (i : Nat) (hi : i < l.length) : (zv l)[i]? = some (.int .i64 (l.getD i 0)) := by simp [zv, List.getD, hi]
theorem zv_set (l : List Int) (i : Nat) (v : Int) : zv (l.set i v) = (zv l).set i (.int .i64 v) := by simp [zv, List.map_set]
theorem row_of_block {w w' : World} {base g n c : Nat} {e : TypeId} {size : Nat} {xs : List Value} (h : w.ownsRow base e size (.slice (some ⟨g, 0, none⟩) n c) n xs) (hk : w'.heap[g]? = w.heap[g]?) : w'.ownsRow base e size (.slice (some ⟨g, 0, none⟩) n c) n xs := by
  refine ⟨h.1, ?_⟩
  rcases h.2 with ⟨he, _⟩ | ⟨g', cap, cur, he, hb, hh, r⟩
  · simp at he
  · simp only [Value.slice.injEq, Option.some.injEq, Addr.mk.injEq, and_true, true_and] at he
    obtain ⟨rfl, rfl⟩ := he
    exact .inr ⟨g, _, cur, rfl, hb, hk.trans hh, r⟩

/-- No block but those from B to less than E turns. -/
structure Turns (B E : Nat) (w w' : World) : Prop where
  os : w'.os = w.os
  tape : w'.tape = w.tape
  output : w'.output = w.output
  size : w'.heap.size = w.heap.size
  block : ∀ k, k < B ∨ E ≤ k → w'.heap[k]? = w.heap[k]?
theorem Turns.refl (B E : Nat) (w : World) : Turns B E w w := ⟨rfl, rfl, rfl, rfl, fun _ _ => rfl⟩
theorem Turns.trans {B E : Nat} {a b c : World} (h : Turns B E a b) (k : Turns B E b c) : Turns B E a c :=
  ⟨k.os.trans h.os, k.tape.trans h.tape, k.output.trans h.output, k.size.trans h.size, fun i hi => (k.block i hi).trans (h.block i hi)⟩
theorem Turns.below {B E : Nat} {w w' : World} (h : Turns B E w w') : Below B w w' := ⟨h.os, h.tape, h.output, Nat.le_of_eq h.size.symm, fun k hk => h.block k (.inl hk)⟩
theorem Turns.drewN {B E : Nat} {a w : World} (h : Turns B E a w) (n : Nat) : Turns B E a (w.drewN n) := ⟨h.os, h.tape, h.output, h.size, h.block⟩
theorem Turns.drew {B E : Nat} {a w : World} (h : Turns B E a w) : Turns B E a w.drew := ⟨h.os, h.tape, h.output, h.size, h.block⟩
theorem Turns.setCell {B E : Nat} {a w : World} (h : Turns B E a w) {p : Addr} (h1 : B ≤ p.block) (h2 : p.block < E) (u : Value) : Turns B E a (w.setCell p u) := by
  refine ⟨h.os, h.tape, h.output, by rw [← h.size]; simp, fun k hk => ?_⟩
  rw [Below.heap_setCell _ _ _ _ (by omega)]
  exact h.block k hk
theorem Turns.row {B E : Nat} {w w' : World} {base : Nat} {e : TypeId} {size n : Nat} {v : Value} {xs : List Value} (h : Turns B E w w') (ho : w.ownsRow base e size v n xs) (hb : E ≤ base) : w'.ownsRow base e size v n xs := by
  refine ⟨ho.1, ?_⟩
  rcases ho.2 with h1 | ⟨g, cap, cur, h1, h2, h3, r⟩
  · exact .inl h1
  · exact .inr ⟨g, cap, cur, h1, h2, (h.block g (.inr (by omega))).trans h3, r⟩

/-- The three blocks of a chain: its struct in b, its links in g1 (newer) and g2 (older). -/
structure Parts (B E : Nat) (w : World) (b g1 g2 m : Nat) (k : Int) (N O : List Int) : Prop where
  small : m ≤ 4096
  bs : B ≤ b ∧ b < E
  g1s : B ≤ g1 ∧ g1 < E
  g2s : B ≤ g2 ∧ g2 < E
  hi : E ≤ w.heap.size
  ne1 : b ≠ g1
  ne2 : b ≠ g2
  ne3 : g1 ≠ g2
  head : w.heap[b]? = some (.cells #[.slice (some ⟨g1, 0, none⟩) (m + 1) (m + 1), .slice (some ⟨g2, 0, none⟩) (m + 1) (m + 1), .int .i64 k] 45 (0, 0))
  rowN : w.ownsRow B 3 1 (.slice (some ⟨g1, 0, none⟩) (m + 1) (m + 1)) (m + 1) (zv N)
  rowO : w.ownsRow B 3 1 (.slice (some ⟨g2, 0, none⟩) (m + 1) (m + 1)) (m + 1) (zv O)

section
variable {B E b g1 g2 m : Nat} {w : World} {k : Int} {N O : List Int}
theorem Parts.nl (h : Parts B E w b g1 g2 m k N O) : N.length = m + 1 := by have := h.rowN.1; simpa [zv] using this
theorem Parts.ol (h : Parts B E w b g1 g2 m k N O) : O.length = m + 1 := by have := h.rowO.1; simpa [zv] using this
theorem Parts.cell0 (h : Parts B E w b g1 g2 m k N O) : w.cell? ⟨b, 0, none⟩ = some (.slice (some ⟨g1, 0, none⟩) (m + 1) (m + 1)) := by rw [cell_of_row w b 0 _ _ _ h.head]; rfl
theorem Parts.cell1 (h : Parts B E w b g1 g2 m k N O) : w.cell? ⟨b, 1, none⟩ = some (.slice (some ⟨g2, 0, none⟩) (m + 1) (m + 1)) := by rw [cell_of_row w b 1 _ _ _ h.head]; rfl
theorem Parts.cell2 (h : Parts B E w b g1 g2 m k N O) : w.cell? ⟨b, 2, none⟩ = some (.int .i64 k) := by rw [cell_of_row w b 2 _ _ _ h.head]; rfl
theorem Parts.cellN (h : Parts B E w b g1 g2 m k N O) {j : Nat} (hj : j ≤ m) : w.cell? ⟨g1, j, none⟩ = some (.int .i64 (N.getD j 0)) := by
  rw [h.rowN.cellAt j (by omega), zv_at _ _ (by rw [h.nl]; omega)]
theorem Parts.cellO (h : Parts B E w b g1 g2 m k N O) {j : Nat} (hj : j ≤ m) : w.cell? ⟨g2, j, none⟩ = some (.int .i64 (O.getD j 0)) := by
  rw [h.rowO.cellAt j (by omega), zv_at _ _ (by rw [h.ol]; omega)]
theorem Parts.frozenN (h : Parts B E w b g1 g2 m k N O) (j : Nat) : w.frozen? ⟨g1, j, none⟩ = false := h.rowN.frozenAt j
theorem Parts.frozenO (h : Parts B E w b g1 g2 m k N O) (j : Nat) : w.frozen? ⟨g2, j, none⟩ = false := h.rowO.frozenAt j
theorem Parts.of_blocks {w' : World} (h : Parts B E w b g1 g2 m k N O) (hs : w.heap.size ≤ w'.heap.size) (hk : ∀ i, B ≤ i → i < E → w'.heap[i]? = w.heap[i]?) : Parts B E w' b g1 g2 m k N O :=
  ⟨h.small, h.bs, h.g1s, h.g2s, Nat.le_trans h.hi hs, h.ne1, h.ne2, h.ne3, (hk b h.bs.1 h.bs.2).trans h.head, row_of_block h.rowN (hk g1 h.g1s.1 h.g1s.2), row_of_block h.rowO (hk g2 h.g2s.1 h.g2s.2)⟩
theorem Parts.drewN (h : Parts B E w b g1 g2 m k N O) (n : Nat) : Parts B E (w.drewN n) b g1 g2 m k N O := h.of_blocks (by rw [heap_drewN]; exact Nat.le_refl _) (fun i _ _ => by rw [heap_drewN])
theorem Parts.drew (h : Parts B E w b g1 g2 m k N O) : Parts B E w.drew b g1 g2 m k N O := h.of_blocks (Nat.le_refl _) (fun _ _ _ => rfl)
theorem Parts.setN (h : Parts B E w b g1 g2 m k N O) (j : Nat) (v : Int) : Parts B E (w.setCell ⟨g1, j, none⟩ (.int .i64 v)) b g1 g2 m k (N.set j v) O := by
  refine ⟨h.small, h.bs, h.g1s, h.g2s, by simpa using h.hi, h.ne1, h.ne2, h.ne3, ?_, ?_, ?_⟩
  · rw [Below.heap_setCell _ _ _ _ h.ne1]; exact h.head
  · rw [zv_set]; exact (h.rowN.stored j _).1
  · exact row_of_block h.rowO (Below.heap_setCell _ _ _ _ (Ne.symm h.ne3))
theorem Parts.setO (h : Parts B E w b g1 g2 m k N O) (j : Nat) (v : Int) : Parts B E (w.setCell ⟨g2, j, none⟩ (.int .i64 v)) b g1 g2 m k N (O.set j v) := by
  refine ⟨h.small, h.bs, h.g1s, h.g2s, by simpa using h.hi, h.ne1, h.ne2, h.ne3, ?_, ?_, ?_⟩
  · rw [Below.heap_setCell _ _ _ _ h.ne2]; exact h.head
  · exact row_of_block h.rowN (Below.heap_setCell _ _ _ _ h.ne3)
  · rw [zv_set]; exact (h.rowO.stored j _).1
theorem Parts.setK (h : Parts B E w b g1 g2 m k N O) (v : Int) : Parts B E (w.setCell ⟨b, 2, none⟩ (.int .i64 v)) b g1 g2 m v N O := by
  refine ⟨h.small, h.bs, h.g1s, h.g2s, by simpa using h.hi, h.ne1, h.ne2, h.ne3, ?_, ?_, ?_⟩
  · show (w.heap.modify b _)[b]? = _
    rw [Array.getElem?_modify, if_pos rfl, h.head]
    rfl
  · exact row_of_block h.rowN (Below.heap_setCell _ _ _ _ (Ne.symm h.ne1))
  · exact row_of_block h.rowO (Below.heap_setCell _ _ _ _ (Ne.symm h.ne2))
theorem Parts.frozenB (h : Parts B E w b g1 g2 m k N O) (j : Nat) : w.frozen? ⟨b, j, none⟩ = false := by
  have := h.head
  simp [World.frozen?, this]
end

/-- A chain that is there tells l. -/
def ChainAt (B E : Nat) (w : World) (b g1 g2 m : Nat) (l : List Nat) : Prop := ∃ N O, Ring m N O l ∧ Parts B E w b g1 g2 m (l.length : Nat) N O
/-- A chain, or none (which has nothing). -/
def ChainP (B E : Nat) (w : World) (p : Option Addr) (m : Nat) (l : List Nat) : Prop :=
  (p = none ∧ m = 0 ∧ l = []) ∨ ∃ b g1 g2, p = some ⟨b, 0, none⟩ ∧ ChainAt B E w b g1 g2 m l
section
variable {B E m : Nat} {w w' : World} {p : Option Addr} {l : List Nat}
theorem ChainP.of_blocks (h : ChainP B E w p m l) (hs : w.heap.size ≤ w'.heap.size) (hk : ∀ i, i < w.heap.size → w'.heap[i]? = w.heap[i]?) : ChainP B E w' p m l := by
  rcases h with h | ⟨b, g1, g2, h1, N, O, hr, hp⟩
  · exact .inl h
  · exact .inr ⟨b, g1, g2, h1, N, O, hr, hp.of_blocks hs (fun i _ hi => hk i (Nat.lt_of_lt_of_le hi hp.hi))⟩
theorem ChainP.below (h : ChainP B E w p m l) (hb : Below w.heap.size w w') : ChainP B E w' p m l := h.of_blocks hb.size hb.block
theorem ChainP.drewN (h : ChainP B E w p m l) (n : Nat) : ChainP B E (w.drewN n) p m l := h.below (drewN_below _ _ _)
theorem ChainP.drew (h : ChainP B E w p m l) : ChainP B E w.drew p m l := h.below ⟨rfl, rfl, rfl, Nat.le_refl _, fun _ _ => rfl⟩
theorem ChainP.small (h : ChainP B E w p m l) : m ≤ 4096 := by
  rcases h with ⟨_, rfl, _⟩ | ⟨b, g1, g2, h1, N, O, hr, hp⟩
  · omega
  · exact hp.small
theorem ChainP.lt (h : ChainP B E w p m l) : ∀ x ∈ l, x < m := by
  rcases h with ⟨_, _, rfl⟩ | ⟨b, g1, g2, h1, N, O, hr, hp⟩
  · simp
  · exact hr.lt
theorem ChainP.nd (h : ChainP B E w p m l) : l.Nodup := by
  rcases h with ⟨_, _, rfl⟩ | ⟨b, g1, g2, h1, N, O, hr, hp⟩
  · simp
  · exact hr.nd
theorem ChainP.len (h : ChainP B E w p m l) : l.length ≤ m := nodup_len m l h.nd h.lt
end

set_option maxHeartbeats 400000 in
theorem end_any {B E m : Nat} {p : Option Addr} {l : List Nat} (w : World) (h : ChainP B E w p m l) :
    Calls Try.prog 21 #[.pointer p] w fun e w' => e = .returned (.int .i64 (m : Nat)) ∧ w = w' := by
  have hs := h.small
  rcases h with ⟨rfl, rfl, rfl⟩ | ⟨b, g1, g2, rfl, N, O, hr, hp⟩
  · go_enter Try.func21, Try.ntmps21
    go_wp2
    go_ret
    exact ⟨rfl, rfl⟩
  · have h0 := hp.cell0
    clear hp hr
    go_enter Try.func21, Try.ntmps21
    go_wp2
    go_ret
    exact ⟨retInt (by go_num), rfl⟩

def mayC (m : Nat) (n : Int) : Bool := decide (0 ≤ n ∧ n < m)
set_option maxHeartbeats 400000 in
theorem mayHave_any {B E m : Nat} {p : Option Addr} {l : List Nat} (n : Int) (w : World) (h : ChainP B E w p m l) :
    Calls Try.prog 20 #[.pointer p, .int .i64 n] w fun e w' => e = .returned (.bool (mayC m n)) ∧ w = w' := by
  have hs := h.small
  by_cases h1 : 0 ≤ n
  · by_cases h2 : n < m
    · have E : Hid (mayC m n = true) := by simp [Hid, mayC, h1, h2]
      go_enter Try.func20, Try.ntmps20
      go_wp2_with (go_at_call 21; refine (end_any _ h).mono ?_; rintro e w' ⟨rfl, rfl⟩)
      go_ret
      exact ⟨retBool E.out.symm, rfl⟩
    · have E : Hid (mayC m n = false) := by simp [Hid, mayC]; omega
      go_enter Try.func20, Try.ntmps20
      go_wp2_with (go_at_call 21; refine (end_any _ h).mono ?_; rintro e w' ⟨rfl, rfl⟩)
      go_ret
      exact ⟨retBool (by rw [E.out, decide_eq_false (by omega)]), rfl⟩
  · have E : Hid (mayC m n = false) := by simp [Hid, mayC]; omega
    go_enter Try.func20, Try.ntmps20
    go_wp2_with (go_at_call 21; refine (end_any _ h).mono ?_; rintro e w' ⟨rfl, rfl⟩)
    go_ret
    exact ⟨retBool E.out.symm, rfl⟩
theorem mayHave_is {B E m : Nat} {p : Option Addr} {l : List Nat} (n : Int) (w : World) (h : ChainP B E w p m l) {b : Bool} (hb : mayC m n = b) :
    Calls Try.prog 20 #[.pointer p, .int .i64 n] w fun e w' => e = .returned (.bool b) ∧ w = w' := by
  rw [← hb]; exact mayHave_any n w h
theorem mayC_nat {m n : Nat} (h : n < m) : mayC m n = true := by simp [mayC, h]
theorem mayC_not {m n : Nat} (h : ¬ n < m) : mayC m n = false := by simp [mayC]; omega

set_option maxHeartbeats 400000 in
theorem has_any {B E m : Nat} {p : Option Addr} {l : List Nat} (n : Nat) (w : World) (h : ChainP B E w p m l) :
    Calls Try.prog 9 #[.pointer p, .int .i64 n] w fun e w' => e = .returned (.bool (decide (n ∈ l))) ∧ w = w' := by
  have hs := h.small
  by_cases hn : n < m
  · have HM : Hid (mayC m n = true) := mayC_nat hn
    have h0 := h
    rcases h with ⟨rfl, rfl, rfl⟩ | ⟨b, g1, g2, rfl, N, O, hr, hp⟩
    · omega
    have c0 := hp.cell0
    have cN := hp.cellN (Nat.le_of_lt hn)
    have E : Hid ((N.getD n 0 != -1) = decide (n ∈ l)) := hr.has hn
    generalize N.getD n 0 = q at *
    clear hp hr
    go_enter Try.func9, Try.ntmps9
    go_wp2_with (go_at_call 20; refine (mayHave_is _ _ h0 HM.out).mono ?_; rintro e w' ⟨rfl, rfl⟩)
    go_ret
    exact ⟨retBool E.out, rfl⟩
  · have HM : Hid (mayC m n = false) := mayC_not hn
    have E : Hid (decide (n ∈ l) = false) := by simp only [Hid, decide_eq_false_iff_not]; exact fun hx => hn (h.lt n hx)
    go_enter Try.func9, Try.ntmps9
    go_wp2_with (go_at_call 20; refine (mayHave_is _ _ h HM.out).mono ?_; rintro e w' ⟨rfl, rfl⟩)
    go_ret
    exact ⟨retBool E.out.symm, rfl⟩
theorem has_is {B E m : Nat} {p : Option Addr} {l : List Nat} (n : Nat) (w : World) (h : ChainP B E w p m l) {b : Bool} (hb : decide (n ∈ l) = b) :
    Calls Try.prog 9 #[.pointer p, .int .i64 n] w fun e w' => e = .returned (.bool b) ∧ w = w' := by
  rw [← hb]; exact has_any n w h

set_option maxHeartbeats 400000 in
theorem len_any {B E m : Nat} {p : Option Addr} {l : List Nat} (w : World) (h : ChainP B E w p m l) :
    Calls Try.prog 10 #[.pointer p] w fun e w' => e = .returned (.int .i64 (l.length : Nat)) ∧ w = w' := by
  rcases h with ⟨rfl, rfl, rfl⟩ | ⟨b, g1, g2, rfl, N, O, hr, hp⟩
  · go_enter Try.func10, Try.ntmps10
    go_wp2
    go_ret
    exact ⟨rfl, rfl⟩
  · have h0 := hp.cell2
    clear hp hr
    go_enter Try.func10, Try.ntmps10
    go_wp2
    go_ret
    exact ⟨rfl, rfl⟩
end Go.Proofs.Ytbdffiomciogiaa
