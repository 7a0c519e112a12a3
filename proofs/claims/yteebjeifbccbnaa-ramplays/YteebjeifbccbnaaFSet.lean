/- Frames in memory (Parts, FramesP), what turns them, and the walks of Many, Turns, isOwner, mayTake and Owner. -/
import Derived.Test.YteebjeifbccbnaaFPlain
import Derived.WalkKit
import Derived.WalkSpells
import Derived.WalkLawsBesides
import Derived.Maps.AppendAt
import Derived.OneCell
import Derived.OwnWalk
import Derived.Deep.QuietTactic
import Derived.BigQuiet
import Derived.Deep.Draws
namespace Go.Proofs.Yteebjeifbccbnaa
open Go.RowKit

theorem retInt {k : IntKind} {a b : Int} (h : a = b) : Ending.returned (.int k a) = .returned (.int k b) := by rw [h]
theorem retBool {a b : Bool} (h : a = b) : Ending.returned (.bool a) = .returned (.bool b) := by rw [h]
theorem heap_drewN (w : World) (n : Nat) : (w.drewN n).heap = w.heap := by simp
theorem drewN_below (B : Nat) (w : World) (n : Nat) : Below B w (w.drewN n) := ⟨rfl, rfl, rfl, Nat.le_refl _, fun _ _ => rfl⟩
theorem drew_below (B : Nat) (w : World) : Below B w w.drew := ⟨rfl, rfl, rfl, Nat.le_refl _, fun _ _ => rfl⟩
theorem quietSame {P : Program} {f : FuncId} {args : Array Value} {w : World} {n : Nat} {v : Value}
    (h : Calls P f args (w.drewN n) fun e w' => e = .returned v ∧ w.drewN n = w') : Calls P f args (w.drewN n) fun e w'' => e = .returned v ∧ ∃ m, w'' = w.drewN m :=
  h.mono fun _ _ ⟨he, hm⟩ => ⟨he, n, hm.symm⟩
def zv (l : List Int) : List Value := l.map fun n : Int => Value.int .i64 n
theorem zv_at (l : List Int) (i : Nat) (hi : i < l.length) : (zv l)[i]? = some (.int .i64 (l.getD i 0)) := by simp [zv, List.getD, hi]
theorem zv_set (l : List Int) (i : Nat) (v : Int) : zv (l.set i v) = (zv l).set i (.int .i64 v) := by simp [zv, List.map_set]
theorem zv_one (l : List Int) : ∀ u ∈ zv l, u.oneCell' = true := by
  intro u hu
  obtain ⟨_, _, rfl⟩ := List.mem_map.1 hu
  rfl
def iv (l : List Nat) : List Value := l.map fun n : Nat => Value.int .i64 (n : Int)
theorem iv_at (l : List Nat) (i : Nat) (hi : i < l.length) : (iv l)[i]? = some (.int .i64 (l.getD i 0 : Nat)) := by simp [iv, List.getD, hi]
theorem row_slice {w : World} {base : Nat} {e : TypeId} {size n : Nat} {v : Value} {xs : List Value} (h : w.ownsRow base e size v n xs) : ∃ a c, v = .slice a n c := by
  rcases h.2 with ⟨h1, h2⟩ | ⟨g, cap, cur, h1, _⟩
  · subst h2; exact ⟨_, _, h1⟩
  · exact ⟨_, _, h1⟩
theorem row_at {w : World} {base n c : Nat} {e : TypeId} {a : Option Addr} {xs : List Value} (h : w.ownsRow base e 1 (.slice a n c) n xs) {i : Nat} (hi : i < n) :
    ∃ g, a = some ⟨g, 0, none⟩ ∧ w.cell? ⟨g, i, none⟩ = xs[i]? ∧ w.frozen? ⟨g, i, none⟩ = false ∧ base ≤ g ∧ g < w.heap.size := by
  rcases h.2 with ⟨_, h2⟩ | ⟨g, cap, cur, h1, h2, h3, _⟩
  · omega
  · simp only [Value.slice.injEq, true_and] at h1
    obtain ⟨rfl, rfl⟩ := h1
    exact ⟨g, rfl, h.cellAt i (by omega), h.frozenAt i, h2, (Array.getElem?_eq_some_iff.1 h3).1⟩
theorem row_below {w w' : World} {base : Nat} {e : TypeId} {size n : Nat} {v : Value} {xs : List Value} (h : w.ownsRow base e size v n xs) (hb : Below w.heap.size w w') : w'.ownsRow base e size v n xs := by
  refine ⟨h.1, ?_⟩
  rcases h.2 with h1 | ⟨g, cap, cur, h1, h2, h3, r⟩
  · exact .inl h1
  · exact .inr ⟨g, cap, cur, h1, h2, by rw [hb.block g (Array.getElem?_eq_some_iff.1 h3).1]; exact h3, r⟩
theorem rowMono {w : World} {base base' : Nat} {e : TypeId} {size : Nat} {v : Value} {n : Nat} {xs : List Value} (h : w.ownsRow base e size v n xs) (hb : base' ≤ base) : w.ownsRow base' e size v n xs := by
  refine ⟨h.1, ?_⟩
  rcases h.2 with h1 | ⟨g, cap, cur, h1, h2, r⟩
  · exact .inl h1
  · exact .inr ⟨g, cap, cur, h1, by omega, r⟩
theorem row_form {w : World} {base : Nat} {e : TypeId} {size n : Nat} {v : Value} {xs : List Value} (h : w.ownsRow base e size v n xs) (hv : ¬ v = .slice none 0 0) : ∃ g cap, v = .slice (some ⟨g, 0, none⟩) n cap := by
  rcases h.2 with ⟨h1, _⟩ | ⟨g, cap, cur, h1, _⟩
  · exact absurd h1 hv
  · exact ⟨g, cap, h1⟩
theorem row_of_block {w w' : World} {base g n c : Nat} {e : TypeId} {size : Nat} {xs : List Value} (h : w.ownsRow base e size (.slice (some ⟨g, 0, none⟩) n c) n xs) (hk : w'.heap[g]? = w.heap[g]?) : w'.ownsRow base e size (.slice (some ⟨g, 0, none⟩) n c) n xs := by
  refine ⟨h.1, ?_⟩
  rcases h.2 with ⟨he, _⟩ | ⟨g', cap, cur, he, hb, hh, r⟩
  · simp at he
  · simp only [Value.slice.injEq, Option.some.injEq, Addr.mk.injEq, and_true, true_and] at he
    obtain ⟨rfl, rfl⟩ := he
    exact .inr ⟨g, _, cur, rfl, hb, hk.trans hh, r⟩
/-- A row that is cut at k. -/
theorem row_cut {w : World} {base g n c k : Nat} {e : TypeId} {xs : List Value} (h : w.ownsRow base e 1 (.slice (some ⟨g, 0, none⟩) n c) n xs) (hk : k ≤ n) : w.ownsRow base e 1 (.slice (some ⟨g, 0, none⟩) k c) k (xs.take k) := by
  have hl := h.1
  refine ⟨by rw [List.length_take, hl]; omega, ?_⟩
  rcases h.2 with ⟨he, _⟩ | ⟨g', cap, cur, he, hb, hh, h1, h2, h3, h4⟩
  · simp at he
  · simp only [Value.slice.injEq, Option.some.injEq, Addr.mk.injEq, and_true, true_and] at he
    obtain ⟨rfl, rfl⟩ := he
    refine .inr ⟨g, _, cur, rfl, hb, hh, by omega, h2, h3, ?_⟩
    rw [← h4, List.take_take]
    congr 1
    omega
theorem row_cap {w : World} {base n c : Nat} {e : TypeId} {size : Nat} {a : Addr} {xs : List Value} (h : w.ownsRow base e size (.slice (some a) n c) n xs) : n ≤ c ∧ c ≤ maxLen := by
  rcases h.2 with ⟨h1, _⟩ | ⟨g, cap, cur, h1, _, _, h4, h5, _⟩
  · simp at h1
  · simp only [Value.slice.injEq, true_and] at h1
    obtain ⟨_, rfl⟩ := h1
    exact ⟨h4, h5⟩
theorem one_new (w : World) (v : Value) : ∀ j u, [v][j]? = some u → (w.alloc (.cells #[v] 3)).cell? ((⟨w.heap.size, 0, none⟩ : Addr).add j) = some u := by
  intro j u hj
  match j, hj with
  | 0, hj => simp at hj; subst hj; simp [Addr.add]
theorem one_one (n : Int) : ∀ u ∈ [Value.int .i64 n], u.oneCell' = true := by intro u hu; simp at hu; subst hu; rfl
theorem Try.info3 : (Try.prog.info? 3).map (fun i => (i.zero, i.size, i.bytes)) = some (some (.int .i64 0), 1, 8) := by kernel_rfl

/-- No block that was there turns but those from B to less than E. -/
structure Turns (B E : Nat) (w w' : World) : Prop where
  os : w'.os = w.os
  tape : w'.tape = w.tape
  output : w'.output = w.output
  size : w.heap.size ≤ w'.heap.size
  block : ∀ k, k < w.heap.size → k < B ∨ E ≤ k → w'.heap[k]? = w.heap[k]?
section
variable {B E : Nat} {a b c w w' : World}
theorem Turns.refl (B E : Nat) (w : World) : Turns B E w w := ⟨rfl, rfl, rfl, Nat.le_refl _, fun _ _ _ => rfl⟩
theorem Turns.trans (h : Turns B E a b) (k : Turns B E b c) : Turns B E a c :=
  ⟨k.os.trans h.os, k.tape.trans h.tape, k.output.trans h.output, Nat.le_trans h.size k.size, fun i h1 h2 => (k.block i (Nat.lt_of_lt_of_le h1 h.size) h2).trans (h.block i h1 h2)⟩
theorem Turns.below (h : Turns B E w w') (hB : B ≤ w.heap.size) : Below B w w' := ⟨h.os, h.tape, h.output, h.size, fun k hk => h.block k (by omega) (.inl hk)⟩
theorem Turns.of_below (h : Below w.heap.size w w') : Turns B E w w' := ⟨h.os, h.tape, h.output, h.size, fun k hk _ => h.block k hk⟩
theorem Turns.setCell (h : Turns B E a w) {p : Addr} (h1 : B ≤ p.block) (h2 : p.block < E) (u : Value) : Turns B E a (w.setCell p u) := by
  refine ⟨h.os, h.tape, h.output, by have := h.size; simpa using this, fun k hk hk2 => ?_⟩
  rw [Below.heap_setCell _ _ _ _ (by omega)]
  exact h.block k hk hk2
theorem Turns.grown {g : Nat} (h : Turns B E a w) (hg : w.grownBy w' (some g)) (h1 : B ≤ g) (h2 : g < E) : Turns B E a w' := by
  refine h.trans ⟨hg.os, hg.tape, hg.output, hg.size, fun k hk hk2 => hg.block k hk ?_⟩
  intro e
  simp at e
  omega
theorem Turns.row {base : Nat} {e : TypeId} {size n : Nat} {v : Value} {xs : List Value} (h : Turns B E w w') (ho : w.ownsRow base e size v n xs) (hb : E ≤ base) : w'.ownsRow base e size v n xs := by
  refine ⟨ho.1, ?_⟩
  rcases ho.2 with h1 | ⟨g, cap, cur, h1, h2, h3, r⟩
  · exact .inl h1
  · exact .inr ⟨g, cap, cur, h1, h2, (h.block g (Array.getElem?_eq_some_iff.1 h3).1 (.inr (by omega))).trans h3, r⟩
end

/-- The three blocks of frames: their struct in b, their owners in g1, those that are Free in g2. -/
structure Parts (B E : Nat) (w : World) (b g1 g2 m : Nat) (t : Int) (O : List Int) (S : List Nat) : Prop where
  small : m ≤ 96
  bs : B ≤ b ∧ b < E
  g1s : B ≤ g1 ∧ g1 < E
  g2s : B ≤ g2 ∧ g2 < E
  hi : E ≤ w.heap.size
  ne1 : b ≠ g1
  ne2 : b ≠ g2
  ne3 : g1 ≠ g2
  head : w.heap[b]? = some (.cells #[.slice (some ⟨g1, 0, none⟩) m m, .slice (some ⟨g2, 0, none⟩) S.length m, .int .i64 t] 90 (0, 0))
  rowO : w.ownsRow B 3 1 (.slice (some ⟨g1, 0, none⟩) m m) m (zv O)
  rowS : w.ownsRow B 3 1 (.slice (some ⟨g2, 0, none⟩) S.length m) S.length (iv S)
section
variable {B E b g1 g2 m : Nat} {w w' : World} {t : Int} {O : List Int} {S : List Nat}
theorem Parts.ol (h : Parts B E w b g1 g2 m t O S) : O.length = m := by have := h.rowO.1; simpa [zv] using this
theorem Parts.cell0 (h : Parts B E w b g1 g2 m t O S) : w.cell? ⟨b, 0, none⟩ = some (.slice (some ⟨g1, 0, none⟩) m m) := by rw [cell_of_row w b 0 _ _ _ h.head]; rfl
theorem Parts.cell1 (h : Parts B E w b g1 g2 m t O S) : w.cell? ⟨b, 1, none⟩ = some (.slice (some ⟨g2, 0, none⟩) S.length m) := by rw [cell_of_row w b 1 _ _ _ h.head]; rfl
theorem Parts.cell2 (h : Parts B E w b g1 g2 m t O S) : w.cell? ⟨b, 2, none⟩ = some (.int .i64 t) := by rw [cell_of_row w b 2 _ _ _ h.head]; rfl
theorem Parts.cellO (h : Parts B E w b g1 g2 m t O S) {j : Nat} (hj : j < m) : w.cell? ⟨g1, j, none⟩ = some (.int .i64 (O.getD j 0)) := by
  rw [h.rowO.cellAt j (by omega), zv_at _ _ (by rw [h.ol]; omega)]
theorem Parts.cellS (h : Parts B E w b g1 g2 m t O S) {j : Nat} (hj : j < S.length) : w.cell? ⟨g2, j, none⟩ = some (.int .i64 (S.getD j 0 : Nat)) := by
  rw [h.rowS.cellAt j (by omega), iv_at _ _ hj]
theorem Parts.frozenO (h : Parts B E w b g1 g2 m t O S) (j : Nat) : w.frozen? ⟨g1, j, none⟩ = false := h.rowO.frozenAt j
theorem Parts.frozenS (h : Parts B E w b g1 g2 m t O S) (j : Nat) : w.frozen? ⟨g2, j, none⟩ = false := h.rowS.frozenAt j
theorem Parts.frozenB (h : Parts B E w b g1 g2 m t O S) (j : Nat) : w.frozen? ⟨b, j, none⟩ = false := by
  have := h.head
  simp [World.frozen?, this]
theorem Parts.of_blocks (h : Parts B E w b g1 g2 m t O S) (hs : w.heap.size ≤ w'.heap.size) (hk : ∀ i, B ≤ i → i < E → w'.heap[i]? = w.heap[i]?) : Parts B E w' b g1 g2 m t O S :=
  ⟨h.small, h.bs, h.g1s, h.g2s, Nat.le_trans h.hi hs, h.ne1, h.ne2, h.ne3, (hk b h.bs.1 h.bs.2).trans h.head, row_of_block h.rowO (hk g1 h.g1s.1 h.g1s.2), row_of_block h.rowS (hk g2 h.g2s.1 h.g2s.2)⟩
theorem Parts.below (h : Parts B E w b g1 g2 m t O S) (hb : Below w.heap.size w w') : Parts B E w' b g1 g2 m t O S := h.of_blocks hb.size (fun i _ hi => hb.block i (Nat.lt_of_lt_of_le hi h.hi))
theorem Parts.setO (h : Parts B E w b g1 g2 m t O S) (j : Nat) (v : Int) : Parts B E (w.setCell ⟨g1, j, none⟩ (.int .i64 v)) b g1 g2 m t (O.set j v) S := by
  refine ⟨h.small, h.bs, h.g1s, h.g2s, by simpa using h.hi, h.ne1, h.ne2, h.ne3, ?_, ?_, ?_⟩
  · rw [Below.heap_setCell _ _ _ _ h.ne1]; exact h.head
  · rw [zv_set]; exact (h.rowO.stored j _).1
  · exact row_of_block h.rowS (Below.heap_setCell _ _ _ _ (Ne.symm h.ne3))
theorem Parts.setS (h : Parts B E w b g1 g2 m t O S) (j v : Nat) : Parts B E (w.setCell ⟨g2, j, none⟩ (.int .i64 (v : Int))) b g1 g2 m t O (S.set j v) := by
  refine ⟨h.small, h.bs, h.g1s, h.g2s, by simpa using h.hi, h.ne1, h.ne2, h.ne3, ?_, ?_, ?_⟩
  · rw [Below.heap_setCell _ _ _ _ h.ne2, List.length_set]; exact h.head
  · exact row_of_block h.rowO (Below.heap_setCell _ _ _ _ h.ne3)
  · rw [List.length_set, show iv (S.set j v) = (iv S).set j (.int .i64 (v : Int)) by simp [iv, List.map_set]]; exact (h.rowS.stored j _).1
theorem Parts.setT (h : Parts B E w b g1 g2 m t O S) (v : Int) : Parts B E (w.setCell ⟨b, 2, none⟩ (.int .i64 v)) b g1 g2 m v O S := by
  refine ⟨h.small, h.bs, h.g1s, h.g2s, by simpa using h.hi, h.ne1, h.ne2, h.ne3, ?_, ?_, ?_⟩
  · show (w.heap.modify b _)[b]? = _
    rw [Array.getElem?_modify, if_pos rfl, h.head]
    rfl
  · exact row_of_block h.rowO (Below.heap_setCell _ _ _ _ (Ne.symm h.ne1))
  · exact row_of_block h.rowS (Below.heap_setCell _ _ _ _ (Ne.symm h.ne2))
/-- The field 'free' is laid anew, of the same block. -/
theorem Parts.setF (h : Parts B E w b g1 g2 m t O S) {S' : List Nat} (hr : w.ownsRow B 3 1 (.slice (some ⟨g2, 0, none⟩) S'.length m) S'.length (iv S')) : Parts B E (w.setCell ⟨b, 1, none⟩ (.slice (some ⟨g2, 0, none⟩) S'.length m)) b g1 g2 m t O S' := by
  refine ⟨h.small, h.bs, h.g1s, h.g2s, by simpa using h.hi, h.ne1, h.ne2, h.ne3, ?_, ?_, ?_⟩
  · show (w.heap.modify b _)[b]? = _
    rw [Array.getElem?_modify, if_pos rfl, h.head]
    rfl
  · exact row_of_block h.rowO (Below.heap_setCell _ _ _ _ (Ne.symm h.ne1))
  · exact row_of_block hr (Below.heap_setCell _ _ _ _ (Ne.symm h.ne2))
end

/-- Frames, or none. -/
def FramesP (B E : Nat) (w : World) (p : Option Addr) (m t : Nat) (O : List Int) (S : List Nat) : Prop :=
  Good m O S ∧ ((p = none ∧ m = 0 ∧ t = 0 ∧ O = [] ∧ S = []) ∨ ∃ b g1 g2, p = some ⟨b, 0, none⟩ ∧ Parts B E w b g1 g2 m (t : Int) O S)
section
variable {B E m t : Nat} {w w' : World} {p : Option Addr} {O : List Int} {S : List Nat}
theorem FramesP.nil (B E : Nat) (w : World) : FramesP B E w none 0 0 [] [] := ⟨Good.start 0, .inl ⟨rfl, rfl, rfl, rfl, rfl⟩⟩
theorem FramesP.good (h : FramesP B E w p m t O S) : Good m O S := h.1
theorem FramesP.small (h : FramesP B E w p m t O S) : m ≤ 96 := by
  rcases h.2 with ⟨_, rfl, _⟩ | ⟨b, g1, g2, _, hp⟩
  · omega
  · exact hp.small
theorem FramesP.below (h : FramesP B E w p m t O S) (hb : Below w.heap.size w w') : FramesP B E w' p m t O S := by
  refine ⟨h.1, ?_⟩
  rcases h.2 with h | ⟨b, g1, g2, h1, hp⟩
  · exact .inl h
  · exact .inr ⟨b, g1, g2, h1, hp.below hb⟩
theorem FramesP.kept (h : FramesP B E w p m t O S) (hs : w.heap.size ≤ w'.heap.size) (hk : ∀ i, i < E → w'.heap[i]? = w.heap[i]?) : FramesP B E w' p m t O S := by
  refine ⟨h.1, ?_⟩
  rcases h.2 with h | ⟨b, g1, g2, h1, hp⟩
  · exact .inl h
  · exact .inr ⟨b, g1, g2, h1, hp.of_blocks hs (fun i _ hi => hk i hi)⟩
theorem FramesP.drewN (h : FramesP B E w p m t O S) (n : Nat) : FramesP B E (w.drewN n) p m t O S := h.below (drewN_below _ _ _)
end

set_option maxHeartbeats 400000 in
theorem many_any {B E m t : Nat} {p : Option Addr} {O : List Int} {S : List Nat} (w : World) (h : FramesP B E w p m t O S) :
    Calls Try.prog 42 #[.pointer p] w fun e w' => e = .returned (.int .i64 (m : Nat)) ∧ w = w' := by
  rcases h.2 with ⟨rfl, rfl, _⟩ | ⟨b, g1, g2, rfl, hp⟩
  · go_enter Try.func42, Try.ntmps42
    go_wp2
    go_ret
    exact ⟨rfl, rfl⟩
  · have h0 := hp.cell0
    clear hp h
    go_enter Try.func42, Try.ntmps42
    go_wp2
    go_ret
    exact ⟨rfl, rfl⟩
def isO (o : Int) : Bool := decide (0 ≤ o ∧ o < 4)
def isT (o : Int) : Bool := decide (1 ≤ o ∧ o ≤ 3)
theorem isOwner_any (o : Int) (w : World) : Calls Try.prog 49 #[.int .i64 o] w fun e w' => e = .returned (.bool (isO o)) ∧ w = w' := by
  by_cases h1 : 0 ≤ o
  · go_enter Try.func49, Try.ntmps49
    go_wp2
    go_ret
    exact ⟨retBool (by simp [isO, h1]), rfl⟩
  · go_enter Try.func49, Try.ntmps49
    go_wp2
    go_ret
    exact ⟨retBool (decide_eq_false (by omega)).symm, rfl⟩
theorem isOwner_is {b : Bool} (o : Int) (w : World) (h : isO o = b) : Calls Try.prog 49 #[.int .i64 o] w fun e w' => e = .returned (.bool b) ∧ w = w' := by
  rw [← h]; exact isOwner_any o w
theorem mayTake_any (o : Int) (w : World) : Calls Try.prog 45 #[.int .i64 o] w fun e w' => e = .returned (.bool (isT o)) ∧ w = w' := by
  by_cases h1 : 0 ≤ o ∧ o < 4
  · have H : isO o = true := decide_eq_true h1
    go_enter Try.func45, Try.ntmps45
    go_wp2_with (go_at_call 49; refine (isOwner_is _ _ H).mono ?_; rintro e w' ⟨rfl, rfl⟩)
    go_ret
    refine ⟨retBool ?_, rfl⟩
    by_cases e : o = 0
    · subst e; rfl
    · rw [isT, decide_eq_true (by omega)]; simpa using e
  · have H : isO o = false := decide_eq_false h1
    go_enter Try.func45, Try.ntmps45
    go_wp2_with (go_at_call 49; refine (isOwner_is _ _ H).mono ?_; rintro e w' ⟨rfl, rfl⟩)
    go_ret
    exact ⟨retBool (decide_eq_false (by omega)).symm, rfl⟩
theorem mayTake_is {b : Bool} (o : Int) (w : World) (h : isT o = b) : Calls Try.prog 45 #[.int .i64 o] w fun e w' => e = .returned (.bool b) ∧ w = w' := by
  rw [← h]; exact mayTake_any o w

set_option maxHeartbeats 400000 in
theorem owner_any {B E m t : Nat} {p : Option Addr} {O : List Int} {S : List Nat} (n : Int) (w : World) (h : FramesP B E w p m t O S) :
    Calls Try.prog 40 #[.pointer p, .int .i64 n] w fun e w' => e = .returned (.int .i64 (ownI O n)) ∧ w = w' := by
  have hl := h.good.len
  by_cases h1 : n < 0
  · have E : Hid (ownI O n = 0) := ownI_neg h1
    go_enter Try.func40, Try.ntmps40
    go_wp2_with (go_at_call 42; refine (many_any _ h).mono ?_; rintro e w' ⟨rfl, rfl⟩)
    go_ret
    exact ⟨retInt E.out.symm, rfl⟩
  · by_cases h2 : n < m
    · obtain ⟨n, rfl⟩ := Int.eq_ofNat_of_zero_le (show 0 ≤ n by omega)
      have H : Hid (FramesP B E w p m t O S) := h
      rcases h.2 with ⟨rfl, rfl, _⟩ | ⟨b, g1, g2, rfl, hp⟩
      · omega
      have c0 := hp.cell0
      have cO := hp.cellO (j := n) (by omega)
      rw [ownI_nat]
      generalize O.getD n 0 = q at *
      clear hp h hl
      go_enter Try.func40, Try.ntmps40
      go_wp2_with (go_at_call 42; refine (many_any _ H.out).mono ?_; rintro e w' ⟨rfl, rfl⟩)
      go_ret
      exact ⟨rfl, rfl⟩
    · have E : Hid (ownI O n = 0) := ownI_far (by omega)
      clear hl
      go_enter Try.func40, Try.ntmps40
      go_wp2_with (go_at_call 42; refine (many_any _ h).mono ?_; rintro e w' ⟨rfl, rfl⟩)
      go_ret
      exact ⟨retInt E.out.symm, rfl⟩
theorem owner_is {B E m t : Nat} {p : Option Addr} {O : List Int} {S : List Nat} (n : Int) (w : World) (h : FramesP B E w p m t O S) {q : Int} (hq : ownI O n = q) :
    Calls Try.prog 40 #[.pointer p, .int .i64 n] w fun e w' => e = .returned (.int .i64 q) ∧ w = w' := by
  rw [← hq]; exact owner_any n w h
end Go.Proofs.Yteebjeifbccbnaa
