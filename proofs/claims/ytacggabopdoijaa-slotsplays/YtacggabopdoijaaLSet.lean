/- Luck in memory (LuckAt: choices zs of which k were asked for), and the walks of Fails, Asked, Failed, Left, of nil luck too. -/
import Derived.Test.YtacggabopdoijaaGKit
namespace Go.Proofs.Ytacggabopdoijaa
open Go.RowKit

def bl (l : List Bool) : List Value := l.map Value.bool
theorem bl_len (l : List Bool) : (bl l).length = l.length := by simp [bl]
theorem bl_one (l : List Bool) : ∀ u ∈ bl l, u.oneCell' = true := by
  intro u hu
  obtain ⟨_, _, rfl⟩ := List.mem_map.1 hu
  rfl
theorem bl_at (l : List Bool) (i : Nat) (hi : i < l.length) : (bl l)[i]? = some (.bool (l.getD i false)) := by simp [bl, List.getD, hi]
theorem bl_some {l : List Bool} {j : Nat} {u : Value} (h : (bl l)[j]? = some u) : j < l.length ∧ u = .bool (l.getD j false) := by
  have hj : j < l.length := by
    rcases Nat.lt_or_ge j l.length with h1 | h1
    · exact h1
    · rw [List.getElem?_eq_none (by simpa [bl] using h1)] at h; simp at h
  rw [bl_at l j hj] at h
  exact ⟨hj, (Option.some.inj h).symm⟩
theorem bl_set (l : List Bool) (i : Nat) (v : Bool) : bl (l.set i v) = (bl l).set i (.bool v) := by simp [bl, List.map_set]

/-- How many of the first k choices say that an access fails. -/
def ft (zs : List Bool) (k : Nat) : Nat := (zs.take k).count true
/-- Does the access at place k fail? -/
def fa (zs : List Bool) (k : Nat) : Bool := zs.getD k false
def inc (n : Nat) (b : Bool) : Nat := if b then n + 1 else n
theorem ft_next (zs : List Bool) (k : Nat) : ft zs (k + 1) = inc (ft zs k) (fa zs k) := by
  unfold ft fa inc
  rcases Nat.lt_or_ge k zs.length with h | h
  · rw [List.take_add_one, List.getElem?_eq_getElem h, List.getD_eq_getElem?_getD, List.getElem?_eq_getElem h]
    cases zs[k] <;> simp
  · rw [List.take_of_length_le (by omega), List.take_of_length_le h, List.getD_eq_getElem?_getD, List.getElem?_eq_none h]
    simp
theorem ft_le (zs : List Bool) (k : Nat) : ft zs k ≤ k := by
  unfold ft
  have h1 := List.count_le_length (a := true) (l := zs.take k)
  have h2 : (zs.take k).length ≤ k := by rw [List.length_take]; omega
  omega
theorem ft_zero (zs : List Bool) : ft zs 0 = 0 := rfl
theorem fa_far {zs : List Bool} {k : Nat} (h : zs.length ≤ k) : fa zs k = false := by
  unfold fa; rw [List.getD_eq_getElem?_getD, List.getElem?_eq_none h]; rfl

/-- Luck in block b: of the choices zs k were asked for. -/
structure LuckAt (B E : Nat) (w : World) (b : Nat) (zs : List Bool) (k : Nat) : Prop where
  lo : B ≤ b
  lt : b < E
  hi : E ≤ w.heap.size
  len : zs.length ≤ maxLen
  head : ∃ a c, w.heap[b]? = some (.cells #[.slice a (zs.length - k) c, .int .i64 (k : Nat), .int .i64 (ft zs k : Nat)] 92 (0, 0)) ∧
    (k < zs.length → zs.length - k ≤ c ∧ c ≤ maxLen ∧ ∃ g off, a = some ⟨g, off, none⟩ ∧ B ≤ g ∧ g < E ∧ g ≠ b ∧ ∀ i, i < zs.length - k → w.cell? ⟨g, off + i, none⟩ = some (.bool (fa zs (k + i))))
section
variable {B E b k : Nat} {w w' : World} {zs : List Bool}
theorem LuckAt.of_blocks (h : LuckAt B E w b zs k) (hs : w.heap.size ≤ w'.heap.size) (hk : ∀ i, B ≤ i → i < E → w'.heap[i]? = w.heap[i]?) : LuckAt B E w' b zs k := by
  refine ⟨h.lo, h.lt, Nat.le_trans h.hi hs, h.len, ?_⟩
  obtain ⟨a, c, h1, h2⟩ := h.head
  refine ⟨a, c, (hk b h.lo h.lt).trans h1, fun hl => ?_⟩
  obtain ⟨h3, h4, g, off, e, g1, g2, g3, hc⟩ := h2 hl
  exact ⟨h3, h4, g, off, e, g1, g2, g3, fun i hi => by rw [← hc i hi]; exact World.cell?_of_block (hk g g1 g2)⟩
theorem LuckAt.below (h : LuckAt B E w b zs k) (hb : Below w.heap.size w w') : LuckAt B E w' b zs k := h.of_blocks hb.size (fun i _ hi => hb.block i (Nat.lt_of_lt_of_le hi h.hi))
theorem LuckAt.drewN (h : LuckAt B E w b zs k) (n : Nat) : LuckAt B E (w.drewN n) b zs k := h.below (drewN_below _ _ _)
theorem LuckAt.kept {B' E' : Nat} (h : LuckAt B E w b zs k) (ht : Turns B' E' w w') (hd : E ≤ B' ∨ E' ≤ B) : LuckAt B E w' b zs k :=
  h.of_blocks ht.size (fun i h1 h2 => ht.block i (Nat.lt_of_lt_of_le h2 h.hi) (by omega))
theorem LuckAt.cell1 (h : LuckAt B E w b zs k) : w.cell? ⟨b, 1, none⟩ = some (.int .i64 (k : Nat)) := by
  obtain ⟨a, c, h1, _⟩ := h.head
  rw [cell_of_row w b 1 _ _ _ h1]; rfl
theorem LuckAt.cell2 (h : LuckAt B E w b zs k) : w.cell? ⟨b, 2, none⟩ = some (.int .i64 (ft zs k : Nat)) := by
  obtain ⟨a, c, h1, _⟩ := h.head
  rw [cell_of_row w b 2 _ _ _ h1]; rfl
theorem LuckAt.cell0 (h : LuckAt B E w b zs k) : ∃ a c, w.cell? ⟨b, 0, none⟩ = some (.slice a (zs.length - k) c) := by
  obtain ⟨a, c, h1, _⟩ := h.head
  exact ⟨a, c, by rw [cell_of_row w b 0 _ _ _ h1]; rfl⟩
theorem LuckAt.frozenB (h : LuckAt B E w b zs k) (j : Nat) : w.frozen? ⟨b, j, none⟩ = false := by
  obtain ⟨a, c, h1, _⟩ := h.head
  simp [World.frozen?, h1]
end

set_option maxHeartbeats 400000 in
theorem asked_any {B E b k : Nat} {zs : List Bool} (w : World) (h : LuckAt B E w b zs k) :
    Calls Try.prog 40 #[.pointer (some ⟨b, 0, none⟩)] w fun e w' => e = .returned (.int .i64 (k : Nat)) ∧ w = w' := by
  have c1 := h.cell1
  clear h
  go_enter Try.func40, Try.ntmps40
  go_wp2
  go_ret
  exact ⟨rfl, rfl⟩
set_option maxHeartbeats 400000 in
theorem failed_any {B E b k : Nat} {zs : List Bool} (w : World) (h : LuckAt B E w b zs k) :
    Calls Try.prog 41 #[.pointer (some ⟨b, 0, none⟩)] w fun e w' => e = .returned (.int .i64 (ft zs k : Nat)) ∧ w = w' := by
  have c2 := h.cell2
  clear h
  go_enter Try.func41, Try.ntmps41
  go_wp2
  go_ret
  exact ⟨rfl, rfl⟩
theorem asked_nil (w : World) : Calls Try.prog 40 #[.pointer none] w fun e w' => e = .returned (.int .i64 0) ∧ w = w' := by
  go_enter Try.func40, Try.ntmps40
  go_wp2
  go_ret
  exact ⟨rfl, rfl⟩
theorem failed_nil (w : World) : Calls Try.prog 41 #[.pointer none] w fun e w' => e = .returned (.int .i64 0) ∧ w = w' := by
  go_enter Try.func41, Try.ntmps41
  go_wp2
  go_ret
  exact ⟨rfl, rfl⟩
theorem fails_nil (w : World) : Calls Try.prog 50 #[.pointer none] w fun e w' => e = .returned (.bool false) ∧ w = w' := by
  go_enter Try.func50, Try.ntmps50
  go_wp2
  go_ret
  exact ⟨rfl, rfl⟩

/-- A struct of three cells that is laid anew cell by cell. -/
theorem set_head {w : World} {b : Nat} {t : TypeId} {x0 x1 x2 : Value} (h : w.heap[b]? = some (.cells #[x0, x1, x2] t (0, 0))) (y : Value) :
    (w.setCell ⟨b, 0, none⟩ y).heap[b]? = some (.cells #[y, x1, x2] t (0, 0)) ∧ (w.setCell ⟨b, 1, none⟩ y).heap[b]? = some (.cells #[x0, y, x2] t (0, 0)) ∧ (w.setCell ⟨b, 2, none⟩ y).heap[b]? = some (.cells #[x0, x1, y] t (0, 0)) := by
  refine ⟨?_, ?_, ?_⟩
  · rw [heap_setCell_same _ _ _ _ _ _ h]; rfl
  · rw [heap_setCell_same _ _ _ _ _ _ h]; rfl
  · rw [heap_setCell_same _ _ _ _ _ _ h]; rfl

set_option maxHeartbeats 1000000 in
theorem fails_any {B E b k : Nat} {zs : List Bool} (w : World) (h : LuckAt B E w b zs k) (hk : k < 1000000000) :
    Calls Try.prog 50 #[.pointer (some ⟨b, 0, none⟩)] w fun e w' => e = .returned (.bool (fa zs k)) ∧ LuckAt B E w' b zs (k + 1) ∧ Turns B E w w' := by
  have c1 := h.cell1
  have c2 := h.cell2
  have f0 := h.frozenB 0
  have f1 := h.frozenB 1
  have f2 := h.frozenB 2
  obtain ⟨a, c, hh, hr⟩ := h.head
  have c0 : w.cell? ⟨b, 0, none⟩ = some (.slice a (zs.length - k) c) := by rw [cell_of_row w b 0 _ _ _ hh]; rfl
  have hl := h.len
  have hfl := ft_le zs k
  have hfn := ft_next zs k
  have H : Hid (LuckAt B E w b zs k) := h
  have HH : Hid (w.heap[b]? = some (.cells #[.slice a (zs.length - k) c, .int .i64 (k : Nat), .int .i64 (ft zs k : Nat)] 92 (0, 0))) := hh
  have HL : Hid (zs.length ≤ maxLen) := hl
  unfold maxLen at hl
  by_cases hlt : k < zs.length
  · obtain ⟨hc1, hc2, g, off, rfl, g1, g2, g3, hc⟩ := hr hlt
    clear hr
    have cg := hc 0 (by omega)
    rw [Nat.add_zero, Nat.add_zero] at cg
    have HC : Hid (∀ i, i < zs.length - k → w.cell? ⟨g, off + i, none⟩ = some (.bool (fa zs (k + i)))) := hc
    obtain ⟨n, hn⟩ : ∃ n, zs.length = k + (n + 1) := ⟨zs.length - k - 1, by omega⟩
    have hn1 : zs.length - k = n + 1 := by omega
    have HN : Hid (zs.length = k + (n + 1)) := hn
    have hc2' : c ≤ 9223372036854775807 := by unfold maxLen at hc2; omega
    rw [hn1] at HH c0 hc1
    have HC2 : Hid (c ≤ maxLen) := hc2
    have HC1 : Hid (n + 1 ≤ c) := hc1
    have HFN : Hid (ft zs (k + 1) = inc (ft zs k) (fa zs k)) := hfn
    clear hc hh h hn hlt hfn hc2 hn1
    generalize hF : fa zs k = y at *
    generalize hT : ft zs k = t at *
    have fin : ∀ (ad : Addr) (w2 : World), w2.heap[b]? = some (.cells #[.slice (some ad) n (c - 1), .int .i64 ((k : Int) + 1), .int .i64 (inc t y : Nat)] 92 (0, 0)) → w2.heap.size = w.heap.size → (∀ i, i ≠ b → w2.heap[i]? = w.heap[i]?) → (0 < n → ad = ⟨g, off + 1, none⟩) → LuckAt B E w2 b zs (k + 1) := by
      intro ad w2 e1 e2 e3 e4
      have hN := HN.out
      refine ⟨H.out.lo, H.out.lt, by rw [e2]; exact H.out.hi, H.out.len, some ad, c - 1, ?_, fun hl2 => ?_⟩
      · rw [e1, HFN.out, show zs.length - (k + 1) = n by omega]; rfl
      · have := HC1.out
        have := HC2.out
        refine ⟨by omega, by omega, g, off + 1, by rw [e4 (by omega)], g1, g2, g3, fun i hi => ?_⟩
        have hx := HC.out (i + 1) (by omega)
        rw [World.cell?_of_block (e3 g g3), Nat.add_assoc, Nat.add_comm 1 i, hx, Nat.add_assoc, Nat.add_comm 1 i]
    by_cases e1 : c = 1
    · have e2 : n = 0 := by omega
      subst e1
      subst e2
      cases y
      · go_enter Try.func50, Try.ntmps50
        go_wp2
        go_ret
        refine ⟨rfl, fin _ _ (set_head (set_head HH.out _).2.1 _).1 (by simp) (fun i hi => ?_) (fun h => by omega), ((Turns.refl B E w).setCell (p := ⟨b, 1, none⟩) H.out.lo H.out.lt _).setCell (p := ⟨b, 0, none⟩) H.out.lo H.out.lt _⟩
        rw [Below.heap_setCell _ _ _ _ hi, Below.heap_setCell _ _ _ _ hi]
      · go_enter Try.func50, Try.ntmps50
        go_wp2
        go_ret
        refine ⟨rfl, fin _ _ (set_head (set_head (set_head HH.out _).2.1 _).1 _).2.2 (by simp) (fun i hi => ?_) (fun h => by omega), (((Turns.refl B E w).setCell (p := ⟨b, 1, none⟩) H.out.lo H.out.lt _).setCell (p := ⟨b, 0, none⟩) H.out.lo H.out.lt _).setCell (p := ⟨b, 2, none⟩) H.out.lo H.out.lt _⟩
        rw [Below.heap_setCell _ _ _ _ hi, Below.heap_setCell _ _ _ _ hi, Below.heap_setCell _ _ _ _ hi]
    · cases y
      · go_enter Try.func50, Try.ntmps50
        go_wp2
        go_ret
        refine ⟨rfl, fin _ _ (set_head (set_head HH.out _).2.1 _).1 (by simp) (fun i hi => ?_) (fun _ => rfl), ((Turns.refl B E w).setCell (p := ⟨b, 1, none⟩) H.out.lo H.out.lt _).setCell (p := ⟨b, 0, none⟩) H.out.lo H.out.lt _⟩
        rw [Below.heap_setCell _ _ _ _ hi, Below.heap_setCell _ _ _ _ hi]
      · go_enter Try.func50, Try.ntmps50
        go_wp2
        go_ret
        refine ⟨rfl, fin _ _ (set_head (set_head (set_head HH.out _).2.1 _).1 _).2.2 (by simp) (fun i hi => ?_) (fun _ => rfl), (((Turns.refl B E w).setCell (p := ⟨b, 1, none⟩) H.out.lo H.out.lt _).setCell (p := ⟨b, 0, none⟩) H.out.lo H.out.lt _).setCell (p := ⟨b, 2, none⟩) H.out.lo H.out.lt _⟩
        rw [Below.heap_setCell _ _ _ _ hi, Below.heap_setCell _ _ _ _ hi, Below.heap_setCell _ _ _ _ hi]
  · have e0 : zs.length - k = 0 := by omega
    have hfa : fa zs k = false := fa_far (by omega)
    rw [e0] at c0 HH
    rw [hfa]
    have HFN : Hid (ft zs (k + 1) = ft zs k) := by show _ = _; rw [hfn, hfa]; rfl
    have HLT : Hid (¬ k < zs.length) := hlt
    clear hr hh h hfn hlt hfa
    generalize hT : ft zs k = t at *
    go_enter Try.func50, Try.ntmps50
    go_wp2
    go_ret
    have := HLT.out
    refine ⟨rfl, ⟨H.out.lo, H.out.lt, by simpa using H.out.hi, H.out.len, a, c, ?_, fun h => absurd h (by omega)⟩, (Turns.refl B E w).setCell (p := ⟨b, 1, none⟩) H.out.lo H.out.lt _⟩
    rw [(set_head HH.out _).2.1, HFN.out, show zs.length - (k + 1) = 0 by omega]
    rfl
theorem fails_is {B E b k : Nat} {zs : List Bool} (w : World) (h : LuckAt B E w b zs k) (hk : k < 1000000000) {y : Bool} (hy : fa zs k = y) :
    Calls Try.prog 50 #[.pointer (some ⟨b, 0, none⟩)] w fun e w' => e = .returned (.bool y) ∧ LuckAt B E w' b zs (k + 1) ∧ Turns B E w w' := by
  rw [← hy]; exact fails_any w h hk
end Go.Proofs.Ytacggabopdoijaa
