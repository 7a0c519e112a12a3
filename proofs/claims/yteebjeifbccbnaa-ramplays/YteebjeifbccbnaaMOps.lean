/- The walks of Read, Write, Word, SetWord, and of slices.Clone at bytes. -/
import Derived.Test.YteebjeifbccbnaaMTouch
import Derived.Lib.SliceRun
namespace Go.Proofs.Yteebjeifbccbnaa
open Go.RowKit

theorem bv_one (l : List Nat) : ∀ u ∈ bv l, u.oneCell' = true := by
  intro u hu
  obtain ⟨_, _, rfl⟩ := List.mem_map.1 hu
  rfl
theorem bv_at (l : List Nat) (i : Nat) (hi : i < l.length) : (bv l)[i]? = some (.int .u8 (l.getD i 0 : Nat)) := by simp [bv, List.getD, hi]
theorem bv_some {l : List Nat} {j : Nat} {u : Value} (h : (bv l)[j]? = some u) : j < l.length ∧ u = .int .u8 (l.getD j 0 : Nat) := by
  have hj : j < l.length := by
    rcases Nat.lt_or_ge j l.length with h1 | h1
    · exact h1
    · rw [List.getElem?_eq_none (by simpa using h1)] at h; simp at h
  rw [bv_at l j hj] at h
  exact ⟨hj, (Option.some.inj h).symm⟩
theorem add_lit' (b o j : Nat) : (⟨b, o, none⟩ : Addr).add j = ⟨b, o + j, none⟩ := by unfold Addr.add; split <;> simp_all

set_option maxHeartbeats 400000 in
theorem clone_any {g off s c : Nat} {b : List Nat} (w : World) (hl : b.length = s) (hs : s ≤ 8192) (hc : ∀ j, j < s → w.cell? ⟨g, off + j, none⟩ = some (.int .u8 (b.getD j 0 : Nat))) (hg : g < w.heap.size) :
    Calls Try.prog 26 #[.slice (some ⟨g, off, none⟩) s c] w fun e w' => ∃ v, e = .returned v ∧ w'.ownsRow w.heap.size 5 1 v s (bv b) ∧ Below w.heap.size w w' := by
  obtain ⟨i0, hi, hz0, hz1, hz2⟩ := info_parts Try.info5
  have HZL : Hid ((bv b).length = s * 1) := by show _ = _; simp [hl]
  have HC : Hid (∀ j, j < s → w.cell? ⟨g, off + j, none⟩ = some (.int .u8 (b.getD j 0 : Nat))) := hc
  have HL : Hid (b.length = s) := hl
  have heq := fun w => Go.Lib.run_eql_slice_nil (P := Try.prog) w 24 5 (some ⟨g, off, none⟩) s c 0 0 Try.underlying24
  clear hl hc
  go_enter Try.func26, Try.ntmps26
  go_wp2_with (at_builtin; refine wpList_append_own _ rfl _ _ 24 rfl w.heap.size 5 i0 (.int .u8 0) 1 1 Try.underlying24 hi hz0 hz1 hz2 rfl (by decide) _ _ _ rfl (World.ownsRow_made w #[] 0 (Nat.le_refl _) (by unfold maxLen; omega) rfl) ⟨g, off, none⟩ s c (bv b) rfl HZL.out ?c1 (bv_one _) ?c3 ?c4 ?c5 ?_)
  case c1 =>
    intro j u hj
    obtain ⟨h1, rfl⟩ := bv_some hj
    rw [HL.out] at h1
    rw [add_lit', ← HC.out j h1]
    exact World.cell?_of_block (Below.heap_alloc w _ g hg)
  case c3 => unfold maxLen; omega
  case c4 => omega
  case c5 => simp
  intro v2 w2 own2 gr2 _
  have b2 : Below w.heap.size w w2 := ((Below.refl _ w).alloc (Nat.le_refl _) _).grown gr2 (by simp) (fun i hi => by simp [Value.ownBlock] at hi; omega)
  have own2' : w2.ownsRow w.heap.size 5 1 v2 s (bv b) := by simpa using own2
  clear own2 gr2
  go_wp2
  go_ret
  exact ⟨_, rfl, own2', b2⟩
theorem clone_nil (w : World) : Calls Try.prog 26 #[.slice none 0 0] w fun e w' => e = .returned (.slice none 0 0) ∧ w = w' := by
  have heq := fun w => Go.Lib.run_eql_slice_nil (P := Try.prog) w 24 5 none 0 0 0 0 Try.underlying24
  go_enter Try.func26, Try.ntmps26
  go_wp2
  go_ret
  exact ⟨rfl, rfl⟩

/-- The bytes of frames in block r. -/
def RamAt (B E : Nat) (w : World) (r m t x : Nat) (O : List Int) (S P : List Nat) : Prop := ∃ F g pf tg vP, CellsAt B F E w r g pf tg vP m t x O S P
section
variable {B F E r g m t x : Nat} {w w' : World} {pf : Option Addr} {tg : TypeId} {vP : Value} {O : List Int} {S P : List Nat}
theorem RamAt.below (h : RamAt B E w r m t x O S P) (hb : Below w.heap.size w w') : RamAt B E w' r m t x O S P := by
  obtain ⟨F, g, pf, tg, vP, h⟩ := h; exact ⟨F, g, pf, tg, vP, h.below hb⟩
theorem RamAt.kept (h : RamAt B E w r m t x O S P) (hs : w.heap.size ≤ w'.heap.size) (hk : ∀ i, i < E → w'.heap[i]? = w.heap[i]?) : RamAt B E w' r m t x O S P := by
  obtain ⟨F, g, pf, tg, vP, h⟩ := h; exact ⟨F, g, pf, tg, vP, h.kept hs hk⟩
theorem RamAt.good (h : RamAt B E w r m t x O S P) : Good m O S := by obtain ⟨F, g, pf, tg, vP, h⟩ := h; exact h.fr.good
theorem RamAt.small (h : RamAt B E w r m t x O S P) : m ≤ 96 := by obtain ⟨F, g, pf, tg, vP, h⟩ := h; exact h.fr.small
theorem RamAt.len (h : RamAt B E w r m t x O S P) : P.length = m * 4096 := by obtain ⟨F, g, pf, tg, vP, h⟩ := h; exact h.len
theorem RamAt.byte (h : RamAt B E w r m t x O S P) : ∀ x ∈ P, x < 256 := by obtain ⟨F, g, pf, tg, vP, h⟩ := h; exact h.byte
theorem RamAt.hi (h : RamAt B E w r m t x O S P) : E ≤ w.heap.size ∧ r < E ∧ B ≤ r := by obtain ⟨F, g, pf, tg, vP, h⟩ := h; have := h.lo; exact ⟨h.hi, by omega, by omega⟩
theorem CellsAt.cellP (h : CellsAt B F E w r g pf tg vP m t x O S P) {i : Nat} (hi : i < m * 4096) : w.cell? ⟨g, i, none⟩ = some (.int .u8 (P.getD i 0 : Nat)) := by
  rcases h.vp with h1 | ⟨_, h1⟩
  · omega
  · rw [cell_of_row w g i _ _ _ h1]
    have := bv_at P i (by rw [h.len]; exact hi)
    simpa using this
end

theorem rd_no {O : List Int} {P : List Nat} {n a s : Int} (h : thB O n a s = false) : rdL O P n a s = [] := by simp [rdL, h]
theorem rd_yes {O : List Int} {P : List Nat} {n a s : Nat} (h : thB O n a s = true) : rdL O P n a s = seg P (n * 4096 + a) s := by
  rw [rdL, if_pos h, plc_nat, Int.toNat_natCast]

set_option maxHeartbeats 1000000 in
theorem ramRead_any {B E r m t x : Nat} {O : List Int} {S P : List Nat} (n a s : Int) (w : World) (h : RamAt B E w r m t x O S P) (hx : x < 1000000) (h1 : s ≤ 9223372036854775807) (h2 : -9223372036854775808 ≤ s) :
    Calls Try.prog 6 #[.pointer (some ⟨r, 0, none⟩), .int .i64 n, .int .i64 a, .int .i64 s] w fun e w' => ∃ v, e = .returned (.tuple #[v, .bool (thB O n a s)]) ∧
      w'.ownsRow w.heap.size 5 1 v (rdL O P n a s).length (bv (rdL O P n a s)) ∧ RamAt B E w' r m t (up x (thB O n a s)) O S P ∧ Turns B E w w' := by
  obtain ⟨F, g, pf, tg, vP, h⟩ := h
  cases hb : thB O n a s with
  | false =>
    rw [rd_no hb]
    have HB : Hid (thB O n a s = false) := hb
    have HH : Hid (CellsAt B F E w r g pf tg vP m t x O S P) := h
    clear hb h
    go_enter Try.func6, Try.ntmps6
    go_wp2_with fail
    refine (own_some _ _).mono ?_
    rintro e w' ⟨rfl, rfl⟩
    go_wp2_with fail
    refine (touch_no n a s w HH.out h1 h2 HB.out).mono ?_
    rintro e w' ⟨rfl, rfl⟩
    go_wp2_with fail
    refine (clone_nil _).mono ?_
    rintro e w' ⟨rfl, rfl⟩
    go_wp2
    go_ret2
    exact ⟨_, rfl, World.ownsRow_nil _ _ _ _, ⟨F, g, pf, tg, vP, HH.out⟩, Turns.refl _ _ _⟩
  | true =>
    obtain ⟨n, a, s, rfl, rfl, rfl, hn, h0, has⟩ := th_of hb
    rw [h.ol] at hn
    have hpl : n * 4096 + a + s ≤ m * 4096 := by have := plc_le (s := s) hn has; have e := plc_nat n a; omega
    have hsl := length_seg (P := P) (o := n * 4096 + a) (s := s) (by rw [h.len]; exact hpl)
    rw [rd_yes hb, hsl]
    have HH : Hid (CellsAt B F E w r g pf tg vP m t x O S P) := h
    have HSL : Hid ((seg P (n * 4096 + a) s).length = s) := hsl
    clear hb h hsl
    go_enter Try.func6, Try.ntmps6
    go_wp2_with fail
    refine (own_some _ _).mono ?_
    rintro e w' ⟨rfl, rfl⟩
    go_wp2_with fail
    refine (touch_yes n a s w HH.out hx hn h0 has).mono ?_
    rintro e w1 ⟨rfl, he⟩
    have hh1 : CellsAt B F E w1 r g pf tg vP m t (x + 1) O S P := by rw [he]; exact HH.out.setX (x + 1)
    have ht1 : Turns B E w w1 := by
      rw [he]; have := HH.out.lo
      exact (Turns.refl B E w).setCell (p := ⟨r, 2, none⟩) (by show B ≤ r; omega) (by show r < E; omega) _
    have hz1 : w1.heap.size = w.heap.size := by rw [he]; simp
    have HH1 : Hid (CellsAt B F E w1 r g pf tg vP m t (x + 1) O S P) := hh1
    have HT1 : Hid (Turns B E w w1) := ht1
    have HZ1 : Hid (w1.heap.size = w.heap.size) := hz1
    clear he hh1 ht1 hz1
    go_wp2_with fail
    refine (clone_any (b := seg P (n * 4096 + a) s) w1 HSL.out (by omega) ?_ (by have := HH1.out.lo; have := HH1.out.hi; omega)).mono ?_
    · intro j hj
      have e0 : offOf a = a := by unfold offOf; split <;> omega
      rw [e0, HH1.out.cellP (by omega), seg_getD hj]
    rintro e w2 ⟨v, rfl, own2, b2⟩
    go_wp2
    go_ret2
    refine ⟨v, rfl, ?_, ⟨F, g, pf, tg, vP, HH1.out.below b2⟩, HT1.out.trans (Turns.of_below b2)⟩
    rw [← HZ1.out]
    exact own2
end Go.Proofs.Yteebjeifbccbnaa
