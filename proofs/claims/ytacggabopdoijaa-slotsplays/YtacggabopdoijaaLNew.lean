/- Bools in memory, opened; the walks of slices.Clone at bools, and of New. -/
import Derived.Test.YtacggabopdoijaaLSet
import Derived.Test.YtacggabopdoijaaBOpen
import Derived.Lib.SliceRun
import Derived.Deep.Grids
namespace Go.Proofs.Ytacggabopdoijaa
open Go.ChangeShapes Go.WideShapes Go.ChangeAt Go.RowKit Go.Deep

/-- Bools that lie in memory, read through a slice. -/
def BoolsAt (w : World) (a : Option Addr) (n c : Nat) (zs : List Bool) : Prop :=
  zs.length = n ∧ ((a = none ∧ n = 0 ∧ c = 0) ∨ ∃ p : Addr, a = some p ∧ ∀ i, i < n → w.cell? (p.add i) = some (.bool (fa zs i)))
theorem BoolsAt.later {w w' : World} {a : Option Addr} {n c : Nat} {zs : List Bool} (h : BoolsAt w a n c zs) (hb : Below w.heap.size w w') {i : Nat} (hi : i < n) :
    ∃ b off, a = some ⟨b, off, none⟩ ∧ b < w.heap.size ∧ w'.cell? ⟨b, off + i, none⟩ = some (.bool (fa zs i)) := by
  rcases h.2 with ⟨_, h1, _⟩ | ⟨⟨b, off, spot⟩, rfl, hc⟩
  · omega
  · have hc0 := hc i hi
    have hz0 := hc 0 (by omega)
    have hspot : spot = none := by simpa [Addr.add] using World.cell?_spot hz0
    subst hspot
    rw [add_lit'] at hc0
    have hlt : b < w.heap.size := by simpa using World.block_lt_of_cell? w _ hc0
    exact ⟨b, off, rfl, hlt, by rw [hb.cell (p := ⟨b, off + i, none⟩) hlt]; exact hc0⟩
theorem BoolsAt.below {w w' : World} {a : Option Addr} {n c : Nat} {zs : List Bool} (h : BoolsAt w a n c zs) (hb : Below w.heap.size w w') : BoolsAt w' a n c zs := by
  refine ⟨h.1, ?_⟩
  rcases h.2 with h1 | ⟨p, rfl, hc⟩
  · exact .inl h1
  · refine .inr ⟨p, rfl, fun i hi => ?_⟩
    obtain ⟨b, off, e, _, h3⟩ := h.later hb hi
    cases e
    rw [add_lit']
    exact h3
theorem BoolsAt.of_row {w : World} {base n c : Nat} {a : Option Addr} {zs : List Bool} (h : w.ownsRow base 4 1 (.slice a n c) n (bl zs)) : BoolsAt w a n c zs := by
  have hl : zs.length = n := by have := h.1; simpa [bl] using this
  refine ⟨hl, ?_⟩
  rcases h.2 with ⟨h1, h2⟩ | ⟨g, cap, cur, h1, _⟩
  · simp only [Value.slice.injEq] at h1
    exact .inl ⟨h1.1, h2, h1.2.2⟩
  · simp only [Value.slice.injEq, true_and] at h1
    obtain ⟨rfl, rfl⟩ := h1
    refine .inr ⟨⟨g, 0, none⟩, rfl, fun i hi => ?_⟩
    rw [add_lit', Nat.zero_add, h.cellAt i (by omega)]
    exact bl_at zs i (by omega)

section
variable {H : Type} {enc : TypeId × Value → H} {P : Program} {w : World} {base : Nat}
theorem openBools {t e : TypeId} {v : Value} {d : DataW H} {p : List MemPlace} (ht : P.underlying t = some (.slice e)) (he : P.underlying e = some .bool) (hce : P.cellsOf e = 1)
    (o : Value.okWide P w .any base t v) (h : DataW.Trod enc P w 0 (fun _ => true) true t v d p) :
    ∃ (a : Option Addr) (L c : Nat) (zs : List Bool), v = .slice a L c ∧ L ≤ maxLen ∧ BoolsAt w a L c zs := by
  obtain ⟨a, L, c, rfl⟩ := okWide_slice ht o
  obtain ⟨fuel, hf⟩ := h
  rcases open_bools ht he hce hf with ⟨hcs, _⟩ | ⟨x, l, c', B, hcs, _, hl, hm, _, hcell⟩
  · simp [Value.cells] at hcs
    obtain ⟨rfl, rfl, rfl⟩ := hcs
    exact ⟨none, 0, 0, [], rfl, by unfold maxLen; omega, rfl, .inl ⟨rfl, rfl, rfl⟩⟩
  · simp [Value.cells] at hcs
    obtain ⟨rfl, rfl, rfl⟩ := hcs
    refine ⟨_, L, c, (List.range L).map B, rfl, Nat.le_trans hl hm, by simp, .inr ⟨x, rfl, fun i hi => ?_⟩⟩
    rw [hcell i (by omega)]
    simp [fa, List.getD, hi]
end

theorem Try.info4 : (Try.prog.info? 4).map (fun i => (i.zero, i.size, i.bytes)) = some (some (.bool false), 1, 1) := by kernel_rfl

set_option maxHeartbeats 400000 in
theorem clone_bools {a : Option Addr} {n c : Nat} {zs : List Bool} (w : World) (h : BoolsAt w a n c zs) (hn : n ≤ 8192) :
    Calls Try.prog 51 #[.slice a n c] w fun e w' => ∃ v, e = .returned v ∧ w'.ownsRow w.heap.size 4 1 v n (bl zs) ∧ Below w.heap.size w w' := by
  rcases h.2 with ⟨rfl, rfl, rfl⟩ | ⟨p, rfl, hc⟩
  · have hz : zs = [] := List.length_eq_zero_iff.1 h.1
    subst hz
    have heq := fun w => Go.Lib.run_eql_slice_nil (P := Try.prog) w 22 4 none 0 0 0 0 Try.underlying22
    clear h
    go_enter Try.func51, Try.ntmps51
    go_wp2
    go_ret
    exact ⟨_, rfl, World.ownsRow_nil _ _ _ _, Below.refl _ _⟩
  · obtain ⟨i0, hi, hz0, hz1, hz2⟩ := info_parts Try.info4
    have HZL : Hid ((bl zs).length = n * 1) := by show _ = _; rw [bl_len, h.1]; omega
    have HC : Hid (∀ i, i < n → w.cell? (p.add i) = some (.bool (fa zs i))) := hc
    have HL : Hid (zs.length = n) := h.1
    have heq := fun w => Go.Lib.run_eql_slice_nil (P := Try.prog) w 22 4 (some p) n c 0 0 Try.underlying22
    clear h hc
    go_enter Try.func51, Try.ntmps51
    go_wp2_with (at_builtin; refine wpList_append_own _ rfl _ _ 22 rfl w.heap.size 4 i0 (.bool false) 1 1 Try.underlying22 hi hz0 hz1 hz2 rfl (by decide) _ _ _ rfl (World.ownsRow_made w #[] 0 (Nat.le_refl _) (by unfold maxLen; omega) rfl) p n c (bl zs) rfl HZL.out ?c1 (bl_one _) ?c3 ?c4 ?c5 ?_)
    case c1 =>
      intro j u hj
      obtain ⟨h1, rfl⟩ := bl_some hj
      rw [HL.out] at h1
      have hx := HC.out j h1
      have hlt := World.block_lt_of_cell? w _ hx
      exact (World.cell?_of_block (Below.heap_alloc w _ _ hlt)).trans hx
    case c3 => unfold maxLen; omega
    case c4 => omega
    case c5 => simp
    intro v2 w2 own2 gr2 _
    have b2 : Below w.heap.size w w2 := ((Below.refl _ w).alloc (Nat.le_refl _) _).grown gr2 (by simp) (fun i hi => by simp [Value.ownBlock] at hi; omega)
    have own2' : w2.ownsRow w.heap.size 4 1 v2 n (bl zs) := by simpa using own2
    clear own2 gr2
    go_wp2
    go_ret
    exact ⟨_, rfl, own2', b2⟩

set_option maxHeartbeats 400000 in
theorem new_any {a : Option Addr} {n c : Nat} {zs : List Bool} (w : World) (h : BoolsAt w a n c zs) (hn : n ≤ 8192) :
    Calls Try.prog 48 #[.slice a n c] w fun e w' => ∃ b, e = .returned (.pointer (some ⟨b, 0, none⟩)) ∧ LuckAt w.heap.size w'.heap.size w' b zs 0 ∧ Below w.heap.size w w' := by
  have HL : Hid (zs.length = n) := h.1
  have H : Hid (BoolsAt w a n c zs) := h
  clear h
  go_enter Try.func48, Try.ntmps48
  go_wp2_with fail
  refine (clone_bools w H.out hn).mono ?_
  rintro e w1 ⟨v, rfl, own1, b1⟩
  obtain ⟨a1, c1, rfl⟩ := row_slice own1
  have HO : Hid (w1.ownsRow w.heap.size 4 1 (.slice a1 n c1) n (bl zs)) := own1
  have HB : Hid (Below w.heap.size w w1) := b1
  clear own1 b1
  go_wp2
  go_ret
  have hlo := HB.out.size
  refine ⟨_, rfl, ⟨hlo, by simp, Nat.le_refl _, by have := HL.out; unfold maxLen; omega, a1, c1, ?_, fun hk => ?_⟩, HB.out.alloc hlo _⟩
  · rw [heap_alloc_new, Nat.sub_zero, HL.out]; rfl
  · rw [HL.out] at hk
    obtain ⟨g, rfl, _, _, g1, g2⟩ := row_at HO.out (i := 0) hk
    have hcp := row_cap HO.out
    rw [Nat.sub_zero, HL.out]
    refine ⟨hcp.1, hcp.2, g, 0, rfl, g1, by simp; omega, by omega, fun i hi => ?_⟩
    rw [Nat.zero_add, World.cell?_of_block (Below.heap_alloc w1 _ g g2)]
    exact (HO.out.cellAt i (by omega)).trans (bl_at zs i (by rw [HL.out]; exact hi))
end Go.Proofs.Ytacggabopdoijaa
