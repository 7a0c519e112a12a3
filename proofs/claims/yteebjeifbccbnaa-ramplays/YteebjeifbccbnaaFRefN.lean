/- The walk of the document's own New (layer 5). -/
import Derived.Test.YteebjeifbccbnaaFRefT
import Derived.Test.YteebjeifbccbnaaFNew
namespace Go.Proofs.Yteebjeifbccbnaa
open Go.RowKit

/-- The rounds' state: so many dates are laid. -/
structure Laid (w0 wr : World) (rb g0 fb D m k : Nat) (vW : Value) : Prop where
  box : wr.heap[fb]? = some (.cells #[.slice (some ⟨g0, 0, none⟩) m m, vW, .int .i64 (m : Int)] 42 (0, 0))
  res : wr.heap[rb]? = some (.cells #[.slice none 0 0, .slice none 0 0, .int .i64 0] 42 (0, 0))
  rO : wr.ownsRow w0.heap.size 3 1 (.slice (some ⟨g0, 0, none⟩) m m) m (zv (List.replicate m 0))
  rW : wr.ownsRow D 3 1 vW k (zv (dates m k))
  bel : Below w0.heap.size w0 wr
  lo : w0.heap.size ≤ rb ∧ w0.heap.size ≤ g0 ∧ w0.heap.size ≤ fb ∧ rb ≠ fb ∧ rb ≠ g0 ∧ g0 ≠ fb
  hi : rb < D ∧ g0 < D ∧ fb < D ∧ D ≤ wr.heap.size
section
variable {w0 wr w2 : World} {rb g0 fb D m k : Nat} {vW vW' : Value}
theorem Laid.kept (h : Laid w0 wr rb g0 fb D m k vW) (hb : Below D wr w2) (hr : w2.ownsRow D 3 1 vW' (k + 1) (zv (dates m (k + 1)))) : Laid w0 (w2.setCell ⟨fb, 1, none⟩ vW') rb g0 fb D m (k + 1) vW' := by
  obtain ⟨l1, l2, l3, l4, l5, l6⟩ := h.lo
  obtain ⟨h1, h2, h3, h4⟩ := h.hi
  have hw := h.bel.size
  refine ⟨?_, ?_, ?_, ?_, ?_, h.lo, h1, h2, h3, by have := hb.size; simp; omega⟩
  · have := heap_setCell_same w2 fb 1 _ _ vW' ((hb.block fb h3).trans h.box)
    rw [this]; rfl
  · rw [Below.heap_setCell _ _ _ _ l4]; exact (hb.block rb h1).trans h.res
  · exact row_of_block h.rO (by rw [Below.heap_setCell _ _ _ _ l6]; exact hb.block g0 h2)
  · refine ⟨hr.1, ?_⟩
    rcases hr.2 with h5 | ⟨g, cap, cur, h5, h6, h7, r⟩
    · exact .inl h5
    · exact .inr ⟨g, cap, cur, h5, h6, by rw [Below.heap_setCell _ _ _ _ (by show g ≠ fb; omega)]; exact h7, r⟩
  · exact (h.bel.trans (hb.mono (by omega))).setCell (p := ⟨fb, 1, none⟩) l3 _
theorem Laid.c0 (h : Laid w0 wr rb g0 fb D m k vW) : wr.cell? ⟨fb, 0, none⟩ = some (.slice (some ⟨g0, 0, none⟩) m m) := by rw [cell_of_row wr fb 0 _ _ _ h.box]; rfl
theorem Laid.c1 (h : Laid w0 wr rb g0 fb D m k vW) : wr.cell? ⟨fb, 1, none⟩ = some vW := by rw [cell_of_row wr fb 1 _ _ _ h.box]; rfl
theorem Laid.c2 (h : Laid w0 wr rb g0 fb D m k vW) : wr.cell? ⟨fb, 2, none⟩ = some (.int .i64 (m : Int)) := by rw [cell_of_row wr fb 2 _ _ _ h.box]; rfl
theorem Laid.r0 (h : Laid w0 wr rb g0 fb D m k vW) : wr.cell? ⟨rb, 0, none⟩ = some (.slice none 0 0) := by rw [cell_of_row wr rb 0 _ _ _ h.res]; rfl
theorem Laid.r1 (h : Laid w0 wr rb g0 fb D m k vW) : wr.cell? ⟨rb, 1, none⟩ = some (.slice none 0 0) := by rw [cell_of_row wr rb 1 _ _ _ h.res]; rfl
theorem Laid.r2 (h : Laid w0 wr rb g0 fb D m k vW) : wr.cell? ⟨rb, 2, none⟩ = some (.int .i64 0) := by rw [cell_of_row wr rb 2 _ _ _ h.res]; rfl
theorem Laid.made (w : World) (m : Nat) (hm : m ≤ 96) :
    Laid w (((w.alloc (.cells #[.slice none 0 0, .slice none 0 0, .int .i64 0] 42)).alloc (.cells (madeCells #[Value.int .i64 0] m) 3)).alloc (.cells #[.slice (some ⟨w.heap.size + 1, 0, none⟩) m m, .slice none 0 0, .int .i64 (m : Int)] 42))
      w.heap.size (w.heap.size + 1) (w.heap.size + 1 + 1) (w.heap.size + 3) m 0 (.slice none 0 0) := by
  have h1 := heap_alloc_new w (.cells #[.slice none 0 0, .slice none 0 0, .int .i64 0] 42)
  have h3 := heap_alloc_new ((w.alloc (.cells #[.slice none 0 0, .slice none 0 0, .int .i64 0] 42)).alloc (.cells (madeCells #[Value.int .i64 0] m) 3)) (.cells #[.slice (some ⟨w.heap.size + 1, 0, none⟩) m m, .slice none 0 0, .int .i64 (m : Int)] 42)
  have r2 := (made_row (w.alloc (.cells #[.slice none 0 0, .slice none 0 0, .int .i64 0] 42)) m hm (B := w.heap.size) (by simp)).alloc (.cells #[.slice (some ⟨w.heap.size + 1, 0, none⟩) m m, .slice none 0 0, .int .i64 (m : Int)] 42)
  simp only [World.size_alloc] at h3 r2
  have e1 : zv (List.replicate m 0) = List.replicate m (Value.int .i64 0) := by simp [zv]
  refine ⟨h3, ?_, ?_, World.ownsRow_nil _ _ _ _, (((Below.refl _ w).alloc (Nat.le_refl _) _).alloc (by simp) _).alloc (by simp; omega) _, by omega, by simp⟩
  · rw [Below.heap_alloc _ _ _ (by simp; omega), Below.heap_alloc _ _ _ (by simp)]; exact h1
  · rw [e1]; exact r2
end

set_option maxRecDepth 100000 in
set_option maxHeartbeats 2000000 in
theorem refNew_any (m : Nat) (hm : m ≤ 96) (w : World) :
    Calls Try.prog 32 #[.int .i64 (m : Nat)] w fun e w' => ∃ vO vW, e = .returned (.agg #[vO, vW, .int .i64 (m : Int)]) ∧ DocAt w.heap.size w' vO vW m (List.replicate m 0) (dates m m) ∧ Below w.heap.size w w' := by
  obtain ⟨i0, hi, hz0, hz1, hz2⟩ := info_parts Try.info3
  have hmk := fun w => run_make_row' (P := Try.prog) 40 3 (.int .i64 0) 8 Try.underlying40 Try.info3 rfl .i64 .i64 m (by omega) (by omega) w
  go_enter Try.func32, Try.ntmps32
  go_wp2_with fail
  have hL := Laid.made w m hm
  generalize (((w.alloc (.cells #[.slice none 0 0, .slice none 0 0, .int .i64 0] 42)).alloc (.cells (madeCells #[Value.int .i64 0] m) 3)).alloc (.cells #[.slice (some ⟨w.heap.size + 1, 0, none⟩) m m, .slice none 0 0, .int .i64 (m : Int)] 42)) = w1 at *
  obtain ⟨fb, hfb⟩ : ∃ fb, w.heap.size + 1 + 1 = fb := ⟨_, rfl⟩
  obtain ⟨D, hD⟩ : ∃ D, w.heap.size + 3 = D := ⟨_, rfl⟩
  rw [hfb, hD] at hL
  rw [hfb]
  obtain ⟨g0, hg0⟩ : ∃ g0, w.heap.size + 1 = g0 := ⟨_, rfl⟩
  rw [hg0] at hL
  rw [hg0]
  obtain ⟨rb, hrb⟩ : ∃ rb, w.heap.size = rb := ⟨_, rfl⟩
  have HL : Hid (Laid w w1 rb g0 fb D m 0 (.slice none 0 0)) := by rw [← hrb]; exact hL
  rw [hrb]
  clear hfb hD hg0 hrb hL hmk
  go_loopw [4] (fun i wr => ∃ (k : Nat) (vW : Value), k ≤ m ∧ i = .int .i64 k ∧ Laid w wr rb g0 fb D m k vW) (fun i _ => m - (intOf i).toNat)
  case atStart => exact ⟨0, _, Nat.zero_le _, rfl, HL.out⟩
  case round =>
    obtain ⟨k, vW, hk, rfl, hx⟩ := hrel
    have HX : Hid (Laid w wr rb g0 fb D m k vW) := hx
    have c1 := hx.c1
    obtain ⟨a, c, rfl⟩ := row_slice hx.rW
    have hown := hx.rW
    obtain ⟨d1, d2, d3, d4⟩ := hx.hi
    by_cases hlt : k < m
    · have i1 : (k : Int) < (m : Int) := by omega
      have f1 : wr.frozen? ⟨fb, 1, none⟩ = false := frozen_of_row wr fb 1 _ _ hx.box
      have n1 : fb ≠ wr.heap.size := by omega
      clear hx
      go_wp2_with (at_builtin; refine wpList_append_own _ rfl _ _ 40 rfl D 3 i0 (.int .i64 0) 1 8 Try.underlying40 hi hz0 hz1 hz2 rfl (by decide) _ _ _ rfl (hown.alloc _) ⟨wr.heap.size, 0, none⟩ 1 1 [.int .i64 ((m : Int) - (k : Int))] rfl rfl (one_new wr _) (one_one _) ?c3 ?c4 ?c5 ?_)
      case c3 => unfold maxLen; omega
      case c4 => omega
      case c5 => simp; omega
      intro v' w2 hown' hgr' _
      have hb2 : Below D wr w2 := ((Below.refl _ wr).alloc d4 _).grown hgr' (by simp; omega) (fun j hj => (hown.lt j hj).1)
      have HN : Hid (Laid w (w2.setCell ⟨fb, 1, none⟩ v') rb g0 fb D m (k + 1) v') := HX.out.kept hb2 (by
        have e : zv (dates m (k + 1)) = zv (dates m k) ++ [.int .i64 ((m : Int) - (k : Int))] := by rw [dates_succ]; simp [zv]
        rw [e]
        exact hown')
      obtain ⟨a', c', rfl⟩ := row_slice hown'
      have c1' : w2.cell? ⟨fb, 1, none⟩ = some (.slice a k c) := by rw [hb2.cell (p := ⟨fb, 1, none⟩) d3]; exact c1
      have f1' : w2.frozen? ⟨fb, 1, none⟩ = false := frozen_of_row w2 fb 1 _ _ ((hb2.block fb d3).trans HX.out.box)
      clear hgr' hown' hb2 c1 f1
      go_wp2
      go_roundw
      case rel => exact ⟨k + 1, _, by omega, by go_num, HN.out⟩
      case measure => simp [intOf]; omega
    · have e : k = m := by omega
      subst e
      have c0 := hx.c0
      have c2 := hx.c2
      have r0 := hx.r0
      have r1 := hx.r1
      have r2 := hx.r2
      have f0 : wr.frozen? ⟨rb, 0, none⟩ = false := frozen_of_row wr rb 0 _ _ hx.res
      have f1 : wr.frozen? ⟨rb, 1, none⟩ = false := frozen_of_row wr rb 1 _ _ hx.res
      have f2 : wr.frozen? ⟨rb, 2, none⟩ = false := frozen_of_row wr rb 2 _ _ hx.res
      obtain ⟨l1, l2, l3, l4, l5, l6⟩ := hx.lo
      have HWD : Hid (w.heap.size ≤ D) := by show _ ≤ _; omega
      clear hx
      go_wp2
      refine bodyPost_ret (results_cell_row Try.results32 _ _ rb _ _ _ _ rfl (res_kept HX.out.res) Try.underlying42 rfl Try.sizeF) rfl ⟨_, _, rfl, ⟨?_, ?_⟩, res_below HX.out.bel l1⟩
      · exact row_of_block HX.out.rO (res_block (Ne.symm l5))
      · refine rowMono (base := D) ⟨hown.1, ?_⟩ HWD.out
        rcases hown.2 with h5 | ⟨g, cap, cur, h5, h6, h7, r⟩
        · exact .inl h5
        · exact .inr ⟨g, cap, cur, h5, h6, by rw [res_block (by omega)]; exact h7, r⟩
end Go.Proofs.Yteebjeifbccbnaa
