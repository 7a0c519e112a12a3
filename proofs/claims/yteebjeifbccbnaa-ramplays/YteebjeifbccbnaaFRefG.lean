/- The walk of the document's own Give (layer 5). -/
import Derived.Test.YteebjeifbccbnaaFRefT
import Derived.Deep.DeepCutAuto
namespace Go.Proofs.Yteebjeifbccbnaa
open Go.RowKit
set_option maxRecDepth 100000 in
set_option maxHeartbeats 2000000 in
theorem refGive_any {C m now : Nat} {vO vW : Value} {O W : List Int} (n : Int) (w : World) (h : DocAt C w vO vW m O W) (hm : m ≤ 96) (hw : now < 1000) (hC : C ≤ w.heap.size) :
    Calls Try.prog 34 #[.agg #[vO, vW, .int .i64 (now : Int)], .int .i64 n] w fun e w' => ∃ vO' vW', e = .returned (.tuple #[.agg #[vO', vW', .int .i64 (up now (gvB O n) : Nat)], .bool (gvB O n)]) ∧
      DocAt C w' vO' vW' m (gvO O n) (gvW O W now n) ∧ Below w.heap.size w w' := by
  obtain ⟨i0, hi, hz0, hz1, hz2⟩ := info_parts Try.info3
  have HLO : Hid (O.length = m) := h.lenO
  have HLW : Hid (W.length = m) := h.lenW
  have HDW : Hid (DocAt C w vO vW m O W) := h
  obtain ⟨aO, cO, rfl⟩ := row_slice h.rO
  obtain ⟨aW, cW, rfl⟩ := row_slice h.rW
  have HB1 : Hid _ := Boxed.made w now h
  clear h
  go_enter Try.func34, Try.ntmps34
  go_upto_region 1 with (fail)
  generalize (w.alloc (.cells #[.slice aO m cO, .slice aW m cW, .int .i64 (now : Int)] 42)).alloc (.cells #[.slice none 0 0, .slice none 0 0, .int .i64 0] 42) = wr at *
  obtain ⟨rb, hrb⟩ : ∃ rb, w.heap.size + 1 = rb := ⟨_, rfl⟩
  rw [hrb] at HB1
  rw [hrb]
  obtain ⟨fb, hfb⟩ : ∃ fb, w.heap.size = fb := ⟨_, rfl⟩
  have HX : Hid (Boxed w wr fb rb C (.slice aO m cO) (.slice aW m cW) now m O W) := by rw [← hfb]; exact HB1.out
  rw [hfb]
  clear hrb hfb HB1
  have hx := HX.out
  have c0 := hx.c0
  have c1 := hx.c1
  have c2 := hx.c2
  have r0 := hx.r0
  have r1 := hx.r1
  have r2 := hx.r2
  have fr0 := hx.fr 0
  have fr1 := hx.fr 1
  have fr2 := hx.fr 2
  obtain ⟨l1, l2, l3⟩ := hx.lo
  cases hb : gvB O n with
  | true =>
    obtain ⟨k, rfl, hk, h0⟩ := gv_of hb
    rw [HLO.out] at hk
    have HE1 : Hid (gvB O (k : Int) = true) := hb
    have HE2 : Hid (gvO O (k : Int) = O.set k 0) := by show _ = _; simp [gvO, hb]
    have HE3 : Hid (gvW O W now (k : Int) = W.set k ((now : Int) + 1)) := by show _ = _; simp [gvW, hb]
    have HE0 : Hid (((up now (gvB O (k : Int)) : Nat) : Int) = (now : Int) + 1) := by show _ = _; rw [hb]; simp [up]
    have i1 : (k : Int) < (m : Int) := by omega
    obtain ⟨g1, rfl, cK, _, _, hg1⟩ := row_at hx.doc.rO hk
    obtain ⟨g4, rfl, _, _, _, hg4⟩ := row_at hx.doc.rW hk
    rw [zv_at O k (by rw [HLO.out]; exact hk)] at cK
    have HCE : Hid (∀ j u, (zv O)[j]? = some u → wr.cell? ((⟨g1, 0, none⟩ : Addr).add j) = some u) := hx.doc.rO.cells rfl
    have HCW : Hid (∀ j u, (zv W)[j]? = some u → wr.cell? ((⟨g4, 0, none⟩ : Addr).add j) = some u) := hx.doc.rW.cells rfl
    have HZL : Hid ((zv O).length = m * 1) := by show _ = _; simp [zv, HLO.out]
    have HZW : Hid ((zv W).length = m * 1) := by show _ = _; simp [zv, HLW.out]
    have n1 : fb < wr.heap.size := (Array.getElem?_eq_some_iff.1 hx.box).1
    have n2 : fb ≠ wr.heap.size := by omega
    have HN3 : Hid (rb < wr.heap.size) := (Array.getElem?_eq_some_iff.1 hx.res).1
    have HWS : Hid (w.heap.size ≤ wr.heap.size) := hx.bel.size
    generalize O.getD k 0 = q at *
    have i2 : (q == 0) = false := by rw [beq_eq_false_iff_ne]; exact h0
    clear hx hb
    go_wp2_with (at_builtin; refine wpList_append_own _ rfl _ _ 40 rfl wr.heap.size 3 i0 (.int .i64 0) 1 8 Try.underlying40 hi hz0 hz1 hz2 rfl (by decide) _ _ _ rfl (World.ownsRow_made wr #[] 0 (Nat.le_refl _) (by unfold maxLen; omega) rfl) ⟨g1, 0, none⟩ m cO (zv O) rfl HZL.out ?c1 (zv_one _) ?c3 ?c4 ?c5 ?_)
    case c1 =>
      intro j u hj
      have h1 := HCE.out j u hj
      rw [Addr.add_lit] at h1 ⊢
      rw [← h1]
      exact World.cell?_of_block (Below.heap_alloc wr _ g1 hg1)
    case c3 => unfold maxLen; omega
    case c4 => omega
    case c5 => simp
    intro v2 w2 own2 gr2 _
    have b2 : Below wr.heap.size wr w2 := ((Below.refl _ wr).alloc (Nat.le_refl _) _).grown gr2 (by simp) (fun i hi => by simp [Value.ownBlock] at hi; omega)
    have own2' : w2.ownsRow wr.heap.size 3 1 v2 m (zv O) := by simpa using own2
    obtain ⟨a2, c2', rfl⟩ := row_slice own2'
    obtain ⟨g2, rfl, _, _, hg2, hg2'⟩ := row_at own2' hk
    have HX2 : Hid (Boxed w w2 fb rb C (.slice (some ⟨g1, 0, none⟩) m cO) (.slice (some ⟨g4, 0, none⟩) m cW) now m O W) := HX.out.below b2
    have HOW : Hid (w2.ownsRow wr.heap.size 3 1 (.slice (some ⟨g2, 0, none⟩) m c2') m (zv O)) := own2'
    have HC2 : Hid (∀ j u, (zv W)[j]? = some u → w2.cell? ((⟨g4, 0, none⟩ : Addr).add j) = some u) := by
      intro j u hj
      have h1 := HCW.out j u hj
      rw [← h1]
      exact b2.cell (p := (⟨g4, 0, none⟩ : Addr).add j) (World.block_lt_of_cell? wr _ h1)
    have HS2 : Hid (wr.heap.size ≤ w2.heap.size) := b2.size
    have HN4 : Hid (g2 < w2.heap.size) := hg2'
    have hg5 : g4 < w2.heap.size := Nat.lt_of_lt_of_le hg4 b2.size
    have HN5 : Hid (wr.heap.size ≤ g2) := hg2
    have HN6 : Hid (fb < wr.heap.size) := n1
    clear c0 c1 c2 r0 r1 r2 fr0 fr1 fr2 own2 gr2 b2 own2' cK n1 n2 hg2 hg2' hg1 hg4
    have c0 := HX2.out.c0
    have c1 := HX2.out.c1
    have n1 : fb < w2.heap.size := (Array.getElem?_eq_some_iff.1 HX2.out.box).1
    have n2 : fb ≠ w2.heap.size := by omega
    go_wp2_with (at_builtin; refine wpList_append_own _ rfl _ _ 40 rfl w2.heap.size 3 i0 (.int .i64 0) 1 8 Try.underlying40 hi hz0 hz1 hz2 rfl (by decide) _ _ _ rfl (World.ownsRow_made w2 #[] 0 (Nat.le_refl _) (by unfold maxLen; omega) rfl) ⟨g4, 0, none⟩ m cW (zv W) rfl HZW.out ?d1 (zv_one _) ?d3 ?d4 ?d5 ?_)
    case d1 =>
      intro j u hj
      have h1 := HC2.out j u hj
      rw [Addr.add_lit] at h1 ⊢
      rw [← h1]
      exact World.cell?_of_block (Below.heap_alloc w2 _ g4 hg5)
    case d3 => unfold maxLen; omega
    case d4 => omega
    case d5 => simp
    intro v3 w3 own3 gr3 _
    have b3 : Below w2.heap.size w2 w3 := ((Below.refl _ w2).alloc (Nat.le_refl _) _).grown gr3 (by simp) (fun i hi => by simp [Value.ownBlock] at hi; omega)
    have own3' : w3.ownsRow w2.heap.size 3 1 v3 m (zv W) := by simpa using own3
    obtain ⟨a3, c3', rfl⟩ := row_slice own3'
    obtain ⟨g3, rfl, cW3, fW3, hg3, hg3'⟩ := row_at own3' hk
    rw [zv_at W k (by rw [HLW.out]; exact hk)] at cW3
    have HX3 : Hid (Boxed w w3 fb rb C (.slice (some ⟨g1, 0, none⟩) m cO) (.slice (some ⟨g4, 0, none⟩) m cW) now m O W) := HX2.out.below b3
    have HOW3 : Hid (w3.ownsRow wr.heap.size 3 1 (.slice (some ⟨g2, 0, none⟩) m c2') m (zv O)) := row_below HOW.out b3
    have HWW3 : Hid (w3.ownsRow w2.heap.size 3 1 (.slice (some ⟨g3, 0, none⟩) m c3') m (zv W)) := own3'
    obtain ⟨gx, ex, cO3, fO3, _⟩ := row_at HOW3.out hk
    obtain rfl : g2 = gx := by simpa using ex
    rw [zv_at O k (by rw [HLO.out]; exact hk)] at cO3
    have nf2 : fb ≠ g2 := by have := HN5.out; have := HN6.out; omega
    have nr2 : rb ≠ g2 := by have := HN5.out; have := HN3.out; omega
    have nf3 : fb ≠ g3 := by omega
    have nr3 : rb ≠ g3 := by have := HN3.out; have := HS2.out; omega
    have n23 : g2 ≠ g3 := by have := HN4.out; omega
    have HCL : Hid (C ≤ wr.heap.size) := Nat.le_trans hC HWS.out
    have HG2 : Hid (w.heap.size ≤ g2 ∧ w.heap.size ≤ g3) := by show _ ∧ _; have := HN5.out; have := HWS.out; have := HS2.out; omega
    clear c0 c1 own3 gr3 b3 own3' n1 n2 hg3 hg3' ex
    generalize O.getD k 0 = q' at *
    generalize W.getD k 0 = q'' at *
    have c0 := HX3.out.c0
    have c1 := HX3.out.c1
    have c2 := HX3.out.c2
    have f0 := HX3.out.ff 0
    have f1 := HX3.out.ff 1
    have f2 := HX3.out.ff 2
    have r0 := HX3.out.r0
    have r1 := HX3.out.r1
    have r2 := HX3.out.r2
    have fr0 := HX3.out.fr 0
    have fr1 := HX3.out.fr 1
    have fr2 := HX3.out.fr 2
    go_wp2
    have hb1 := HX3.out.bel.setCell (p := ⟨fb, 2, none⟩) l1 (.int .i64 ((now : Int) + 1))
    have hb2 := hb1.setCell (p := ⟨g2, k, none⟩) HG2.out.1 (.int .i64 0)
    have hb3 := hb2.setCell (p := ⟨g3, k, none⟩) HG2.out.2 (.int .i64 ((now : Int) + 1))
    have hb4 := hb3.setCell (p := ⟨fb, 0, none⟩) l1 (.slice (some ⟨g2, 0, none⟩) m c2')
    have hb5 := hb4.setCell (p := ⟨fb, 1, none⟩) l1 (.slice (some ⟨g3, 0, none⟩) m c3')
    have hres : (((((w3.setCell ⟨fb, 2, none⟩ (.int .i64 ((now : Int) + 1))).setCell ⟨g2, k, none⟩ (.int .i64 0)).setCell ⟨g3, k, none⟩ (.int .i64 ((now : Int) + 1))).setCell ⟨fb, 0, none⟩ (.slice (some ⟨g2, 0, none⟩) m c2')).setCell ⟨fb, 1, none⟩ (.slice (some ⟨g3, 0, none⟩) m c3')).heap[rb]? = some (.cells #[.slice none 0 0, .slice none 0 0, .int .i64 0] 42 (0, 0)) := by
      rw [Below.heap_setCell _ _ _ _ (Ne.symm l3), Below.heap_setCell _ _ _ _ (Ne.symm l3), Below.heap_setCell _ _ _ _ nr3, Below.heap_setCell _ _ _ _ nr2, Below.heap_setCell _ _ _ _ (Ne.symm l3)]
      exact HX3.out.res
    have hO1 := row_of_block (w' := w3.setCell ⟨fb, 2, none⟩ (.int .i64 ((now : Int) + 1))) HOW3.out (Below.heap_setCell _ _ _ _ (Ne.symm nf2))
    have hO2 := (hO1.stored k (.int .i64 0)).1
    have hW1 := row_of_block (w' := (w3.setCell ⟨fb, 2, none⟩ (.int .i64 ((now : Int) + 1))).setCell ⟨g2, k, none⟩ (.int .i64 0)) HWW3.out (by rw [Below.heap_setCell _ _ _ _ (Ne.symm n23), Below.heap_setCell _ _ _ _ (Ne.symm nf3)])
    have hW2 := (hW1.stored k (.int .i64 ((now : Int) + 1))).1
    refine bodyPost_ret (results_cell_tmp Try.results34 _ _ rb _ _ _ _ rfl (res_kept hres) Try.underlying42 rfl Try.sizeF) rfl ⟨.slice (some ⟨g2, 0, none⟩) m c2', .slice (some ⟨g3, 0, none⟩) m c3', by rw [HE0.out, HE1.out]; rfl, ⟨?_, ?_⟩, res_below hb5 l2⟩
    · rw [HE2.out, zv_set]
      refine rowMono (row_of_block hO2 ?_) HCL.out
      rw [res_block (Ne.symm nr2), Below.heap_setCell _ _ _ _ (Ne.symm nf2), Below.heap_setCell _ _ _ _ (Ne.symm nf2), Below.heap_setCell _ _ _ _ n23]
    · rw [HE3.out, zv_set]
      refine rowMono (row_of_block hW2 ?_) (Nat.le_trans HCL.out HS2.out)
      rw [res_block (Ne.symm nr3), Below.heap_setCell _ _ _ _ (Ne.symm nf3), Below.heap_setCell _ _ _ _ (Ne.symm nf3)]
  | false =>
    have h0 := gv_not hb
    have HE1 : Hid (gvB O n = false) := hb
    have HE2 : Hid (gvO O n = O) := by show _ = _; simp [gvO, hb]
    have HE3 : Hid (gvW O W now n = W) := by show _ = _; simp [gvW, hb]
    have HE0 : Hid (((up now (gvB O n) : Nat) : Int) = (now : Int)) := by show _ = _; rw [hb]; simp [up]
    by_cases n1 : n < 0
    · clear hx h0 hb
      go_wp2
      refine bodyPost_ret (results_cell_tmp Try.results34 _ _ rb _ _ _ _ rfl (res_kept HX.out.res) Try.underlying42 rfl Try.sizeF) rfl ⟨.slice aO m cO, .slice aW m cW, by rw [HE0.out, HE1.out]; rfl, by rw [HE2.out, HE3.out]; exact HDW.out.below (res_below HX.out.bel l2), res_below HX.out.bel l2⟩
    · obtain ⟨k, rfl⟩ := Int.eq_ofNat_of_zero_le (show 0 ≤ n by omega)
      by_cases n2 : k < m
      · have i1 : (k : Int) < (m : Int) := by omega
        obtain ⟨g1, rfl, cK, _⟩ := row_at hx.doc.rO n2
        rw [ownI_nat] at h0
        rw [zv_at O k (by rw [HLO.out]; exact n2), h0] at cK
        have i3 : decide ((m : Int) ≤ (k : Int)) = false := decide_eq_false (by omega)
        have i4 : ¬ (m : Int) ≤ (k : Int) := by omega
        clear hx h0 hb
        go_wp2
        refine bodyPost_ret (results_cell_tmp Try.results34 _ _ rb _ _ _ _ rfl (res_kept HX.out.res) Try.underlying42 rfl Try.sizeF) rfl ⟨.slice (some ⟨g1, 0, none⟩) m cO, .slice aW m cW, by rw [HE0.out, HE1.out]; rfl, by rw [HE2.out, HE3.out]; exact HDW.out.below (res_below HX.out.bel l2), res_below HX.out.bel l2⟩
      · have i1 : (m : Int) ≤ (k : Int) := by omega
        clear hx h0 hb
        go_wp2
        refine bodyPost_ret (results_cell_tmp Try.results34 _ _ rb _ _ _ _ rfl (res_kept HX.out.res) Try.underlying42 rfl Try.sizeF) rfl ⟨.slice aO m cO, .slice aW m cW, by rw [HE0.out, HE1.out]; rfl, by rw [HE2.out, HE3.out]; exact HDW.out.below (res_below HX.out.bel l2), res_below HX.out.bel l2⟩
end Go.Proofs.Yteebjeifbccbnaa
