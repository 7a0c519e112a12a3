/- The walk of the document's own Take (layer 6). -/
import Derived.Test.YteebjeifbccbnaaMDocW
import Derived.Deep.LoopGhost
namespace Go.Proofs.Yteebjeifbccbnaa
open Go.RowKit

def tkL (S : List Nat) (L : List Wt) (o : Int) : List Wt := if tkB S o then cutL L (tkN S o) else L
theorem cut_yes {L : List Wt} {k n0 : Nat} (hk : k < L.length) (h : L[k].n ≠ n0) : cutL (L.take (k + 1)) n0 = cutL (L.take k) n0 ++ [L[k]] := by
  rw [List.take_succ_eq_append_getElem hk, cutL, cutL, List.filter_append]
  simp [h]
theorem cut_no {L : List Wt} {k n0 : Nat} (hk : k < L.length) (h : L[k].n = n0) : cutL (L.take (k + 1)) n0 = cutL (L.take k) n0 := by
  rw [List.take_succ_eq_append_getElem hk, cutL, cutL, List.filter_append]
  simp [h]
theorem cut_le (L : List Wt) (k n0 : Nat) : (cutL (L.take k) n0).length ≤ k := by
  unfold cutL
  refine Nat.le_trans (List.length_filter_le _ _) ?_
  simp
  omega

set_option maxRecDepth 100000 in
set_option maxHeartbeats 2000000 in
theorem refTake6_any {C m now : Nat} {vO vW vL : Value} {O W : List Int} {S : List Nat} {L : List Wt} (o : Int) (w : World) (h : DocAt C w vO vW m O W) (hlg : LogAt C w vL L) (hg : Good m O S) (hd : Dated m S W now) (hm : m ≤ 96) (hL : L.length ≤ 1000) (hC : C ≤ w.heap.size) :
    Calls Try.prog 33 #[.agg #[vO, vW, .int .i64 (now : Int), vL], .int .i64 o] w fun e w' => ∃ vO' vL', e = .returned (.tuple #[.agg #[vO', vW, .int .i64 (now : Int), vL'], .int .i64 (tkN S o : Nat), .bool (tkB S o)]) ∧
      DocAt C w' vO' vW m (tkO O S o) W ∧ LogAt C w' vL' (tkL S L o) ∧ Below w.heap.size w w' := by
  obtain ⟨j0, hj, hy0, hy1, hy2⟩ := info_parts Try.info86
  have HLG : Hid (LogAt C w vL L) := hlg
  have HDC : Hid (DocAt C w vO vW m O W) := h
  have HG : Hid (Good m O S) := hg
  have HDT : Hid (Dated m S W now) := hd
  obtain ⟨aL, cL, rfl⟩ := row_slice hlg.row
  obtain ⟨aO, cO, rfl⟩ := row_slice h.rO
  obtain ⟨aW, cW, rfl⟩ := row_slice h.rW
  clear h hlg hg hd
  go_enter Try.func33, Try.ntmps33
  have hbx : Below w.heap.size w ((w.alloc (.cells #[.slice aO m cO, .slice aW m cW, .int .i64 (now : Int), .slice aL L.length cL] 45)).alloc (.cells #[.slice none 0 0, .slice none 0 0, .int .i64 0, .slice none 0 0] 45)) := ((Below.refl _ w).alloc (Nat.le_refl _) _).alloc (by simp) _
  have hx1 : ((w.alloc (.cells #[.slice aO m cO, .slice aW m cW, .int .i64 (now : Int), .slice aL L.length cL] 45)).alloc (.cells #[.slice none 0 0, .slice none 0 0, .int .i64 0, .slice none 0 0] 45)).heap[w.heap.size]? = some (.cells #[.slice aO m cO, .slice aW m cW, .int .i64 (now : Int), .slice aL L.length cL] 45 (0, 0)) := by
    rw [Below.heap_alloc _ _ _ (by simp)]; exact heap_alloc_new w _
  have hx2 : ((w.alloc (.cells #[.slice aO m cO, .slice aW m cW, .int .i64 (now : Int), .slice aL L.length cL] 45)).alloc (.cells #[.slice none 0 0, .slice none 0 0, .int .i64 0, .slice none 0 0] 45)).heap[w.heap.size + 1]? = some (.cells #[.slice none 0 0, .slice none 0 0, .int .i64 0, .slice none 0 0] 45 (0, 0)) := by
    have := heap_alloc_new (w.alloc (.cells #[.slice aO m cO, .slice aW m cW, .int .i64 (now : Int), .slice aL L.length cL] 45)) (.cells #[.slice none 0 0, .slice none 0 0, .int .i64 0, .slice none 0 0] 45)
    simpa using this
  have hz1' : ((w.alloc (.cells #[.slice aO m cO, .slice aW m cW, .int .i64 (now : Int), .slice aL L.length cL] 45)).alloc (.cells #[.slice none 0 0, .slice none 0 0, .int .i64 0, .slice none 0 0] 45)).heap.size = w.heap.size + 2 := by simp
  go_upto_region 1 with (fail)
  generalize (w.alloc (.cells #[.slice aO m cO, .slice aW m cW, .int .i64 (now : Int), .slice aL L.length cL] 45)).alloc (.cells #[.slice none 0 0, .slice none 0 0, .int .i64 0, .slice none 0 0] 45) = w1 at *
  obtain ⟨rb, hrb⟩ : ∃ rb, w.heap.size + 1 = rb := ⟨_, rfl⟩
  rw [hrb] at hx2
  rw [hrb]
  obtain ⟨fb, hfb⟩ : ∃ fb, w.heap.size = fb := ⟨_, rfl⟩
  rw [hfb] at hx1
  rw [hfb]
  have HS : Hid (w.heap.size = fb ∧ fb + 1 = rb ∧ w1.heap.size = fb + 2) := by show _ ∧ _ ∧ _; omega
  have HX1 : Hid (w1.heap[fb]? = some (.cells #[.slice aO m cO, .slice aW m cW, .int .i64 (now : Int), .slice aL L.length cL] 45 (0, 0))) := hx1
  have HX2 : Hid (w1.heap[rb]? = some (.cells #[.slice none 0 0, .slice none 0 0, .int .i64 0, .slice none 0 0] 45 (0, 0))) := hx2
  have HBX : Hid (Below w.heap.size w w1) := hbx
  have k0 : w1.cell? ⟨fb, 0, none⟩ = some (.slice aO m cO) := by rw [cell_of_row w1 fb 0 _ _ _ hx1]; rfl
  have k1 : w1.cell? ⟨fb, 1, none⟩ = some (.slice aW m cW) := by rw [cell_of_row w1 fb 1 _ _ _ hx1]; rfl
  have k2 : w1.cell? ⟨fb, 2, none⟩ = some (.int .i64 (now : Int)) := by rw [cell_of_row w1 fb 2 _ _ _ hx1]; rfl
  clear hx1 hx2 hbx hz1' hrb hfb
  go_wp2_with fail
  refine (refTake_any o w1 (HDC.out.below HBX.out) HG.out HDT.out hm (by have := HBX.out.size; omega)).mono ?_
  rintro e w2 ⟨vO', rfl, hd2, b2⟩
  obtain ⟨aO', cO', rfl⟩ := row_slice hd2.rO
  have HB2 : Hid (Below w1.heap.size w1 w2) := b2
  have HD2 : Hid (DocAt C w2 (.slice aO' m cO') (.slice aW m cW) m (tkO O S o) W) := hd2
  clear k0 k1 k2 hd2
  have hx1 := (b2.block fb (by have := HS.out; omega)).trans HX1.out
  have hx2 := (b2.block rb (by have := HS.out; omega)).trans HX2.out
  clear b2
  have b3 : Below w2.heap.size w2 (w2.alloc (.cells #[.slice aO' m cO', .slice aW m cW, .int .i64 (now : Int)] 42)) := (Below.refl _ w2).alloc (Nat.le_refl _) _
  have HB3 : Hid (Below w2.heap.size w2 (w2.alloc (.cells #[.slice aO' m cO', .slice aW m cW, .int .i64 (now : Int)] 42))) := b3
  have HX3 : Hid ((w2.alloc (.cells #[.slice aO' m cO', .slice aW m cW, .int .i64 (now : Int)] 42)).heap[w2.heap.size]? = some (.cells #[.slice aO' m cO', .slice aW m cW, .int .i64 (now : Int)] 42 (0, 0))) := heap_alloc_new w2 _
  have HX4 : Hid _ := (b3.block fb (Array.getElem?_eq_some_iff.1 hx1).1).trans hx1
  have HX5 : Hid _ := (b3.block rb (Array.getElem?_eq_some_iff.1 hx2).1).trans hx2
  have HVB : Hid (rb < w2.heap.size) := (Array.getElem?_eq_some_iff.1 hx2).1
  clear b3 hx1 hx2
  go_upto_region 2 with (fail)
  generalize w2.alloc (.cells #[.slice aO' m cO', .slice aW m cW, .int .i64 (now : Int)] 42) = w4 at *
  obtain ⟨vb, hvb⟩ : ∃ vb, w2.heap.size = vb := ⟨_, rfl⟩
  rw [hvb] at HX3 HVB
  rw [hvb]
  have HD4 : Hid (DocAt C w4 (.slice aO' m cO') (.slice aW m cW) m (tkO O S o) W) := HD2.out.below HB3.out
  have HB4 : Hid (Below w1.heap.size w1 w4) := HB2.out.trans (HB3.out.mono HB2.out.size)
  have HBW : Hid (Below w.heap.size w w4) := HBX.out.trans (HB4.out.mono HBX.out.size)
  have HL4 : Hid (LogAt C w4 (.slice aL L.length cL) L) := HLG.out.below HBW.out
  have HX5' : Hid (w4.heap[rb]? = some (.cells #[.slice none 0 0, .slice none 0 0, .int .i64 0, .slice none 0 0] 45 (0, 0))) := HX5.out
  have HX4' : Hid (w4.heap[fb]? = some (.cells #[.slice aO m cO, .slice aW m cW, .int .i64 (now : Int), .slice aL L.length cL] 45 (0, 0))) := HX4.out
  clear HD2 HB2 HB3 HX1 HX2 HX4 HX5 hvb HB4
  have hs := HS.out
  have hvb := HVB.out
  have nvb : vb < w4.heap.size := (Array.getElem?_eq_some_iff.1 HX3.out).1
  cases hb : tkB S o with
  | false =>
    have HE1 : Hid (tkB S o = false) := hb
    have HE2 : Hid (tkN S o = 0) := by show _ = _; simp [tkN, hb]
    have HE3 : Hid (tkO O S o = O) := by show _ = _; simp [tkO, hb]
    have HE4 : Hid (tkL S L o = L) := by show _ = _; simp [tkL, hb]
    have k0 : w4.cell? ⟨fb, 0, none⟩ = some (.slice aO m cO) := by rw [cell_of_row w4 fb 0 _ _ _ HX4'.out]; rfl
    have k1 : w4.cell? ⟨fb, 1, none⟩ = some (.slice aW m cW) := by rw [cell_of_row w4 fb 1 _ _ _ HX4'.out]; rfl
    have k2 : w4.cell? ⟨fb, 2, none⟩ = some (.int .i64 (now : Int)) := by rw [cell_of_row w4 fb 2 _ _ _ HX4'.out]; rfl
    have k3 : w4.cell? ⟨fb, 3, none⟩ = some (.slice aL L.length cL) := by rw [cell_of_row w4 fb 3 _ _ _ HX4'.out]; rfl
    have r0 : w4.cell? ⟨rb, 0, none⟩ = some (.slice none 0 0) := by rw [cell_of_row w4 rb 0 _ _ _ HX5'.out]; rfl
    have r1 : w4.cell? ⟨rb, 1, none⟩ = some (.slice none 0 0) := by rw [cell_of_row w4 rb 1 _ _ _ HX5'.out]; rfl
    have r2 : w4.cell? ⟨rb, 2, none⟩ = some (.int .i64 0) := by rw [cell_of_row w4 rb 2 _ _ _ HX5'.out]; rfl
    have r3 : w4.cell? ⟨rb, 3, none⟩ = some (.slice none 0 0) := by rw [cell_of_row w4 rb 3 _ _ _ HX5'.out]; rfl
    have f0 : w4.frozen? ⟨rb, 0, none⟩ = false := frozen_of_row w4 rb 0 _ _ HX5'.out
    have f1 : w4.frozen? ⟨rb, 1, none⟩ = false := frozen_of_row w4 rb 1 _ _ HX5'.out
    have f2 : w4.frozen? ⟨rb, 2, none⟩ = false := frozen_of_row w4 rb 2 _ _ HX5'.out
    have f3 : w4.frozen? ⟨rb, 3, none⟩ = false := frozen_of_row w4 rb 3 _ _ HX5'.out
    clear hb hs hvb nvb
    go_wp2
    have hs := HS.out
    have hfin := res4_below (rb := rb) (u0 := .slice aO m cO) (u1 := .slice aW m cW) (u2 := .int .i64 (now : Int)) (u3 := .slice aL L.length cL) HBW.out (by omega)
    refine bodyPost_ret (results_cell_tmp2 Try.results33 _ _ rb _ _ _ _ rfl (res4_kept HX5'.out) Try.underlying45 rfl Try.sizeR) rfl ⟨.slice aO m cO, .slice aL L.length cL, by rw [HE2.out, HE1.out]; rfl, by rw [HE3.out]; exact HDC.out.below hfin, by rw [HE4.out]; exact HLG.out.below hfin, hfin⟩
  | true =>
    have HE1 : Hid (tkB S o = true) := hb
    obtain ⟨n0, hn0⟩ : ∃ n0, tkN S o = n0 := ⟨_, rfl⟩
    have HE2 : Hid (tkN S o = n0) := hn0
    have HE4 : Hid (tkL S L o = cutL L n0) := by show _ = _; rw [tkL, if_pos hb, hn0]
    rw [hn0]
    clear hb hn0 hs hvb nvb
    go_wp2_with fail
    go_loopg [10, 11] L.length (fun gk v i wq => ∃ k : Nat, k ≤ L.length ∧ gk = L.length - k ∧ i = .int .i64 k ∧ wq.ownsRow w4.heap.size 86 3 v (cutL (L.take k) n0).length (wc (cutL (L.take k) n0)) ∧ Below w4.heap.size w4 wq)
    case atStart => exact ⟨0, Nat.zero_le _, rfl, rfl, by simp [cutL, wc]; exact World.ownsRow_nil _ _ _ _, Below.refl _ _⟩
    case round =>
      obtain ⟨k, hk, rfl, rfl, hown, hbe⟩ := hrel
      obtain ⟨a5, c5, rfl⟩ := row_slice hown
      have hxf := (hbe.block fb (Array.getElem?_eq_some_iff.1 HX4'.out).1).trans HX4'.out
      have k3 : wr.cell? ⟨fb, 3, none⟩ = some (.slice aL L.length cL) := by rw [cell_of_row wr fb 3 _ _ _ hxf]; rfl
      have HBE : Hid (Below w4.heap.size w4 wr) := hbe
      have HOW : Hid (wr.ownsRow w4.heap.size 86 3 (.slice a5 (cutL (L.take k) n0).length c5) (cutL (L.take k) n0).length (wc (cutL (L.take k) n0))) := hown
      have hcl := cut_le L k n0
      by_cases hlt : k < L.length
      · have i1 : (k : Int) < (L.length : Int) := by omega
        obtain ⟨gL, rfl, e0, e1, e2, hgl, hgl2⟩ := row_at3 (HL4.out.below hbe).row hlt
        obtain ⟨q0, q1, q2⟩ := wc_at L k hlt
        rw [q0] at e0
        rw [q1] at e1
        rw [q2] at e2
        have hov := row_one (HL4.out.each L[k] (List.getElem_mem _)).1
        have hnf : fb ≠ wr.heap.size := by have := (Array.getElem?_eq_some_iff.1 hxf).1; omega
        have hsz := hbe.size
        obtain ⟨av, cv, hlv⟩ := row_slice (HL4.out.each L[k] (List.getElem_mem _)).1
        by_cases hne : L[k].n = n0
        · have HC : Hid _ := cut_no hlt hne
          rw [hne] at e0
          have j1 : ((n0 : Int) != (n0 : Int)) = false := by simp
          have j2 : ((n0 : Int) == (n0 : Int)) = true := beq_self_eq_true _
          clear hown hbe hxf q0 q1 q2 e1 e2 hov hlv
          go_wp2
          go_roundg (L.length - (k + 1))
          case measure => omega
          case rel => exact ⟨k + 1, by omega, rfl, by go_num, by rw [HC.out]; exact HOW.out, HBE.out⟩
        · have HC : Hid _ := cut_yes hlt hne
          have j1 : ((L[k].n : Int) != (n0 : Int)) = true := by rw [bne_iff_ne]; omega
          have j2 : ((L[k].n : Int) == (n0 : Int)) = false := by rw [beq_eq_false_iff_ne]; omega
          have htt : L[k] = ⟨L[k].n, L[k].a, L[k].v, L[k].b⟩ := rfl
          generalize L[k] = tt at *
          obtain ⟨tn, ta, tv, tb⟩ := tt
          simp only at e0 e1 e2 hlv j1 j2 hov
          subst hlv
          clear hown hbe hxf q0 q1 q2 htt hne
          go_wp2_with (at_builtin; refine wpList_append_src rfl _ _ 43 rfl w4.heap.size 86 j0 (.agg #[.int .i64 0, .int .i64 0, .slice none 0 0]) 3 40 Try.underlying43 hj hy0 hy1 hy2 rfl (by decide) _ _ _ rfl (HOW.out.alloc _) _ 1 [.int .i64 (tn : Int), .int .i64 (ta : Int), .slice av tb.length cv] rfl (three_new wr _ _ _ _) ?e2 ?e3 ?e4 ?e5 ?_)
          case e2 =>
            intro u hu
            simp at hu
            rcases hu with rfl | rfl | rfl <;> rfl
          case e3 => unfold maxLen; omega
          case e4 => omega
          case e5 => simp; omega
          intro v6 w6 own6 gr6
          have b6 : Below w4.heap.size w4 w6 := (HBE.out.alloc hsz _).grown gr6 (by simp; omega) (fun i hi => (HOW.out.lt i hi).1)
          have HO6 : Hid (w6.ownsRow w4.heap.size 86 3 v6 ((cutL (L.take k) n0).length + 1) (wc (cutL (L.take k) n0) ++ [.int .i64 (tn : Int), .int .i64 (ta : Int), .slice av tb.length cv])) := own6
          have HB6 : Hid (Below w4.heap.size w4 w6) := b6
          clear own6 gr6 b6
          go_wp2
          go_roundg (L.length - (k + 1))
          case measure => omega
          case rel => exact ⟨k + 1, by omega, rfl, by go_num, by rw [HC.out, wc_snoc, List.length_append]; exact HO6.out, HB6.out⟩
      · have e : k = L.length := by omega
        have i1 : ¬ (k : Int) < (L.length : Int) := by omega
        have HE5 : Hid (cutL (L.take k) n0 = cutL L n0) := by show _ = _; rw [e, List.take_length]
        have hxv := (hbe.block vb (Array.getElem?_eq_some_iff.1 HX3.out).1).trans HX3.out
        have hxr := (hbe.block rb (Array.getElem?_eq_some_iff.1 HX5'.out).1).trans HX5'.out
        have HXR : Hid (wr.heap[rb]? = some (.cells #[.slice none 0 0, .slice none 0 0, .int .i64 0, .slice none 0 0] 45 (0, 0))) := hxr
        have d0 : wr.cell? ⟨vb, 0, none⟩ = some (.slice aO' m cO') := by rw [cell_of_row wr vb 0 _ _ _ hxv]; rfl
        have d1 : wr.cell? ⟨vb, 1, none⟩ = some (.slice aW m cW) := by rw [cell_of_row wr vb 1 _ _ _ hxv]; rfl
        have d2 : wr.cell? ⟨vb, 2, none⟩ = some (.int .i64 (now : Int)) := by rw [cell_of_row wr vb 2 _ _ _ hxv]; rfl
        have r0 : wr.cell? ⟨rb, 0, none⟩ = some (.slice none 0 0) := by rw [cell_of_row wr rb 0 _ _ _ hxr]; rfl
        have r1 : wr.cell? ⟨rb, 1, none⟩ = some (.slice none 0 0) := by rw [cell_of_row wr rb 1 _ _ _ hxr]; rfl
        have r2 : wr.cell? ⟨rb, 2, none⟩ = some (.int .i64 0) := by rw [cell_of_row wr rb 2 _ _ _ hxr]; rfl
        have r3 : wr.cell? ⟨rb, 3, none⟩ = some (.slice none 0 0) := by rw [cell_of_row wr rb 3 _ _ _ hxr]; rfl
        have f0 : wr.frozen? ⟨rb, 0, none⟩ = false := frozen_of_row wr rb 0 _ _ hxr
        have f1 : wr.frozen? ⟨rb, 1, none⟩ = false := frozen_of_row wr rb 1 _ _ hxr
        have f2 : wr.frozen? ⟨rb, 2, none⟩ = false := frozen_of_row wr rb 2 _ _ hxr
        have f3 : wr.frozen? ⟨rb, 3, none⟩ = false := frozen_of_row wr rb 3 _ _ hxr
        clear hown hbe hxf hxv hxr e
        go_wp2
        have hs := HS.out
        have hrb : rb < w4.heap.size := (Array.getElem?_eq_some_iff.1 HX5'.out).1
        have hbf : Below w.heap.size w wr := HBW.out.trans (HBE.out.mono HBW.out.size)
        have hfin := res4_below (rb := rb) (u0 := .slice aO' m cO') (u1 := .slice aW m cW) (u2 := .int .i64 (now : Int)) (u3 := .slice a5 (cutL (L.take k) n0).length c5) hbf (by omega)
        have hrow := row_apart HOW.out (fun g hg => res4_block (u0 := .slice aO' m cO') (u1 := .slice aW m cW) (u2 := .int .i64 (now : Int)) (u3 := .slice a5 (cutL (L.take k) n0).length c5) hg) hrb
        refine bodyPost_ret (results_cell_tmp2 Try.results33 _ _ rb _ _ _ _ rfl (res4_kept HXR.out) Try.underlying45 rfl Try.sizeR) rfl ⟨.slice aO' m cO', .slice a5 (cutL (L.take k) n0).length c5, by rw [HE2.out, HE1.out]; rfl, ⟨?_, ?_⟩, ⟨?_, ?_⟩, hfin⟩
        · exact row_tag (row_below HD4.out.rO HBE.out) HXR.out (by decide) (fun g hg => res4_block hg)
        · exact row_tag (row_below HD4.out.rW HBE.out) HXR.out (by decide) (fun g hg => res4_block hg)
        · rw [HE4.out, ← HE5.out]
          exact rowMono hrow (by have := HBW.out.size; omega)
        · intro t ht
          rw [HE4.out] at ht
          have ht2 := (List.mem_filter.1 ht).1
          exact ⟨row_below (HLG.out.each t ht2).1 hfin, (HLG.out.each t ht2).2⟩
end Go.Proofs.Yteebjeifbccbnaa
