/- The walk of the document's own Take (layer 5). -/
import Derived.Test.YteebjeifbccbnaaFRef
namespace Go.Proofs.Yteebjeifbccbnaa
open Go.RowKit

theorem res_kept {w : World} {rb : Nat} {v0 v1 v2 u0 u1 u2 : Value} {t : TypeId} (h : w.heap[rb]? = some (.cells #[v0, v1, v2] t (0, 0))) :
    (((w.setCell ⟨rb, 0, none⟩ u0).setCell ⟨rb, 1, none⟩ u1).setCell ⟨rb, 2, none⟩ u2).heap[rb]? = some (.cells #[u0, u1, u2] t (0, 0)) := by
  have h1 := heap_setCell_same w rb 0 _ _ u0 h
  have h2 := heap_setCell_same _ rb 1 _ _ u1 h1
  have h3 := heap_setCell_same _ rb 2 _ _ u2 h2
  rw [h3]; rfl
/-- The answer is laid: what is below, and rows of other blocks, stay. -/
theorem res_below {w0 w : World} {rb : Nat} {u0 u1 u2 : Value} (hb : Below w0.heap.size w0 w) (hr : w0.heap.size ≤ rb) :
    Below w0.heap.size w0 (((w.setCell ⟨rb, 0, none⟩ u0).setCell ⟨rb, 1, none⟩ u1).setCell ⟨rb, 2, none⟩ u2) :=
  ((hb.setCell (p := ⟨rb, 0, none⟩) hr _).setCell (p := ⟨rb, 1, none⟩) hr _).setCell (p := ⟨rb, 2, none⟩) hr _
theorem res_block {w : World} {rb g : Nat} {u0 u1 u2 : Value} (h : g ≠ rb) : (((w.setCell ⟨rb, 0, none⟩ u0).setCell ⟨rb, 1, none⟩ u1).setCell ⟨rb, 2, none⟩ u2).heap[g]? = w.heap[g]? := by
  rw [Below.heap_setCell _ _ _ _ h, Below.heap_setCell _ _ _ _ h, Below.heap_setCell _ _ _ _ h]

set_option maxRecDepth 100000 in
set_option maxHeartbeats 2000000 in
theorem refTake_any {C m now : Nat} {vO vW : Value} {O W : List Int} {S : List Nat} (o : Int) (w : World) (h : DocAt C w vO vW m O W) (g : Good m O S) (d : Dated m S W now) (hm : m ≤ 96) (hC : C ≤ w.heap.size) :
    Calls Try.prog 48 #[.agg #[vO, vW, .int .i64 (now : Int)], .int .i64 o] w fun e w' => ∃ vO', e = .returned (.tuple #[.agg #[vO', vW, .int .i64 (now : Int)], .int .i64 (tkN S o : Nat), .bool (tkB S o)]) ∧
      DocAt C w' vO' vW m (tkO O S o) W ∧ Below w.heap.size w w' := by
  obtain ⟨i0, hi, hz0, hz1, hz2⟩ := info_parts Try.info3
  have HLO : Hid (O.length = m) := h.lenO
  have HLW : Hid (W.length = m) := h.lenW
  have HDW : Hid (DocAt C w vO vW m O W) := h
  obtain ⟨aO, cO, rfl⟩ := row_slice h.rO
  obtain ⟨aW, cW, rfl⟩ := row_slice h.rW
  have HB1 : Hid _ := Boxed.made w now h
  have HG : Hid (Good m O S) := g
  have HD : Hid (Dated m S W now) := d
  clear h g d
  go_enter Try.func48, Try.ntmps48
  go_wp2_with fail
  generalize (w.alloc (.cells #[.slice aO m cO, .slice aW m cW, .int .i64 (now : Int)] 42)).alloc (.cells #[.slice none 0 0, .slice none 0 0, .int .i64 0] 42) = w1 at *
  obtain ⟨rb, hrb⟩ : ∃ rb, w.heap.size + 1 = rb := ⟨_, rfl⟩
  rw [hrb] at HB1
  rw [hrb]
  obtain ⟨fb, hfb⟩ : ∃ fb, w.heap.size = fb := ⟨_, rfl⟩
  have HB2 : Hid (Boxed w w1 fb rb C (.slice aO m cO) (.slice aW m cW) now m O W) := by rw [← hfb]; exact HB1.out
  rw [hfb]
  clear hrb hfb HB1
  go_loopw [7, 8] (fun b i wr => ∃ (k : Nat) (b' : Int), k ≤ m ∧ i = .int .i64 k ∧ b = .int .i64 b' ∧ Best O W k b' ∧ Boxed w wr fb rb C (.slice aO m cO) (.slice aW m cW) now m O W) (fun _ i _ => m - (intOf i).toNat)
  case atStart => exact ⟨0, -1, Nat.zero_le _, rfl, rfl, Best.start, HB2.out⟩
  case round =>
    obtain ⟨k, b', hk, rfl, rfl, hbest, hx⟩ := hrel
    have HX : Hid (Boxed w wr fb rb C (.slice aO m cO) (.slice aW m cW) now m O W) := hx
    have HBS : Hid (Best O W k b') := hbest
    have c0 := hx.c0
    by_cases hlt : k < m
    · have c1 := hx.c1
      have i1 : (k : Int) < (m : Int) := by omega
      obtain ⟨g1, e1, cK, _⟩ := row_at hx.doc.rO hlt
      obtain ⟨g2, e2, cKW, _⟩ := row_at hx.doc.rW hlt
      rw [zv_at O k (by rw [HLO.out]; exact hlt)] at cK
      rw [zv_at W k (by rw [HLW.out]; exact hlt)] at cKW
      have hrg := hbest.range
      by_cases hq : O.getD k 0 = 0
      · have HQ : Hid _ := hq
        rw [hq] at cK
        rcases hrg with rfl | ⟨n, rfl, hn⟩
        · subst e1 e2
          clear hx hbest hq
          go_wp2_with fail
          go_quiet (fail)
          go_wp2
          go_roundw
          case rel => exact ⟨k + 1, _, by omega, by go_num, rfl, HBS.out.take HQ.out (by intro n e; omega), HX.out.drewN _⟩
          case measure => simp [intOf]; omega
        · obtain ⟨g3, e3, cN, _⟩ := row_at hx.doc.rW (i := n) (by omega)
          have e4 : g3 = g2 := by rw [e2] at e3; simpa using e3.symm
          rw [zv_at W n (by rw [HLW.out]; omega), e4] at cN
          subst e1 e2
          have i2 : (n : Int) < (m : Int) := by omega
          have i3 : ¬ (n : Int) < 0 := by omega
          have i4 : decide ((n : Int) < 0) = false := decide_eq_false i3
          by_cases hwn : W.getD n 0 < W.getD k 0
          · have HT : Hid _ := HBS.out.take HQ.out (by intro n' e; obtain rfl : n = n' := (by omega); exact hwn)
            generalize W.getD n 0 = y at *
            generalize W.getD k 0 = x at *
            clear hx hbest hq e3 e4
            go_wp2_with fail
            go_quiet (fail)
            go_wp2
            go_roundw
            case rel => exact ⟨k + 1, _, by omega, by go_num, rfl, HT.out, HX.out.drewN _⟩
            case measure => simp [intOf]; omega
          · have HT : Hid _ := HBS.out.stay (n := n) (by omega)
            generalize W.getD n 0 = y at *
            generalize W.getD k 0 = x at *
            have i5 : decide (y < x) = false := decide_eq_false hwn
            clear hx hbest hq e3 e4
            go_wp2_with fail
            go_quiet (fail)
            go_wp2
            go_roundw
            case rel => exact ⟨k + 1, _, by omega, by go_num, rfl, HT.out, HX.out.drewN _⟩
            case measure => simp [intOf]; omega
      · have HT : Hid _ := HBS.out.skip hq
        generalize O.getD k 0 = q at *
        have i5 : (q == 0) = false := by rw [beq_eq_false_iff_ne]; exact hq
        subst e1
        clear hx hbest hrg cKW e2
        go_wp2_with fail
        go_quiet (fail)
        go_wp2
        go_roundw
        case rel => exact ⟨k + 1, _, by omega, by go_num, rfl, HT.out, HX.out.drewN _⟩
        case measure => simp [intOf]; omega
    · have e : k = m := by omega
      subst e
      have c1 := hx.c1
      have c2 := hx.c2
      have r0 := hx.r0
      have r1 := hx.r1
      have r2 := hx.r2
      have f0 := hx.ff 0
      have fr0 := hx.fr 0
      have fr1 := hx.fr 1
      have fr2 := hx.fr 2
      obtain ⟨l1, l2, l3⟩ := hx.lo
      cases hb : tkB S o with
      | true =>
        obtain ⟨hs, o1, o3⟩ := tk_of hb
        have HE1 : Hid (tkB S o = true) := hb
        have HE2 : Hid (tkN S o = S.getD (S.length - 1) 0) := by show _ = _; simp [tkN, hb]
        have HE3 : Hid (tkO O S o = O.set (S.getD (S.length - 1) 0) o) := by show _ = _; simp [tkO, hb]
        have hlast := HBS.out.last HG.out HD.out hs
        have htop := (HG.out.top hs).1
        generalize S.getD (S.length - 1) 0 = n at *
        subst hlast
        have i2 : (n : Int) < (k : Int) := by omega
        have i3 : ¬ (n : Int) < 0 := by omega
        have i4 : decide ((n : Int) < 0) = false := decide_eq_false i3
        have i5 : decide (o < 1) = false := decide_eq_false (by omega)
        have i6 : decide (3 < o) = false := decide_eq_false (by omega)
        have i7 : ¬ o < 1 := by omega
        have i8 : ¬ 3 < o := by omega
        have hrow := hx.doc.rO
        obtain ⟨g1, rfl, _, _, _, hg1⟩ := row_at hrow htop
        have n1 : fb < wr.heap.size := (Array.getElem?_eq_some_iff.1 hx.box).1
        have n2 : fb ≠ wr.heap.size := by omega
        have HCE : Hid (∀ j u, (zv O)[j]? = some u → wr.cell? ((⟨g1, 0, none⟩ : Addr).add j) = some u) := hrow.cells rfl
        have HZL : Hid ((zv O).length = k * 1) := by show _ = _; simp [zv, HLO.out]
        clear hx hbest hb hrow
        go_wp2_with (at_builtin; refine wpList_append_own _ rfl _ _ 40 rfl wr.heap.size 3 i0 (.int .i64 0) 1 8 Try.underlying40 hi hz0 hz1 hz2 rfl (by decide) _ _ _ rfl (World.ownsRow_made wr #[] 0 (Nat.le_refl _) (by unfold maxLen; omega) rfl) ⟨g1, 0, none⟩ k cO (zv O) rfl HZL.out ?c1 (zv_one _) ?c3 ?c4 ?c5 ?_)
        case c1 =>
          intro j u hj
          have h1 := HCE.out j u hj
          rw [Addr.add_lit, Nat.zero_add] at h1
          exact h1
        case c3 => unfold maxLen; omega
        case c4 => omega
        intro v2 w2 own2 gr2 _
        have b2 : Below wr.heap.size wr w2 := ((Below.refl _ wr).alloc (Nat.le_refl _) _).grown gr2 (by simp) (fun i hi => by simp [Value.ownBlock] at hi; omega)
        have own2' : w2.ownsRow wr.heap.size 3 1 v2 k (zv O) := by simpa using own2
        obtain ⟨a2, c2', rfl⟩ := row_slice own2'
        obtain ⟨g2, rfl, cN, fN, hg2, hg2'⟩ := row_at own2' htop
        rw [zv_at O n (by rw [HLO.out]; exact htop)] at cN
        generalize O.getD n 0 = qN at *
        have HX2 : Hid (Boxed w w2 fb rb C (.slice (some ⟨g1, 0, none⟩) k cO) (.slice aW k cW) now k O W) := HX.out.below b2
        have HOW : Hid (w2.ownsRow wr.heap.size 3 1 (.slice (some ⟨g2, 0, none⟩) k c2') k (zv O)) := own2'
        have nf : fb ≠ g2 := by have := (Array.getElem?_eq_some_iff.1 HX.out.box).1; omega
        have nr : rb ≠ g2 := by have := (Array.getElem?_eq_some_iff.1 HX.out.res).1; omega
        have HCW : Hid (C ≤ wr.heap.size) := Nat.le_trans hC HX.out.bel.size
        clear c0 c1 c2 r0 r1 r2 f0 fr0 fr1 fr2 own2 gr2 b2 own2'
        have c0 := HX2.out.c0
        have c1 := HX2.out.c1
        have c2 := HX2.out.c2
        have r0 := HX2.out.r0
        have r1 := HX2.out.r1
        have r2 := HX2.out.r2
        have f0 := HX2.out.ff 0
        have fr0 := HX2.out.fr 0
        have fr1 := HX2.out.fr 1
        have fr2 := HX2.out.fr 2
        go_wp2
        have hb3 := HX2.out.bel.setCell (p := ⟨g2, n, none⟩) (by have := HX.out.bel.size; show _ ≤ g2; omega) (.int .i64 o)
        have hb4 := hb3.setCell (p := ⟨fb, 0, none⟩) l1 (.slice (some ⟨g2, 0, none⟩) k c2')
        have hres : ((w2.setCell ⟨g2, n, none⟩ (.int .i64 o)).setCell ⟨fb, 0, none⟩ (.slice (some ⟨g2, 0, none⟩) k c2')).heap[rb]? = some (.cells #[.slice none 0 0, .slice none 0 0, .int .i64 0] 42 (0, 0)) := by
          rw [Below.heap_setCell _ _ _ _ (Ne.symm l3), Below.heap_setCell _ _ _ _ nr]
          exact HX2.out.res
        refine bodyPost_ret (results_cell_tmp2 Try.results48 _ _ rb _ _ _ _ rfl (res_kept hres) Try.underlying42 rfl Try.sizeF) rfl ⟨.slice (some ⟨g2, 0, none⟩) k c2', by rw [HE2.out, HE1.out]; rfl, ⟨?_, ?_⟩, res_below hb4 l2⟩
        · rw [HE3.out, zv_set]
          have r1 := (HOW.out.stored n (.int .i64 o)).1
          have r2 := row_of_block (w' := (w2.setCell ⟨g2, n, none⟩ (.int .i64 o)).setCell ⟨fb, 0, none⟩ (.slice (some ⟨g2, 0, none⟩) k c2')) r1 (Below.heap_setCell _ _ _ _ (Ne.symm nf))
          exact rowMono (row_of_block r2 (res_block (Ne.symm nr))) HCW.out
        · exact row_below HDW.out.rW (res_below hb4 l2)
      | false =>
        have hno := tk_not hb
        have HE1 : Hid (tkB S o = false) := hb
        have HE2 : Hid (tkN S o = 0) := by show _ = _; simp [tkN, hb]
        have HE3 : Hid (tkO O S o = O) := by show _ = _; simp [tkO, hb]
        rcases Nat.eq_zero_or_pos S.length with hs | hs
        · have hlast := HBS.out.none HG.out hs
          subst hlast
          clear hx hbest hb hno
          go_wp2
          refine bodyPost_ret (results_cell_tmp2 Try.results48 _ _ rb _ _ _ _ rfl (res_kept HX.out.res) Try.underlying42 rfl Try.sizeF) rfl ⟨.slice aO k cO, by rw [HE2.out, HE1.out]; rfl, by rw [HE3.out]; exact HDW.out.below (res_below HX.out.bel l2), res_below HX.out.bel l2⟩
        · have hlast := HBS.out.last HG.out HD.out hs
          generalize S.getD (S.length - 1) 0 = n at *
          subst hlast
          have i3 : ¬ (n : Int) < 0 := by omega
          have i4 : decide ((n : Int) < 0) = false := decide_eq_false i3
          by_cases o1 : o < 1
          · clear hx hbest hb hno
            go_wp2
            refine bodyPost_ret (results_cell_tmp2 Try.results48 _ _ rb _ _ _ _ rfl (res_kept HX.out.res) Try.underlying42 rfl Try.sizeF) rfl ⟨.slice aO k cO, by rw [HE2.out, HE1.out]; rfl, by rw [HE3.out]; exact HDW.out.below (res_below HX.out.bel l2), res_below HX.out.bel l2⟩
          · have o3 : 3 < o := by omega
            clear hx hbest hb hno
            go_wp2
            refine bodyPost_ret (results_cell_tmp2 Try.results48 _ _ rb _ _ _ _ rfl (res_kept HX.out.res) Try.underlying42 rfl Try.sizeF) rfl ⟨.slice aO k cO, by rw [HE2.out, HE1.out]; rfl, by rw [HE3.out]; exact HDW.out.below (res_below HX.out.bel l2), res_below HX.out.bel l2⟩
end Go.Proofs.Yteebjeifbccbnaa
