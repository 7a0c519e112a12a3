/- The document's own frames in memory, and the walks of its Of and Take (layer 5), and of Ints (layer 2). -/
import Derived.Test.YteebjeifbccbnaaFSet
import Derived.BigRegion
namespace Go.Proofs.Yteebjeifbccbnaa
open Go.RowKit

theorem results_cell_tmp {P : Program} {fn : Func} {p b : Tmp} {ty : TypeId} (h : fn.results = #[.cell p ty, .tmp b]) (tmps : Array Value) (w : World) (g : Nat) (t : TypeId) (cs : Array Value) (fr : Nat × Nat) (d : TypeDesc)
    (hp : tmps.getD p undef = .pointer (some ⟨g, 0, none⟩)) (hg : w.heap[g]? = some (.cells cs t fr))
    (hu : P.underlying ty = some d) (hd : (match d with | .struct _ | .array _ _ => true | _ => false) = true) (hi : (P.info? ty).map (·.size) = some cs.size) :
    (results fn tmps).run P w = .ok (.tuple #[.agg cs, tmps.getD b undef]) w := by
  have hp' : tmps[p]?.getD undef = .pointer (some ⟨g, 0, none⟩) := by simpa using hp
  simp [results, h, hp', asAddr, run_loadVar_row w g t ty cs fr d hg hu hd hi]
theorem results_cell_tmp2 {P : Program} {fn : Func} {p b c : Tmp} {ty : TypeId} (h : fn.results = #[.cell p ty, .tmp b, .tmp c]) (tmps : Array Value) (w : World) (g : Nat) (t : TypeId) (cs : Array Value) (fr : Nat × Nat) (d : TypeDesc)
    (hp : tmps.getD p undef = .pointer (some ⟨g, 0, none⟩)) (hg : w.heap[g]? = some (.cells cs t fr))
    (hu : P.underlying ty = some d) (hd : (match d with | .struct _ | .array _ _ => true | _ => false) = true) (hi : (P.info? ty).map (·.size) = some cs.size) :
    (results fn tmps).run P w = .ok (.tuple #[.agg cs, tmps.getD b undef, tmps.getD c undef]) w := by
  have hp' : tmps[p]?.getD undef = .pointer (some ⟨g, 0, none⟩) := by simpa using hp
  simp [results, h, hp', asAddr, run_loadVar_row w g t ty cs fr d hg hu hd hi]
theorem Try.sizeF : (Try.prog.info? 42).map (fun i => i.size) = some 3 := by kernel_rfl

/-- The rows of the document's frames. -/
structure DocAt (C : Nat) (w : World) (vO vW : Value) (m : Nat) (O W : List Int) : Prop where
  rO : w.ownsRow C 3 1 vO m (zv O)
  rW : w.ownsRow C 3 1 vW m (zv W)
section
variable {C m : Nat} {w w' : World} {vO vW : Value} {O W : List Int}
theorem DocAt.below (h : DocAt C w vO vW m O W) (hb : Below w.heap.size w w') : DocAt C w' vO vW m O W := ⟨row_below h.rO hb, row_below h.rW hb⟩
theorem DocAt.lenO (h : DocAt C w vO vW m O W) : O.length = m := by have := h.rO.1; simpa [zv] using this
theorem DocAt.lenW (h : DocAt C w vO vW m O W) : W.length = m := by have := h.rW.1; simpa [zv] using this
end

/-- A call of the document's: its frames lie in fb, its answer will lie in rb. -/
structure Boxed (w0 wr : World) (fb rb C : Nat) (vO vW : Value) (now m : Nat) (O W : List Int) : Prop where
  box : wr.heap[fb]? = some (.cells #[vO, vW, .int .i64 (now : Int)] 42 (0, 0))
  res : wr.heap[rb]? = some (.cells #[.slice none 0 0, .slice none 0 0, .int .i64 0] 42 (0, 0))
  doc : DocAt C wr vO vW m O W
  bel : Below w0.heap.size w0 wr
  lo : w0.heap.size ≤ fb ∧ w0.heap.size ≤ rb ∧ fb ≠ rb
section
variable {w0 wr w2 : World} {fb rb C now m : Nat} {vO vW : Value} {O W : List Int}
theorem Boxed.below (h : Boxed w0 wr fb rb C vO vW now m O W) (hb : Below wr.heap.size wr w2) : Boxed w0 w2 fb rb C vO vW now m O W :=
  ⟨(hb.block fb (Array.getElem?_eq_some_iff.1 h.box).1).trans h.box, (hb.block rb (Array.getElem?_eq_some_iff.1 h.res).1).trans h.res, h.doc.below hb, h.bel.trans (hb.mono h.bel.size), h.lo⟩
theorem Boxed.drewN (h : Boxed w0 wr fb rb C vO vW now m O W) (n : Nat) : Boxed w0 (wr.drewN n) fb rb C vO vW now m O W := h.below (drewN_below _ _ _)
theorem Boxed.c0 (h : Boxed w0 wr fb rb C vO vW now m O W) : wr.cell? ⟨fb, 0, none⟩ = some vO := by rw [cell_of_row wr fb 0 _ _ _ h.box]; rfl
theorem Boxed.c1 (h : Boxed w0 wr fb rb C vO vW now m O W) : wr.cell? ⟨fb, 1, none⟩ = some vW := by rw [cell_of_row wr fb 1 _ _ _ h.box]; rfl
theorem Boxed.c2 (h : Boxed w0 wr fb rb C vO vW now m O W) : wr.cell? ⟨fb, 2, none⟩ = some (.int .i64 (now : Int)) := by rw [cell_of_row wr fb 2 _ _ _ h.box]; rfl
theorem Boxed.r0 (h : Boxed w0 wr fb rb C vO vW now m O W) : wr.cell? ⟨rb, 0, none⟩ = some (.slice none 0 0) := by rw [cell_of_row wr rb 0 _ _ _ h.res]; rfl
theorem Boxed.r1 (h : Boxed w0 wr fb rb C vO vW now m O W) : wr.cell? ⟨rb, 1, none⟩ = some (.slice none 0 0) := by rw [cell_of_row wr rb 1 _ _ _ h.res]; rfl
theorem Boxed.r2 (h : Boxed w0 wr fb rb C vO vW now m O W) : wr.cell? ⟨rb, 2, none⟩ = some (.int .i64 0) := by rw [cell_of_row wr rb 2 _ _ _ h.res]; rfl
theorem Boxed.ff (h : Boxed w0 wr fb rb C vO vW now m O W) (j : Nat) : wr.frozen? ⟨fb, j, none⟩ = false := frozen_of_row wr fb j _ _ h.box
theorem Boxed.fr (h : Boxed w0 wr fb rb C vO vW now m O W) (j : Nat) : wr.frozen? ⟨rb, j, none⟩ = false := frozen_of_row wr rb j _ _ h.res
/-- Once both are laid. -/
theorem Boxed.made (w : World) (now : Nat) (h : DocAt C w vO vW m O W) :
    Boxed w ((w.alloc (.cells #[vO, vW, .int .i64 (now : Int)] 42)).alloc (.cells #[.slice none 0 0, .slice none 0 0, .int .i64 0] 42)) w.heap.size (w.heap.size + 1) C vO vW now m O W := by
  have b1 : Below w.heap.size w ((w.alloc (.cells #[vO, vW, .int .i64 (now : Int)] 42)).alloc (.cells #[.slice none 0 0, .slice none 0 0, .int .i64 0] 42)) := ((Below.refl _ w).alloc (Nat.le_refl _) _).alloc (by simp) _
  refine ⟨?_, ?_, h.below b1, b1, by omega⟩
  · rw [Below.heap_alloc _ _ _ (by simp)]; exact heap_alloc_new w _
  · have := heap_alloc_new (w.alloc (.cells #[vO, vW, .int .i64 (now : Int)] 42)) (.cells #[.slice none 0 0, .slice none 0 0, .int .i64 0] 42)
    simpa using this
end

set_option maxHeartbeats 1000000 in
theorem refOf_any {C m : Nat} {vO vW : Value} {O W : List Int} (now : Nat) (o : Int) (w : World) (h : DocAt C w vO vW m O W) (hm : m ≤ 96) :
    Calls Try.prog 18 #[.agg #[vO, vW, .int .i64 (now : Int)], .int .i64 o] w fun e w' => ∃ v, e = .returned v ∧ w'.ownsRow w.heap.size 3 1 v (ofL O o).length (iv (ofL O o)) ∧ Below w.heap.size w w' := by
  obtain ⟨i0, hi, hz0, hz1, hz2⟩ := info_parts Try.info3
  have HL : Hid (O.length = m) := h.lenO
  obtain ⟨aO, cO, rfl⟩ := row_slice h.rO
  obtain ⟨aW, cW, rfl⟩ := row_slice h.rW
  have HW1 : Hid (DocAt C (w.alloc (.cells #[.slice aO m cO, .slice aW m cW, .int .i64 (now : Int)] 42)) (.slice aO m cO) (.slice aW m cW) m O W) := h.below ((Below.refl _ w).alloc (Nat.le_refl _) _)
  have HBX : Hid ((w.alloc (.cells #[.slice aO m cO, .slice aW m cW, .int .i64 (now : Int)] 42)).heap[w.heap.size]? = some (.cells #[.slice aO m cO, .slice aW m cW, .int .i64 (now : Int)] 42 (0, 0))) := heap_alloc_new w _
  have HBE : Hid (Below w.heap.size w (w.alloc (.cells #[.slice aO m cO, .slice aW m cW, .int .i64 (now : Int)] 42))) := (Below.refl _ w).alloc (Nat.le_refl _) _
  clear h
  go_enter Try.func18, Try.ntmps18
  go_wp2_with fail
  generalize w.alloc (.cells #[.slice aO m cO, .slice aW m cW, .int .i64 (now : Int)] 42) = w1 at *
  obtain ⟨fb, hfb⟩ : ∃ fb, w.heap.size = fb := ⟨_, rfl⟩
  rw [hfb] at HBX
  rw [hfb]
  have HFB : Hid _ := hfb
  clear hfb
  go_loopw [5, 6] (fun v i wr => ∃ k : Nat, k ≤ m ∧ i = .int .i64 k ∧ wr.ownsRow w1.heap.size 3 1 v (ofTo O o k).length (iv (ofTo O o k)) ∧ Below w1.heap.size w1 wr) (fun _ i _ => m - (intOf i).toNat)
  case atStart => exact ⟨0, Nat.zero_le _, rfl, World.ownsRow_nil _ _ _ _, Below.refl _ _⟩
  case round =>
    obtain ⟨k, hk, rfl, hown, hb⟩ := hrel
    obtain ⟨a, c, rfl⟩ := row_slice hown
    have c0 : wr.cell? ⟨fb, 0, none⟩ = some (.slice aO m cO) := by
      rw [cell_of_row wr fb 0 _ _ _ ((hb.block fb (Array.getElem?_eq_some_iff.1 HBX.out).1).trans HBX.out)]; rfl
    by_cases hlt : k < m
    · obtain ⟨g1, rfl, cK, _⟩ := row_at (HW1.out.below hb).rO hlt
      rw [zv_at O k (by rw [HL.out]; exact hlt)] at cK
      have hle := ofTo_le O o k
      have i1 : (k : Int) < (m : Int) := by omega
      by_cases hq : O.getD k 0 = o
      · have HT : Hid _ := ofTo_yes hq
        rw [hq] at cK
        generalize hU : ofTo O o k = U at *
        clear hU hq
        have hoo : (o == o) = true := beq_self_eq_true o
        go_wp2_with (at_builtin; refine wpList_append_own _ rfl _ _ 40 rfl w1.heap.size 3 i0 (.int .i64 0) 1 8 Try.underlying40 hi hz0 hz1 hz2 rfl (by decide) _ _ _ rfl (hown.alloc _) ⟨wr.heap.size, 0, none⟩ 1 1 [.int .i64 (k : Int)] rfl rfl (one_new wr _) (one_one _) ?c3 ?c4 ?c5 ?_)
        case c3 => unfold maxLen; omega
        case c4 => omega
        case c5 => have := hb.size; simp; omega
        intro v' w2 hown' hgr' _
        have hbw : Below w1.heap.size w1 w2 := (hb.alloc hb.size _).grown hgr' (by have := hb.size; simp; omega) (fun j hj => (hown.lt j hj).1)
        have HOW : Hid (w2.ownsRow w1.heap.size 3 1 v' (U.length + 1) (iv U ++ [.int .i64 (k : Int)])) := hown'
        have HBW : Hid _ := hbw
        clear hgr' hown' hbw
        go_wp2
        go_roundw
        case rel =>
          refine ⟨k + 1, by omega, by go_num, ?_, HBW.out⟩
          rw [HT.out]
          have e : iv (U ++ [k]) = iv U ++ [.int .i64 (k : Int)] := by simp [iv]
          rw [e, List.length_append]
          exact HOW.out
        case measure => simp [intOf]; omega
      · have HT : Hid _ := ofTo_no hq
        generalize O.getD k 0 = q at *
        generalize hU : ofTo O o k = U at *
        have hqo : (q == o) = false := by rw [beq_eq_false_iff_ne]; exact hq
        clear hU
        go_wp2
        go_roundw
        case rel => exact ⟨k + 1, by omega, by go_num, by rw [HT.out]; exact hown, hb⟩
        case measure => simp [intOf]; omega
    · have e : k = m := by omega
      subst e
      go_wp2
      go_ret
      exact ⟨_, rfl, by rw [ofL, HL.out]; exact rowMono hown (by have := HBE.out.size; have := HFB.out; omega), HBE.out.trans (hb.mono HBE.out.size)⟩
end Go.Proofs.Yteebjeifbccbnaa
