/- The walk of the document's own Write (layer 6). -/
import Derived.Test.YteebjeifbccbnaaMDoc
import Derived.Test.YteebjeifbccbnaaMOps
import Derived.Laws.AppendOwnNone
namespace Go.Proofs.Yteebjeifbccbnaa
open Go.RowKit

/-- Cells that a slice value reads. -/
def SrcAt (w : World) (v : Value) (m size : Nat) (news : List Value) : Prop :=
  (v = .slice none 0 0 ∧ m = 0 ∧ news = []) ∨ ∃ ad c, v = .slice (some ad) m c ∧ news.length = m * size ∧ ∀ j u, news[j]? = some u → ad.block < w.heap.size ∧ w.cell? (ad.add j) = some u
theorem SrcAt.later {w w' : World} {v : Value} {m size : Nat} {news : List Value} (h : SrcAt w v m size news) (hb : Below w.heap.size w w') : SrcAt w' v m size news := by
  rcases h with h | ⟨ad, c, h1, h2, h3⟩
  · exact .inl h
  · refine .inr ⟨ad, c, h1, h2, fun j u hj => ?_⟩
    obtain ⟨h4, h5⟩ := h3 j u hj
    refine ⟨Nat.lt_of_lt_of_le h4 hb.size, ?_⟩
    rw [hb.cell (p := ad.add j) (by unfold Addr.add; split <;> exact h4)]
    exact h5
theorem src_row {w : World} {base : Nat} {e : TypeId} {size n : Nat} {v : Value} {xs : List Value} (h : w.ownsRow base e size v n xs) : SrcAt w v n size xs := by
  rcases h.2 with ⟨h1, h2⟩ | ⟨g, cap, cur, h1, h2, h3, _⟩
  · refine .inl ⟨h1, h2, ?_⟩
    have := h.1
    rw [h2] at this
    exact List.eq_nil_of_length_eq_zero (by simpa using this)
  · refine .inr ⟨⟨g, 0, none⟩, cap, h1, h.1, fun j u hj => ⟨(Array.getElem?_eq_some_iff.1 h3).1, ?_⟩⟩
    have hj2 : j < n * size := by
      rcases Nat.lt_or_ge j xs.length with h4 | h4
      · rw [← h.1]; exact h4
      · rw [List.getElem?_eq_none h4] at hj; simp at hj
    rw [add_lit', Nat.zero_add]
    subst h1
    rw [h.cellAt j hj2]
    exact hj
theorem src_nums {w : World} {p : Option Addr} {l c : Nat} {b : List Nat} (h : NumsAt .u8 w p b) (hl : b.length = l) (hn : p = none → l = 0 ∧ c = 0) : SrcAt w (.slice p l c) l 1 (bv b) := by
  cases p with
  | none =>
    obtain ⟨rfl, rfl⟩ := hn rfl
    exact .inl ⟨rfl, rfl, by rw [List.eq_nil_of_length_eq_zero hl]; rfl⟩
  | some ad =>
    refine .inr ⟨ad, c, rfl, by simp [hl], fun j u hj => ?_⟩
    obtain ⟨h1, rfl⟩ := bv_some hj
    rcases h with rfl | ⟨bb, off, e, hlt, hc⟩
    · simp at h1
    · simp only [Option.some.injEq] at e
      subst e
      exact ⟨hlt, by rw [add_lit']; exact hc j h1⟩
theorem wpList_append_src {P : Program} {w : World} {ops : Array Oper} {rest : List Oper} {o : Oper} {a : Act} {Q : Exit → Act → World → Prop} (hgd : o.guard = none) (s x : Operand) (t : TypeId)
    (ho : o.op = .call { callee := .builtin .append, args := #[s, x], argTypes := #[t, t] })
    (base : Nat) (e : TypeId) (i : TypeInfo) (z : Value) (size bytes : Nat) (ht : P.underlying t = some (.slice e)) (hi : P.info? e = some i) (hz : i.zero = some z)
    (hsize : i.size = size) (hby : i.bytes = bytes) (hzs : z.cells.size = size) (hsz : 0 < size)
    (v : Value) (n : Nat) (xs : List Value) (hs : a.eval s = v) (hown : w.ownsRow base e size v n xs)
    (vx : Value) (m : Nat) (news : List Value) (hx : a.eval x = vx) (hsrc : SrcAt w vx m size news) (h1 : ∀ u ∈ news, u.oneCell' = true)
    (h63 : n + m ≤ maxLen) (hbytes : (n + m) * bytes ≤ 140737488355328) (hbase : base ≤ w.heap.size)
    (h : ∀ v' w', w'.ownsRow base e size v' (n + m) (xs ++ news) → w.grownBy w' v.ownBlock → wpList P ops Q rest (a.put o.dst v') w') : wpList P ops Q (o :: rest) a w := by
  rcases hsrc with ⟨rfl, rfl, rfl⟩ | ⟨ad, c, rfl, h2, h3⟩
  · exact wpList_append_own_none hgd s x t ho base e i size ht hi v n xs hs hown hx (h v w (by simpa using hown) (World.grownBy.refl _ _))
  · exact wpList_append_own w hgd s x t ho base e i z size bytes ht hi hz hsize hby hzs hsz v n xs hs hown ad m c news hx h2 (fun j u hj => (h3 j u hj).2) h1 h63 hbytes hbase (fun v' w' k1 k2 _ => h v' w' k1 k2)
theorem Try.info86 : (Try.prog.info? 86).map (fun i => (i.zero, i.size, i.bytes)) = some (some (.agg #[.int .i64 0, .int .i64 0, .slice none 0 0]), 3, 40) := by kernel_rfl
theorem row_one {w : World} {base : Nat} {e : TypeId} {size n : Nat} {v : Value} {xs : List Value} (h : w.ownsRow base e size v n xs) : v.oneCell' = true := by
  rcases h.2 with ⟨rfl, _⟩ | ⟨g, cap, cur, rfl, _⟩ <;> rfl
theorem wc_one {C : Nat} {w : World} {vL : Value} {L : List Wt} (h : LogAt C w vL L) : ∀ u ∈ wc L, u.oneCell' = true := by
  intro u hu
  obtain ⟨t, ht, hu⟩ := List.mem_flatMap.1 hu
  simp at hu
  rcases hu with rfl | rfl | rfl
  · rfl
  · rfl
  · exact row_one (h.each t ht).1
theorem three_new (w : World) (a b c : Value) (t : TypeId) : SrcAt (w.alloc (.cells #[a, b, c] t)) (.slice (some ⟨w.heap.size, 0, none⟩) 1 1) 1 3 [a, b, c] := by
  refine .inr ⟨_, _, rfl, rfl, fun j u hj => ⟨by simp, ?_⟩⟩
  rw [add_lit', Nat.zero_add, cell_of_row _ w.heap.size j _ _ _ (heap_alloc_new w _)]
  simpa using hj

/-- A row apart from two blocks that turn. -/
theorem row_apart2 {w w' : World} {base : Nat} {e : TypeId} {size n fb rb : Nat} {v : Value} {xs : List Value} (h : w.ownsRow base e size v n xs) (hk : ∀ g, g ≠ fb → g ≠ rb → w'.heap[g]? = w.heap[g]?) (hr : fb < base ∧ rb < base) : w'.ownsRow base e size v n xs := by
  refine ⟨h.1, ?_⟩
  rcases h.2 with h1 | ⟨g, cap, cur, h1, h2, h3, r⟩
  · exact .inl h1
  · exact .inr ⟨g, cap, cur, h1, h2, (hk g (by omega) (by omega)).trans h3, r⟩

set_option maxRecDepth 100000 in
set_option maxHeartbeats 2000000 in
theorem refWrite6_any {C now : Nat} {vO vW vL vb : Value} {L : List Wt} {b : List Nat} (n a : Nat) (w : World) (h : LogAt C w vL L) (hL : L.length ≤ 1000) (hC : C ≤ w.heap.size) (hn : n < 96) (ha : a + b.length ≤ 4096) (hb : SrcAt w vb b.length 1 (bv b)) {m : Nat} (hvO : ∃ aO cO, vO = .slice aO m cO) (hvW : ∃ aW cW, vW = .slice aW m cW) :
    Calls Try.prog 36 #[.agg #[vO, vW, .int .i64 (now : Int), vL], .int .i64 (n : Nat), .int .i64 (a : Nat), vb] w fun e w' => ∃ vL' vb', e = .returned (.agg #[vO, vW, .int .i64 (now : Int), vL']) ∧ LogAt C w' vL' (L ++ [⟨n, a, vb', b⟩]) ∧ Below w.heap.size w w' := by
  obtain ⟨i0, hi, hz0, hz1, hz2⟩ := info_parts Try.info5
  obtain ⟨j0, hj, hy0, hy1, hy2⟩ := info_parts Try.info86
  have HLG : Hid (LogAt C w vL L) := h
  have HSB : Hid (SrcAt w vb b.length 1 (bv b)) := hb
  obtain ⟨aL, cL, rfl⟩ := row_slice h.row
  clear h hb
  go_enter Try.func36, Try.ntmps36
  have hbx : Below w.heap.size w ((w.alloc (.cells #[vO, vW, .int .i64 (now : Int), .slice aL L.length cL] 45)).alloc (.cells #[.slice none 0 0, .slice none 0 0, .int .i64 0, .slice none 0 0] 45)) := ((Below.refl _ w).alloc (Nat.le_refl _) _).alloc (by simp) _
  have hx1 : ((w.alloc (.cells #[vO, vW, .int .i64 (now : Int), .slice aL L.length cL] 45)).alloc (.cells #[.slice none 0 0, .slice none 0 0, .int .i64 0, .slice none 0 0] 45)).heap[w.heap.size]? = some (.cells #[vO, vW, .int .i64 (now : Int), .slice aL L.length cL] 45 (0, 0)) := by
    rw [Below.heap_alloc _ _ _ (by simp)]; exact heap_alloc_new w _
  have hx2 : ((w.alloc (.cells #[vO, vW, .int .i64 (now : Int), .slice aL L.length cL] 45)).alloc (.cells #[.slice none 0 0, .slice none 0 0, .int .i64 0, .slice none 0 0] 45)).heap[w.heap.size + 1]? = some (.cells #[.slice none 0 0, .slice none 0 0, .int .i64 0, .slice none 0 0] 45 (0, 0)) := by
    have := heap_alloc_new (w.alloc (.cells #[vO, vW, .int .i64 (now : Int), .slice aL L.length cL] 45)) (.cells #[.slice none 0 0, .slice none 0 0, .int .i64 0, .slice none 0 0] 45)
    simpa using this
  have hz1' : ((w.alloc (.cells #[vO, vW, .int .i64 (now : Int), .slice aL L.length cL] 45)).alloc (.cells #[.slice none 0 0, .slice none 0 0, .int .i64 0, .slice none 0 0] 45)).heap.size = w.heap.size + 2 := by simp
  go_upto_region 1 with (fail)
  generalize (w.alloc (.cells #[vO, vW, .int .i64 (now : Int), .slice aL L.length cL] 45)).alloc (.cells #[.slice none 0 0, .slice none 0 0, .int .i64 0, .slice none 0 0] 45) = w1 at *
  obtain ⟨rb, hrb⟩ : ∃ rb, w.heap.size + 1 = rb := ⟨_, rfl⟩
  rw [hrb] at hx2
  rw [hrb]
  obtain ⟨fb, hfb⟩ : ∃ fb, w.heap.size = fb := ⟨_, rfl⟩
  rw [hfb] at hx1
  rw [hfb]
  have HS : Hid (w.heap.size = fb ∧ fb + 1 = rb ∧ w1.heap.size = fb + 2) := by show _ ∧ _ ∧ _; omega
  have HX1 : Hid (w1.heap[fb]? = some (.cells #[vO, vW, .int .i64 (now : Int), .slice aL L.length cL] 45 (0, 0))) := hx1
  have HX2 : Hid (w1.heap[rb]? = some (.cells #[.slice none 0 0, .slice none 0 0, .int .i64 0, .slice none 0 0] 45 (0, 0))) := hx2
  have HBX : Hid (Below w.heap.size w w1) := hbx
  have HLO : Hid (∀ {w2 : World}, Below w1.heap.size w1 w2 → LogAt C w2 (.slice aL L.length cL) L) := fun hb => (HLG.out.below hbx).below hb
  have HSO : Hid (∀ {w2 : World}, Below w1.heap.size w1 w2 → SrcAt w2 vb b.length 1 (bv b)) := fun hb => (HSB.out.later hbx).later hb
  have c3 : w1.cell? ⟨fb, 3, none⟩ = some (.slice aL L.length cL) := by rw [cell_of_row w1 fb 3 _ _ _ hx1]; rfl
  have n1 : fb < w1.heap.size := by omega
  have n2 : fb ≠ w1.heap.size := by omega
  have ba : Below w1.heap.size w1 (w1.alloc (.cells #[] 86)) := (Below.refl _ w1).alloc (Nat.le_refl _) _
  have hsrcL := src_row (HLO.out ba).row
  have hone := wc_one (HLO.out ba)
  have HSL : Hid (SrcAt (w1.alloc (.cells #[] 86)) (.slice aL L.length cL) L.length 3 (wc L)) := hsrcL
  have HON : Hid (∀ u ∈ wc L, u.oneCell' = true) := hone
  clear hx1 hx2 hbx hz1' hrb hfb ba hsrcL hone
  go_wp2_with (at_builtin; refine wpList_append_src rfl _ _ 43 rfl w1.heap.size 86 j0 (.agg #[.int .i64 0, .int .i64 0, .slice none 0 0]) 3 40 Try.underlying43 hj hy0 hy1 hy2 rfl (by decide) _ _ _ rfl (World.ownsRow_made w1 #[] 0 (Nat.le_refl _) (by unfold maxLen; omega) rfl) _ L.length (wc L) rfl HSL.out HON.out ?c3 ?c4 ?c5 ?_)
  case c3 => unfold maxLen; omega
  case c4 => omega
  case c5 => simp
  intro v2 w2 own2 gr2
  have b2 : Below w1.heap.size w1 w2 := ((Below.refl _ w1).alloc (Nat.le_refl _) _).grown gr2 (by simp) (fun i hi => by simp [Value.ownBlock] at hi; omega)
  have own2' : w2.ownsRow w1.heap.size 86 3 v2 L.length (wc L) := by simpa using own2
  have HO2 : Hid (w2.ownsRow w1.heap.size 86 3 v2 L.length (wc L)) := own2'
  have HB2 : Hid (Below w1.heap.size w1 w2) := b2
  obtain ⟨a2, c2, rfl⟩ := row_slice own2'
  have b2a : Below w1.heap.size w1 (w2.alloc (.cells #[] 5)) := b2.alloc b2.size _
  have HSB2 : Hid (SrcAt (w2.alloc (.cells #[] 5)) vb b.length 1 (bv b)) := HSO.out b2a
  clear own2 gr2 b2 own2' b2a c3 n1 n2
  go_wp2_with (at_builtin; refine wpList_append_src rfl _ _ 24 rfl w2.heap.size 5 i0 (.int .u8 0) 1 1 Try.underlying24 hi hz0 hz1 hz2 rfl (by decide) _ _ _ rfl (World.ownsRow_made w2 #[] 0 (Nat.le_refl _) (by unfold maxLen; omega) rfl) vb b.length (bv b) rfl HSB2.out (bv_one _) ?d3 ?d4 ?d5 ?_)
  case d3 => unfold maxLen; omega
  case d4 => omega
  case d5 => simp
  intro v3 w3 own3 gr3
  have b3 : Below w2.heap.size w2 w3 := ((Below.refl _ w2).alloc (Nat.le_refl _) _).grown gr3 (by simp) (fun i hi => by simp [Value.ownBlock] at hi; omega)
  have own3' : w3.ownsRow w2.heap.size 5 1 v3 b.length (bv b) := by simpa using own3
  have HO3 : Hid (w3.ownsRow w2.heap.size 5 1 v3 b.length (bv b)) := own3'
  have HB3 : Hid (Below w2.heap.size w2 w3) := b3
  have HO23 : Hid (w3.ownsRow w1.heap.size 86 3 (.slice a2 L.length c2) L.length (wc L)) := row_below HO2.out b3
  have HL2 : Hid (∀ j, (Value.slice a2 L.length c2).ownBlock = some j → w1.heap.size ≤ j ∧ j < w2.heap.size) := fun j hj => HO2.out.lt j hj
  obtain ⟨a3, c3, rfl⟩ := row_slice own3'
  have HS3 : Hid (w1.heap.size ≤ w3.heap.size) := Nat.le_trans HB2.out.size b3.size
  clear own3 gr3 b3 own3'
  go_wp2_with (at_builtin; refine wpList_append_src rfl _ _ 43 rfl w1.heap.size 86 j0 (.agg #[.int .i64 0, .int .i64 0, .slice none 0 0]) 3 40 Try.underlying43 hj hy0 hy1 hy2 rfl (by decide) _ _ _ rfl (HO23.out.alloc _) _ 1 [.int .i64 (n : Int), .int .i64 (a : Int), .slice a3 b.length c3] rfl (three_new w3 _ _ _ _) ?e2 ?e3 ?e4 ?e5 ?_)
  case e2 =>
    intro u hu
    simp at hu
    rcases hu with rfl | rfl | rfl <;> rfl
  case e3 => unfold maxLen; omega
  case e4 => omega
  case e5 => have := HS3.out; simp; omega
  intro v4 w4 own4 gr4
  have b4 : Below w1.heap.size w1 w4 := ((HB2.out.trans (HB3.out.mono HB2.out.size)).alloc HS3.out _).grown gr4 (by have := HS3.out; simp; omega) (fun i hi => (HL2.out i hi).1)
  have HO4 : Hid (w4.ownsRow w1.heap.size 86 3 v4 (L.length + 1) (wc L ++ [.int .i64 (n : Int), .int .i64 (a : Int), .slice a3 b.length c3])) := own4
  have HR4 : Hid (w4.ownsRow w2.heap.size 5 1 (.slice a3 b.length c3) b.length (bv b)) := by
    have h1 := HO3.out.alloc (.cells #[.int .i64 (n : Int), .int .i64 (a : Int), .slice a3 b.length c3] 86)
    refine ⟨h1.1, ?_⟩
    rcases h1.2 with h2 | ⟨g, cap, cur, h2, h3, h4, r⟩
    · exact .inl h2
    · refine .inr ⟨g, cap, cur, h2, h3, ?_, r⟩
      rw [gr4.block g (Array.getElem?_eq_some_iff.1 h4).1 (fun e => by have := (HL2.out g e.symm).2; omega)]
      exact h4
  have HB4 : Hid (Below w1.heap.size w1 w4) := b4
  obtain ⟨a4, c4, rfl⟩ := row_slice own4
  have hx1 : w4.heap[fb]? = some (.cells #[vO, vW, .int .i64 (now : Int), .slice aL L.length cL] 45 (0, 0)) := (b4.block fb (by have := HS.out; omega)).trans HX1.out
  have hx2 : w4.heap[rb]? = some (.cells #[.slice none 0 0, .slice none 0 0, .int .i64 0, .slice none 0 0] 45 (0, 0)) := (b4.block rb (by have := HS.out; omega)).trans HX2.out
  have k0 : w4.cell? ⟨fb, 0, none⟩ = some vO := by rw [cell_of_row w4 fb 0 _ _ _ hx1]; rfl
  have k1 : w4.cell? ⟨fb, 1, none⟩ = some vW := by rw [cell_of_row w4 fb 1 _ _ _ hx1]; rfl
  have k2 : w4.cell? ⟨fb, 2, none⟩ = some (.int .i64 (now : Int)) := by rw [cell_of_row w4 fb 2 _ _ _ hx1]; rfl
  have k3 : w4.cell? ⟨fb, 3, none⟩ = some (.slice aL L.length cL) := by rw [cell_of_row w4 fb 3 _ _ _ hx1]; rfl
  have kf : w4.frozen? ⟨fb, 3, none⟩ = false := frozen_of_row w4 fb 3 _ _ hx1
  have r0 : w4.cell? ⟨rb, 0, none⟩ = some (.slice none 0 0) := by rw [cell_of_row w4 rb 0 _ _ _ hx2]; rfl
  have r1 : w4.cell? ⟨rb, 1, none⟩ = some (.slice none 0 0) := by rw [cell_of_row w4 rb 1 _ _ _ hx2]; rfl
  have r2 : w4.cell? ⟨rb, 2, none⟩ = some (.int .i64 0) := by rw [cell_of_row w4 rb 2 _ _ _ hx2]; rfl
  have r3 : w4.cell? ⟨rb, 3, none⟩ = some (.slice none 0 0) := by rw [cell_of_row w4 rb 3 _ _ _ hx2]; rfl
  have f0 : w4.frozen? ⟨rb, 0, none⟩ = false := frozen_of_row w4 rb 0 _ _ hx2
  have f1 : w4.frozen? ⟨rb, 1, none⟩ = false := frozen_of_row w4 rb 1 _ _ hx2
  have f2 : w4.frozen? ⟨rb, 2, none⟩ = false := frozen_of_row w4 rb 2 _ _ hx2
  have f3 : w4.frozen? ⟨rb, 3, none⟩ = false := frozen_of_row w4 rb 3 _ _ hx2
  have nfr : fb ≠ rb := by have := HS.out; omega
  have HX3 : Hid (w4.heap[rb]? = some (.cells #[.slice none 0 0, .slice none 0 0, .int .i64 0, .slice none 0 0] 45 (0, 0))) := hx2
  obtain ⟨aO, cO, rfl⟩ := hvO
  obtain ⟨aW, cW, rfl⟩ := hvW
  clear own4 gr4 b4 hx1 hx2
  go_wp2
  have hres : (w4.setCell ⟨fb, 3, none⟩ (.slice a4 (L.length + 1) c4)).heap[rb]? = some (.cells #[.slice none 0 0, .slice none 0 0, .int .i64 0, .slice none 0 0] 45 (0, 0)) := by
    rw [Below.heap_setCell _ _ _ _ (Ne.symm nfr)]; exact HX3.out
  have hbf : Below w.heap.size w w4 := HBX.out.trans (HB4.out.mono HBX.out.size)
  have hs := HS.out
  have hfin := res4_below (rb := rb) (u0 := .slice aO m cO) (u1 := .slice aW m cW) (u2 := .int .i64 (now : Int)) (u3 := .slice a4 (L.length + 1) c4) (hbf.setCell (p := ⟨fb, 3, none⟩) (by show _ ≤ fb; omega) (.slice a4 (L.length + 1) c4)) (by omega)
  have hap : ∀ g, g ≠ fb → g ≠ rb → (((((w4.setCell ⟨fb, 3, none⟩ (.slice a4 (L.length + 1) c4)).setCell ⟨rb, 0, none⟩ (.slice aO m cO)).setCell ⟨rb, 1, none⟩ (.slice aW m cW)).setCell ⟨rb, 2, none⟩ (.int .i64 (now : Int))).setCell ⟨rb, 3, none⟩ (.slice a4 (L.length + 1) c4)).heap[g]? = w4.heap[g]? := fun g h1 h2 => by
    rw [res4_block h2, Below.heap_setCell _ _ _ _ h1]
  refine bodyPost_ret (results_cell_row Try.results36 _ _ rb _ _ _ _ rfl (res4_kept hres) Try.underlying45 rfl Try.sizeR) rfl ⟨_, .slice a3 b.length c3, rfl, ⟨?_, ?_⟩, hfin⟩
  · rw [wc_snoc, List.length_append]
    exact rowMono (row_apart2 HO4.out hap (by omega)) (by omega)
  · intro t ht
    rw [List.mem_append, List.mem_singleton] at ht
    rcases ht with ht | rfl
    · exact ⟨row_below (HLG.out.each t ht).1 hfin, (HLG.out.each t ht).2⟩
    · exact ⟨rowMono (row_apart2 HR4.out hap (by have := HB2.out.size; omega)) (by have := HB2.out.size; omega), ha, hn⟩
end Go.Proofs.Yteebjeifbccbnaa
