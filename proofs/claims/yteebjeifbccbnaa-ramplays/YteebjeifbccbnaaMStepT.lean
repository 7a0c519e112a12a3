/- A step of RamPlays: takes and gives. -/
import Derived.Test.YteebjeifbccbnaaMBoth
import Derived.Deep.DeepCutAuto
import Derived.BigRegion
namespace Go.Proofs.Yteebjeifbccbnaa
open Go.RowKit

set_option maxRecDepth 100000 in
set_option maxHeartbeats 4000000 in
theorem step_take {B E C r now m t x : Nat} {vO vW vL : Value} {O W : List Int} {S P : List Nat} {L : List Wt} (d : Dd) (w : World) (h : Both B E C w r vO vW vL now m t x O S P W L) (hK : d.K = 0) (ht : t < 1000) (hL : L.length ≤ 1000) :
    Calls Try.prog 16 #[.pointer (some ⟨r, 0, none⟩), .agg #[vO, vW, .int .i64 (now : Int), vL], .agg #[.int .i64 d.K, .int .i64 d.N, .int .i64 d.A, .int .i64 d.Z, .int .u64 (d.V : Int), .slice d.p d.l d.c]] w (Stepped B E C w r m t x now L.length) := by
  have HK : Hid (d.K = 0) := hK
  clear hK
  obtain ⟨aO, cO, rfl⟩ := row_slice h.doc.rO
  obtain ⟨aW, cW, rfl⟩ := row_slice h.doc.rW
  obtain ⟨aL, cL, rfl⟩ := row_slice h.log.row
  have hE : E ≤ w.heap.size := h.ram.hi.1
  have hb := Bxd.made (B := B) (E := E) w hE (.slice aO m cO) (.slice aW m cW) (.int .i64 (now : Int)) (.slice aL L.length cL) d
  have hbe : Below w.heap.size w (((w.alloc (.cells #[.slice aO m cO, .slice aW m cW, .int .i64 (now : Int), .slice aL L.length cL] 45)).alloc (.cells #[.int .i64 d.K, .int .i64 d.N, .int .i64 d.A, .int .i64 d.Z, .int .u64 (d.V : Int), .slice d.p d.l d.c] 50)).alloc (.cells #[.slice none 0 0, .slice none 0 0, .int .i64 0, .slice none 0 0] 45)) := (((Below.refl _ w).alloc (Nat.le_refl _) _).alloc (by simp) _).alloc (by simp; omega) _
  have HB0 : Hid (Both B E C w r (.slice aO m cO) (.slice aW m cW) (.slice aL L.length cL) now m t x O S P W L) := h
  have HB1 : Hid (Both B E C _ r (.slice aO m cO) (.slice aW m cW) (.slice aL L.length cL) now m t x O S P W L) := h.below hbe
  have HX1 : Hid (Bxd B E w _ w.heap.size (w.heap.size + 1) (w.heap.size + 1 + 1) #[.slice aO m cO, .slice aW m cW, .int .i64 (now : Int), .slice aL L.length cL] d) := hb
  have HBE : Hid (Below w.heap.size w _) := hbe
  clear h hE hb hbe
  go_enter Try.func16, Try.ntmps16
  go_upto_region 1 with (fail)
  generalize (((w.alloc (.cells #[.slice aO m cO, .slice aW m cW, .int .i64 (now : Int), .slice aL L.length cL] 45)).alloc (.cells #[.int .i64 d.K, .int .i64 d.N, .int .i64 d.A, .int .i64 d.Z, .int .u64 (d.V : Int), .slice d.p d.l d.c] 50)).alloc (.cells #[.slice none 0 0, .slice none 0 0, .int .i64 0, .slice none 0 0] 45)) = w1 at *
  obtain ⟨rb, hrb⟩ : ∃ rb, w.heap.size + 1 + 1 = rb := ⟨_, rfl⟩
  rw [hrb] at HX1
  rw [hrb]
  obtain ⟨db, hdb⟩ : ∃ db, w.heap.size + 1 = db := ⟨_, rfl⟩
  rw [hdb] at HX1
  rw [hdb]
  obtain ⟨xb, hxb⟩ : ∃ xb, w.heap.size = xb := ⟨_, rfl⟩
  have HX2 : Hid (Bxd B E w w1 xb db rb #[.slice aO m cO, .slice aW m cW, .int .i64 (now : Int), .slice aL L.length cL] d) := by rw [← hxb]; exact HX1.out
  rw [hxb]
  clear hrb hdb hxb HX1
  have k0 := HX2.out.k0
  have k1 := HX2.out.k1
  have k2 := HX2.out.k2
  have k3 := HX2.out.k3
  have k4 := HX2.out.k4
  have k5 := HX2.out.k5
  have x0 : w1.cell? ⟨xb, 0, none⟩ = some (.slice aO m cO) := HX2.out.xc 0
  have x1 : w1.cell? ⟨xb, 1, none⟩ = some (.slice aW m cW) := HX2.out.xc 1
  have x2 : w1.cell? ⟨xb, 2, none⟩ = some (.int .i64 (now : Int)) := HX2.out.xc 2
  have x3 : w1.cell? ⟨xb, 3, none⟩ = some (.slice aL L.length cL) := HX2.out.xc 3
  rw [HK.out] at k0
  go_wp2_with fail
  refine (refTake6_any d.N w1 HB1.out.doc HB1.out.log HB1.out.ram.good HB1.out.dat HB1.out.ram.small hL HB1.out.cw).mono ?_
  rintro e w2 ⟨vO2, vL2, rfl, hd2, hl2, b2⟩
  obtain ⟨aO2, cO2, rfl⟩ := row_slice hd2.rO
  obtain ⟨aL2, cL2, rfl⟩ := row_slice hl2.row
  have b3 : Below w1.heap.size w1 (w2.alloc (.cells #[.slice aO2 m cO2, .slice aW m cW, .int .i64 (now : Int), .slice aL2 (tkL S L d.N).length cL2] 45)) := b2.alloc b2.size _
  have b32 : Below w2.heap.size w2 (w2.alloc (.cells #[.slice aO2 m cO2, .slice aW m cW, .int .i64 (now : Int), .slice aL2 (tkL S L d.N).length cL2] 45)) := (Below.refl _ w2).alloc (Nat.le_refl _) _
  have HY : Hid ((w2.alloc (.cells #[.slice aO2 m cO2, .slice aW m cW, .int .i64 (now : Int), .slice aL2 (tkL S L d.N).length cL2] 45)).heap[w2.heap.size]? = some (.cells #[.slice aO2 m cO2, .slice aW m cW, .int .i64 (now : Int), .slice aL2 (tkL S L d.N).length cL2] 45 (0, 0))) := heap_alloc_new w2 _
  have HD3 : Hid (DocAt C _ (.slice aO2 m cO2) (.slice aW m cW) m (tkO O S d.N) W) := hd2.below b32
  have HL3 : Hid (LogAt C _ (.slice aL2 (tkL S L d.N).length cL2) (tkL S L d.N)) := hl2.below b32
  have HX3 : Hid (Bxd B E w _ xb db rb #[.slice aO m cO, .slice aW m cW, .int .i64 (now : Int), .slice aL L.length cL] d) := HX2.out.below b3
  have HB3 : Hid (Both B E C _ r (.slice aO m cO) (.slice aW m cW) (.slice aL L.length cL) now m t x O S P W L) := HB1.out.below b3
  have HYE : Hid (E ≤ w2.heap.size) := by show _ ≤ _; have := b2.size; have := HB1.out.ram.hi; omega
  clear hd2 hl2 b2 b3 b32 x0 x1 x2 x3 k0 k1 k2 k3 k4 k5
  obtain ⟨bt, hbt⟩ : ∃ bt, tkB S d.N = bt := ⟨_, rfl⟩
  obtain ⟨n0, hn0⟩ : ∃ n0, tkN S d.N = n0 := ⟨_, rfl⟩
  have HBT : Hid (tkB S d.N = bt) := hbt
  have HN0 : Hid (tkN S d.N = n0) := hn0
  rw [hbt, hn0]
  clear hbt hn0
  go_upto_region 4 with (fail)
  generalize w2.alloc (.cells #[.slice aO2 m cO2, .slice aW m cW, .int .i64 (now : Int), .slice aL2 (tkL S L d.N).length cL2] 45) = w3 at *
  generalize w2.heap.size = yb at *
  have k1 := HX3.out.k1
  go_wp2_with fail
  refine (ramTake_any d.N w3 HB3.out.ram ht).mono ?_
  rintro e w4 ⟨rfl, h4, t4⟩
  rw [HBT.out, HN0.out]
  have HX9 : Hid (Bxd B E w w4 xb db rb #[.slice aO m cO, .slice aW m cW, .int .i64 (now : Int), .slice aL L.length cL] d) := HX3.out.turns t4
  have hy4 := (t4.block yb (Array.getElem?_eq_some_iff.1 HY.out).1 (.inr HYE.out)).trans HY.out
  have y0 : w4.cell? ⟨yb, 0, none⟩ = some (.slice aO2 m cO2) := by rw [cell_of_row w4 yb 0 _ _ _ hy4]; rfl
  have y1 : w4.cell? ⟨yb, 1, none⟩ = some (.slice aW m cW) := by rw [cell_of_row w4 yb 1 _ _ _ hy4]; rfl
  have y2 : w4.cell? ⟨yb, 2, none⟩ = some (.int .i64 (now : Int)) := by rw [cell_of_row w4 yb 2 _ _ _ hy4]; rfl
  have y3 : w4.cell? ⟨yb, 3, none⟩ = some (.slice aL2 (tkL S L d.N).length cL2) := by rw [cell_of_row w4 yb 3 _ _ _ hy4]; rfl
  have HBF : Hid (Both B E C w4 r (.slice aO2 m cO2) (.slice aW m cW) (.slice aL2 (tkL S L d.N).length cL2) now m (up t (tkB S d.N)) x (tkO O S d.N) (tkS S d.N) (tkP S P d.N) W (tkL S L d.N)) := by
    refine HB3.out.turn h4 t4 HD3.out HL3.out (HB3.out.dat.tk d.N) ?_
    unfold tkP tkL
    split
    · rename_i hy
      obtain ⟨hs, _, _⟩ := tk_of hy
      refine HB3.out.asl.take HB3.out.ram.len ?_
      have := (HB3.out.ram.good.top hs).1
      rw [tkN, if_pos hy]
      exact this
    · exact HB3.out.asl
  have hnn : ((n0 : Int) == (n0 : Int)) = true := beq_self_eq_true _
  have hbb : (bt == bt) = true := beq_self_eq_true _
  have r0 := HX9.out.r0
  have r1 := HX9.out.r1
  have r2 := HX9.out.r2
  have r3 := HX9.out.r3
  have f0 := HX9.out.fr 0
  have f1 := HX9.out.fr 1
  have f2 := HX9.out.fr 2
  have f3 := HX9.out.fr 3
  have HLL : Hid ((tkL S L d.N).length ≤ L.length + 1) := by
    show _ ≤ _
    unfold tkL
    split
    · unfold cutL; exact Nat.le_trans (List.length_filter_le _ _) (by omega)
    · omega
  clear h4 t4 hy4 k1
  go_wp2
  refine bodyPost_ret (results_cell_tmp2 Try.results16 _ _ rb _ _ _ _ rfl (res4_kept HX9.out.r) Try.underlying45 rfl Try.sizeR) rfl
    ⟨_, _, _, _, _, _, _, _, _, _, false, ?_, HBF.out.fin HX9.out _ _ _ _, HX9.out.fin _ _ _ _, up_le t _, by omega, HLL.out⟩
  simp
end Go.Proofs.Yteebjeifbccbnaa
