/- A step of RamPlays: a give. -/
import Derived.Test.YteebjeifbccbnaaMStepT
namespace Go.Proofs.Yteebjeifbccbnaa
open Go.RowKit

theorem ramGive_is {B E r m t x : Nat} {O : List Int} {S P : List Nat} (n : Int) (w : World) (h : RamAt B E w r m t x O S P) (ht : t < 1000) {b : Bool} (hb : gvB O n = b) :
    Calls Try.prog 22 #[.pointer (some ⟨r, 0, none⟩), .int .i64 n] w fun e w' => e = .returned (.bool b) ∧
      RamAt B E w' r m (up t b) x (gvO O n) (gvS O S n) P ∧ Turns B E w w' := by
  rw [← hb]; exact ramGive_any n w h ht
set_option maxRecDepth 100000 in
set_option maxHeartbeats 4000000 in
theorem step_give {B E C r now m t x : Nat} {vO vW vL : Value} {O W : List Int} {S P : List Nat} {L : List Wt} (d : Dd) (w : World) (h : Both B E C w r vO vW vL now m t x O S P W L) (hK : d.K = 1) (ht : t < 1000) (hnow : now < 1000) :
    Calls Try.prog 16 #[.pointer (some ⟨r, 0, none⟩), .agg #[vO, vW, .int .i64 (now : Int), vL], .agg #[.int .i64 d.K, .int .i64 d.N, .int .i64 d.A, .int .i64 d.Z, .int .u64 (d.V : Int), .slice d.p d.l d.c]] w (Stepped B E C w r m t x now L.length) := by
  have HK : Hid (d.K = 1) := hK
  clear hK
  obtain ⟨aO, cO, rfl⟩ := row_slice h.doc.rO
  obtain ⟨aW, cW, rfl⟩ := row_slice h.doc.rW
  obtain ⟨aL, cL, rfl⟩ := row_slice h.log.row
  have hE : E ≤ w.heap.size := h.ram.hi.1
  have hb := Bxd.made (B := B) (E := E) w hE (.slice aO m cO) (.slice aW m cW) (.int .i64 (now : Int)) (.slice aL L.length cL) d
  have hbe : Below w.heap.size w (((w.alloc (.cells #[.slice aO m cO, .slice aW m cW, .int .i64 (now : Int), .slice aL L.length cL] 45)).alloc (.cells #[.int .i64 d.K, .int .i64 d.N, .int .i64 d.A, .int .i64 d.Z, .int .u64 (d.V : Int), .slice d.p d.l d.c] 50)).alloc (.cells #[.slice none 0 0, .slice none 0 0, .int .i64 0, .slice none 0 0] 45)) := (((Below.refl _ w).alloc (Nat.le_refl _) _).alloc (by simp) _).alloc (by simp; omega) _
  have HB0 : Hid (Both B E C w r (.slice aO m cO) (.slice aW m cW) (.slice aL L.length cL) now m t x O S P W L) := h
  have HB1 : Hid (Both B E C _ r (.slice aO m cO) (.slice aW m cW) (.slice aL L.length cL) now m t x O S P W L) := h.below hbe
  have HX1 : Hid (Bxd B E w _ w.heap.size (w.heap.size + 1) (w.heap.size + 1 + 1) #[.slice aO m cO, .slice aW m cW, .int .i64 (now : Int), .slice aL L.length cL] d) := hb
  have HBE : Hid (Below w.heap.size w _) := hbe
  clear h hE hb hbe
  go_enter Try.func16, Try.ntmps16
  go_upto_region 1 with (fail)
  generalize (((w.alloc (.cells #[.slice aO m cO, .slice aW m cW, .int .i64 (now : Int), .slice aL L.length cL] 45)).alloc (.cells #[.int .i64 d.K, .int .i64 d.N, .int .i64 d.A, .int .i64 d.Z, .int .u64 (d.V : Int), .slice d.p d.l d.c] 50)).alloc (.cells #[.slice none 0 0, .slice none 0 0, .int .i64 0, .slice none 0 0] 45)) = w1 at *
  obtain ⟨rb, hrb⟩ : ∃ rb, w.heap.size + 1 + 1 = rb := ⟨_, rfl⟩
  rw [hrb] at HX1
  rw [hrb]
  obtain ⟨db, hdb⟩ : ∃ db, w.heap.size + 1 = db := ⟨_, rfl⟩
  rw [hdb] at HX1
  rw [hdb]
  obtain ⟨xb, hxb⟩ : ∃ xb, w.heap.size = xb := ⟨_, rfl⟩
  have HX2 : Hid (Bxd B E w w1 xb db rb #[.slice aO m cO, .slice aW m cW, .int .i64 (now : Int), .slice aL L.length cL] d) := by rw [← hxb]; exact HX1.out
  rw [hxb]
  clear hrb hdb hxb HX1
  have k0 := HX2.out.k0
  have k1 := HX2.out.k1
  have k2 := HX2.out.k2
  have k3 := HX2.out.k3
  have k4 := HX2.out.k4
  have k5 := HX2.out.k5
  have x0 : w1.cell? ⟨xb, 0, none⟩ = some (.slice aO m cO) := HX2.out.xc 0
  have x1 : w1.cell? ⟨xb, 1, none⟩ = some (.slice aW m cW) := HX2.out.xc 1
  have x2 : w1.cell? ⟨xb, 2, none⟩ = some (.int .i64 (now : Int)) := HX2.out.xc 2
  have x3 : w1.cell? ⟨xb, 3, none⟩ = some (.slice aL L.length cL) := HX2.out.xc 3
  rw [HK.out] at k0
  go_wp2_with fail
  refine (refGive_any d.N w1 HB1.out.doc HB1.out.ram.small hnow HB1.out.cw).mono ?_
  rintro e w2 ⟨vO2, vW2, rfl, hd2, b2⟩
  obtain ⟨aO2, cO2, rfl⟩ := row_slice hd2.rO
  obtain ⟨aW2, cW2, rfl⟩ := row_slice hd2.rW
  obtain ⟨bg, hbg⟩ : ∃ bg, gvB O d.N = bg := ⟨_, rfl⟩
  have HBG : Hid (gvB O d.N = bg) := hbg
  rw [hbg]
  have hnl := up_le now bg
  generalize hn2 : up now bg = now2 at *
  have HN2 : Hid (up now (gvB O d.N) = now2) := by show _ = _; rw [hbg]; exact hn2
  have b3 : Below w1.heap.size w1 (w2.alloc (.cells #[.slice aO2 m cO2, .slice aW2 m cW2, .int .i64 (now2 : Int)] 42)) := b2.alloc b2.size _
  have b32 : Below w2.heap.size w2 (w2.alloc (.cells #[.slice aO2 m cO2, .slice aW2 m cW2, .int .i64 (now2 : Int)] 42)) := (Below.refl _ w2).alloc (Nat.le_refl _) _
  have HY : Hid ((w2.alloc (.cells #[.slice aO2 m cO2, .slice aW2 m cW2, .int .i64 (now2 : Int)] 42)).heap[w2.heap.size]? = some (.cells #[.slice aO2 m cO2, .slice aW2 m cW2, .int .i64 (now2 : Int)] 42 (0, 0))) := heap_alloc_new w2 _
  have HD3 : Hid (DocAt C _ (.slice aO2 m cO2) (.slice aW2 m cW2) m (gvO O d.N) (gvW O W now d.N)) := hd2.below b32
  have HX3 : Hid (Bxd B E w _ xb db rb #[.slice aO m cO, .slice aW m cW, .int .i64 (now : Int), .slice aL L.length cL] d) := HX2.out.below b3
  have HB3 : Hid (Both B E C _ r (.slice aO m cO) (.slice aW m cW) (.slice aL L.length cL) now m t x O S P W L) := HB1.out.below b3
  have HXY : Hid (xb ≠ w2.heap.size) := by show _ ≠ _; have := b2.size; have := (Array.getElem?_eq_some_iff.1 HX2.out.x).1; omega
  clear hd2 b2 b3 b32 x0 x1 x2 x3 k0 k1 k2 k3 k4 k5 hbg hn2
  go_upto_region 8 with (fail)
  generalize w2.alloc (.cells #[.slice aO2 m cO2, .slice aW2 m cW2, .int .i64 (now2 : Int)] 42) = w3 at *
  generalize w2.heap.size = yb at *
  have y0 : w3.cell? ⟨yb, 0, none⟩ = some (.slice aO2 m cO2) := by rw [cell_of_row w3 yb 0 _ _ _ HY.out]; rfl
  have y1 : w3.cell? ⟨yb, 1, none⟩ = some (.slice aW2 m cW2) := by rw [cell_of_row w3 yb 1 _ _ _ HY.out]; rfl
  have y2 : w3.cell? ⟨yb, 2, none⟩ = some (.int .i64 (now2 : Int)) := by rw [cell_of_row w3 yb 2 _ _ _ HY.out]; rfl
  have x0 : w3.cell? ⟨xb, 0, none⟩ = some (.slice aO m cO) := HX3.out.xc 0
  have x1 : w3.cell? ⟨xb, 1, none⟩ = some (.slice aW m cW) := HX3.out.xc 1
  have x2 : w3.cell? ⟨xb, 2, none⟩ = some (.int .i64 (now : Int)) := HX3.out.xc 2
  have fx0 := HX3.out.fx 0
  have fx1 := HX3.out.fx 1
  have fx2 := HX3.out.fx 2
  go_upto_region 9 with (fail)
  have HX5 : Hid (Bxd B E w _ xb db rb #[.slice aO2 m cO2, .slice aW2 m cW2, .int .i64 (now2 : Int), .slice aL L.length cL] d) := HX3.out.setF (.slice aO2 m cO2) (.slice aW2 m cW2) (.int .i64 (now2 : Int))
  have hxe : E ≤ xb := by have := HX3.out.lo; omega
  have HB5 : Hid (Both B E C (((w3.setCell ⟨xb, 0, none⟩ (.slice aO2 m cO2)).setCell ⟨xb, 1, none⟩ (.slice aW2 m cW2)).setCell ⟨xb, 2, none⟩ (.int .i64 (now2 : Int))) r (.slice aO m cO) (.slice aW m cW) (.slice aL L.length cL) now m t x O S P W L) := HB3.out.tag HX3.out.x hxe (by simp) (fun g hg => res_block hg)
  have HD5 : Hid (DocAt C (((w3.setCell ⟨xb, 0, none⟩ (.slice aO2 m cO2)).setCell ⟨xb, 1, none⟩ (.slice aW2 m cW2)).setCell ⟨xb, 2, none⟩ (.int .i64 (now2 : Int))) (.slice aO2 m cO2) (.slice aW2 m cW2) m (gvO O d.N) (gvW O W now d.N)) := ⟨row_tag HD3.out.rO HX3.out.x (by decide) (fun g hg => res_block hg), row_tag HD3.out.rW HX3.out.x (by decide) (fun g hg => res_block hg)⟩
  generalize ((w3.setCell ⟨xb, 0, none⟩ (.slice aO2 m cO2)).setCell ⟨xb, 1, none⟩ (.slice aW2 m cW2)).setCell ⟨xb, 2, none⟩ (.int .i64 (now2 : Int)) = w5 at *
  clear y0 y1 y2 x0 x1 x2 fx0 fx1 fx2 hxe
  have x0 : w5.cell? ⟨xb, 0, none⟩ = some (.slice aO2 m cO2) := HX5.out.xc 0
  have x1 : w5.cell? ⟨xb, 1, none⟩ = some (.slice aW2 m cW2) := HX5.out.xc 1
  have x2 : w5.cell? ⟨xb, 2, none⟩ = some (.int .i64 (now2 : Int)) := HX5.out.xc 2
  have x3 : w5.cell? ⟨xb, 3, none⟩ = some (.slice aL L.length cL) := HX5.out.xc 3
  have k1 := HX5.out.k1
  have HBD : Hid (Both B E C w5.drew r (.slice aO m cO) (.slice aW m cW) (.slice aL L.length cL) now m t x O S P W L) := HB5.out.below (drew_below _ _)
  have HXD : Hid (Bxd B E w w5.drew xb db rb #[.slice aO2 m cO2, .slice aW2 m cW2, .int .i64 (now2 : Int), .slice aL L.length cL] d) := HX5.out.below (drew_below _ _)
  have HDD : Hid (DocAt C w5.drew (.slice aO2 m cO2) (.slice aW2 m cW2) m (gvO O d.N) (gvW O W now d.N)) := HD5.out.below (drew_below _ _)
  have hbb : (bg == bg) = true := beq_self_eq_true _
  go_region_with (go_at_call 22; refine (ramGive_is d.N _ HBD.out.ram ht HBG.out).mono ?_; rintro e w6 ⟨rfl, h6, t6⟩; have H6 : Hid _ := h6; have T6 : Hid _ := t6; have HX9 : Hid (Bxd B E w w6 xb db rb #[.slice aO2 m cO2, .slice aW2 m cW2, .int .i64 (now2 : Int), .slice aL L.length cL] d) := HXD.out.turns t6; clear h6 t6; have z0 : w6.cell? ⟨xb, 0, none⟩ = some (.slice aO2 m cO2) := HX9.out.xc 0; have z1 : w6.cell? ⟨xb, 1, none⟩ = some (.slice aW2 m cW2) := HX9.out.xc 1; have z2 : w6.cell? ⟨xb, 2, none⟩ = some (.int .i64 (now2 : Int)) := HX9.out.xc 2; have z3 : w6.cell? ⟨xb, 3, none⟩ = some (.slice aL L.length cL) := HX9.out.xc 3; have r0 := HX9.out.r0; have r1 := HX9.out.r1; have r2 := HX9.out.r2; have r3 := HX9.out.r3; have f0 := HX9.out.fr 0; have f1 := HX9.out.fr 1; have f2 := HX9.out.fr 2; have f3 := HX9.out.fr 3)
  all_goals
    go_wp2
    have HBF : Both B E C w6 r (.slice aO2 m cO2) (.slice aW2 m cW2) (.slice aL L.length cL) now2 m (up t bg) x (gvO O d.N) (gvS O S d.N) P (gvW O W now d.N) L := HBD.out.turn H6.out T6.out HDD.out HBD.out.log (by have := HBD.out.dat.gv HBD.out.ram.good d.N; rw [HN2.out] at this; exact this) HBD.out.asl
    refine bodyPost_ret (results_cell_tmp2 Try.results16 _ _ rb _ _ _ _ rfl (res4_kept HX9.out.r) Try.underlying45 rfl Try.sizeR) rfl
      ⟨_, _, _, _, _, _, _, _, _, _, false, ?_, HBF.fin HX9.out _ _ _ _, HX9.out.fin _ _ _ _, up_le t _, hnl, by omega⟩
    rfl
end Go.Proofs.Yteebjeifbccbnaa
