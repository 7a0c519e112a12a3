/- A step of SlotsPlays: a Page, a Drop, a Look. -/
import Derived.Test.YtacggabopdoijaaSStepP
import Derived.Deep.RegionHeld3
namespace Go.Proofs.Ytacggabopdoijaa
open Go.RowKit
set_option linter.unusedVariables false
set_option maxRecDepth 100000 in
set_option maxHeartbeats 4000000 in
theorem step_page {Q E C r m k L0 c0 : Nat} {a0 : Option Addr} {zs x : List Bool} {pg : Nat → List Nat} {vL : Value} {L : List Pt} {w0 w : World} (d : Dd) (h : Both Q E C w0 w r m zs k x pg vL L) (hd : DeedOk w0 d) (hz : BoolsAt w0 a0 L0 c0 zs) (hk : k < 100000) (hL : L.length ≤ 100) (hK : d.K = 3) :
    Calls Try.prog 17 #[.pointer (some ⟨r, 0, none⟩), .agg #[.int .i64 (m : Int), .slice a0 L0 c0, .int .i64 (k : Int), vL], .agg #[.int .i64 d.K, .int .i64 d.N, .int .u8 (d.V : Int), .slice d.p d.l d.c]] w (Stepped Q E C w0 w r m zs k L.length (.slice a0 L0 c0)) := by
  have HK : Hid (d.K = 3) := hK
  clear hK
  obtain ⟨aL, cL, hvL⟩ := row_slice h.log.row
  subst hvL
  have HOK : Hid (DeedOk w0 d) := hd
  have HZ : Hid (BoolsAt w0 a0 L0 c0 zs) := hz
  have hE := h.slots.hi
  have hbx := Bxd.made (Q := Q) (E := E) w hE.1 (.int .i64 (m : Int)) (.slice a0 L0 c0) (.int .i64 (k : Int)) (.slice aL L.length cL) d
  have HX1 : Hid (Bxd Q E w _ w.heap.size (w.heap.size + 1) (w.heap.size + 1 + 1) #[.int .i64 (m : Int), .slice a0 L0 c0, .int .i64 (k : Int), .slice aL L.length cL] d) := hbx
  have HB1 : Hid (Both Q E C w0 _ r m zs k x pg (.slice aL L.length cL) L) := h.below ((((Below.refl _ w).alloc (Nat.le_refl _) (.cells #[.int .i64 (m : Int), .slice a0 L0 c0, .int .i64 (k : Int), .slice aL L.length cL] 42)).alloc (by simp) (.cells #[.int .i64 d.K, .int .i64 d.N, .int .u8 (d.V : Int), .slice d.p d.l d.c] 46)).alloc (by simp; omega) (.cells #[.int .i64 0, .slice none 0 0, .int .i64 0, .slice none 0 0] 42))
  have HLW : Hid (E ≤ w.heap.size ∧ w0.heap.size ≤ w.heap.size ∧ L.length ≤ 100 ∧ Q ≤ E) := ⟨hE.1, h.bel.size, hL, hE.2.2.2⟩
  clear h hbx hd hz hE
  go_enter Try.func17, Try.ntmps17
  go_upto_region 1 with (fail)
  generalize ((w.alloc (.cells #[.int .i64 (m : Int), .slice a0 L0 c0, .int .i64 (k : Int), .slice aL L.length cL] 42)).alloc (.cells #[.int .i64 d.K, .int .i64 d.N, .int .u8 (d.V : Int), .slice d.p d.l d.c] 46)).alloc (.cells #[.int .i64 0, .slice none 0 0, .int .i64 0, .slice none 0 0] 42) = w1 at *
  generalize hrb : w.heap.size + 1 + 1 = rb at *
  generalize hdb : w.heap.size + 1 = db at *
  generalize hxb : w.heap.size = xb at *
  have HXB : Hid (w.heap.size = xb) := hxb
  clear hrb hdb hxb
  have k0 := HX1.out.k0
  rw [HK.out] at k0
  have k1 := HX1.out.k1
  have HXW := HX1
  have x0 : w1.cell? ⟨xb, 0, none⟩ = some (.int .i64 (m : Int)) := (HXW.out.xc 0).trans rfl
  have x1 : w1.cell? ⟨xb, 1, none⟩ = some (.slice a0 L0 c0) := (HXW.out.xc 1).trans rfl
  have x2 : w1.cell? ⟨xb, 2, none⟩ = some (.int .i64 (k : Int)) := (HXW.out.xc 2).trans rfl
  have x3 : w1.cell? ⟨xb, 3, none⟩ = some (.slice aL L.length cL) := (HXW.out.xc 3).trans rfl
  clear HXW
  go_wp2_with fail
  refine (refPage_any d.N w1 HB1.out.log (by have := HLW.out.2.2.1; omega) (HZ.out.below HB1.out.bel) (by omega) HB1.out.same).mono ?_
  rintro e w3 ⟨v3, rfl, own3, b3⟩
  obtain ⟨a3, c3, rfl⟩ := row_slice own3
  have HX3 : Hid (Bxd Q E w w3 xb db rb #[.int .i64 (m : Int), .slice a0 L0 c0, .int .i64 (k : Int), .slice aL L.length cL] d) := HX1.out.below b3
  have HB3 : Hid (Both Q E C w0 w3 r m zs k x pg (.slice aL L.length cL) L) := HB1.out.below b3
  obtain ⟨P, hP⟩ : ∃ P, pgB x zs k pg d.N = P := ⟨_, rfl⟩
  rw [hP] at own3
  have HPP : Hid (pgB x zs k pg d.N = P) := hP
  have HO3 : Hid (w3.ownsRow C 5 1 (.slice a3 P.length c3) P.length (bv P)) := own3
  rw [hP]
  have hkl := pgK_le x zs k d.N
  clear b3 x0 x1 x2 x3 own3 hP k0 k1 HX1 HB1
  go_upto_region 13 with (fail)
  have ba : Below w3.heap.size w3 (w3.alloc (.cells #[.int .i64 (m : Int), .slice a0 L0 c0, .int .i64 (pgK x zs k d.N : Nat), .slice aL L.length cL] 42)) := (Below.refl _ w3).alloc (Nat.le_refl _) _
  have HX4 : Hid (Bxd Q E w _ xb db rb #[.int .i64 (m : Int), .slice a0 L0 c0, .int .i64 (k : Int), .slice aL L.length cL] d) := HX3.out.below ba
  have HB4 : Hid (Both Q E C w0 _ r m zs k x pg (.slice aL L.length cL) L) := HB3.out.below ba
  have HY4 : Hid (Yat _ w3.heap.size #[.int .i64 (m : Int), .slice a0 L0 c0, .int .i64 (pgK x zs k d.N : Nat), .slice aL L.length cL]) := heap_alloc_new w3 _
  have HO4 : Hid (World.ownsRow _ C 5 1 (.slice a3 P.length c3) P.length (bv P)) := row_below HO3.out ba
  have HEY : Hid (E ≤ w3.heap.size) := HB3.out.slots.hi.1
  have nyr : w3.heap.size ≠ rb := by have := (Array.getElem?_eq_some_iff.1 HX3.out.r).1; omega
  clear ba HX3 HB3 HO3
  generalize w3.alloc (.cells #[.int .i64 (m : Int), .slice a0 L0 c0, .int .i64 (pgK x zs k d.N : Nat), .slice aL L.length cL] 42) = w4 at *
  generalize w3.heap.size = yb at *
  have k1 := HX4.out.k1
  go_wp2_with fail
  refine (slPage d.N w4 HB4.out.slots (by omega)).mono ?_
  rintro e w5 ⟨v5, rfl, own5, h5, t5⟩
  rw [HPP.out] at own5
  obtain ⟨a5, c5, rfl⟩ := row_slice own5
  have HXD : Hid (Bxd Q E w w5.drew xb db rb #[.int .i64 (m : Int), .slice a0 L0 c0, .int .i64 (k : Int), .slice aL L.length cL] d) := (HX4.out.turns t5).below (drew_below _ _)
  have HYD : Hid (Yat w5.drew yb #[.int .i64 (m : Int), .slice a0 L0 c0, .int .i64 (pgK x zs k d.N : Nat), .slice aL L.length cL]) := (HY4.out.turns t5 HEY.out).below (drew_below _ _)
  have HBD : Hid (Both Q E C w0 w5.drew r m zs (pgK x zs k d.N) x pg (.slice aL L.length cL) L) := (HB4.out.turn h5 t5 (HB4.out.log.turns t5 HB4.out.ec) HB4.out.same).below (drew_below _ _)
  have HC1 : Hid ((convert 28 9 (.slice a5 P.length c5)).run Try.prog w5.drew = .ok (.string (strB P)) w5.drew) := conv_any own5.drew
  have HC2 : Hid ((convert 28 9 (.slice a3 P.length c3)).run Try.prog w5.drew = .ok (.string (strB P)) w5.drew) := conv_any (t5.row HO4.out HB4.out.ec).drew
  have r0 : w5.cell? ⟨rb, 0, none⟩ = some (.int .i64 0) := HXD.out.r0
  have r1 : w5.cell? ⟨rb, 1, none⟩ = some (.slice none 0 0) := HXD.out.r1
  have r2 : w5.cell? ⟨rb, 2, none⟩ = some (.int .i64 0) := HXD.out.r2
  have r3 : w5.cell? ⟨rb, 3, none⟩ = some (.slice none 0 0) := HXD.out.r3
  have f0 : w5.frozen? ⟨rb, 0, none⟩ = false := HXD.out.fr 0
  have f1 : w5.frozen? ⟨rb, 1, none⟩ = false := HXD.out.fr 1
  have f2 : w5.frozen? ⟨rb, 2, none⟩ = false := HXD.out.fr 2
  have f3 : w5.frozen? ⟨rb, 3, none⟩ = false := HXD.out.fr 3
  have y0 : w5.cell? ⟨yb, 0, none⟩ = some (.int .i64 (m : Int)) := (HYD.out.c 0).trans rfl
  have y1 : w5.cell? ⟨yb, 1, none⟩ = some (.slice a0 L0 c0) := (HYD.out.c 1).trans rfl
  have y2 : w5.cell? ⟨yb, 2, none⟩ = some (.int .i64 (pgK x zs k d.N : Nat)) := (HYD.out.c 2).trans rfl
  have y3 : w5.cell? ⟨yb, 3, none⟩ = some (.slice aL L.length cL) := (HYD.out.c 3).trans rfl
  clear h5 t5 own5 HX4 HB4 HY4 HO4 k1
  generalize pgK x zs k d.N = kk at *
  generalize pgE x zs k d.N = ee at *
  have e2 : ((ee : Int) == (ee : Int)) = true := beq_self_eq_true _
  go_wp2_with fail
  go_region_held3 (fun w' => w'.cell? ⟨yb, 0, none⟩ = some (.int .i64 (m : Int)) ∧ w'.cell? ⟨yb, 1, none⟩ = some (.slice a0 L0 c0) ∧ w'.cell? ⟨yb, 2, none⟩ = some (.int .i64 (kk : Int)) ∧ w'.cell? ⟨yb, 3, none⟩ = some (.slice aL L.length cL)) (first | (go_keep; done) | (simp only [cell_res4d nyr]; first | done | (go_keep; done))) (first | (go_at_call 37; refine (refBytes_same _ _ P _ HC1.out HC2.out).mono ?_; rintro e w6 ⟨rfl, rfl⟩))
  all_goals
    go_wp2
    refine bodyPost_ret (results_cell_tmp Try.results17 _ _ rb _ _ _ _ rfl (res4_kept HXD.out.r) Try.underlying42 rfl Try.sizeD) rfl ⟨kk, _, _, _, L, ?_, HBD.out.fin HXD.out.r ?_ ?_ _ _ _ _, hkl, by omega, HXD.out.fin _ _ _ _⟩
    · rfl
    · have := HXD.out.lo; omega
    · have := HXD.out.lo; have := HLW.out.2.1; have := HXB.out; omega

set_option maxRecDepth 100000 in
set_option maxHeartbeats 4000000 in
theorem step_drop {Q E C r m k L0 c0 : Nat} {a0 : Option Addr} {zs x : List Bool} {pg : Nat → List Nat} {vL : Value} {L : List Pt} {w0 w : World} (d : Dd) (h : Both Q E C w0 w r m zs k x pg vL L) (hd : DeedOk w0 d) (hz : BoolsAt w0 a0 L0 c0 zs) (hk : k < 100000) (hL : L.length ≤ 100) (hK : d.K = 4) :
    Calls Try.prog 17 #[.pointer (some ⟨r, 0, none⟩), .agg #[.int .i64 (m : Int), .slice a0 L0 c0, .int .i64 (k : Int), vL], .agg #[.int .i64 d.K, .int .i64 d.N, .int .u8 (d.V : Int), .slice d.p d.l d.c]] w (Stepped Q E C w0 w r m zs k L.length (.slice a0 L0 c0)) := by
  have HK : Hid (d.K = 4) := hK
  clear hK
  obtain ⟨aL, cL, hvL⟩ := row_slice h.log.row
  subst hvL
  have HOK : Hid (DeedOk w0 d) := hd
  have HZ : Hid (BoolsAt w0 a0 L0 c0 zs) := hz
  have hE := h.slots.hi
  have hbx := Bxd.made (Q := Q) (E := E) w hE.1 (.int .i64 (m : Int)) (.slice a0 L0 c0) (.int .i64 (k : Int)) (.slice aL L.length cL) d
  have HX1 : Hid (Bxd Q E w _ w.heap.size (w.heap.size + 1) (w.heap.size + 1 + 1) #[.int .i64 (m : Int), .slice a0 L0 c0, .int .i64 (k : Int), .slice aL L.length cL] d) := hbx
  have HB1 : Hid (Both Q E C w0 _ r m zs k x pg (.slice aL L.length cL) L) := h.below ((((Below.refl _ w).alloc (Nat.le_refl _) (.cells #[.int .i64 (m : Int), .slice a0 L0 c0, .int .i64 (k : Int), .slice aL L.length cL] 42)).alloc (by simp) (.cells #[.int .i64 d.K, .int .i64 d.N, .int .u8 (d.V : Int), .slice d.p d.l d.c] 46)).alloc (by simp; omega) (.cells #[.int .i64 0, .slice none 0 0, .int .i64 0, .slice none 0 0] 42))
  have HLW : Hid (E ≤ w.heap.size ∧ w0.heap.size ≤ w.heap.size ∧ L.length ≤ 100 ∧ Q ≤ E) := ⟨hE.1, h.bel.size, hL, hE.2.2.2⟩
  clear h hbx hd hz hE
  go_enter Try.func17, Try.ntmps17
  go_upto_region 1 with (fail)
  generalize ((w.alloc (.cells #[.int .i64 (m : Int), .slice a0 L0 c0, .int .i64 (k : Int), .slice aL L.length cL] 42)).alloc (.cells #[.int .i64 d.K, .int .i64 d.N, .int .u8 (d.V : Int), .slice d.p d.l d.c] 46)).alloc (.cells #[.int .i64 0, .slice none 0 0, .int .i64 0, .slice none 0 0] 42) = w1 at *
  generalize hrb : w.heap.size + 1 + 1 = rb at *
  generalize hdb : w.heap.size + 1 = db at *
  generalize hxb : w.heap.size = xb at *
  have HXB : Hid (w.heap.size = xb) := hxb
  clear hrb hdb hxb
  have k0 := HX1.out.k0
  rw [HK.out] at k0
  have k1 := HX1.out.k1
  have HXW := HX1
  have x0 : w1.cell? ⟨xb, 0, none⟩ = some (.int .i64 (m : Int)) := (HXW.out.xc 0).trans rfl
  have x1 : w1.cell? ⟨xb, 1, none⟩ = some (.slice a0 L0 c0) := (HXW.out.xc 1).trans rfl
  have x2 : w1.cell? ⟨xb, 2, none⟩ = some (.int .i64 (k : Int)) := (HXW.out.xc 2).trans rfl
  have x3 : w1.cell? ⟨xb, 3, none⟩ = some (.slice aL L.length cL) := (HXW.out.xc 3).trans rfl
  clear HXW
  go_wp2_with fail
  refine (refDrop_any (zs := zs) d.N w1 HB1.out.log (by have := HLW.out.2.2.1; omega) (HZ.out.below HB1.out.bel) HB1.out.cw HB1.out.same).mono ?_
  rintro e w3 ⟨vL', L', rfl, hl3, hs3, hll, b3⟩
  obtain ⟨aY, cY, hvy⟩ := row_slice hl3.row
  subst hvy
  have HX3 : Hid (Bxd Q E w w3 xb db rb #[.int .i64 (m : Int), .slice a0 L0 c0, .int .i64 (k : Int), .slice aL L.length cL] d) := HX1.out.below b3
  have HB3 : Hid (Both Q E C w0 w3 r m zs k x pg (.slice aL L.length cL) L) := HB1.out.below b3
  have HL3 : Hid (LogAt C w3 (.slice aY L'.length cY) L') := hl3
  have HS3 : Hid (Same (putL x d.N false) pg L') := hs3
  clear b3 x0 x1 x2 x3 hl3 hs3 k0 k1 HX1 HB1
  go_upto_region 17 with (fail)
  have ba : Below w3.heap.size w3 (w3.alloc (.cells #[.int .i64 (m : Int), .slice a0 L0 c0, .int .i64 (k : Int), .slice aY L'.length cY] 42)) := (Below.refl _ w3).alloc (Nat.le_refl _) _
  have HX4 : Hid (Bxd Q E w _ xb db rb #[.int .i64 (m : Int), .slice a0 L0 c0, .int .i64 (k : Int), .slice aL L.length cL] d) := HX3.out.below ba
  have HB4 : Hid (Both Q E C w0 _ r m zs k x pg (.slice aL L.length cL) L) := HB3.out.below ba
  have HL4 : Hid (LogAt C _ (.slice aY L'.length cY) L') := HL3.out.below ba
  have HY4 : Hid (Yat _ w3.heap.size #[.int .i64 (m : Int), .slice a0 L0 c0, .int .i64 (k : Int), .slice aY L'.length cY]) := heap_alloc_new w3 _
  have HEY : Hid (E ≤ w3.heap.size) := HB3.out.slots.hi.1
  have nyr : w3.heap.size ≠ rb := by have := (Array.getElem?_eq_some_iff.1 HX3.out.r).1; omega
  have ndr : db ≠ rb := HX3.out.lo.2.2.2.2.2.1
  clear ba HX3 HB3 HL3
  generalize w3.alloc (.cells #[.int .i64 (m : Int), .slice a0 L0 c0, .int .i64 (k : Int), .slice aY L'.length cY] 42) = w4 at *
  generalize w3.heap.size = yb at *
  have HBD : Hid (Both Q E C w0 w4.drew r m zs k x pg (.slice aL L.length cL) L) := HB4.out.below (drew_below _ _)
  have HLD : Hid (LogAt C w4.drew (.slice aY L'.length cY) L') := HL4.out.below (drew_below _ _)
  have HXD : Hid (Bxd Q E w w4.drew xb db rb #[.int .i64 (m : Int), .slice a0 L0 c0, .int .i64 (k : Int), .slice aL L.length cL] d) := HX4.out.below (drew_below _ _)
  have HYD : Hid (Yat w4.drew yb #[.int .i64 (m : Int), .slice a0 L0 c0, .int .i64 (k : Int), .slice aY L'.length cY]) := HY4.out.below (drew_below _ _)
  have k1 : w4.cell? ⟨db, 1, none⟩ = some (.int .i64 d.N) := HXD.out.k1
  have y0 : w4.cell? ⟨yb, 0, none⟩ = some (.int .i64 (m : Int)) := (HYD.out.c 0).trans rfl
  have y1 : w4.cell? ⟨yb, 1, none⟩ = some (.slice a0 L0 c0) := (HYD.out.c 1).trans rfl
  have y2 : w4.cell? ⟨yb, 2, none⟩ = some (.int .i64 (k : Int)) := (HYD.out.c 2).trans rfl
  have y3 : w4.cell? ⟨yb, 3, none⟩ = some (.slice aY L'.length cY) := (HYD.out.c 3).trans rfl
  clear HX4 HB4 HL4 HY4
  obtain ⟨bb, hbb⟩ : ∃ bb, hasB x d.N = bb := ⟨_, rfl⟩
  have HBB : Hid (hasB x d.N = bb) := hbb
  rw [hbb]
  clear hbb
  have e2 : (bb == bb) = true := beq_self_eq_true _
  go_region_held3 (fun w' => w'.cell? ⟨yb, 0, none⟩ = some (.int .i64 (m : Int)) ∧ w'.cell? ⟨yb, 1, none⟩ = some (.slice a0 L0 c0) ∧ w'.cell? ⟨yb, 2, none⟩ = some (.int .i64 (k : Int)) ∧ w'.cell? ⟨yb, 3, none⟩ = some (.slice aY L'.length cY) ∧ w'.cell? ⟨db, 1, none⟩ = some (.int .i64 d.N)) (first | (go_keep; done) | (simp only [cell_res4 nyr, cell_res4 ndr]; first | done | (go_keep; done))) (first | (go_at_call 10; refine (slDrop d.N _ HBD.out.slots HBB.out).mono ?_; rintro e w6 ⟨rfl, h6, t6⟩; have H6 : Hid _ := h6; have T6 : Hid (Turns Q E w4.drew w6) := t6; have HX6 : Hid (Bxd Q E w w6 xb db rb #[.int .i64 (m : Int), .slice a0 L0 c0, .int .i64 (k : Int), .slice aL L.length cL] d) := HXD.out.turns t6; have HY6 : Hid (Yat w6 yb #[.int .i64 (m : Int), .slice a0 L0 c0, .int .i64 (k : Int), .slice aY L'.length cY]) := HYD.out.turns t6 HEY.out; have z0 : w6.cell? ⟨yb, 0, none⟩ = some (.int .i64 (m : Int)) := (HY6.out.c 0).trans rfl; have z1 : w6.cell? ⟨yb, 1, none⟩ = some (.slice a0 L0 c0) := (HY6.out.c 1).trans rfl; have z2 : w6.cell? ⟨yb, 2, none⟩ = some (.int .i64 (k : Int)) := (HY6.out.c 2).trans rfl; have z3 : w6.cell? ⟨yb, 3, none⟩ = some (.slice aY L'.length cY) := (HY6.out.c 3).trans rfl; have l1 := HX6.out.k1; have r0 := HX6.out.r0; have r1 := HX6.out.r1; have r2 := HX6.out.r2; have r3 := HX6.out.r3; have f0 := HX6.out.fr 0; have f1 := HX6.out.fr 1; have f2 := HX6.out.fr 2; have f3 := HX6.out.fr 3; clear h6 t6))
  all_goals
    have HB6 : Hid (Both Q E C w0 w6 r m zs k (putL x d.N false) pg (.slice aY L'.length cY) L') := HBD.out.turn H6.out T6.out (HLD.out.turns T6.out HBD.out.ec) HS3.out
    go_wp2
    refine bodyPost_ret (results_cell_tmp Try.results17 _ _ rb _ _ _ _ rfl (res4_kept HX6.out.r) Try.underlying42 rfl Try.sizeD) rfl ⟨k, _, _, _, L', ?_, HB6.out.fin HX6.out.r ?_ ?_ _ _ _ _, by omega, by omega, HX6.out.fin _ _ _ _⟩
    · rfl
    · have := HX6.out.lo; omega
    · have := HX6.out.lo; have := HLW.out.2.1; have := HXB.out; omega

set_option maxRecDepth 100000 in
set_option maxHeartbeats 4000000 in
theorem step_look {Q E C r m k L0 c0 : Nat} {a0 : Option Addr} {zs x : List Bool} {pg : Nat → List Nat} {vL : Value} {L : List Pt} {w0 w : World} (d : Dd) (h : Both Q E C w0 w r m zs k x pg vL L) (hd : DeedOk w0 d) (hz : BoolsAt w0 a0 L0 c0 zs) (hk : k < 100000) (hL : L.length ≤ 100) (hK : d.K ≠ 0 ∧ d.K ≠ 1 ∧ d.K ≠ 2 ∧ d.K ≠ 3 ∧ d.K ≠ 4) :
    Calls Try.prog 17 #[.pointer (some ⟨r, 0, none⟩), .agg #[.int .i64 (m : Int), .slice a0 L0 c0, .int .i64 (k : Int), vL], .agg #[.int .i64 d.K, .int .i64 d.N, .int .u8 (d.V : Int), .slice d.p d.l d.c]] w (Stepped Q E C w0 w r m zs k L.length (.slice a0 L0 c0)) := by
  have hk0 : (d.K == 0) = false := by rw [beq_eq_false_iff_ne]; exact hK.1
  have hk1 : (d.K == 1) = false := by rw [beq_eq_false_iff_ne]; exact hK.2.1
  have hk2 : (d.K == 2) = false := by rw [beq_eq_false_iff_ne]; exact hK.2.2.1
  have hk3 : (d.K == 3) = false := by rw [beq_eq_false_iff_ne]; exact hK.2.2.2.1
  have hk4 : (d.K == 4) = false := by rw [beq_eq_false_iff_ne]; exact hK.2.2.2.2
  clear hK
  obtain ⟨aL, cL, hvL⟩ := row_slice h.log.row
  subst hvL
  have HOK : Hid (DeedOk w0 d) := hd
  have HZ : Hid (BoolsAt w0 a0 L0 c0 zs) := hz
  have hE := h.slots.hi
  have hbx := Bxd.made (Q := Q) (E := E) w hE.1 (.int .i64 (m : Int)) (.slice a0 L0 c0) (.int .i64 (k : Int)) (.slice aL L.length cL) d
  have HX1 : Hid (Bxd Q E w _ w.heap.size (w.heap.size + 1) (w.heap.size + 1 + 1) #[.int .i64 (m : Int), .slice a0 L0 c0, .int .i64 (k : Int), .slice aL L.length cL] d) := hbx
  have HB1 : Hid (Both Q E C w0 _ r m zs k x pg (.slice aL L.length cL) L) := h.below ((((Below.refl _ w).alloc (Nat.le_refl _) (.cells #[.int .i64 (m : Int), .slice a0 L0 c0, .int .i64 (k : Int), .slice aL L.length cL] 42)).alloc (by simp) (.cells #[.int .i64 d.K, .int .i64 d.N, .int .u8 (d.V : Int), .slice d.p d.l d.c] 46)).alloc (by simp; omega) (.cells #[.int .i64 0, .slice none 0 0, .int .i64 0, .slice none 0 0] 42))
  have HLW : Hid (E ≤ w.heap.size ∧ w0.heap.size ≤ w.heap.size ∧ L.length ≤ 100 ∧ Q ≤ E) := ⟨hE.1, h.bel.size, hL, hE.2.2.2⟩
  clear h hbx hd hz hE
  go_enter Try.func17, Try.ntmps17
  go_upto_region 1 with (fail)
  generalize ((w.alloc (.cells #[.int .i64 (m : Int), .slice a0 L0 c0, .int .i64 (k : Int), .slice aL L.length cL] 42)).alloc (.cells #[.int .i64 d.K, .int .i64 d.N, .int .u8 (d.V : Int), .slice d.p d.l d.c] 46)).alloc (.cells #[.int .i64 0, .slice none 0 0, .int .i64 0, .slice none 0 0] 42) = w1 at *
  generalize hrb : w.heap.size + 1 + 1 = rb at *
  generalize hdb : w.heap.size + 1 = db at *
  generalize hxb : w.heap.size = xb at *
  have HXB : Hid (w.heap.size = xb) := hxb
  clear hrb hdb hxb
  have k0 := HX1.out.k0
  have k1 := HX1.out.k1
  have HXW := HX1
  have x0 : w1.cell? ⟨xb, 0, none⟩ = some (.int .i64 (m : Int)) := (HXW.out.xc 0).trans rfl
  have x1 : w1.cell? ⟨xb, 1, none⟩ = some (.slice a0 L0 c0) := (HXW.out.xc 1).trans rfl
  have x2 : w1.cell? ⟨xb, 2, none⟩ = some (.int .i64 (k : Int)) := (HXW.out.xc 2).trans rfl
  have x3 : w1.cell? ⟨xb, 3, none⟩ = some (.slice aL L.length cL) := (HXW.out.xc 3).trans rfl
  clear HXW
  cases hin : hasB x d.N with
  | false =>
    have HIN : Hid (hasB x d.N = false) := hin
    have HA : Hid (atI L d.N = -1) := HB1.out.same.at_out hin
    have HLB : Hid (lkB x pg d.N = []) := by show _ = _; rw [lkB, hin]; rfl
    clear hin
    go_wp2_with fail
    refine (refAt_any d.N w1 HB1.out.log (by have := HLW.out.2.2.1; omega)).mono ?_
    rw [HA.out]
    rintro e w2 ⟨rfl, b2⟩
    have HX2 : Hid (Bxd Q E w w2 xb db rb #[.int .i64 (m : Int), .slice a0 L0 c0, .int .i64 (k : Int), .slice aL L.length cL] d) := HX1.out.below b2
    have HB2 : Hid (Both Q E C w0 w2 r m zs k x pg (.slice aL L.length cL) L) := HB1.out.below b2
    clear b2 x0 x1 x2 x3 k0 k1 HX1 HB1
    have k1 := HX2.out.k1
    go_wp2_with fail
    refine (slLook d.N w2 HB2.out.slots HIN.out).mono ?_
    rintro e w5 ⟨v5, rfl, own5, b5⟩
    rw [HLB.out] at own5
    obtain ⟨a5, c5, rfl⟩ := row_slice own5
    have HX5 : Hid (Bxd Q E w w5 xb db rb #[.int .i64 (m : Int), .slice a0 L0 c0, .int .i64 (k : Int), .slice aL L.length cL] d) := HX2.out.below b5
    have HB5 : Hid (Both Q E C w0 w5 r m zs k x pg (.slice aL L.length cL) L) := HB2.out.below b5
    clear b5 own5 k1 HX2 HB2
    have HXW := HX5
    have x0 : w5.cell? ⟨xb, 0, none⟩ = some (.int .i64 (m : Int)) := (HXW.out.xc 0).trans rfl
    have x1 : w5.cell? ⟨xb, 1, none⟩ = some (.slice a0 L0 c0) := (HXW.out.xc 1).trans rfl
    have x2 : w5.cell? ⟨xb, 2, none⟩ = some (.int .i64 (k : Int)) := (HXW.out.xc 2).trans rfl
    have x3 : w5.cell? ⟨xb, 3, none⟩ = some (.slice aL L.length cL) := (HXW.out.xc 3).trans rfl
    have r0 := HXW.out.r0
    have r1 := HXW.out.r1
    have r2 := HXW.out.r2
    have r3 := HXW.out.r3
    have f0 := HXW.out.fr 0
    have f1 := HXW.out.fr 1
    have f2 := HXW.out.fr 2
    have f3 := HXW.out.fr 3
    clear HXW
    go_wp2
    refine bodyPost_ret (results_cell_tmp Try.results17 _ _ rb _ _ _ _ rfl (res4_kept HX5.out.r) Try.underlying42 rfl Try.sizeD) rfl ⟨k, _, _, _, L, ?_, HB5.out.fin HX5.out.r ?_ ?_ _ _ _ _, by omega, by omega, HX5.out.fin _ _ _ _⟩
    · rfl
    · have := HX5.out.lo; omega
    · have := HX5.out.lo; have := HLW.out.2.1; have := HXB.out; omega
  | true =>
    have HIN : Hid (hasB x d.N = true) := hin
    obtain ⟨e1, e2⟩ := HB1.out.same.at_in hin
    have HA : Hid (atI L d.N = (ix L d.N : Int)) := e1
    have HIX : Hid ((L[ix L d.N]'e2).b = pg d.N.toNat) := by
      have := HB1.out.same.pgs _ (List.getElem_mem e2)
      rw [ix_get e2] at this
      exact this
    obtain ⟨ii, hii⟩ : ∃ ii, ix L d.N = ii := ⟨_, rfl⟩
    have hil : ii < L.length := by omega
    have HT : Hid (L[ii].b = pg d.N.toNat) := by
      have := HIX.out
      simp only [hii] at this
      exact this
    rw [hii] at HA
    have HLB : Hid (lkB x pg d.N = pg d.N.toNat) := by show _ = _; rw [lkB, hin]; rfl
    clear e1 hii e2 HIX hin
    have i0 : ¬ (ii : Int) < 0 := by omega
    have i0' : (0 : Int) ≤ (ii : Int) := by omega
    have i1 : (ii : Int) < (L.length : Int) := by omega
    go_wp2_with fail
    refine (refAt_any d.N w1 HB1.out.log (by have := HLW.out.2.2.1; omega)).mono ?_
    rw [HA.out]
    rintro e w2 ⟨rfl, b2⟩
    have HX2 : Hid (Bxd Q E w w2 xb db rb #[.int .i64 (m : Int), .slice a0 L0 c0, .int .i64 (k : Int), .slice aL L.length cL] d) := HX1.out.below b2
    have HB2 : Hid (Both Q E C w0 w2 r m zs k x pg (.slice aL L.length cL) L) := HB1.out.below b2
    clear b2 x0 x1 x2 x3 k0 k1 HX1 HB1
    have k1 := HX2.out.k1
    go_wp2_with fail
    refine (slLook d.N w2 HB2.out.slots HIN.out).mono ?_
    rintro e w5 ⟨v5, rfl, own5, b5⟩
    rw [HLB.out] at own5
    obtain ⟨a5, c5, rfl⟩ := row_slice own5
    have HXD : Hid (Bxd Q E w w5.drew xb db rb #[.int .i64 (m : Int), .slice a0 L0 c0, .int .i64 (k : Int), .slice aL L.length cL] d) := (HX2.out.below b5).below (drew_below _ _)
    have HBD : Hid (Both Q E C w0 w5.drew r m zs k x pg (.slice aL L.length cL) L) := (HB2.out.below b5).below (drew_below _ _)
    obtain ⟨P, hP⟩ : ∃ P, pg d.N.toNat = P := ⟨_, rfl⟩
    rw [hP] at own5
    have HTP : Hid (L[ii].b = P) := by show _ = _; rw [HT.out, hP]
    rw [hP]
    have HC1 : Hid ((convert 28 9 (.slice a5 P.length c5)).run Try.prog w5.drew = .ok (.string (strB P)) w5.drew) := conv_any own5.drew
    clear b5 own5 k1 HX2 HB2 hP HT HLB
    obtain ⟨g, rfl, _, cg1, hg1, hg2⟩ := row_at2 HBD.out.log.row hil
    rw [(pgc_at L ii hil).2] at cg1
    have heach := HBD.out.log.each L[ii] (List.getElem_mem _)
    have HTB := HTP.out
    generalize L[ii] = t at *
    obtain ⟨av, cv, hav⟩ := row_slice heach.1
    rw [hav] at cg1
    have HC2 : Hid ((convert 28 9 (.slice av 4096 cv)).run Try.prog w5.drew = .ok (.string (strB P)) w5.drew) := by rw [← hav, ← HTB]; exact conv_any heach.1
    have ngr : g ≠ rb := by
      intro e
      subst e
      rcases HBD.out.log.row.2 with ⟨h1, _⟩ | ⟨g', cap, cur, h1, _, h3, _⟩
      · simp at h1
      · simp only [Value.slice.injEq, Option.some.injEq, Addr.mk.injEq, and_true, true_and] at h1
        obtain ⟨rfl, _⟩ := h1
        rw [HXD.out.r] at h3
        simp at h3
    have cg : w5.cell? ⟨g, ii * 2 + 1, none⟩ = some (.slice av 4096 cv) := cg1
    have nxr : xb ≠ rb := HXD.out.lo.2.2.2.2.1
    clear heach hav HTB HTP cg1
    have x0 : w5.cell? ⟨xb, 0, none⟩ = some (.int .i64 (m : Int)) := (HXD.out.xc 0).trans rfl
    have x1 : w5.cell? ⟨xb, 1, none⟩ = some (.slice a0 L0 c0) := (HXD.out.xc 1).trans rfl
    have x2 : w5.cell? ⟨xb, 2, none⟩ = some (.int .i64 (k : Int)) := (HXD.out.xc 2).trans rfl
    have x3 : w5.cell? ⟨xb, 3, none⟩ = some (.slice (some ⟨g, 0, none⟩) L.length cL) := (HXD.out.xc 3).trans rfl
    have r0 : w5.cell? ⟨rb, 0, none⟩ = some (.int .i64 0) := HXD.out.r0
    have r1 : w5.cell? ⟨rb, 1, none⟩ = some (.slice none 0 0) := HXD.out.r1
    have r2 : w5.cell? ⟨rb, 2, none⟩ = some (.int .i64 0) := HXD.out.r2
    have r3 : w5.cell? ⟨rb, 3, none⟩ = some (.slice none 0 0) := HXD.out.r3
    have f0 : w5.frozen? ⟨rb, 0, none⟩ = false := HXD.out.fr 0
    have f1 : w5.frozen? ⟨rb, 1, none⟩ = false := HXD.out.fr 1
    have f2 : w5.frozen? ⟨rb, 2, none⟩ = false := HXD.out.fr 2
    have f3 : w5.frozen? ⟨rb, 3, none⟩ = false := HXD.out.fr 3
    go_wp2_with fail
    go_region_held3 (fun w' => w'.cell? ⟨xb, 0, none⟩ = some (.int .i64 (m : Int)) ∧ w'.cell? ⟨xb, 1, none⟩ = some (.slice a0 L0 c0) ∧ w'.cell? ⟨xb, 2, none⟩ = some (.int .i64 (k : Int)) ∧ w'.cell? ⟨xb, 3, none⟩ = some (.slice (some ⟨g, 0, none⟩) L.length cL) ∧ w'.cell? ⟨g, ii * 2 + 1, none⟩ = some (.slice av 4096 cv)) (first | (go_keep; done) | (simp only [cell_res4d nxr, cell_res4d ngr]; first | done | (go_keep; done))) (first | (go_at_call 37; refine (refBytes_same _ _ P _ HC1.out HC2.out).mono ?_; rintro e w6 ⟨rfl, rfl⟩))
    all_goals
      go_wp2
      refine bodyPost_ret (results_cell_tmp Try.results17 _ _ rb _ _ _ _ rfl (res4_kept HXD.out.r) Try.underlying42 rfl Try.sizeD) rfl ⟨k, _, _, _, L, ?_, HBD.out.fin HXD.out.r ?_ ?_ _ _ _ _, by omega, by omega, HXD.out.fin _ _ _ _⟩
      · rfl
      · have := HXD.out.lo; omega
      · have := HXD.out.lo; have := HLW.out.2.1; have := HXB.out; omega

theorem step_any {Q E C r m k L0 c0 : Nat} {a0 : Option Addr} {zs x : List Bool} {pg : Nat → List Nat} {vL : Value} {L : List Pt} {w0 w : World} (d : Dd) (h : Both Q E C w0 w r m zs k x pg vL L) (hd : DeedOk w0 d) (hz : BoolsAt w0 a0 L0 c0 zs) (hk : k < 100000) (hL : L.length ≤ 100) :
    Calls Try.prog 17 #[.pointer (some ⟨r, 0, none⟩), .agg #[.int .i64 (m : Int), .slice a0 L0 c0, .int .i64 (k : Int), vL], .agg #[.int .i64 d.K, .int .i64 d.N, .int .u8 (d.V : Int), .slice d.p d.l d.c]] w (Stepped Q E C w0 w r m zs k L.length (.slice a0 L0 c0)) := by
  by_cases h0 : d.K = 0
  · exact step_fill d h hd hz hk hL (.inl h0)
  · by_cases h1 : d.K = 1
    · exact step_fill d h hd hz hk hL (.inr h1)
    · by_cases h2 : d.K = 2
      · exact step_put d h hd hz hk hL h2
      · by_cases h3 : d.K = 3
        · exact step_page d h hd hz hk hL h3
        · by_cases h4 : d.K = 4
          · exact step_drop d h hd hz hk hL h4
          · exact step_look d h hd hz hk hL ⟨h0, h1, h2, h3, h4⟩
end Go.Proofs.Ytacggabopdoijaa
