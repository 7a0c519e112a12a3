/- A step of RamPlays: a write. -/
import Derived.Test.YteebjeifbccbnaaMStepG
import Derived.Deep.RegionHeld3
namespace Go.Proofs.Yteebjeifbccbnaa
open Go.RowKit

theorem ramWrite_is {B E r m t x : Nat} {O : List Int} {S P b : List Nat} {p : Option Addr} {L c : Nat} (n a : Int) (w : World) (h : RamAt B E w r m t x O S P) (hx : x < 1000000) (hL : L ≤ maxLen)
    (hl : b.length = L) (hb : NumsAt .u8 w p b) (h8 : ∀ x ∈ b, x < 256) (hr : ∀ q, p = some q → b ≠ [] → q.block ≠ r) {tb : Bool} (ht : thB O n a L = tb) :
    Calls Try.prog 9 #[.pointer (some ⟨r, 0, none⟩), .int .i64 n, .int .i64 a, .slice p L c] w fun e w' => e = .returned (.bool tb) ∧
      RamAt B E w' r m t (up x tb) O S (wrP O P n a b) ∧ Turns B E w w' := by
  rw [← ht]; exact ramWrite_any n a w h hx hL hl hb h8 hr
theorem refWrite6_is {C now : Nat} {vO vW vL vb : Value} {L : List Wt} {b : List Nat} {n a : Nat} {N A : Int} (w : World) (hN : N = (n : Int)) (hA : A = (a : Int)) (h : LogAt C w vL L) (hL : L.length ≤ 1000) (hC : C ≤ w.heap.size) (hn : n < 96) (ha : a + b.length ≤ 4096) (hb : SrcAt w vb b.length 1 (bv b)) {m : Nat} (hvO : ∃ aO cO, vO = .slice aO m cO) (hvW : ∃ aW cW, vW = .slice aW m cW) :
    Calls Try.prog 36 #[.agg #[vO, vW, .int .i64 (now : Int), vL], .int .i64 N, .int .i64 A, vb] w fun e w' => ∃ vL' vb', e = .returned (.agg #[vO, vW, .int .i64 (now : Int), vL']) ∧ LogAt C w' vL' (L ++ [⟨n, a, vb', b⟩]) ∧ Below w.heap.size w w' := by
  subst hN hA
  exact refWrite6_any n a w h hL hC hn ha hb hvO hvW
set_option maxRecDepth 100000 in
set_option maxHeartbeats 4000000 in
theorem step_write {B E C r now m t x : Nat} {vO vW vL : Value} {O W : List Int} {S P : List Nat} {L : List Wt} (d : Dd) (w0 w : World) (h : Both B E C w r vO vW vL now m t x O S P W L) (hd : DeedOk w0 d) (hw0 : Below w0.heap.size w0 w) (hB : w0.heap.size ≤ B) (hK : d.K = 2) (hx : x < 1000000) (hL : L.length ≤ 1000) :
    Calls Try.prog 16 #[.pointer (some ⟨r, 0, none⟩), .agg #[vO, vW, .int .i64 (now : Int), vL], .agg #[.int .i64 d.K, .int .i64 d.N, .int .i64 d.A, .int .i64 d.Z, .int .u64 (d.V : Int), .slice d.p d.l d.c]] w (Stepped B E C w r m t x now L.length) := by
  have HK : Hid (d.K = 2) := hK
  have HN0 : Hid (NumsAt .u8 w d.p d.b) := nums_later hd.nums hw0
  have HOK : Hid (∀ q, d.p = some q → d.b ≠ [] → q.block < B) := fun q hq hne => Nat.lt_of_lt_of_le (hd.old q hq hne) hB
  have HDL : Hid (d.l ≤ maxLen) := hd.l
  have HBL : Hid (d.b.length = d.l) := hd.bl
  have HBY : Hid (∀ x ∈ d.b, x < 256) := hd.byte
  have HGN : Hid (d.p = none → d.l = 0 ∧ d.c = 0) := hd.gone
  have hl := hd.l
  unfold maxLen at hl
  clear hK hd
  obtain ⟨aO, cO, rfl⟩ := row_slice h.doc.rO
  obtain ⟨aW, cW, rfl⟩ := row_slice h.doc.rW
  obtain ⟨aL, cL, rfl⟩ := row_slice h.log.row
  have hE : E ≤ w.heap.size := h.ram.hi.1
  have hb := Bxd.made (B := B) (E := E) w hE (.slice aO m cO) (.slice aW m cW) (.int .i64 (now : Int)) (.slice aL L.length cL) d
  have hbe : Below w.heap.size w (((w.alloc (.cells #[.slice aO m cO, .slice aW m cW, .int .i64 (now : Int), .slice aL L.length cL] 45)).alloc (.cells #[.int .i64 d.K, .int .i64 d.N, .int .i64 d.A, .int .i64 d.Z, .int .u64 (d.V : Int), .slice d.p d.l d.c] 50)).alloc (.cells #[.slice none 0 0, .slice none 0 0, .int .i64 0, .slice none 0 0] 45)) := (((Below.refl _ w).alloc (Nat.le_refl _) _).alloc (by simp) _).alloc (by simp; omega) _
  have HB0 : Hid (Both B E C w r (.slice aO m cO) (.slice aW m cW) (.slice aL L.length cL) now m t x O S P W L) := h
  have HB1 : Hid (Both B E C _ r (.slice aO m cO) (.slice aW m cW) (.slice aL L.length cL) now m t x O S P W L) := h.below hbe
  have HX1 : Hid (Bxd B E w _ w.heap.size (w.heap.size + 1) (w.heap.size + 1 + 1) #[.slice aO m cO, .slice aW m cW, .int .i64 (now : Int), .slice aL L.length cL] d) := hb
  have HBE : Hid (Below w.heap.size w _) := hbe
  clear h hE hb hbe
  go_enter Try.func16, Try.ntmps16
  go_upto_region 1 with (fail)
  generalize (((w.alloc (.cells #[.slice aO m cO, .slice aW m cW, .int .i64 (now : Int), .slice aL L.length cL] 45)).alloc (.cells #[.int .i64 d.K, .int .i64 d.N, .int .i64 d.A, .int .i64 d.Z, .int .u64 (d.V : Int), .slice d.p d.l d.c] 50)).alloc (.cells #[.slice none 0 0, .slice none 0 0, .int .i64 0, .slice none 0 0] 45)) = w1 at *
  obtain ⟨rb, hrb⟩ : ∃ rb, w.heap.size + 1 + 1 = rb := ⟨_, rfl⟩
  rw [hrb] at HX1
  rw [hrb]
  obtain ⟨db, hdb⟩ : ∃ db, w.heap.size + 1 = db := ⟨_, rfl⟩
  rw [hdb] at HX1
  rw [hdb]
  obtain ⟨xb, hxb⟩ : ∃ xb, w.heap.size = xb := ⟨_, rfl⟩
  have HX2 : Hid (Bxd B E w w1 xb db rb #[.slice aO m cO, .slice aW m cW, .int .i64 (now : Int), .slice aL L.length cL] d) := by rw [← hxb]; exact HX1.out
  rw [hxb]
  clear hrb hdb hxb HX1
  have k0 := HX2.out.k0
  have k1 := HX2.out.k1
  have k2 := HX2.out.k2
  have k3 := HX2.out.k3
  have k4 := HX2.out.k4
  have k5 := HX2.out.k5
  have x0 : w1.cell? ⟨xb, 0, none⟩ = some (.slice aO m cO) := HX2.out.xc 0
  have x1 : w1.cell? ⟨xb, 1, none⟩ = some (.slice aW m cW) := HX2.out.xc 1
  have x2 : w1.cell? ⟨xb, 2, none⟩ = some (.int .i64 (now : Int)) := HX2.out.xc 2
  have x3 : w1.cell? ⟨xb, 3, none⟩ = some (.slice aL L.length cL) := HX2.out.xc 3
  rw [HK.out] at k0
  go_wp2_with fail
  refine (refThere6_any d.N d.A d.l w1 HB1.out.doc).mono ?_
  rintro e w2 ⟨rfl, b2⟩
  have HX3 : Hid (Bxd B E w w2 xb db rb #[.slice aO m cO, .slice aW m cW, .int .i64 (now : Int), .slice aL L.length cL] d) := HX2.out.below b2
  have HB3 : Hid (Both B E C w2 r (.slice aO m cO) (.slice aW m cW) (.slice aL L.length cL) now m t x O S P W L) := HB1.out.below b2
  have HN3 : Hid (NumsAt .u8 w2 d.p d.b) := nums_later HN0.out (HBE.out.trans (b2.mono HBE.out.size))
  clear b2 x0 x1 x2 x3 k0 k1 k2 k3 k4 k5
  cases hmay : thB O d.N d.A d.l with
  | false =>
    have HTB : Hid (thB O d.N d.A d.l = false) := hmay
    clear hmay
    go_upto_region 14 with (fail)
    generalize w2 = w5 at *
    have HX5 := HX3
    have HB5 := HB3
    have HN5 : Hid (NumsAt .u8 w5.drew d.p d.b) := nums_later HN3.out (drew_below _ _)
    have HL5 : Hid (LogAt C w5 (.slice aL L.length cL) L) := HB3.out.log
    have HAS : Hid (AsLog m (wrP O P d.N d.A d.b) L) := by
      show AsLog _ _ _
      rw [wr_no (by rw [HBL.out]; exact HTB.out)]; exact HB3.out.asl
    have x0 : w5.cell? ⟨xb, 0, none⟩ = some (.slice aO m cO) := HX5.out.xc 0
    have x1 : w5.cell? ⟨xb, 1, none⟩ = some (.slice aW m cW) := HX5.out.xc 1
    have x2 : w5.cell? ⟨xb, 2, none⟩ = some (.int .i64 (now : Int)) := HX5.out.xc 2
    have x3 : w5.cell? ⟨xb, 3, none⟩ = some (Value.slice aL L.length cL) := HX5.out.xc 3
    have k1 := HX5.out.k1
    have k2 := HX5.out.k2
    have k5 := HX5.out.k5
    have HBD : Hid (Both B E C w5.drew r (.slice aO m cO) (.slice aW m cW) (.slice aL L.length cL) now m t x O S P W L) := HB5.out.below (drew_below _ _)
    have HXD : Hid (Bxd B E w w5.drew xb db rb #[.slice aO m cO, .slice aW m cW, .int .i64 (now : Int), Value.slice aL L.length cL] d) := HX5.out.below (drew_below _ _)
    have HLD : Hid (LogAt C w5.drew (Value.slice aL L.length cL) (L)) := HL5.out.below (drew_below _ _)
    have HNN : Hid (NumsAt .u8 w5.drew d.p d.b) := HN5.out
    have HNE : Hid (∀ q, d.p = some q → d.b ≠ [] → q.block ≠ r) := by
      intro q hq hne
      have e1 := HOK.out q hq hne
      have e2 := HBD.out.ram.hi
      omega
    have nxr : xb ≠ rb := HXD.out.lo.2.2.2.2.1
    have ndr : db ≠ rb := HXD.out.lo.2.2.2.2.2.1
    go_region_held3 (fun w' => w'.cell? ⟨xb, 0, none⟩ = some (.slice aO m cO) ∧ w'.cell? ⟨xb, 1, none⟩ = some (.slice aW m cW) ∧ w'.cell? ⟨xb, 2, none⟩ = some (.int .i64 (now : Int)) ∧ w'.cell? ⟨xb, 3, none⟩ = some (Value.slice aL L.length cL) ∧ w'.cell? ⟨db, 1, none⟩ = some (.int .i64 d.N) ∧ w'.cell? ⟨db, 2, none⟩ = some (.int .i64 d.A) ∧ w'.cell? ⟨db, 5, none⟩ = some (.slice d.p d.l d.c)) (first | go_keep | (simp only [cell_res4 nxr, cell_res4 ndr]; go_keep)) (first | (go_at_call 9; refine (ramWrite_is d.N d.A _ HBD.out.ram hx HDL.out HBL.out HNN.out HBY.out HNE.out HTB.out).mono ?_; rintro e w6 ⟨rfl, h6, t6⟩; have H6 : Hid _ := h6; have T6 : Hid _ := t6; have HX9 : Hid (Bxd B E w w6 xb db rb #[.slice aO m cO, .slice aW m cW, .int .i64 (now : Int), Value.slice aL L.length cL] d) := HXD.out.turns t6; clear h6 t6; have z0 : w6.cell? ⟨xb, 0, none⟩ = some (.slice aO m cO) := HX9.out.xc 0; have z1 : w6.cell? ⟨xb, 1, none⟩ = some (.slice aW m cW) := HX9.out.xc 1; have z2 : w6.cell? ⟨xb, 2, none⟩ = some (.int .i64 (now : Int)) := HX9.out.xc 2; have z3 : w6.cell? ⟨xb, 3, none⟩ = some (Value.slice aL L.length cL) := HX9.out.xc 3; have l1 := HX9.out.k1; have l2 := HX9.out.k2; have l5 := HX9.out.k5; have r0 := HX9.out.r0; have r1 := HX9.out.r1; have r2 := HX9.out.r2; have r3 := HX9.out.r3; have f0 := HX9.out.fr 0; have f1 := HX9.out.fr 1; have f2 := HX9.out.fr 2; have f3 := HX9.out.fr 3))
    all_goals
      go_wp2
      have HBF : Both B E C w6 r (.slice aO m cO) (.slice aW m cW) (Value.slice aL L.length cL) now m t (up x false) O S (wrP O P d.N d.A d.b) W (L) := HBD.out.turn H6.out T6.out HBD.out.doc HLD.out HBD.out.dat HAS.out
      refine bodyPost_ret (results_cell_tmp2 Try.results16 _ _ rb _ _ _ _ rfl (res4_kept HX9.out.r) Try.underlying45 rfl Try.sizeR) rfl
        ⟨_, _, _, _, _, _, _, _, _, _, false, ?_, HBF.fin HX9.out _ _ _ _, HX9.out.fin _ _ _ _, by omega, by omega, by simp⟩
      rfl
  | true =>
    have HTB : Hid (thB O d.N d.A d.l = true) := hmay
    obtain ⟨nd, ad, sd, hnd, had, hsd, hnl, h0, has⟩ := th_of hmay
    have HND : Hid (d.N = (nd : Int)) := hnd
    have HAD : Hid (d.A = (ad : Int)) := had
    have HNL : Hid (nd < m) := by show _ < _; rw [← HB3.out.ram.good.len]; exact hnl
    have HAL : Hid (ad + d.b.length ≤ 4096) := by show _ ≤ _; rw [HBL.out]; omega
    clear hmay hnd had hsd hnl h0 has
    have k1 := HX3.out.k1
    have k2 := HX3.out.k2
    have k5 := HX3.out.k5
    have x0 : w2.cell? ⟨xb, 0, none⟩ = some (.slice aO m cO) := HX3.out.xc 0
    have x1 : w2.cell? ⟨xb, 1, none⟩ = some (.slice aW m cW) := HX3.out.xc 1
    have x2 : w2.cell? ⟨xb, 2, none⟩ = some (.int .i64 (now : Int)) := HX3.out.xc 2
    have x3 : w2.cell? ⟨xb, 3, none⟩ = some (.slice aL L.length cL) := HX3.out.xc 3
    go_wp2_with fail
    have hsrc : SrcAt w2 (.slice d.p d.l d.c) d.b.length 1 (bv d.b) := by have := src_nums HN3.out HBL.out HGN.out; rw [← HBL.out] at this ⊢; exact this
    refine (refWrite6_is w2 HND.out HAD.out HB3.out.log hL HB3.out.cw (by have := HNL.out; have := HB3.out.ram.small; omega) HAL.out hsrc ⟨_, _, rfl⟩ ⟨_, _, rfl⟩).mono ?_
    rintro e w3 ⟨vL3, vb3, rfl, hl3, b3⟩
    obtain ⟨aL3, cL3, rfl⟩ := row_slice hl3.row
    have HX4 : Hid (Bxd B E w w3 xb db rb #[.slice aO m cO, .slice aW m cW, .int .i64 (now : Int), .slice aL L.length cL] d) := HX3.out.below b3
    have HB4 : Hid (Both B E C w3 r (.slice aO m cO) (.slice aW m cW) (.slice aL L.length cL) now m t x O S P W L) := HB3.out.below b3
    have HN4 : Hid (NumsAt .u8 w3 d.p d.b) := nums_later HN3.out b3
    have HL4 : Hid (LogAt C w3 (.slice aL3 (L ++ [(⟨nd, ad, vb3, d.b⟩ : Wt)]).length cL3) (L ++ [(⟨nd, ad, vb3, d.b⟩ : Wt)])) := hl3
    have HAS : Hid (AsLog m (wrP O P d.N d.A d.b) (L ++ [(⟨nd, ad, vb3, d.b⟩ : Wt)])) := by
      show AsLog _ _ _
      rw [HND.out, HAD.out]
      exact HB3.out.asl.write HB3.out.ram.len HB3.out.ram.good.len (by have := HTB.out; rw [← HBL.out, HND.out, HAD.out] at this; exact this)
    clear k1 k2 k5 x0 x1 x2 x3 hsrc hl3 b3
    have x0 : w3.cell? ⟨xb, 0, none⟩ = some (.slice aO m cO) := HX4.out.xc 0
    have x1 : w3.cell? ⟨xb, 1, none⟩ = some (.slice aW m cW) := HX4.out.xc 1
    have x2 : w3.cell? ⟨xb, 2, none⟩ = some (.int .i64 (now : Int)) := HX4.out.xc 2
    have x3 : w3.cell? ⟨xb, 3, none⟩ = some (.slice aL L.length cL) := HX4.out.xc 3
    have fx0 := HX4.out.fx 0
    have fx1 := HX4.out.fx 1
    have fx2 := HX4.out.fx 2
    have fx3 := HX4.out.fx 3
    generalize hLL : L ++ [(⟨nd, ad, vb3, d.b⟩ : Wt)] = L3 at *
    have HLN : Hid (L3.length ≤ L.length + 1) := by show _ ≤ _; rw [← hLL]; simp
    clear hLL
    go_upto_region 14 with (fail)
    have HX5 : Hid (Bxd B E w _ xb db rb #[.slice aO m cO, .slice aW m cW, .int .i64 (now : Int), .slice aL3 L3.length cL3] d) := HX4.out.setX (.slice aO m cO) (.slice aW m cW) (.int .i64 (now : Int)) (.slice aL3 L3.length cL3)
    have hxe : E ≤ xb := by have := HX4.out.lo; omega
    have HB5 : Hid (Both B E C ((((w3.setCell ⟨xb, 0, none⟩ (.slice aO m cO)).setCell ⟨xb, 1, none⟩ (.slice aW m cW)).setCell ⟨xb, 2, none⟩ (.int .i64 (now : Int))).setCell ⟨xb, 3, none⟩ (.slice aL3 L3.length cL3)) r (.slice aO m cO) (.slice aW m cW) (.slice aL L.length cL) now m t x O S P W L) := HB4.out.tag HX4.out.x hxe (by simp) (fun g hg => res4_block hg)
    have HL5 : Hid (LogAt C ((((w3.setCell ⟨xb, 0, none⟩ (.slice aO m cO)).setCell ⟨xb, 1, none⟩ (.slice aW m cW)).setCell ⟨xb, 2, none⟩ (.int .i64 (now : Int))).setCell ⟨xb, 3, none⟩ (.slice aL3 L3.length cL3)) (.slice aL3 L3.length cL3) L3) := ⟨row_tag HL4.out.row HX4.out.x (by decide) (fun g hg => res4_block hg), fun t ht => ⟨row_tag (HL4.out.each t ht).1 HX4.out.x (by decide) (fun g hg => res4_block hg), (HL4.out.each t ht).2⟩⟩
    have HN5 : Hid (NumsAt .u8 ((((w3.setCell ⟨xb, 0, none⟩ (.slice aO m cO)).setCell ⟨xb, 1, none⟩ (.slice aW m cW)).setCell ⟨xb, 2, none⟩ (.int .i64 (now : Int))).setCell ⟨xb, 3, none⟩ (.slice aL3 L3.length cL3)).drew d.p d.b) := by
      have hb9 := res4_below (rb := xb) (u0 := .slice aO m cO) (u1 := .slice aW m cW) (u2 := .int .i64 (now : Int)) (u3 := .slice aL3 L3.length cL3) (Below.refl w.heap.size w3) HX4.out.lo.1
      have hb8 := HX4.out.trn.size
      rcases HN0.out with hbn | ⟨bb, off, hp, hlt, hc⟩
      · exact .inl hbn
      · rcases HN4.out with hbn | ⟨bb', off', hp', hlt', hc'⟩
        · exact .inl hbn
        · rw [hp] at hp'
          simp only [Option.some.injEq, Addr.mk.injEq, and_true] at hp'
          obtain ⟨rfl, rfl⟩ := hp'
          refine .inr ⟨bb, off, hp, by have := hb9.size; show bb < _; simp; omega, fun i hi => ?_⟩
          have := (hb9.trans (drew_below _ _)).cell (p := ⟨bb, off + i, none⟩) hlt
          rw [this]
          exact hc' i hi
    generalize ((((w3.setCell ⟨xb, 0, none⟩ (.slice aO m cO)).setCell ⟨xb, 1, none⟩ (.slice aW m cW)).setCell ⟨xb, 2, none⟩ (.int .i64 (now : Int))).setCell ⟨xb, 3, none⟩ (.slice aL3 L3.length cL3)) = w5 at *
    clear x0 x1 x2 x3 fx0 fx1 fx2 fx3 hxe
    have x0 : w5.cell? ⟨xb, 0, none⟩ = some (.slice aO m cO) := HX5.out.xc 0
    have x1 : w5.cell? ⟨xb, 1, none⟩ = some (.slice aW m cW) := HX5.out.xc 1
    have x2 : w5.cell? ⟨xb, 2, none⟩ = some (.int .i64 (now : Int)) := HX5.out.xc 2
    have x3 : w5.cell? ⟨xb, 3, none⟩ = some (Value.slice aL3 L3.length cL3) := HX5.out.xc 3
    have k1 := HX5.out.k1
    have k2 := HX5.out.k2
    have k5 := HX5.out.k5
    have HBD : Hid (Both B E C w5.drew r (.slice aO m cO) (.slice aW m cW) (.slice aL L.length cL) now m t x O S P W L) := HB5.out.below (drew_below _ _)
    have HXD : Hid (Bxd B E w w5.drew xb db rb #[.slice aO m cO, .slice aW m cW, .int .i64 (now : Int), Value.slice aL3 L3.length cL3] d) := HX5.out.below (drew_below _ _)
    have HLD : Hid (LogAt C w5.drew (Value.slice aL3 L3.length cL3) (L3)) := HL5.out.below (drew_below _ _)
    have HNN : Hid (NumsAt .u8 w5.drew d.p d.b) := HN5.out
    have HNE : Hid (∀ q, d.p = some q → d.b ≠ [] → q.block ≠ r) := by
      intro q hq hne
      have e1 := HOK.out q hq hne
      have e2 := HBD.out.ram.hi
      omega
    have nxr : xb ≠ rb := HXD.out.lo.2.2.2.2.1
    have ndr : db ≠ rb := HXD.out.lo.2.2.2.2.2.1
    go_region_held3 (fun w' => w'.cell? ⟨xb, 0, none⟩ = some (.slice aO m cO) ∧ w'.cell? ⟨xb, 1, none⟩ = some (.slice aW m cW) ∧ w'.cell? ⟨xb, 2, none⟩ = some (.int .i64 (now : Int)) ∧ w'.cell? ⟨xb, 3, none⟩ = some (Value.slice aL3 L3.length cL3) ∧ w'.cell? ⟨db, 1, none⟩ = some (.int .i64 d.N) ∧ w'.cell? ⟨db, 2, none⟩ = some (.int .i64 d.A) ∧ w'.cell? ⟨db, 5, none⟩ = some (.slice d.p d.l d.c)) (first | go_keep | (simp only [cell_res4 nxr, cell_res4 ndr]; go_keep)) (first | (go_at_call 9; refine (ramWrite_is d.N d.A _ HBD.out.ram hx HDL.out HBL.out HNN.out HBY.out HNE.out HTB.out).mono ?_; rintro e w6 ⟨rfl, h6, t6⟩; have H6 : Hid _ := h6; have T6 : Hid _ := t6; have HX9 : Hid (Bxd B E w w6 xb db rb #[.slice aO m cO, .slice aW m cW, .int .i64 (now : Int), Value.slice aL3 L3.length cL3] d) := HXD.out.turns t6; clear h6 t6; have z0 : w6.cell? ⟨xb, 0, none⟩ = some (.slice aO m cO) := HX9.out.xc 0; have z1 : w6.cell? ⟨xb, 1, none⟩ = some (.slice aW m cW) := HX9.out.xc 1; have z2 : w6.cell? ⟨xb, 2, none⟩ = some (.int .i64 (now : Int)) := HX9.out.xc 2; have z3 : w6.cell? ⟨xb, 3, none⟩ = some (Value.slice aL3 L3.length cL3) := HX9.out.xc 3; have l1 := HX9.out.k1; have l2 := HX9.out.k2; have l5 := HX9.out.k5; have r0 := HX9.out.r0; have r1 := HX9.out.r1; have r2 := HX9.out.r2; have r3 := HX9.out.r3; have f0 := HX9.out.fr 0; have f1 := HX9.out.fr 1; have f2 := HX9.out.fr 2; have f3 := HX9.out.fr 3))
    all_goals
      go_wp2
      have HBF : Both B E C w6 r (.slice aO m cO) (.slice aW m cW) (Value.slice aL3 L3.length cL3) now m t (up x true) O S (wrP O P d.N d.A d.b) W (L3) := HBD.out.turn H6.out T6.out HBD.out.doc HLD.out HBD.out.dat HAS.out
      refine bodyPost_ret (results_cell_tmp2 Try.results16 _ _ rb _ _ _ _ rfl (res4_kept HX9.out.r) Try.underlying45 rfl Try.sizeR) rfl
        ⟨_, _, _, _, _, _, _, _, _, _, true, ?_, HBF.fin HX9.out _ _ _ _, HX9.out.fin _ _ _ _, by omega, by omega, HLN.out⟩
      rfl
end Go.Proofs.Yteebjeifbccbnaa
