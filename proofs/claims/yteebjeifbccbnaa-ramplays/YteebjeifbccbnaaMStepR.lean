/- A step of RamPlays: a read. -/
import Derived.Test.YteebjeifbccbnaaMStepW
namespace Go.Proofs.Yteebjeifbccbnaa
open Go.RowKit

theorem refRead6_is {C now : Nat} {vO vW vL : Value} {L : List Wt} {n a s : Nat} {N A Z : Int} (w : World) (hN : N = (n : Int)) (hA : A = (a : Int)) (hZ : Z = (s : Int)) (h : LogAt C w vL L) (hL : L.length ≤ 1000) (hn : n < 96) (ha : a ≤ 4096) (hs : s ≤ 4096) :
    Calls Try.prog 20 #[.agg #[vO, vW, .int .i64 (now : Int), vL], .int .i64 N, .int .i64 A, .int .i64 Z] w fun e w' => ∃ v, e = .returned v ∧ w'.ownsRow w.heap.size 5 1 v s (bv (rpL L n a s)) ∧ Below w.heap.size w w' := by
  subst hN hA hZ
  exact refRead6_any n a s w h hL hn ha hs
set_option maxRecDepth 100000 in
set_option maxHeartbeats 4000000 in
theorem step_read {B E C r now m t x : Nat} {vO vW vL : Value} {O W : List Int} {S P : List Nat} {L : List Wt} (d : Dd) (w : World) (h : Both B E C w r vO vW vL now m t x O S P W L) (hz1 : d.Z ≤ 9223372036854775807) (hz2 : -9223372036854775808 ≤ d.Z) (hK : d.K = 3) (hx : x < 1000000) (hL : L.length ≤ 1000) :
    Calls Try.prog 16 #[.pointer (some ⟨r, 0, none⟩), .agg #[vO, vW, .int .i64 (now : Int), vL], .agg #[.int .i64 d.K, .int .i64 d.N, .int .i64 d.A, .int .i64 d.Z, .int .u64 (d.V : Int), .slice d.p d.l d.c]] w (Stepped B E C w r m t x now L.length) := by
  have HK : Hid (d.K = 3) := hK
  clear hK
  obtain ⟨aO, cO, rfl⟩ := row_slice h.doc.rO
  obtain ⟨aW, cW, rfl⟩ := row_slice h.doc.rW
  obtain ⟨aL, cL, rfl⟩ := row_slice h.log.row
  have hE : E ≤ w.heap.size := h.ram.hi.1
  have hb := Bxd.made (B := B) (E := E) w hE (.slice aO m cO) (.slice aW m cW) (.int .i64 (now : Int)) (.slice aL L.length cL) d
  have hbe : Below w.heap.size w (((w.alloc (.cells #[.slice aO m cO, .slice aW m cW, .int .i64 (now : Int), .slice aL L.length cL] 45)).alloc (.cells #[.int .i64 d.K, .int .i64 d.N, .int .i64 d.A, .int .i64 d.Z, .int .u64 (d.V : Int), .slice d.p d.l d.c] 50)).alloc (.cells #[.slice none 0 0, .slice none 0 0, .int .i64 0, .slice none 0 0] 45)) := (((Below.refl _ w).alloc (Nat.le_refl _) _).alloc (by simp) _).alloc (by simp; omega) _
  have HB0 : Hid (Both B E C w r (.slice aO m cO) (.slice aW m cW) (.slice aL L.length cL) now m t x O S P W L) := h
  have HB1 : Hid (Both B E C _ r (.slice aO m cO) (.slice aW m cW) (.slice aL L.length cL) now m t x O S P W L) := h.below hbe
  have HX1 : Hid (Bxd B E w _ w.heap.size (w.heap.size + 1) (w.heap.size + 1 + 1) #[.slice aO m cO, .slice aW m cW, .int .i64 (now : Int), .slice aL L.length cL] d) := hb
  have HBE : Hid (Below w.heap.size w _) := hbe
  clear h hE hb hbe
  go_enter Try.func16, Try.ntmps16
  go_upto_region 1 with (fail)
  generalize (((w.alloc (.cells #[.slice aO m cO, .slice aW m cW, .int .i64 (now : Int), .slice aL L.length cL] 45)).alloc (.cells #[.int .i64 d.K, .int .i64 d.N, .int .i64 d.A, .int .i64 d.Z, .int .u64 (d.V : Int), .slice d.p d.l d.c] 50)).alloc (.cells #[.slice none 0 0, .slice none 0 0, .int .i64 0, .slice none 0 0] 45)) = w1 at *
  obtain ⟨rb, hrb⟩ : ∃ rb, w.heap.size + 1 + 1 = rb := ⟨_, rfl⟩
  rw [hrb] at HX1
  rw [hrb]
  obtain ⟨db, hdb⟩ : ∃ db, w.heap.size + 1 = db := ⟨_, rfl⟩
  rw [hdb] at HX1
  rw [hdb]
  obtain ⟨xb, hxb⟩ : ∃ xb, w.heap.size = xb := ⟨_, rfl⟩
  have HX2 : Hid (Bxd B E w w1 xb db rb #[.slice aO m cO, .slice aW m cW, .int .i64 (now : Int), .slice aL L.length cL] d) := by rw [← hxb]; exact HX1.out
  rw [hxb]
  clear hrb hdb hxb HX1
  have k0 := HX2.out.k0
  have k1 := HX2.out.k1
  have k2 := HX2.out.k2
  have k3 := HX2.out.k3
  have k4 := HX2.out.k4
  have k5 := HX2.out.k5
  have x0 : w1.cell? ⟨xb, 0, none⟩ = some (.slice aO m cO) := HX2.out.xc 0
  have x1 : w1.cell? ⟨xb, 1, none⟩ = some (.slice aW m cW) := HX2.out.xc 1
  have x2 : w1.cell? ⟨xb, 2, none⟩ = some (.int .i64 (now : Int)) := HX2.out.xc 2
  have x3 : w1.cell? ⟨xb, 3, none⟩ = some (.slice aL L.length cL) := HX2.out.xc 3
  rw [HK.out] at k0
  go_wp2_with fail
  refine (refThere6_any d.N d.A d.Z w1 HB1.out.doc).mono ?_
  rintro e w2 ⟨rfl, b2⟩
  have HX3 : Hid (Bxd B E w w2 xb db rb #[.slice aO m cO, .slice aW m cW, .int .i64 (now : Int), .slice aL L.length cL] d) := HX2.out.below b2
  have HB3 : Hid (Both B E C w2 r (.slice aO m cO) (.slice aW m cW) (.slice aL L.length cL) now m t x O S P W L) := HB1.out.below b2
  clear b2 x0 x1 x2 x3 k0 k1 k2 k3 k4 k5
  cases hmay : thB O d.N d.A d.Z with
  | false =>
    have HTB : Hid (thB O d.N d.A d.Z = false) := hmay
    clear hmay
    have k1 := HX3.out.k1
    have k2 := HX3.out.k2
    have k3 := HX3.out.k3
    go_wp2_with fail
    refine (ramRead_any d.N d.A d.Z _ HB3.out.ram hx hz1 hz2).mono ?_
    rintro e w5 ⟨v5, rfl, own5, h5, t5⟩
    rw [HTB.out] at h5 ⊢
    rw [rd_no HTB.out] at own5
    obtain ⟨p5, c5, rfl⟩ := row_slice own5
    have HX4 := HX3
    have HB4 := HB3
    generalize w2 = w4 at *
    have H5 : Hid (RamAt B E w5 r m t (up x false) O S P) := h5
    have T5 : Hid (Turns B E w4 w5) := t5
    have HC1 : Hid ((convert 24 9 (.slice p5 ([] : List Nat).length c5)).run Try.prog w5.drew = .ok (.string (strB [])) w5.drew) := conv_any (row_below own5 (drew_below _ _))
    have HC2 : Hid ((convert 24 9 (.slice none 0 0)).run Try.prog w5.drew = .ok (.string (strB [])) w5.drew) := conv_any (B := 0) (n := 0) (l := []) (World.ownsRow_nil _ _ _ _)
    clear h5 t5 own5 k1 k2 k3
    go_upto_region 21 with (fail)
    have hsz4 : E ≤ w4.heap.size := by have := HB4.out.ram.hi; have := T5.out.size; omega
    have HXD : Hid (Bxd B E w w5.drew xb db rb #[.slice aO m cO, .slice aW m cW, .int .i64 (now : Int), .slice aL L.length cL] d) := (HX4.out.turns T5.out).below (drew_below _ _)
    have HBD : Hid (Both B E C w5.drew r (.slice aO m cO) (.slice aW m cW) (.slice aL L.length cL) now m t (up x false) O S P W L) := (HB4.out.turn H5.out T5.out HB4.out.doc HB4.out.log HB4.out.dat HB4.out.asl).below (drew_below _ _)
    have nxr : xb ≠ rb := HXD.out.lo.2.2.2.2.1
    have x0 : w5.cell? ⟨xb, 0, none⟩ = some (.slice aO m cO) := HXD.out.xc 0
    have x1 : w5.cell? ⟨xb, 1, none⟩ = some (.slice aW m cW) := HXD.out.xc 1
    have x2 : w5.cell? ⟨xb, 2, none⟩ = some (.int .i64 (now : Int)) := HXD.out.xc 2
    have x3 : w5.cell? ⟨xb, 3, none⟩ = some (.slice aL L.length cL) := HXD.out.xc 3
    have r0 : w5.cell? ⟨rb, 0, none⟩ = some (.slice none 0 0) := HXD.out.r0
    have r1 : w5.cell? ⟨rb, 1, none⟩ = some (.slice none 0 0) := HXD.out.r1
    have r2 : w5.cell? ⟨rb, 2, none⟩ = some (.int .i64 0) := HXD.out.r2
    have r3 : w5.cell? ⟨rb, 3, none⟩ = some (.slice none 0 0) := HXD.out.r3
    have f0 : w5.frozen? ⟨rb, 0, none⟩ = false := HXD.out.fr 0
    have f1 : w5.frozen? ⟨rb, 1, none⟩ = false := HXD.out.fr 1
    have f2 : w5.frozen? ⟨rb, 2, none⟩ = false := HXD.out.fr 2
    have f3 : w5.frozen? ⟨rb, 3, none⟩ = false := HXD.out.fr 3
    clear hsz4
    go_region_held3 (fun w' => w'.cell? ⟨xb, 0, none⟩ = some (.slice aO m cO) ∧ w'.cell? ⟨xb, 1, none⟩ = some (.slice aW m cW) ∧ w'.cell? ⟨xb, 2, none⟩ = some (.int .i64 (now : Int)) ∧ w'.cell? ⟨xb, 3, none⟩ = some (.slice aL L.length cL)) (first | (go_keep; done) | (simp only [cell_res4d nxr]; first | done | (go_keep; done))) (first | (go_at_call 19; refine (refBytes_same _ _ [] _ HC1.out HC2.out).mono ?_; rintro e w6 ⟨rfl, rfl⟩))
    all_goals
      go_wp2
      refine bodyPost_ret (results_cell_tmp2 Try.results16 _ _ rb _ _ _ _ rfl (res4_kept HXD.out.r) Try.underlying45 rfl Try.sizeR) rfl
        ⟨_, _, _, _, _, _, _, _, _, _, false, ?_, HBD.out.fin HXD.out _ _ _ _, HXD.out.fin _ _ _ _, by omega, by omega, by omega⟩
      rfl
  | true =>
    have HTB : Hid (thB O d.N d.A d.Z = true) := hmay
    obtain ⟨nd, ad, sd, hnd, had, hsd, hnl, h0, has⟩ := th_of hmay
    have HND : Hid (d.N = (nd : Int)) := hnd
    have HAD : Hid (d.A = (ad : Int)) := had
    have HSD : Hid (d.Z = (sd : Int)) := hsd
    have HNL : Hid (nd < m) := by show _ < _; rw [← HB3.out.ram.good.len]; exact hnl
    have hrd : rdL O P d.N d.A d.Z = rpL L nd ad sd := by
      rw [hnd, had, hsd] at hmay ⊢
      rw [rd_yes hmay]
      exact HB3.out.asl.read HB3.out.ram.len HNL.out has
    have HRD : Hid (rdL O P d.N d.A d.Z = rpL L nd ad sd) := hrd
    clear hmay hnd had hsd hnl h0 hrd
    have k1 := HX3.out.k1
    have k2 := HX3.out.k2
    have k3 := HX3.out.k3
    have x0 : w2.cell? ⟨xb, 0, none⟩ = some (.slice aO m cO) := HX3.out.xc 0
    have x1 : w2.cell? ⟨xb, 1, none⟩ = some (.slice aW m cW) := HX3.out.xc 1
    have x2 : w2.cell? ⟨xb, 2, none⟩ = some (.int .i64 (now : Int)) := HX3.out.xc 2
    have x3 : w2.cell? ⟨xb, 3, none⟩ = some (.slice aL L.length cL) := HX3.out.xc 3
    go_wp2_with fail
    refine (refRead6_is w2 HND.out HAD.out HSD.out HB3.out.log hL (by have := HNL.out; have := HB3.out.ram.small; omega) (by omega) (by omega)).mono ?_
    rintro e w4 ⟨v4, rfl, own4, b4⟩
    obtain ⟨p4, c4, rfl⟩ := row_slice own4
    have HX4 : Hid (Bxd B E w w4 xb db rb #[.slice aO m cO, .slice aW m cW, .int .i64 (now : Int), .slice aL L.length cL] d) := HX3.out.below b4
    have HB4 : Hid (Both B E C w4 r (.slice aO m cO) (.slice aW m cW) (.slice aL L.length cL) now m t x O S P W L) := HB3.out.below b4
    have HO4 : Hid (w4.ownsRow w2.heap.size 5 1 (.slice p4 sd c4) sd (bv (rpL L nd ad sd))) := own4
    have HE2 : Hid (E ≤ w2.heap.size) := HB3.out.ram.hi.1
    clear own4 b4 k1 k2 k3 x0 x1 x2 x3
    have k1 := HX4.out.k1
    have k2 := HX4.out.k2
    have k3 := HX4.out.k3
    go_wp2_with fail
    refine (ramRead_any d.N d.A d.Z _ HB4.out.ram hx hz1 hz2).mono ?_
    rintro e w5 ⟨v5, rfl, own5, h5, t5⟩
    rw [HTB.out] at h5 ⊢
    rw [HRD.out] at own5
    obtain ⟨p5, c5, rfl⟩ := row_slice own5
    have H5 : Hid (RamAt B E w5 r m t (up x true) O S P) := h5
    have T5 : Hid (Turns B E w4 w5) := t5
    have HC1 : Hid ((convert 24 9 (.slice p5 (rpL L nd ad sd).length c5)).run Try.prog w5.drew = .ok (.string (strB (rpL L nd ad sd))) w5.drew) := conv_any (row_below own5 (drew_below _ _))
    have HC2 : Hid ((convert 24 9 (.slice p4 sd c4)).run Try.prog w5.drew = .ok (.string (strB (rpL L nd ad sd))) w5.drew) := conv_any (row_below (t5.row HO4.out HE2.out) (drew_below _ _))
    generalize rpL L nd ad sd = bl at *
    clear h5 t5 own5 k1 k2 k3
    go_upto_region 21 with (fail)
    have hsz4 : E ≤ w4.heap.size := by have := HB4.out.ram.hi; have := T5.out.size; omega
    have HXD : Hid (Bxd B E w w5.drew xb db rb #[.slice aO m cO, .slice aW m cW, .int .i64 (now : Int), .slice aL L.length cL] d) := (HX4.out.turns T5.out).below (drew_below _ _)
    have HBD : Hid (Both B E C w5.drew r (.slice aO m cO) (.slice aW m cW) (.slice aL L.length cL) now m t (up x true) O S P W L) := (HB4.out.turn H5.out T5.out HB4.out.doc HB4.out.log HB4.out.dat HB4.out.asl).below (drew_below _ _)
    have nxr : xb ≠ rb := HXD.out.lo.2.2.2.2.1
    have x0 : w5.cell? ⟨xb, 0, none⟩ = some (.slice aO m cO) := HXD.out.xc 0
    have x1 : w5.cell? ⟨xb, 1, none⟩ = some (.slice aW m cW) := HXD.out.xc 1
    have x2 : w5.cell? ⟨xb, 2, none⟩ = some (.int .i64 (now : Int)) := HXD.out.xc 2
    have x3 : w5.cell? ⟨xb, 3, none⟩ = some (.slice aL L.length cL) := HXD.out.xc 3
    have r0 : w5.cell? ⟨rb, 0, none⟩ = some (.slice none 0 0) := HXD.out.r0
    have r1 : w5.cell? ⟨rb, 1, none⟩ = some (.slice none 0 0) := HXD.out.r1
    have r2 : w5.cell? ⟨rb, 2, none⟩ = some (.int .i64 0) := HXD.out.r2
    have r3 : w5.cell? ⟨rb, 3, none⟩ = some (.slice none 0 0) := HXD.out.r3
    have f0 : w5.frozen? ⟨rb, 0, none⟩ = false := HXD.out.fr 0
    have f1 : w5.frozen? ⟨rb, 1, none⟩ = false := HXD.out.fr 1
    have f2 : w5.frozen? ⟨rb, 2, none⟩ = false := HXD.out.fr 2
    have f3 : w5.frozen? ⟨rb, 3, none⟩ = false := HXD.out.fr 3
    clear hsz4
    go_region_held3 (fun w' => w'.cell? ⟨xb, 0, none⟩ = some (.slice aO m cO) ∧ w'.cell? ⟨xb, 1, none⟩ = some (.slice aW m cW) ∧ w'.cell? ⟨xb, 2, none⟩ = some (.int .i64 (now : Int)) ∧ w'.cell? ⟨xb, 3, none⟩ = some (.slice aL L.length cL)) (first | (go_keep; done) | (simp only [cell_res4d nxr]; first | done | (go_keep; done))) (first | (go_at_call 19; refine (refBytes_same _ _ bl _ HC1.out HC2.out).mono ?_; rintro e w6 ⟨rfl, rfl⟩))
    all_goals
      go_wp2
      refine bodyPost_ret (results_cell_tmp2 Try.results16 _ _ rb _ _ _ _ rfl (res4_kept HXD.out.r) Try.underlying45 rfl Try.sizeR) rfl
        ⟨_, _, _, _, _, _, _, _, _, _, true, ?_, HBD.out.fin HXD.out _ _ _ _, HXD.out.fin _ _ _ _, by omega, by omega, by omega⟩
      rfl
end Go.Proofs.Yteebjeifbccbnaa
