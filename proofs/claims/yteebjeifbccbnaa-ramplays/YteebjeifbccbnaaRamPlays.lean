/- Proved: gunnylaw06.RamPlays returns true for all ints and all lists of deeds: what any calls of the bytes of any number of frames answer, one behind the other, and how many touched something, is the document's; of bytes that aren't there there is nothing. No conditions. -/
import Derived.Test.YteebjeifbccbnaaMNil
import Derived.Deep.LoopGhost
import Derived.Deep.RegionHeld3
import Derived.Deep.DeepCutAuto
namespace Go.Proofs.Yteebjeifbccbnaa.RamPlays
open Go.ChangeShapes Go.WideShapes Go.ChangeAt Go.RowKit
set_option linter.unusedVariables false
theorem own : ownKnob Try.prog.godebug = none := by kernel_rfl
theorem laidOut : laidOutB Try.prog = true := by kernel_rfl
/-- The rounds' state. -/
structure Play (wx wq : World) (B E C xb r : Nat) (vO vW vL : Value) (now m k t x : Nat) (O : List Int) (S P : List Nat) (W : List Int) (L : List Wt) : Prop where
  both : Both B E C wq r vO vW vL now m t x O S P W L
  var : wq.heap[xb]? = some (.cells #[vO, vW, .int .i64 (now : Int), vL] 45 (0, 0))
  bel : Below wx.heap.size wx wq
  lo : wx.heap.size ≤ B ∧ E ≤ xb ∧ B ≤ E
  tk : t ≤ k
  xk : x ≤ k
  nk : now ≤ m + k
  lk : L.length ≤ k
section
variable {wx wq w2 : World} {B E C xb r now m k t x : Nat} {vO vW vL : Value} {O W : List Int} {S P : List Nat} {L : List Wt}
theorem Play.below (h : Play wx wq B E C xb r vO vW vL now m k t x O S P W L) (hb : Below wq.heap.size wq w2) : Play wx w2 B E C xb r vO vW vL now m k t x O S P W L :=
  ⟨h.both.below hb, (hb.block xb (Array.getElem?_eq_some_iff.1 h.var).1).trans h.var, h.bel.trans (hb.mono h.bel.size), h.lo, h.tk, h.xk, h.nk, h.lk⟩
theorem Play.read (h : Play wx wq B E C xb r vO vW vL now m k t x O S P W L) {b : Bool} (hr : RamAt B E w2 r m t (up x b) O S P) (ht : Turns B E wq w2) : Play wx w2 B E C xb r vO vW vL now m (k + 1) t (up x b) O S P W L :=
  ⟨h.both.turn hr ht h.both.doc h.both.log h.both.dat h.both.asl, (ht.block xb (Array.getElem?_eq_some_iff.1 h.var).1 (.inr h.lo.2.1)).trans h.var, h.bel.trans ((ht.below (by have := h.both.ram.hi; have := h.lo; omega)).mono h.lo.1), h.lo, by have := h.tk; omega, by have := h.xk; have := up_le x b; omega, by have := h.nk; omega, by have := h.lk; omega⟩
theorem Play.more (h : Play wx wq B E C xb r vO vW vL now m k t x O S P W L) : Play wx wq B E C xb r vO vW vL now m (k + 1) t x O S P W L :=
  ⟨h.both, h.var, h.bel, h.lo, by have := h.tk; omega, by have := h.xk; omega, by have := h.nk; omega, by have := h.lk; omega⟩
theorem Play.xc (h : Play wx wq B E C xb r vO vW vL now m k t x O S P W L) (j : Nat) : wq.cell? ⟨xb, j, none⟩ = (#[vO, vW, .int .i64 (now : Int), vL] : Array Value)[j]? := cell_of_row wq xb j _ _ _ h.var
theorem Play.fx (h : Play wx wq B E C xb r vO vW vL now m k t x O S P W L) (j : Nat) : wq.frozen? ⟨xb, j, none⟩ = false := frozen_of_row wq xb j _ _ h.var
end
theorem countOne {B E r m t x : Nat} {O : List Int} {S P : List Nat} {q : Nat} (w : World) (h : RamAt B E w r m t x O S P) (hq : cnt O [0] = q) :
    Calls Try.prog 17 #[.pointer (some ⟨r, 0, none⟩), .slice (some ⟨w.heap.size, 0, none⟩) 1 1] (w.alloc (.cells #[.int .i64 0] 3)).drew fun e w' => e = .returned (.int .i64 (q : Nat)) ∧ Below w.heap.size w w' := by
  have ba : Below w.heap.size w (w.alloc (.cells #[.int .i64 0] 3)).drew := ((Below.refl _ w).alloc (Nat.le_refl _) _).trans (drew_below _ _)
  have hi : IntsAt .i64 (w.alloc (.cells #[.int .i64 0] 3)).drew (some ⟨w.heap.size, 0, none⟩) [0] := IntsAt.made w [0] _ rfl
  refine (ramCount_any _ 1 1 [0] _ (h.below ba) hi rfl (by omega)).mono ?_
  rintro e w' ⟨rfl, b2⟩
  exact ⟨by rw [hq], ba.trans (b2.mono ba.size)⟩
/-- What stands behind a step. -/
def Aft (wx : World) (B E C xb r now m t x len : Nat) (X : Array Value) (p b f : Value) (wz : World) : Prop :=
  ∃ (yb : Nat) (vO vW vL : Value) (now2 t2 : Nat) (O : List Int) (S P : List Nat) (W : List Int) (L : List Wt) (b2 : Bool), p = .pointer (some ⟨yb, 0, none⟩) ∧ b = .bool b2 ∧ f = .bool true ∧
    Both B E C wz r vO vW vL now2 m t2 (up x b2) O S P W L ∧ wz.heap[yb]? = some (.cells #[vO, vW, .int .i64 (now2 : Int), vL] 45 (0, 0)) ∧ wz.heap[xb]? = some (.cells X 45 (0, 0)) ∧
    (xb ≠ yb ∧ E ≤ yb) ∧ Below wx.heap.size wx wz ∧ t2 ≤ t + 1 ∧ now2 ≤ now + 1 ∧ L.length ≤ len + 1

set_option maxRecDepth 100000 in
set_option maxHeartbeats 8000000 in
theorem run (n : Int) (a : Option Addr) (L c : Nat) (D : Nat → Dd) (w : World) (hL : L ≤ maxLen) (hds : DeedsAt w a L D) :
    Calls Try.prog 3 #[.int .i64 n, .slice a L c] w fun e w' => e = .returned (.bool true) ∧ Below w.heap.size w w' := by
  have HDS : Hid (DeedsAt w a L D) := hds
  have HLM : Hid (L ≤ maxLen) := hL
  unfold maxLen at hL
  clear hds
  go_enter Try.func3, Try.ntmps3
  go_wp2_with fail
  refine (nilRead _).mono ?_
  rintro e w1 ⟨rfl, b1⟩
  have HB1 : Hid (Below w.heap.size w w1) := b1
  clear b1
  go_wp2_with fail
  refine (nilWord _).mono ?_
  rintro e w2 ⟨rfl, b2⟩
  have HB2 : Hid (Below w.heap.size w w2) := HB1.out.trans (b2.mono HB1.out.size)
  clear b2
  go_wp2_with fail
  refine (nilTake _).mono ?_
  rintro e w3 ⟨rfl, b3⟩
  have HB3 : Hid (Below w.heap.size w w3) := HB2.out.trans (b3.mono HB2.out.size)
  clear b3
  go_wp2_with fail
  refine (nilWrite _).mono ?_
  rintro e w4 ⟨rfl, b4⟩
  have HB4 : Hid (Below w.heap.size w w4) := HB3.out.trans (b4.mono HB3.out.size)
  clear b4
  go_wp2_with fail
  refine (nilSet _).mono ?_
  rintro e w5 ⟨rfl, b5⟩
  have HB5 : Hid (Below w.heap.size w w5) := HB4.out.trans (b5.mono HB4.out.size)
  clear b5
  go_wp2_with fail
  refine (nilTouches _).mono ?_
  rintro e w6 ⟨rfl, b6⟩
  have HB6 : Hid (Below w.heap.size w w6) := HB5.out.trans (b6.mono HB5.out.size)
  clear b6 HB1 HB2 HB3 HB4 HB5
  go_wp2_with fail
  by_cases hbad : n < 8 ∨ 96 < n
  · refine (ramNew_bad n hbad _).mono ?_
    rintro e w7 ⟨rfl, rfl⟩
    rcases hbad with hbad | hbad
    all_goals
      go_wp2_with fail
      refine (lives_any _).mono ?_
      rintro e w7 ⟨rfl, hb⟩
      have hb2 := HB6.out.trans (hb.mono HB6.out.size)
      clear hb
      go_wp2
      go_ret
      exact ⟨rfl, hb2⟩
  obtain ⟨m, rfl⟩ := Int.eq_ofNat_of_zero_le (show 0 ≤ n by omega)
  refine (ramNew_any m (by omega) (by omega) _).mono ?_
  rintro e w7 ⟨r, rfl, h7, b7⟩
  have HDX : Hid (DeedsAt w6 a L D) := HDS.out.below HB6.out
  have H7 : Hid (RamAt w6.heap.size w7.heap.size w7 r m 0 0 (List.replicate m 0) (down m) (List.replicate (m * 4096) 0)) := h7
  have HB7 : Hid (Below w6.heap.size w6 w7) := b7
  have HDX7 : Hid (DeedsAt w7 a L D) := HDX.out.below b7
  have hm1 : 8 ≤ m := by omega
  have hm2 : m ≤ 96 := by omega
  clear h7 b7 hbad
  have i1 : ¬ (m : Int) < 8 := by omega
  have i2 : ¬ (96 : Int) < (m : Int) := by omega
  go_wp2_with fail
  refine (great_any a L c D w7 HLM.out HDX7.out).mono ?_
  rintro e w' ⟨v, rfl, rfl, b, rfl, hg⟩
  cases b with
  | true =>
    clear hg
    go_wp2_with fail
    refine (lives_any _).mono ?_
    rintro e w8 ⟨rfl, hb⟩
    have hb2 := HB6.out.trans ((HB7.out.trans (hb.mono HB7.out.size)).mono HB6.out.size)
    clear hb
    go_wp2
    go_ret
    exact ⟨rfl, hb2⟩
  | false =>
    have hL60 := hg rfl
    clear hg
    go_wp2_with fail
    refine (refNew6_any m hm2 _).mono ?_
    rintro e w8 ⟨vO, vW, rfl, hd8, b8⟩
    obtain ⟨aO, cO, rfl⟩ := row_slice hd8.rO
    obtain ⟨aW, cW, rfl⟩ := row_slice hd8.rW
    have b9 : Below w8.heap.size w8 (w8.alloc (.cells #[.slice aO m cO, .slice aW m cW, .int .i64 (m : Int), .slice none 0 0] 45)) := (Below.refl _ w8).alloc (Nat.le_refl _) _
    have HP : Hid (Play w6 (w8.alloc (.cells #[.slice aO m cO, .slice aW m cW, .int .i64 (m : Int), .slice none 0 0] 45)) w6.heap.size w7.heap.size w7.heap.size w8.heap.size r (.slice aO m cO) (.slice aW m cW) (.slice none 0 0) m m 0 0 0 (List.replicate m 0) (down m) (List.replicate (m * 4096) 0) (dates m m) []) := by
      have e1 := b8.size
      have e2 := HB7.out.size
      refine ⟨⟨(H7.out.below b8).below b9, hd8.below b9, LogAt.nil _ _, Dated.start m, AsLog.start _ _, Nat.le_refl _, by have := b9.size; omega⟩, heap_alloc_new w8 _, (HB7.out.trans (b8.mono e2)).trans (b9.mono (by omega)), by omega, Nat.le_refl _, Nat.le_refl _, by omega, by simp⟩
    clear hd8 b8 b9
    go_upto_region 13 with (fail)
    generalize w8.alloc (.cells #[.slice aO m cO, .slice aW m cW, .int .i64 (m : Int), .slice none 0 0] 45) = w9 at *
    generalize w8.heap.size = xb at *
    generalize List.replicate m (0 : Int) = O0 at *
    generalize down m = S0 at *
    generalize List.replicate (m * 4096) (0 : Nat) = P0 at *
    generalize dates m m = W0 at *
    have HE7 : Hid (w6.heap.size ≤ w7.heap.size) := HB7.out.size
    generalize w7.heap.size = E at *
    clear H7 HDX7
    go_wp2_with fail
    go_loopg [15, 16, 17, 18, 19] L (fun gk ts i _ _ _ wq => ∃ (k t x now : Nat) (vO vW vL : Value) (O : List Int) (S P : List Nat) (W : List Int) (Lg : List Wt), k ≤ L ∧ gk = L - k ∧ i = .int .i64 k ∧ ts = .int .i64 x ∧ Play w6 wq w6.heap.size E E xb r vO vW vL now m k t x O S P W Lg)
    case atStart => exact ⟨0, 0, 0, m, _, _, _, _, _, _, _, _, Nat.zero_le _, rfl, rfl, rfl, HP.out⟩
    case round =>
      obtain ⟨k, t, x, now, vO, vW, vL, O, S, P, W, Lg, hk, rfl, rfl, rfl, hP⟩ := hrel
      by_cases hlt : k < L
      · obtain ⟨bz, off, rfl, hbz, d0, d1, d2, d3, d4, d5⟩ := HDX.out.later hP.bel hlt
        have HOK : Hid (DeedOk w6 (D k)) := HDX.out.ok hlt
        generalize D k = dk at *
        have i3 : (k : Int) < (L : Int) := by omega
        obtain ⟨aO, cO, rfl⟩ := row_slice hP.both.doc.rO
        obtain ⟨aW, cW, rfl⟩ := row_slice hP.both.doc.rW
        obtain ⟨aL, cL, rfl⟩ := row_slice hP.both.log.row
        have HP1 : Hid (Play w6 wr w6.heap.size E E xb r (.slice aO m cO) (.slice aW m cW) (.slice aL Lg.length cL) now m k t x O S P W Lg) := hP
        have htk := hP.tk
        have hxk := hP.xk
        have hnk := hP.nk
        have hlk := hP.lk
        have x0 : wr.cell? ⟨xb, 0, none⟩ = some (.slice aO m cO) := hP.xc 0
        have x1 : wr.cell? ⟨xb, 1, none⟩ = some (.slice aW m cW) := hP.xc 1
        have x2 : wr.cell? ⟨xb, 2, none⟩ = some (.int .i64 (now : Int)) := hP.xc 2
        have x3 : wr.cell? ⟨xb, 3, none⟩ = some (.slice aL Lg.length cL) := hP.xc 3
        have HBDa : Hid (Both w6.heap.size E E wr.drew r (.slice aO m cO) (.slice aW m cW) (.slice aL Lg.length cL) now m t x O S P W Lg) := hP.both.below (drew_below _ _)
        have HBWa : Hid (Below w6.heap.size w6 wr.drew) := hP.bel.trans (drew_below _ _)
        have HVXa : Hid (wr.drew.heap[xb]? = some (.cells #[.slice aO m cO, .slice aW m cW, .int .i64 (now : Int), .slice aL Lg.length cL] 45 (0, 0))) := hP.var
        have bal : Below wr.heap.size wr (wr.alloc (.cells #[.slice none 0 0, .slice none 0 0, .int .i64 0, .slice none 0 0] 45)).drew := ((Below.refl _ wr).alloc (Nat.le_refl _) _).trans (drew_below _ _)
        have HBDb : Hid (Both w6.heap.size E E (wr.alloc (.cells #[.slice none 0 0, .slice none 0 0, .int .i64 0, .slice none 0 0] 45)).drew r (.slice aO m cO) (.slice aW m cW) (.slice aL Lg.length cL) now m t x O S P W Lg) := hP.both.below bal
        have HBWb : Hid (Below w6.heap.size w6 (wr.alloc (.cells #[.slice none 0 0, .slice none 0 0, .int .i64 0, .slice none 0 0] 45)).drew) := hP.bel.trans (bal.mono hP.bel.size)
        have HVXb : Hid ((wr.alloc (.cells #[.slice none 0 0, .slice none 0 0, .int .i64 0, .slice none 0 0] 45)).drew.heap[xb]? = some (.cells #[.slice aO m cO, .slice aW m cW, .int .i64 (now : Int), .slice aL Lg.length cL] 45 (0, 0))) := (bal.block xb (Array.getElem?_eq_some_iff.1 hP.var).1).trans hP.var
        have HYA : Hid ((wr.alloc (.cells #[.slice none 0 0, .slice none 0 0, .int .i64 0, .slice none 0 0] 45)).drew.heap[wr.heap.size]? = some (.cells #[.slice none 0 0, .slice none 0 0, .int .i64 0, .slice none 0 0] 45 (0, 0))) := heap_alloc_new wr _
        have HEW : Hid (E ≤ wr.heap.size) := hP.both.ram.hi.1
        have HLO : Hid (w6.heap.size ≤ w6.heap.size ∧ E ≤ xb ∧ w6.heap.size ≤ E) := hP.lo
        have HBL : Hid (Below w6.heap.size w6 wr) := hP.bel
        have HDC : Hid (∀ w2, Below w6.heap.size w6 w2 → w2.cell? ⟨bz, off + k * 6, none⟩ = some (.int .i64 dk.K) ∧ w2.cell? ⟨bz, off + k * 6 + 1, none⟩ = some (.int .i64 dk.N) ∧ w2.cell? ⟨bz, off + k * 6 + 2, none⟩ = some (.int .i64 dk.A) ∧ w2.cell? ⟨bz, off + k * 6 + 3, none⟩ = some (.int .i64 dk.Z) ∧ w2.cell? ⟨bz, off + k * 6 + 4, none⟩ = some (.int .u64 (dk.V : Int)) ∧ w2.cell? ⟨bz, off + k * 6 + 5, none⟩ = some (.slice dk.p dk.l dk.c)) := by
          intro w2 hb2
          have hcl : ∀ q : Addr, q.block < w6.heap.size → w2.cell? q = wr.cell? q := fun q hq => (hb2.cell (p := q) hq).trans (HBL.out.cell (p := q) hq).symm
          exact ⟨(hcl ⟨bz, off + k * 6, none⟩ hbz).trans d0, (hcl ⟨bz, off + k * 6 + 1, none⟩ hbz).trans d1, (hcl ⟨bz, off + k * 6 + 2, none⟩ hbz).trans d2, (hcl ⟨bz, off + k * 6 + 3, none⟩ hbz).trans d3, (hcl ⟨bz, off + k * 6 + 4, none⟩ hbz).trans d4, (hcl ⟨bz, off + k * 6 + 5, none⟩ hbz).trans d5⟩
        have HBZ : Hid (bz < w6.heap.size) := hbz
        have nxw : xb ≠ wr.heap.size := by have := (Array.getElem?_eq_some_iff.1 hP.var).1; omega
        have nxw2 : xb < wr.heap.size := (Array.getElem?_eq_some_iff.1 hP.var).1
        have nbw : bz < wr.heap.size := Nat.lt_of_lt_of_le hbz hP.bel.size
        have nbw2 : bz ≠ wr.heap.size := Nat.ne_of_lt nbw
        clear hP HP bal
        go_upto_region 17 with (fail)
        go_cut [17, 18, 19] (fun p b f wz => Aft w6 w6.heap.size E E xb r now m t x Lg.length #[.slice aO m cO, .slice aW m cW, .int .i64 (now : Int), .slice aL Lg.length cL] p b f wz)
        case first =>
          go_region_held3 (fun w2 => w2.cell? ⟨xb, 0, none⟩ = some (.slice aO m cO) ∧ w2.cell? ⟨xb, 1, none⟩ = some (.slice aW m cW) ∧ w2.cell? ⟨xb, 2, none⟩ = some (.int .i64 (now : Int)) ∧ w2.cell? ⟨xb, 3, none⟩ = some (.slice aL Lg.length cL) ∧ w2.cell? ⟨bz, off + k * 6, none⟩ = some (.int .i64 dk.K) ∧ w2.cell? ⟨bz, off + k * 6 + 1, none⟩ = some (.int .i64 dk.N) ∧ w2.cell? ⟨bz, off + k * 6 + 2, none⟩ = some (.int .i64 dk.A) ∧ w2.cell? ⟨bz, off + k * 6 + 3, none⟩ = some (.int .i64 dk.Z) ∧ w2.cell? ⟨bz, off + k * 6 + 4, none⟩ = some (.int .u64 (dk.V : Int)) ∧ w2.cell? ⟨bz, off + k * 6 + 5, none⟩ = some (.slice dk.p dk.l dk.c)) (first | (go_keep; done) | (simp only [cell_res4 nxw, cell_res4 nbw2]; first | done | (go_keep; done))) (first | (go_at_call 16; refine (step_any dk w6 _ HBDb.out HOK.out HBWb.out (Nat.le_refl _) (by omega) (by omega) (by omega) (by omega)).mono ?_; rintro e w2 ⟨vO2, vW2, vL2, now2, t2, O2, S2, P2, W2, L2, b2, rfl, hB2, hT2, ht2, hn2, hl2⟩; obtain ⟨aO2, cO2, rfl⟩ := row_slice hB2.doc.rO; obtain ⟨aW2, cW2, rfl⟩ := row_slice hB2.doc.rW; obtain ⟨aL2, cL2, rfl⟩ := row_slice hB2.log.row; have HB2b : Hid _ := hB2; have HT2 : Hid _ := hT2; have HX2 : Hid (w2.heap[xb]? = some (.cells #[.slice aO m cO, .slice aW m cW, .int .i64 (now : Int), .slice aL Lg.length cL] 45 (0, 0))) := (hT2.block xb (Array.getElem?_eq_some_iff.1 HVXb.out).1 (.inr HLO.out.2.1)).trans HVXb.out; have HW2 : Hid (Below w6.heap.size w6 w2) := HBWb.out.trans (hT2.below HBWb.out.size); have z0 : w2.cell? ⟨xb, 0, none⟩ = some (.slice aO m cO) := cell_of_row w2 xb 0 _ _ _ HX2.out; have z1 : w2.cell? ⟨xb, 1, none⟩ = some (.slice aW m cW) := cell_of_row w2 xb 1 _ _ _ HX2.out; have z2 : w2.cell? ⟨xb, 2, none⟩ = some (.int .i64 (now : Int)) := cell_of_row w2 xb 2 _ _ _ HX2.out; have z3 : w2.cell? ⟨xb, 3, none⟩ = some (.slice aL Lg.length cL) := cell_of_row w2 xb 3 _ _ _ HX2.out; obtain ⟨e0, e1, e2, e3, e4, e5⟩ := HDC.out w2 HW2.out; have nx : xb < w2.heap.size := (Array.getElem?_eq_some_iff.1 HX2.out).1; have nx2 : xb ≠ w2.heap.size := Nat.ne_of_lt nx; have nb : bz < w2.heap.size := Nat.lt_of_lt_of_le HBZ.out HW2.out.size; have nb2 : bz ≠ w2.heap.size := Nat.ne_of_lt nb; have HY2 : Hid (w2.heap[wr.heap.size]? = some (.cells #[.slice none 0 0, .slice none 0 0, .int .i64 0, .slice none 0 0] 45 (0, 0))) := (hT2.block wr.heap.size (Array.getElem?_eq_some_iff.1 HYA.out).1 (.inr HEW.out)).trans HYA.out; have q0 : w2.cell? ⟨wr.heap.size, 0, none⟩ = some (.slice none 0 0) := cell_of_row w2 wr.heap.size 0 _ _ _ HY2.out; have q1 : w2.cell? ⟨wr.heap.size, 1, none⟩ = some (.slice none 0 0) := cell_of_row w2 wr.heap.size 1 _ _ _ HY2.out; have q2 : w2.cell? ⟨wr.heap.size, 2, none⟩ = some (.int .i64 0) := cell_of_row w2 wr.heap.size 2 _ _ _ HY2.out; have q3 : w2.cell? ⟨wr.heap.size, 3, none⟩ = some (.slice none 0 0) := cell_of_row w2 wr.heap.size 3 _ _ _ HY2.out; have g0 : w2.frozen? ⟨wr.heap.size, 0, none⟩ = false := frozen_of_row w2 _ 0 _ _ HY2.out; have g1 : w2.frozen? ⟨wr.heap.size, 1, none⟩ = false := frozen_of_row w2 _ 1 _ _ HY2.out; have g2 : w2.frozen? ⟨wr.heap.size, 2, none⟩ = false := frozen_of_row w2 _ 2 _ _ HY2.out; have g3 : w2.frozen? ⟨wr.heap.size, 3, none⟩ = false := frozen_of_row w2 _ 3 _ _ HY2.out; clear hB2 hT2) | (go_at_call 16; refine (step_any dk w6 _ HBDa.out HOK.out HBWa.out (Nat.le_refl _) (by omega) (by omega) (by omega) (by omega)).mono ?_; rintro e w2 ⟨vO2, vW2, vL2, now2, t2, O2, S2, P2, W2, L2, b2, rfl, hB2, hT2, ht2, hn2, hl2⟩; obtain ⟨aO2, cO2, rfl⟩ := row_slice hB2.doc.rO; obtain ⟨aW2, cW2, rfl⟩ := row_slice hB2.doc.rW; obtain ⟨aL2, cL2, rfl⟩ := row_slice hB2.log.row; have HB2a : Hid _ := hB2; have HT2 : Hid _ := hT2; have HX2 : Hid (w2.heap[xb]? = some (.cells #[.slice aO m cO, .slice aW m cW, .int .i64 (now : Int), .slice aL Lg.length cL] 45 (0, 0))) := (hT2.block xb (Array.getElem?_eq_some_iff.1 HVXa.out).1 (.inr HLO.out.2.1)).trans HVXa.out; have HW2 : Hid (Below w6.heap.size w6 w2) := HBWa.out.trans (hT2.below HBWa.out.size); have z0 : w2.cell? ⟨xb, 0, none⟩ = some (.slice aO m cO) := cell_of_row w2 xb 0 _ _ _ HX2.out; have z1 : w2.cell? ⟨xb, 1, none⟩ = some (.slice aW m cW) := cell_of_row w2 xb 1 _ _ _ HX2.out; have z2 : w2.cell? ⟨xb, 2, none⟩ = some (.int .i64 (now : Int)) := cell_of_row w2 xb 2 _ _ _ HX2.out; have z3 : w2.cell? ⟨xb, 3, none⟩ = some (.slice aL Lg.length cL) := cell_of_row w2 xb 3 _ _ _ HX2.out; obtain ⟨e0, e1, e2, e3, e4, e5⟩ := HDC.out w2 HW2.out; have nx : xb < w2.heap.size := (Array.getElem?_eq_some_iff.1 HX2.out).1; have nx2 : xb ≠ w2.heap.size := Nat.ne_of_lt nx; have nb : bz < w2.heap.size := Nat.lt_of_lt_of_le HBZ.out HW2.out.size; have nb2 : bz ≠ w2.heap.size := Nat.ne_of_lt nb; clear hB2 hT2))
          all_goals go_wp2
          all_goals go_meet
          · have bal : Below w2.heap.size w2 (w2.alloc (.cells #[.slice aO2 m cO2, .slice aW2 m cW2, .int .i64 (now2 : Int), .slice aL2 L2.length cL2] 45)) := (Below.refl _ w2).alloc (Nat.le_refl _) _
            exact ⟨_, _, _, _, _, _, _, _, _, _, _, b2, rfl, rfl, rfl, HB2a.out.below bal, heap_alloc_new w2 _, (bal.block xb nx).trans HX2.out, ⟨nx2, by have := HB2a.out.ram.hi; omega⟩, HW2.out.trans (bal.mono HW2.out.size), ht2, hn2, hl2⟩
          · exact ⟨_, _, _, _, _, _, _, _, _, _, _, b2, rfl, rfl, rfl, HB2b.out.tag HY2.out HEW.out (by simp) (fun g hg => res4_block hg), res4_kept HY2.out, by rw [res4_block nxw]; exact HX2.out, ⟨nxw, HEW.out⟩, res4_below HW2.out (by have := HBL.out.size; omega), ht2, hn2, hl2⟩
        case rest =>
          obtain ⟨yb, vO2, vW2, vL2, now2, t2, O2, S2, P2, W2, L2, b2, rfl, rfl, rfl, hB2, hY2, hX2, ⟨hxy, hey⟩, hbl2, ht2, hn2, hl2⟩ := hcut
          obtain ⟨aO2, cO2, rfl⟩ := row_slice hB2.doc.rO
          obtain ⟨aW2, cW2, rfl⟩ := row_slice hB2.doc.rW
          obtain ⟨aL2, cL2, rfl⟩ := row_slice hB2.log.row
          generalize wc = w2 at *
          have HB2 : Hid (Both w6.heap.size E E w2 r (.slice aO2 m cO2) (.slice aW2 m cW2) (.slice aL2 L2.length cL2) now2 m t2 (up x b2) O2 S2 P2 W2 L2) := hB2
          have HY2 : Hid (w2.heap[yb]? = some (.cells #[.slice aO2 m cO2, .slice aW2 m cW2, .int .i64 (now2 : Int), .slice aL2 L2.length cL2] 45 (0, 0))) := hY2
          have HX2 : Hid (w2.heap[xb]? = some (.cells #[.slice aO m cO, .slice aW m cW, .int .i64 (now : Int), .slice aL Lg.length cL] 45 (0, 0))) := hX2
          have HBL2 : Hid (Below w6.heap.size w6 w2) := hbl2
          have HXY : Hid (xb ≠ yb) := hxy
          have hux := up_le x b2
          obtain ⟨y2, hy2⟩ : ∃ y2, up x b2 = y2 := ⟨_, rfl⟩
          have HYE : Hid (up x b2 = y2) := hy2
          rw [hy2] at HB2 hux
          clear hB2 hY2 hX2 hxy hbl2 hy2 x0 x1 x2 x3 d0 d1 d2 d3 d4 d5 HBDa HBDb HBWa HBWb HVXa HVXb HYA
          go_upto_if 129 with (fail)
          go_cut [15] (fun c wz => c = .int .i64 (y2 : Nat) ∧ wz = w2)
          case first =>
            cases b2 with
            | false =>
              have e9 : y2 = x := by rw [← HYE.out]; rfl
              subst e9
              go_wp2
              go_meet
              exact ⟨rfl, rfl⟩
            | true =>
              have e9 : y2 = x + 1 := by rw [← HYE.out]; rfl
              subst e9
              go_wp2
              go_meet
              exact ⟨by go_num, rfl⟩
          case rest =>
            obtain ⟨rfl, rfl⟩ := hcut
            go_upto_region 20 with (fail)
            obtain ⟨q, hq⟩ : ∃ q, (ofL O2 0).length = q := ⟨_, rfl⟩
            have HOQ : Hid ((ofL O2 0).length = q) := hq
            have HCN : Hid (cnt O2 [0] = q) := by show _ = _; rw [cnt_one]; exact hq
            have hyy : ((y2 : Int) != (y2 : Int)) = false := by simp
            have hqq : ((q : Int) != (q : Int)) = false := by simp
            have HR0 : Hid (RamAt w6.heap.size E wc.drew r m t2 y2 O2 S2 P2) := HB2.out.ram.below (drew_below _ _)
            have v0 : wc.cell? ⟨yb, 0, none⟩ = some (.slice aO2 m cO2) := cell_of_row wc yb 0 _ _ _ HY2.out
            have v1 : wc.cell? ⟨yb, 1, none⟩ = some (.slice aW2 m cW2) := cell_of_row wc yb 1 _ _ _ HY2.out
            have v2 : wc.cell? ⟨yb, 2, none⟩ = some (.int .i64 (now2 : Int)) := cell_of_row wc yb 2 _ _ _ HY2.out
            have nyw : yb < wc.heap.size := (Array.getElem?_eq_some_iff.1 HY2.out).1
            have nyw2 : yb ≠ wc.heap.size := Nat.ne_of_lt nyw
            clear hq
            first | (go_region_held3 (fun w' => w'.cell? ⟨yb, 0, none⟩ = some (.slice aO2 m cO2) ∧ w'.cell? ⟨yb, 1, none⟩ = some (.slice aW2 m cW2) ∧ w'.cell? ⟨yb, 2, none⟩ = some (.int .i64 (now2 : Int))) (go_keep) (first
              | (go_at_call 11; refine (ramTouches_any _ HR0.out).mono ?_; rintro e wt ⟨rfl, rfl⟩)
              | (go_at_call 17; refine (countOne wc HB2.out.ram HCN.out).mono ?_; rintro e w4 ⟨rfl, b4⟩; have HB4 : Hid (Both w6.heap.size E E w4 r (.slice aO2 m cO2) (.slice aW2 m cW2) (.slice aL2 L2.length cL2) now2 m t2 y2 O2 S2 P2 W2 L2) := HB2.out.below b4; have HY4 : Hid (w4.heap[yb]? = some (.cells #[.slice aO2 m cO2, .slice aW2 m cW2, .int .i64 (now2 : Int), .slice aL2 L2.length cL2] 45 (0, 0))) := (b4.block yb nyw).trans HY2.out; have HX4 : Hid (w4.heap[xb]? = some (.cells #[.slice aO m cO, .slice aW m cW, .int .i64 (now : Int), .slice aL Lg.length cL] 45 (0, 0))) := (b4.block xb (Array.getElem?_eq_some_iff.1 HX2.out).1).trans HX2.out; have HL4 : Hid (Below w6.heap.size w6 w4) := HBL2.out.trans (b4.mono HBL2.out.size); have g0 : w4.cell? ⟨yb, 0, none⟩ = some (.slice aO2 m cO2) := cell_of_row w4 yb 0 _ _ _ HY4.out; have g1 : w4.cell? ⟨yb, 1, none⟩ = some (.slice aW2 m cW2) := cell_of_row w4 yb 1 _ _ _ HY4.out; have g2 : w4.cell? ⟨yb, 2, none⟩ = some (.int .i64 (now2 : Int)) := cell_of_row w4 yb 2 _ _ _ HY4.out; clear b4)
              | (go_at_call 18; refine (refOf_any now2 0 w4 HB4.out.doc hm2).mono ?_; rintro e w5 ⟨v5, rfl, own5, b5⟩; rw [HOQ.out] at own5; obtain ⟨a5, c5, rfl⟩ := row_slice own5; have HB5 : Hid (Both w6.heap.size E E w5 r (.slice aO2 m cO2) (.slice aW2 m cW2) (.slice aL2 L2.length cL2) now2 m t2 y2 O2 S2 P2 W2 L2) := HB4.out.below b5; have HY5 : Hid (w5.heap[yb]? = some (.cells #[.slice aO2 m cO2, .slice aW2 m cW2, .int .i64 (now2 : Int), .slice aL2 L2.length cL2] 45 (0, 0))) := (b5.block yb (Array.getElem?_eq_some_iff.1 HY4.out).1).trans HY4.out; have HX5 : Hid (w5.heap[xb]? = some (.cells #[.slice aO m cO, .slice aW m cW, .int .i64 (now : Int), .slice aL Lg.length cL] 45 (0, 0))) := (b5.block xb (Array.getElem?_eq_some_iff.1 HX4.out).1).trans HX4.out; have HL5 : Hid (Below w6.heap.size w6 w5) := HL4.out.trans (b5.mono HL4.out.size); have h0 : w5.cell? ⟨yb, 0, none⟩ = some (.slice aO2 m cO2) := cell_of_row w5 yb 0 _ _ _ HY5.out; have h1 : w5.cell? ⟨yb, 1, none⟩ = some (.slice aW2 m cW2) := cell_of_row w5 yb 1 _ _ _ HY5.out; have h2 : w5.cell? ⟨yb, 2, none⟩ = some (.int .i64 (now2 : Int)) := cell_of_row w5 yb 2 _ _ _ HY5.out; have h3 : w5.cell? ⟨yb, 3, none⟩ = some (.slice aL2 L2.length cL2) := cell_of_row w5 yb 3 _ _ _ HY5.out; clear own5 b5))) | (fail "the region")
            all_goals
              have j0 : w5.cell? ⟨xb, 0, none⟩ = some (.slice aO m cO) := cell_of_row w5 xb 0 _ _ _ HX5.out
              have j1 : w5.cell? ⟨xb, 1, none⟩ = some (.slice aW m cW) := cell_of_row w5 xb 1 _ _ _ HX5.out
              have j2 : w5.cell? ⟨xb, 2, none⟩ = some (.int .i64 (now : Int)) := cell_of_row w5 xb 2 _ _ _ HX5.out
              have j3 : w5.cell? ⟨xb, 3, none⟩ = some (.slice aL Lg.length cL) := cell_of_row w5 xb 3 _ _ _ HX5.out
              have fj0 : w5.frozen? ⟨xb, 0, none⟩ = false := frozen_of_row w5 xb 0 _ _ HX5.out
              have fj1 : w5.frozen? ⟨xb, 1, none⟩ = false := frozen_of_row w5 xb 1 _ _ HX5.out
              have fj2 : w5.frozen? ⟨xb, 2, none⟩ = false := frozen_of_row w5 xb 2 _ _ HX5.out
              have fj3 : w5.frozen? ⟨xb, 3, none⟩ = false := frozen_of_row w5 xb 3 _ _ HX5.out
              go_wp2
              go_roundg (L - (k + 1))
              case measure => omega
              case rel =>
                exact ⟨k + 1, t2, y2, now2, _, _, _, O2, S2, P2, W2, L2, by omega, rfl, by go_num, rfl, HB5.out.tag HX5.out HLO.out.2.1 (by simp) (fun g hg => res4_block hg), res4_kept HX5.out, res4_below HL5.out (by have := HLO.out; omega), HLO.out, by omega, by omega, by omega, by omega⟩
      · have e : k = L := by omega
        have i3 : ¬ (k : Int) < (L : Int) := by omega
        have HP1 : Hid (Play w6 wr w6.heap.size E E xb r vO vW vL now m k t x O S P W Lg) := hP
        obtain ⟨aO, cO, rfl⟩ := row_slice hP.both.doc.rO
        obtain ⟨aW, cW, rfl⟩ := row_slice hP.both.doc.rW
        obtain ⟨aL, cL, rfl⟩ := row_slice hP.both.log.row
        have HOL : Hid (O.length = m) := hP.both.ram.good.len
        clear hP HP e
        go_wp2_with fail
        go_loopg [20, 21, 22] m (fun gk i _ _ wq => ∃ n y : Nat, n ≤ m ∧ gk = m - n ∧ i = .int .i64 n ∧ Play w6 wq w6.heap.size E E xb r (.slice aO m cO) (.slice aW m cW) (.slice aL Lg.length cL) now m (k + n) t y O S P W Lg)
        case atStart => exact ⟨0, x, Nat.zero_le _, rfl, rfl, HP1.out⟩
        case round =>
          obtain ⟨n, y, hn, rfl, rfl, hQ⟩ := hrel
          have HQ : Hid (Play w6 wr w6.heap.size E E xb r (.slice aO m cO) (.slice aW m cW) (.slice aL Lg.length cL) now m (k + n) t y O S P W Lg) := hQ
          by_cases hlt2 : n < m
          · have i4 : (n : Int) < (m : Int) := by omega
            have x0 : wr.cell? ⟨xb, 0, none⟩ = some (.slice aO m cO) := hQ.xc 0
            obtain ⟨g1, rfl, cK, _⟩ := row_at hQ.both.doc.rO hlt2
            rw [zv_at O n (by rw [HOL.out]; exact hlt2)] at cK
            have hyk := hQ.xk
            clear hQ
            by_cases hq : O.getD n 0 = 0
            · rw [hq] at cK
              go_wp2
              go_roundg (m - (n + 1))
              case measure => omega
              case rel => exact ⟨n + 1, _, by omega, rfl, by go_num, HQ.out.more⟩
            · obtain ⟨hty, hal⟩ := all_yes (P := P) hq
              have hrd : rdL O P (n : Int) 0 4096 = rpL Lg n 0 4096 := hal.trans (by
                have := HQ.out.both.asl.read HQ.out.both.ram.len (a := 0) (s := 4096) hlt2 (by omega)
                simpa using this)
              have HTY : Hid (thB O (n : Int) 0 4096 = true) := hty
              have HRD : Hid (rdL O P (n : Int) 0 4096 = rpL Lg n 0 4096) := hrd
              generalize O.getD n 0 = q at *
              have hq1 : (q == 0) = false := by rw [beq_eq_false_iff_ne]; exact hq
              have hq2 : (q != 0) = true := by rw [bne_iff_ne]; exact hq
              clear hty hal hrd
              go_wp2_with fail
              refine (ramRead_any (n : Int) 0 4096 _ HQ.out.both.ram (by omega) (by omega) (by omega)).mono ?_
              rintro e w2 ⟨v2, rfl, own2, h2, t2⟩
              rw [HTY.out] at h2 ⊢
              rw [HRD.out] at own2
              have HQ2 : Hid (Play w6 w2 w6.heap.size E E xb r (.slice (some ⟨g1, 0, none⟩) m cO) (.slice aW m cW) (.slice aL Lg.length cL) now m (k + n + 1) t (up y true) O S P W Lg) := HQ.out.read h2 t2
              have HO2 : Hid (w2.ownsRow wr.heap.size 5 1 v2 (rpL Lg n 0 4096).length (bv (rpL Lg n 0 4096))) := own2
              obtain ⟨p2, c2, rfl⟩ := row_slice own2
              clear own2 h2 t2 x0 cK
              have x0 : w2.cell? ⟨xb, 0, none⟩ = some (.slice (some ⟨g1, 0, none⟩) m cO) := HQ2.out.xc 0
              have x1 : w2.cell? ⟨xb, 1, none⟩ = some (.slice aW m cW) := HQ2.out.xc 1
              have x2 : w2.cell? ⟨xb, 2, none⟩ = some (.int .i64 (now : Int)) := HQ2.out.xc 2
              have x3 : w2.cell? ⟨xb, 3, none⟩ = some (.slice aL Lg.length cL) := HQ2.out.xc 3
              go_wp2_with fail
              refine (refRead6_any n 0 4096 w2 HQ2.out.both.log (by have := HQ2.out.lk; omega) (by omega) (by omega) (by omega)).mono ?_
              rintro e w3 ⟨v3, rfl, own3, b3⟩
              have HC1 : Hid ((convert 24 9 (.slice p2 (rpL Lg n 0 4096).length c2)).run Try.prog w3 = .ok (.string (strB (rpL Lg n 0 4096))) w3) := conv_any (row_below HO2.out b3)
              have HC2 : Hid ((convert 24 9 v3).run Try.prog w3 = .ok (.string (strB (rpL Lg n 0 4096))) w3) := conv_any own3
              have HQ3 : Hid (Play w6 w3 w6.heap.size E E xb r (.slice (some ⟨g1, 0, none⟩) m cO) (.slice aW m cW) (.slice aL Lg.length cL) now m (k + n + 1) t (up y true) O S P W Lg) := HQ2.out.below b3
              obtain ⟨p3, c3, rfl⟩ := row_slice own3
              clear own3 b3 x0 x1 x2 x3
              go_wp2_with fail
              refine (refBytes_same _ _ (rpL Lg n 0 4096) _ HC1.out HC2.out).mono ?_
              rintro e w' ⟨rfl, rfl⟩
              go_wp2
              go_roundg (m - (n + 1))
              case measure => omega
              case rel => exact ⟨n + 1, _, by omega, rfl, by go_num, HQ3.out⟩
          · have i4 : ¬ (n : Int) < (m : Int) := by omega
            clear hQ
            go_wp2_with fail
            refine (lives_any _).mono ?_
            rintro e w2 ⟨rfl, b2⟩
            have hfin := HB6.out.trans ((HQ.out.bel.trans (b2.mono HQ.out.bel.size)).mono HB6.out.size)
            clear b2
            go_wp2
            go_ret
            exact ⟨rfl, hfin⟩

theorem walk {H : Type} {enc : TypeId × Value → H} {w : World} {base : Nat} {v0 v1 : Value} {d0 d1 : DataW H} {p0 p1 : List MemPlace}
    (o0 : Value.okWide Try.prog w .any base 3 v0) (o1 : Value.okWide Try.prog w .any base 22 v1)
    (h0 : DataW.Trod enc Try.prog w 0 (fun _ => true) true 3 v0 d0 p0) (h1 : DataW.Trod enc Try.prog w 0 (fun _ => true) true 22 v1 d1 p1) :
    Calls Try.prog 3 #[v0, v1] w fun e w' => e = .returned (.bool true) ∧ Below w.heap.size w w' := by
  obtain ⟨n, rfl, hn⟩ := openOne Try.underlying3 o0 h0
  obtain ⟨a, L, c, D, rfl, hL, hds⟩ := openDeeds Try.underlying22 Try.underlying50 (by kernel_rfl) (by kernel_rfl) Try.underlying3 Try.underlying3 Try.underlying3 Try.underlying3 Try.underlying27 Try.underlying24 Try.underlying5 (by kernel_rfl) o1 h1
  exact run n a L c D w hL hds

set_option maxRecDepth 100000 in
theorem lifted (os : Os) (started : os.Started) (H : Type) (enc : TypeId × Value → H) :
    ReturnsInHanded {} Try.checked os 3 .any (Rows.ramPlaysSpec.pre6 enc Try.prog Try.f3 Rows.ramPlaysRow.domain false) (Rows.ramPlaysSpec.post enc Try.prog Try.f3 false true false false) := by
  refine returnsInHanded_of_change (C := Try.checked) own started (by kernel_rfl) Try.func3
    (ChangeSpec.witness6 (enc := enc) (C := Try.checked) false ⟨#[], #[.int .i64 0, .slice none 0 0], []⟩ 8 (by kernel_rfl) (by kernel_rfl) (by kernel_rfl) (by kernel_rfl)) ?_
  intro W base args ds gs before hval0 hW hcnd _
  have hval : ∀ (j : Nat) t v, Try.f3.params[j]? = some t → args[j]? = some v → Value.okWide Try.prog W .any base t v := hval0
  have hW' := hW
  obtain ⟨p, q, hA0, hV, rfl, hfz, hnd⟩ := hW
  have hA : DataW.TrodAll enc Try.prog W 0 (fun _ => true) true Try.f3.params.toList args.toList ds p := hA0
  rw [Try.params3] at hA hval
  obtain ⟨v0, vs0, d0, ds0, p0, q0, hargs, rfl, rfl, h0, r0⟩ := trodAll_cons hA
  obtain ⟨v1, vs1, d1, ds1, p1, q1, rfl, rfl, rfl, h1, r1⟩ := trodAll_cons r0
  obtain ⟨rfl, rfl, rfl⟩ := trodAll_nil r1
  obtain rfl : args = #[v0, v1] := by cases args; simp_all
  obtain ⟨rfl, rfl⟩ := trodVars_none hV
  have o0 := hval 0 3 v0 rfl rfl
  have lt0 : ∀ x ∈ p0, x.block < W.heap.size := by obtain ⟨m, hm⟩ := h0; exact DataW.trod_lt m _ _ _ hm
  have o1 := hval 1 22 v1 rfl rfl
  have lt1 : ∀ x ∈ p1, x.block < W.heap.size := by obtain ⟨m, hm⟩ := h1; exact DataW.trod_lt m _ _ _ hm
  clear hA0 hval0
  refine (walk o0 o1 h0 h1).mono fun e W' ⟨he, bel⟩ => ?_
  subst he
  exact ⟨_, rfl, _, _, _, [], _, [], hW', trodAll_mk1 (shut_bool Try.underlying4 _), (trodAll_cons_mk (Below.trod laidOut (by kernel_rfl) (of_decide_eq_true (by kernel_rfl)) h0 bel lt0) (trodAll_cons_mk (Below.trod laidOut (by kernel_rfl) (of_decide_eq_true (by kernel_rfl)) h1 bel lt1) trodAll_mk0)), rfl, bel.frame _, fun h => by cases h⟩

theorem over : Rows.ramPlaysRow.holds Try.pinned (OpenSpec.ofChange Rows.ramPlaysSpec) :=
  OpenClaim.holds_of_wide 3 Try.f3 rfl rfl rfl rfl rfl rfl rfl ⟨rfl, rfl, rfl, rfl, rfl⟩ rfl rfl rfl rfl rfl (by kernel_rfl) Try.func3 (by kernel_rfl)
    (of_decide_eq_true (by kernel_rfl)) (by unfold Func.isWrapper; first | (rw [if_pos (by decide +kernel)]; kernel_rfl) | (rw [if_neg (by decide +kernel)]; exact ⟨rfl, rfl⟩))
    (fun os started H enc _ => lifted os started H enc)
end Go.Proofs.Yteebjeifbccbnaa.RamPlays
namespace Go.Proofs.Yteebjeifbccbnaa
/-- The statement. -/
theorem ramPlays_holds : Rows.RamPlaysSaid := RamPlays.over
#print axioms ramPlays_holds
end Go.Proofs.Yteebjeifbccbnaa
