/- Proved: gunnylaw09.SlotsPlays returns true for all ints, all lists of bools and all lists of deeds: what any calls of any number of slots answer, by any choices, which are in use, and how many accesses were asked for, is the document's; of slots that aren't there nothing is. No conditions. -/
import Derived.Test.YtacggabopdoijaaSPlaysR
namespace Go.Proofs.Ytacggabopdoijaa.SlotsPlays
open Go.ChangeShapes Go.WideShapes Go.ChangeAt Go.RowKit
set_option linter.unusedVariables false
theorem own : ownKnob Try.prog.godebug = none := by kernel_rfl
theorem laidOut : laidOutB Try.prog = true := by kernel_rfl

/-- A round's state. -/
structure Play (w0 wq : World) (Q E xb r m : Nat) (zs : List Bool) (j k : Nat) (x : List Bool) (pg : Nat → List Nat) (vz vL : Value) (L : List Pt) : Prop where
  both : Both Q E E w0 wq r m zs k x pg vL L
  var : wq.heap[xb]? = some (.cells #[.int .i64 (m : Int), vz, .int .i64 (k : Int), vL] 42 (0, 0))
  lo : E ≤ xb
  kj : k ≤ 8 * j
  lj : L.length ≤ j
theorem Play.xc {w0 wq : World} {Q E xb r m : Nat} {zs : List Bool} {j k : Nat} {x : List Bool} {pg : Nat → List Nat} {vz vL : Value} {L : List Pt} (h : Play w0 wq Q E xb r m zs j k x pg vz vL L) (i : Nat) : wq.cell? ⟨xb, i, none⟩ = (#[.int .i64 (m : Int), vz, .int .i64 (k : Int), vL] : Array Value)[i]? := cell_of_row wq xb i _ _ _ h.var
/-- What stands behind a step. -/
def Aft (w0 : World) (Q E xb r m : Nat) (zs : List Bool) (k len : Nat) (vz : Value) (X : Array Value) (p f : Value) (wz : World) : Prop :=
  ∃ yb k2 x2 pg2 vL2 L2, p = .pointer (some ⟨yb, 0, none⟩) ∧ f = .bool true ∧ Both Q E E w0 wz r m zs k2 x2 pg2 vL2 L2 ∧ wz.heap[yb]? = some (.cells #[.int .i64 (m : Int), vz, .int .i64 (k2 : Int), vL2] 42 (0, 0)) ∧ wz.heap[xb]? = some (.cells X 42 (0, 0)) ∧
    (xb ≠ yb ∧ E ≤ yb) ∧ k2 ≤ k + 8 ∧ L2.length ≤ len + 1

set_option maxRecDepth 100000 in
set_option maxHeartbeats 8000000 in
theorem run (many : Int) (a0 : Option Addr) (L0 c0 : Nat) (zs : List Bool) (a : Option Addr) (L c : Nat) (D : Nat → Dd) (w : World) (hL0 : L0 ≤ maxLen) (hz : BoolsAt w a0 L0 c0 zs) (hL : L ≤ maxLen) (hds : DeedsAt w a L D) :
    Calls Try.prog 3 #[.int .i64 many, .slice a0 L0 c0, .slice a L c] w fun e w' => e = .returned (.bool true) ∧ Below w.heap.size w w' := by
  have HDS : Hid (DeedsAt w a L D) := hds
  have HZ : Hid (BoolsAt w a0 L0 c0 zs) := hz
  have HL : Hid (L ≤ maxLen) := hL
  have hB0 : hasB [] 0 = false := by decide
  have HB0 : Hid (hasB [] 0 = false) := hB0
  have HF0 : Hid (frstB [] = false) := by show _ = _; decide
  unfold maxLen at hL hL0
  clear hds hz hB0
  go_enter Try.func3, Try.ntmps3
  go_wp2_with fail
  refine (filled_is 1 _).mono ?_
  rintro e w1 ⟨g1, rfl, _, b1⟩
  have B1 : Hid (Below w.heap.size w w1) := b1
  clear b1
  go_wp2_with fail
  refine (sPut_full (M := 0) w1 (UseP.no _) (SetP.no _ _) HF0.out).mono ?_
  rintro e w2 ⟨rfl, q2, rfl⟩
  have B2 : Hid (Below w.heap.size w (w1.drewN q2)) := B1.out.trans (drewN_below _ _ _)
  generalize w1.drewN q2 = w2 at *
  clear B1
  go_wp2_with fail
  refine (sPage_none (M := 0) 0 w2 (UseP.no _) (SetP.no _ _) HB0.out).mono ?_
  rintro e w3 ⟨rfl, q3, rfl⟩
  have B3 : Hid (Below w.heap.size w (w2.drewN q3)) := B2.out.trans (drewN_below _ _ _)
  generalize w2.drewN q3 = w3 at *
  clear B2
  go_wp2_with fail
  refine (sLook_none (M := 0) 0 w3 (UseP.no _) (SetP.no _ _) HB0.out).mono ?_
  rintro e w4 ⟨rfl, q4, rfl⟩
  have B4 : Hid (Below w.heap.size w (w3.drewN q4)) := B3.out.trans (drewN_below _ _ _)
  generalize w3.drewN q4 = w4 at *
  clear B3
  go_wp2_with fail
  refine (sDrop_any (M := 0) 0 w4 (UseP.no _) (SetP.no _ _)).mono ?_
  rw [HB0.out]
  rintro e w5 ⟨rfl, _, gr5⟩
  have B5 : Hid (Below w.heap.size w w5) := B4.out.grown gr5 B4.out.size (fun i hi => by cases hi)
  clear gr5 B4
  go_wp2_with fail
  refine (sIn_is (M := 0) 0 w5 (UseP.no _) (SetP.no _ _) HB0.out).mono ?_
  rintro e w6 ⟨rfl, q6, rfl⟩
  have B6 : Hid (Below w.heap.size w (w5.drewN q6)) := B5.out.trans (drewN_below _ _ _)
  generalize w5.drewN q6 = w6 at *
  clear B5
  go_wp2_with fail
  refine (sSlots_any (M := 0) w6 (UseP.no _) (SetP.no _ _)).mono ?_
  rintro e w' ⟨rfl, rfl⟩
  go_wp2_with fail
  refine (sUsed_any (M := 0) w6 (UseP.no _) (SetP.no _ _)).mono ?_
  rintro e w' ⟨rfl, rfl⟩
  have HBF : Hid (∀ {w9 : World}, Below w6.heap.size w6 w9 → Below w.heap.size w w9) := fun hb => B6.out.trans (hb.mono B6.out.size)
  by_cases hlong : 3000 < L0
  · go_wp2_with fail
    refine (lives_any _).mono ?_
    rintro e w9 ⟨rfl, hb⟩
    have hf := HBF.out hb
    clear hb
    go_wp2
    go_ret
    exact ⟨rfl, hf⟩
  go_wp2_with fail
  refine (great_any a L c D w6 HL.out (HDS.out.below B6.out)).mono ?_
  rintro e w' ⟨v, rfl, rfl, b, rfl, hg⟩
  cases b with
  | true =>
    clear hg
    go_wp2_with fail
    refine (lives_any _).mono ?_
    rintro e w9 ⟨rfl, hb⟩
    have hf := HBF.out hb
    clear hb
    go_wp2
    go_ret
    exact ⟨rfl, hf⟩
  | false =>
    have hL40 := hg rfl
    clear hg
    by_cases hbad : many < 0 ∨ 128 < many
    · go_wp2_with fail
      refine (sNew_bad many hbad w6).mono ?_
      rintro e w' ⟨rfl, rfl⟩
      rcases hbad with hbad | hbad
      · go_wp2_with fail
        refine (lives_any _).mono ?_
        rintro e w9 ⟨rfl, hb⟩
        have hf := HBF.out hb
        clear hb
        go_wp2
        go_ret
        exact ⟨rfl, hf⟩
      · have h0 : ¬ many < 0 := by omega
        go_wp2_with fail
        refine (lives_any _).mono ?_
        rintro e w9 ⟨rfl, hb⟩
        have hf := HBF.out hb
        clear hb
        go_wp2
        go_ret
        exact ⟨rfl, hf⟩
    obtain ⟨m, rfl⟩ := Int.eq_ofNat_of_zero_le (show 0 ≤ many by omega)
    have hm : m ≤ 128 := by omega
    have hm0 : ¬ (m : Int) < 0 := by omega
    have hm1 : ¬ (128 : Int) < (m : Int) := by omega
    clear hbad
    go_wp2_with fail
    refine (slNew m (fun _ => []) w6 hm (HZ.out.below B6.out) (by omega)).mono ?_
    rintro e w7 ⟨r, rfl, h7, b7⟩
    obtain ⟨E, hE⟩ : ∃ E, w7.heap.size = E := ⟨_, rfl⟩
    obtain ⟨Q, hQ⟩ : ∃ Q, w6.heap.size = Q := ⟨_, rfl⟩
    rw [hE, hQ] at h7
    have HS7 : Hid (SlotsAt Q E w7 r m zs 0 (List.replicate m false) (fun _ => [])) := h7
    have B7 : Hid (Below w.heap.size w w7) := HBF.out b7
    have HQ : Hid (w.heap.size ≤ Q) := by have := B6.out.size; show _ ≤ _; omega
    have HP0 : Hid (∀ {w8 : World}, w8 = w7.alloc (.cells #[.int .i64 (m : Int), .slice a0 L0 c0, .int .i64 0, .slice none 0 0] 42) → Play w w8 Q E w7.heap.size r m zs 0 0 (List.replicate m false) (fun _ => []) (.slice a0 L0 c0) (.slice none 0 0) []) := by
      rintro w8 rfl
      have ba : Below w7.heap.size w7 (w7.alloc (.cells #[.int .i64 (m : Int), .slice a0 L0 c0, .int .i64 0, .slice none 0 0] 42)) := (Below.refl _ w7).alloc (Nat.le_refl _) _
      refine ⟨⟨HS7.out.below ba, LogAt.nil _ _, Same.new _ _, B7.out.trans (ba.mono B7.out.size), HQ.out, Nat.le_refl _, ?_⟩, heap_alloc_new w7 _, by omega, by omega, by simp⟩
      have := ba.size
      omega
    clear h7 b7 hE hQ B6 HBF
    go_wp2_with fail
    have HP : Hid (Play w _ Q E w7.heap.size r m zs 0 0 (List.replicate m false) (fun _ => []) (.slice a0 L0 c0) (.slice none 0 0) []) := HP0.out rfl
    generalize w7.alloc (.cells #[.int .i64 (m : Int), .slice a0 L0 c0, .int .i64 0, .slice none 0 0] 42) = w8 at *
    generalize w7.heap.size = xb at *
    clear HP0 HS7 B7
    go_loopg [17, 18, 19] L (fun gk i _ _ wq => ∃ (j k : Nat) (x : List Bool) (pg : Nat → List Nat) (vL : Value) (Lg : List Pt), j ≤ L ∧ gk = L - j ∧ i = .int .i64 j ∧ Play w wq Q E xb r m zs j k x pg (.slice a0 L0 c0) vL Lg)
    case atStart => exact ⟨0, 0, _, _, _, _, Nat.zero_le _, rfl, rfl, HP.out⟩
    case round =>
      obtain ⟨j, k, x, pg, vL, Lg, hj, rfl, rfl, hP⟩ := hrel
      by_cases hlt : j < L
      · obtain ⟨bz, off, rfl, hbz, d0, d1, d2, d3⟩ := HDS.out.later hP.both.bel hlt
        have HOK : Hid (DeedOk w (D j)) := HDS.out.ok hlt
        generalize D j = dk at *
        have i3 : (j : Int) < (L : Int) := by omega
        obtain ⟨aL, cL, rfl⟩ := row_slice hP.both.log.row
        have hkj := hP.kj
        have hlj := hP.lj
        have x0 : wr.cell? ⟨xb, 0, none⟩ = some (.int .i64 (m : Int)) := hP.xc 0
        have x1 : wr.cell? ⟨xb, 1, none⟩ = some (.slice a0 L0 c0) := hP.xc 1
        have x2 : wr.cell? ⟨xb, 2, none⟩ = some (.int .i64 (k : Int)) := hP.xc 2
        have x3 : wr.cell? ⟨xb, 3, none⟩ = some (.slice aL Lg.length cL) := hP.xc 3
        have HBDa : Hid (Both Q E E w wr.drew r m zs k x pg (.slice aL Lg.length cL) Lg) := hP.both.below (drew_below _ _)
        have HVXa : Hid (wr.drew.heap[xb]? = some (.cells #[.int .i64 (m : Int), .slice a0 L0 c0, .int .i64 (k : Int), .slice aL Lg.length cL] 42 (0, 0))) := hP.var
        have bal : Below wr.heap.size wr (wr.alloc (.cells #[.int .i64 0, .slice none 0 0, .int .i64 0, .slice none 0 0] 42)).drew := ((Below.refl _ wr).alloc (Nat.le_refl _) _).trans (drew_below _ _)
        have HBDb : Hid (Both Q E E w (wr.alloc (.cells #[.int .i64 0, .slice none 0 0, .int .i64 0, .slice none 0 0] 42)).drew r m zs k x pg (.slice aL Lg.length cL) Lg) := hP.both.below bal
        have HVXb : Hid ((wr.alloc (.cells #[.int .i64 0, .slice none 0 0, .int .i64 0, .slice none 0 0] 42)).drew.heap[xb]? = some (.cells #[.int .i64 (m : Int), .slice a0 L0 c0, .int .i64 (k : Int), .slice aL Lg.length cL] 42 (0, 0))) := (bal.block xb (Array.getElem?_eq_some_iff.1 hP.var).1).trans hP.var
        have HYA : Hid ((wr.alloc (.cells #[.int .i64 0, .slice none 0 0, .int .i64 0, .slice none 0 0] 42)).drew.heap[wr.heap.size]? = some (.cells #[.int .i64 0, .slice none 0 0, .int .i64 0, .slice none 0 0] 42 (0, 0))) := heap_alloc_new wr _
        have HEW : Hid (E ≤ wr.heap.size ∧ w.heap.size ≤ wr.heap.size) := ⟨hP.both.slots.hi.1, hP.both.bel.size⟩
        have HLO : Hid (E ≤ xb) := hP.lo
        have HQE : Hid (Q ≤ E) := hP.both.slots.hi.2.2.2
        have HBL : Hid (Below w.heap.size w wr) := hP.both.bel
        have HDC : Hid (∀ w2, Below w.heap.size w w2 → w2.cell? ⟨bz, off + j * 4, none⟩ = some (.int .i64 dk.K) ∧ w2.cell? ⟨bz, off + j * 4 + 1, none⟩ = some (.int .i64 dk.N) ∧ w2.cell? ⟨bz, off + j * 4 + 2, none⟩ = some (.int .u8 (dk.V : Int)) ∧ w2.cell? ⟨bz, off + j * 4 + 3, none⟩ = some (.slice dk.p dk.l dk.c)) := by
          intro w2 hb2
          have hcl : ∀ q : Addr, q.block < w.heap.size → w2.cell? q = wr.cell? q := fun q hq => (hb2.cell (p := q) hq).trans (HBL.out.cell (p := q) hq).symm
          exact ⟨(hcl ⟨bz, off + j * 4, none⟩ hbz).trans d0, (hcl ⟨bz, off + j * 4 + 1, none⟩ hbz).trans d1, (hcl ⟨bz, off + j * 4 + 2, none⟩ hbz).trans d2, (hcl ⟨bz, off + j * 4 + 3, none⟩ hbz).trans d3⟩
        have nxw : xb ≠ wr.heap.size := by have := (Array.getElem?_eq_some_iff.1 hP.var).1; omega
        have nxw2 : xb < wr.heap.size := (Array.getElem?_eq_some_iff.1 hP.var).1
        have nbw : bz < wr.heap.size := Nat.lt_of_lt_of_le hbz hP.both.bel.size
        have nbw2 : bz ≠ wr.heap.size := Nat.ne_of_lt nbw
        clear hP HP bal
        go_upto_region 18 with (fail)
        go_cut [18, 19] (fun p f wz => Aft w Q E xb r m zs k Lg.length (.slice a0 L0 c0) #[.int .i64 (m : Int), .slice a0 L0 c0, .int .i64 (k : Int), .slice aL Lg.length cL] p f wz)
        case first =>
          go_region_held3 (fun w2 => w2.cell? ⟨xb, 0, none⟩ = some (.int .i64 (m : Int)) ∧ w2.cell? ⟨xb, 1, none⟩ = some (.slice a0 L0 c0) ∧ w2.cell? ⟨xb, 2, none⟩ = some (.int .i64 (k : Int)) ∧ w2.cell? ⟨xb, 3, none⟩ = some (.slice aL Lg.length cL) ∧ w2.cell? ⟨bz, off + j * 4, none⟩ = some (.int .i64 dk.K) ∧ w2.cell? ⟨bz, off + j * 4 + 1, none⟩ = some (.int .i64 dk.N) ∧ w2.cell? ⟨bz, off + j * 4 + 2, none⟩ = some (.int .u8 (dk.V : Int)) ∧ w2.cell? ⟨bz, off + j * 4 + 3, none⟩ = some (.slice dk.p dk.l dk.c)) (first | (go_keep; done) | (simp only [cell_res4 nxw, cell_res4 nbw2]; first | done | (go_keep; done))) (first | (go_at_call 17; refine (step_any dk HBDb.out HOK.out HZ.out (by omega) (by omega)).mono ?_; rintro e w2 ⟨k2, x2', pg2, vL2, L2, rfl, hB2, hk2, hl2, hT2⟩; obtain ⟨aL2, cL2, rfl⟩ := row_slice hB2.log.row; have HB2 : Hid (Both Q E E w w2 r m zs k2 x2' pg2 (.slice aL2 L2.length cL2) L2) := hB2; have HX2 : Hid (w2.heap[xb]? = some (.cells #[.int .i64 (m : Int), .slice a0 L0 c0, .int .i64 (k : Int), .slice aL Lg.length cL] 42 (0, 0))) := (hT2.block xb (Array.getElem?_eq_some_iff.1 HVXb.out).1 (.inr HLO.out)).trans HVXb.out; obtain ⟨e0, e1, e2, e3⟩ := HDC.out w2 hB2.bel; have z0 : w2.cell? ⟨xb, 0, none⟩ = some (.int .i64 (m : Int)) := cell_of_row w2 xb 0 _ _ _ HX2.out; have z1 : w2.cell? ⟨xb, 1, none⟩ = some (.slice a0 L0 c0) := cell_of_row w2 xb 1 _ _ _ HX2.out; have z2 : w2.cell? ⟨xb, 2, none⟩ = some (.int .i64 (k : Int)) := cell_of_row w2 xb 2 _ _ _ HX2.out; have z3 : w2.cell? ⟨xb, 3, none⟩ = some (.slice aL Lg.length cL) := cell_of_row w2 xb 3 _ _ _ HX2.out; clear hB2; have HY2 : Hid (w2.heap[wr.heap.size]? = some (.cells #[.int .i64 0, .slice none 0 0, .int .i64 0, .slice none 0 0] 42 (0, 0))) := (hT2.block wr.heap.size (Array.getElem?_eq_some_iff.1 HYA.out).1 (.inr HEW.out.1)).trans HYA.out; have yy0 : w2.cell? ⟨wr.heap.size, 0, none⟩ = some (.int .i64 0) := cell_of_row w2 _ 0 _ _ _ HY2.out; have yy1 : w2.cell? ⟨wr.heap.size, 1, none⟩ = some (.slice none 0 0) := cell_of_row w2 _ 1 _ _ _ HY2.out; have yy2 : w2.cell? ⟨wr.heap.size, 2, none⟩ = some (.int .i64 0) := cell_of_row w2 _ 2 _ _ _ HY2.out; have yy3 : w2.cell? ⟨wr.heap.size, 3, none⟩ = some (.slice none 0 0) := cell_of_row w2 _ 3 _ _ _ HY2.out; have ff0 : w2.frozen? ⟨wr.heap.size, 0, none⟩ = false := frozen_of_row w2 _ 0 _ _ HY2.out; have ff1 : w2.frozen? ⟨wr.heap.size, 1, none⟩ = false := frozen_of_row w2 _ 1 _ _ HY2.out; have ff2 : w2.frozen? ⟨wr.heap.size, 2, none⟩ = false := frozen_of_row w2 _ 2 _ _ HY2.out; have ff3 : w2.frozen? ⟨wr.heap.size, 3, none⟩ = false := frozen_of_row w2 _ 3 _ _ HY2.out; clear hT2) | (go_at_call 17; refine (step_any dk HBDa.out HOK.out HZ.out (by omega) (by omega)).mono ?_; rintro e w2 ⟨k2, x2', pg2, vL2, L2, rfl, hB2, hk2, hl2, hT2⟩; obtain ⟨aL2, cL2, rfl⟩ := row_slice hB2.log.row; have HB2 : Hid (Both Q E E w w2 r m zs k2 x2' pg2 (.slice aL2 L2.length cL2) L2) := hB2; have HX2 : Hid (w2.heap[xb]? = some (.cells #[.int .i64 (m : Int), .slice a0 L0 c0, .int .i64 (k : Int), .slice aL Lg.length cL] 42 (0, 0))) := (hT2.block xb (Array.getElem?_eq_some_iff.1 HVXa.out).1 (.inr HLO.out)).trans HVXa.out; obtain ⟨e0, e1, e2, e3⟩ := HDC.out w2 hB2.bel; have z0 : w2.cell? ⟨xb, 0, none⟩ = some (.int .i64 (m : Int)) := cell_of_row w2 xb 0 _ _ _ HX2.out; have z1 : w2.cell? ⟨xb, 1, none⟩ = some (.slice a0 L0 c0) := cell_of_row w2 xb 1 _ _ _ HX2.out; have z2 : w2.cell? ⟨xb, 2, none⟩ = some (.int .i64 (k : Int)) := cell_of_row w2 xb 2 _ _ _ HX2.out; have z3 : w2.cell? ⟨xb, 3, none⟩ = some (.slice aL Lg.length cL) := cell_of_row w2 xb 3 _ _ _ HX2.out; clear hB2; have nx : xb < w2.heap.size := (Array.getElem?_eq_some_iff.1 HX2.out).1; have nx2 : xb ≠ w2.heap.size := Nat.ne_of_lt nx; have nz : bz < w2.heap.size := Nat.lt_of_lt_of_le nbw hT2.size; have nz2 : bz ≠ w2.heap.size := Nat.ne_of_lt nz; clear hT2))
          all_goals go_wp2
          all_goals go_meet
          · have bal : Below w2.heap.size w2 (w2.alloc (.cells #[.int .i64 (m : Int), .slice a0 L0 c0, .int .i64 (k2 : Int), .slice aL2 L2.length cL2] 42)) := (Below.refl _ w2).alloc (Nat.le_refl _) _
            exact ⟨_, k2, x2', pg2, _, L2, rfl, rfl, HB2.out.below bal, heap_alloc_new w2 _, (bal.block xb nx).trans HX2.out, ⟨nx2, by have := HB2.out.slots.hi; omega⟩, hk2, hl2⟩
          · exact ⟨_, k2, x2', pg2, _, L2, rfl, rfl, HB2.out.fin HY2.out HEW.out.1 HEW.out.2 _ _ _ _, res4_kept HY2.out, by rw [res4_block nxw]; exact HX2.out, ⟨nxw, HEW.out.1⟩, hk2, hl2⟩
        case rest =>
          obtain ⟨yb, k2, x2', pg2, vL2, L2, rfl, rfl, hB2, hY2, hX2, ⟨hxy, hey⟩, hk2, hl2⟩ := hcut
          obtain ⟨aL2, cL2, rfl⟩ := row_slice hB2.log.row
          generalize wc = w2 at *
          have HB2 : Hid (Both Q E E w w2 r m zs k2 x2' pg2 (.slice aL2 L2.length cL2) L2) := hB2
          have HX2 : Hid (w2.heap[xb]? = some (.cells #[.int .i64 (m : Int), .slice a0 L0 c0, .int .i64 (k : Int), .slice aL Lg.length cL] 42 (0, 0))) := hX2
          have HXW : Hid (w.heap.size ≤ xb) := by have := HQ.out; have := HQE.out; have := HLO.out; show _ ≤ _; omega
          have v0 : w2.cell? ⟨yb, 0, none⟩ = some (.int .i64 (m : Int)) := cell_of_row w2 yb 0 _ _ _ hY2
          have v1 : w2.cell? ⟨yb, 1, none⟩ = some (.slice a0 L0 c0) := cell_of_row w2 yb 1 _ _ _ hY2
          have v2 : w2.cell? ⟨yb, 2, none⟩ = some (.int .i64 (k2 : Int)) := cell_of_row w2 yb 2 _ _ _ hY2
          have v3 : w2.cell? ⟨yb, 3, none⟩ = some (.slice aL2 L2.length cL2) := cell_of_row w2 yb 3 _ _ _ hY2
          have j0 : w2.cell? ⟨xb, 0, none⟩ = some (.int .i64 (m : Int)) := cell_of_row w2 xb 0 _ _ _ hX2
          have j1 : w2.cell? ⟨xb, 1, none⟩ = some (.slice a0 L0 c0) := cell_of_row w2 xb 1 _ _ _ hX2
          have j2 : w2.cell? ⟨xb, 2, none⟩ = some (.int .i64 (k : Int)) := cell_of_row w2 xb 2 _ _ _ hX2
          have j3 : w2.cell? ⟨xb, 3, none⟩ = some (.slice aL Lg.length cL) := cell_of_row w2 xb 3 _ _ _ hX2
          have fj0 : w2.frozen? ⟨xb, 0, none⟩ = false := frozen_of_row w2 xb 0 _ _ hX2
          have fj1 : w2.frozen? ⟨xb, 1, none⟩ = false := frozen_of_row w2 xb 1 _ _ hX2
          have fj2 : w2.frozen? ⟨xb, 2, none⟩ = false := frozen_of_row w2 xb 2 _ _ hX2
          have fj3 : w2.frozen? ⟨xb, 3, none⟩ = false := frozen_of_row w2 xb 3 _ _ hX2
          clear hB2 hY2 hX2 x0 x1 x2 x3 d0 d1 d2 d3 HBDa HBDb HVXa HVXb HYA
          go_upto_region 20 with (fail)
          have HB5 : Hid (Both Q E E w _ r m zs k2 x2' pg2 (.slice aL2 L2.length cL2) L2) := HB2.out.fin HX2.out HLO.out HXW.out (.int .i64 (m : Int)) (.slice a0 L0 c0) (.int .i64 (k2 : Int)) (.slice aL2 L2.length cL2)
          have HV5 : Hid (Yat _ xb #[.int .i64 (m : Int), .slice a0 L0 c0, .int .i64 (k2 : Int), .slice aL2 L2.length cL2]) := res4_kept HX2.out (u0 := .int .i64 (m : Int)) (u1 := .slice a0 L0 c0) (u2 := .int .i64 (k2 : Int)) (u3 := .slice aL2 L2.length cL2)
          generalize (((w2.setCell ⟨xb, 0, none⟩ (.int .i64 (m : Int))).setCell ⟨xb, 1, none⟩ (.slice a0 L0 c0)).setCell ⟨xb, 2, none⟩ (.int .i64 (k2 : Int))).setCell ⟨xb, 3, none⟩ (.slice aL2 L2.length cL2) = w5 at *
          clear HB2 HX2 v0 v1 v2 v3 j0 j1 j2 j3 fj0 fj1 fj2 fj3
          have HN5 : Hid (w5.cell? ⟨bz, off + j * 4 + 1, none⟩ = some (.int .i64 dk.N)) := (HDC.out w5 HB5.out.bel).2.1
          generalize dk.N = N at *
          obtain ⟨M, d, sb, g, P, hin, _⟩ := HB5.out.slots
          have ht : Ten Q E w w5 xb bz r d m zs k2 x2' pg2 (.slice a0 L0 c0) (.slice aL2 L2.length cL2) L2 (off + j * 4 + 1) N M P := ⟨HB5.out, HV5.out, HN5.out, hin.disk, hin.c0⟩
          have HTD : Hid (Ten Q E w w5.drew xb bz r d m zs k2 x2' pg2 (.slice a0 L0 c0) (.slice aL2 L2.length cL2) L2 (off + j * 4 + 1) N M P) := ht.below (drew_below _ _)
          have y9' : w5.cell? ⟨r, 0, none⟩ = some (.pointer (some ⟨d, 0, none⟩)) := hin.c0
          have x0 : w5.cell? ⟨xb, 0, none⟩ = some (.int .i64 (m : Int)) := (HV5.out.c 0).trans rfl
          have x1 : w5.cell? ⟨xb, 1, none⟩ = some (.slice a0 L0 c0) := (HV5.out.c 1).trans rfl
          have x2 : w5.cell? ⟨xb, 2, none⟩ = some (.int .i64 (k2 : Int)) := (HV5.out.c 2).trans rfl
          have x3 : w5.cell? ⟨xb, 3, none⟩ = some (.slice aL2 L2.length cL2) := (HV5.out.c 3).trans rfl
          have x4 : w5.cell? ⟨bz, off + j * 4 + 1, none⟩ = some (.int .i64 N) := HN5.out
          have i1 : (0 : Int) ≤ (j : Int) := by omega
          have wr1 : IntKind.i64.wrap (8 * (m : Int)) = 8 * (m : Int) := by rw [IntKind.wrap_i64]; omega
          have n1 : ((k2 : Int) != (k2 : Int)) = false := by simp
          have n2 : ((L2.length : Int) != (L2.length : Int)) = false := by simp
          have n3 : ((m : Int) != (m : Int)) = false := by simp
          have n4 : ((8 * (m : Int)) != (8 * (m : Int))) = false := by simp
          have HSM : Hid (Same x2' pg2 L2) := HB5.out.same
          clear hin ht HB5 HV5 HN5
          cases hb : hasB x2' N with
          | true =>
            have HIN : Hid (hasB x2' N = true) := hb
            have HAT : Hid (atI L2 N = (ix L2 N : Int)) := (HSM.out.at_in hb).1
            generalize ix L2 N = ii at *
            have i5 : (0 : Int) ≤ (ii : Int) := by omega
            clear hb
            go_region_held3 (fun w' => w'.cell? ⟨r, 0, none⟩ = some (.pointer (some ⟨d, 0, none⟩)) ∧ w'.cell? ⟨xb, 0, none⟩ = some (.int .i64 (m : Int)) ∧ w'.cell? ⟨xb, 1, none⟩ = some (.slice a0 L0 c0) ∧ w'.cell? ⟨xb, 2, none⟩ = some (.int .i64 (k2 : Int)) ∧ w'.cell? ⟨xb, 3, none⟩ = some (.slice aL2 L2.length cL2) ∧ w'.cell? ⟨bz, off + j * 4 + 1, none⟩ = some (.int .i64 N)) (first | (go_keep; done)) (first | (go_at_call 18; refine (dAsked_is w5.drew HTD.out.disk rfl).mono ?_; rintro e wt ⟨rfl, rfl⟩) | (go_at_call 13; refine (slUsed w5.drew HTD.out.both.slots HTD.out.both.same.used).mono ?_; rintro e wt ⟨rfl, rfl⟩) | (go_at_call 12; refine (slSlots w5.drew HTD.out.both.slots).mono ?_; rintro e wt ⟨rfl, rfl⟩) | (go_at_call 11; refine (slInB N w5.drew HTD.out.both.slots HIN.out).mono ?_; rintro e w6 ⟨rfl, b6⟩; have H9 : Hid (Ten Q E w w6 xb bz r d m zs k2 x2' pg2 (.slice a0 L0 c0) (.slice aL2 L2.length cL2) L2 (off + j * 4 + 1) N M P) := HTD.out.below b6; have y9 := H9.out.ptr; have z0 : w6.cell? ⟨xb, 0, none⟩ = some (.int .i64 (m : Int)) := (H9.out.var.c 0).trans rfl; have z1 : w6.cell? ⟨xb, 1, none⟩ = some (.slice a0 L0 c0) := (H9.out.var.c 1).trans rfl; have z2 : w6.cell? ⟨xb, 2, none⟩ = some (.int .i64 (k2 : Int)) := (H9.out.var.c 2).trans rfl; have z3 : w6.cell? ⟨xb, 3, none⟩ = some (.slice aL2 L2.length cL2) := (H9.out.var.c 3).trans rfl; have z4 := H9.out.num; clear b6) | (go_at_call 19; refine (refAt_any N w6 H9.out.both.log (by omega)).mono ?_; rw [HAT.out]; rintro e w7 ⟨rfl, b7⟩; have H10 : Hid (Ten Q E w w7 xb bz r d m zs k2 x2' pg2 (.slice a0 L0 c0) (.slice aL2 L2.length cL2) L2 (off + j * 4 + 1) N M P) := H9.out.below b7; clear y9 z0 z1 z2 z3 z4; have y9 := H10.out.ptr; have z0 : w7.cell? ⟨xb, 0, none⟩ = some (.int .i64 (m : Int)) := (H10.out.var.c 0).trans rfl; have z1 : w7.cell? ⟨xb, 1, none⟩ = some (.slice a0 L0 c0) := (H10.out.var.c 1).trans rfl; have z2 : w7.cell? ⟨xb, 2, none⟩ = some (.int .i64 (k2 : Int)) := (H10.out.var.c 2).trans rfl; have z3 : w7.cell? ⟨xb, 3, none⟩ = some (.slice aL2 L2.length cL2) := (H10.out.var.c 3).trans rfl; have z4 := H10.out.num; clear b7) | (go_at_call 20; refine (dMany8 w7 H10.out.disk).mono ?_; rintro e wt ⟨rfl, rfl⟩))
            all_goals
              go_wp2
              go_roundg (L - (j + 1))
              case measure => omega
              case rel => exact ⟨j + 1, k2, x2', pg2, _, L2, by omega, rfl, by go_num, H10.out.both, H10.out.var, HLO.out, by omega, by omega⟩
          | false =>
            have HIN : Hid (hasB x2' N = false) := hb
            have HAT : Hid (atI L2 N = -1) := HSM.out.at_out hb
            clear hb
            go_region_held3 (fun w' => w'.cell? ⟨r, 0, none⟩ = some (.pointer (some ⟨d, 0, none⟩)) ∧ w'.cell? ⟨xb, 0, none⟩ = some (.int .i64 (m : Int)) ∧ w'.cell? ⟨xb, 1, none⟩ = some (.slice a0 L0 c0) ∧ w'.cell? ⟨xb, 2, none⟩ = some (.int .i64 (k2 : Int)) ∧ w'.cell? ⟨xb, 3, none⟩ = some (.slice aL2 L2.length cL2) ∧ w'.cell? ⟨bz, off + j * 4 + 1, none⟩ = some (.int .i64 N)) (first | (go_keep; done)) (first | (go_at_call 18; refine (dAsked_is w5.drew HTD.out.disk rfl).mono ?_; rintro e wt ⟨rfl, rfl⟩) | (go_at_call 13; refine (slUsed w5.drew HTD.out.both.slots HTD.out.both.same.used).mono ?_; rintro e wt ⟨rfl, rfl⟩) | (go_at_call 12; refine (slSlots w5.drew HTD.out.both.slots).mono ?_; rintro e wt ⟨rfl, rfl⟩) | (go_at_call 11; refine (slInB N w5.drew HTD.out.both.slots HIN.out).mono ?_; rintro e w6 ⟨rfl, b6⟩; have H9 : Hid (Ten Q E w w6 xb bz r d m zs k2 x2' pg2 (.slice a0 L0 c0) (.slice aL2 L2.length cL2) L2 (off + j * 4 + 1) N M P) := HTD.out.below b6; have y9 := H9.out.ptr; have z0 : w6.cell? ⟨xb, 0, none⟩ = some (.int .i64 (m : Int)) := (H9.out.var.c 0).trans rfl; have z1 : w6.cell? ⟨xb, 1, none⟩ = some (.slice a0 L0 c0) := (H9.out.var.c 1).trans rfl; have z2 : w6.cell? ⟨xb, 2, none⟩ = some (.int .i64 (k2 : Int)) := (H9.out.var.c 2).trans rfl; have z3 : w6.cell? ⟨xb, 3, none⟩ = some (.slice aL2 L2.length cL2) := (H9.out.var.c 3).trans rfl; have z4 := H9.out.num; clear b6) | (go_at_call 19; refine (refAt_any N w6 H9.out.both.log (by omega)).mono ?_; rw [HAT.out]; rintro e w7 ⟨rfl, b7⟩; have H10 : Hid (Ten Q E w w7 xb bz r d m zs k2 x2' pg2 (.slice a0 L0 c0) (.slice aL2 L2.length cL2) L2 (off + j * 4 + 1) N M P) := H9.out.below b7; clear y9 z0 z1 z2 z3 z4; have y9 := H10.out.ptr; have z0 : w7.cell? ⟨xb, 0, none⟩ = some (.int .i64 (m : Int)) := (H10.out.var.c 0).trans rfl; have z1 : w7.cell? ⟨xb, 1, none⟩ = some (.slice a0 L0 c0) := (H10.out.var.c 1).trans rfl; have z2 : w7.cell? ⟨xb, 2, none⟩ = some (.int .i64 (k2 : Int)) := (H10.out.var.c 2).trans rfl; have z3 : w7.cell? ⟨xb, 3, none⟩ = some (.slice aL2 L2.length cL2) := (H10.out.var.c 3).trans rfl; have z4 := H10.out.num; clear b7) | (go_at_call 20; refine (dMany8 w7 H10.out.disk).mono ?_; rintro e wt ⟨rfl, rfl⟩))
            all_goals
              go_wp2
              go_roundg (L - (j + 1))
              case measure => omega
              case rel => exact ⟨j + 1, k2, x2', pg2, _, L2, by omega, rfl, by go_num, H10.out.both, H10.out.var, HLO.out, by omega, by omega⟩
      · have i3 : ¬ (j : Int) < (L : Int) := by omega
        have HP1 : Hid (Below w.heap.size w wr) := hP.both.bel
        clear hP HP
        go_wp2_with fail
        refine (lives_any _).mono ?_
        rintro e w9 ⟨rfl, hb⟩
        have hf := HP1.out.trans (hb.mono HP1.out.size)
        clear hb
        go_wp2
        go_ret
        exact ⟨rfl, hf⟩

theorem walk {H : Type} {enc : TypeId × Value → H} {w : World} {base : Nat} {v0 v1 v2 : Value} {d0 d1 d2 : DataW H} {p0 p1 p2 : List MemPlace}
    (o0 : Value.okWide Try.prog w .any base 3 v0) (o1 : Value.okWide Try.prog w .any base 22 v1) (o2 : Value.okWide Try.prog w .any base 23 v2)
    (h0 : DataW.Trod enc Try.prog w 0 (fun _ => true) true 3 v0 d0 p0) (h1 : DataW.Trod enc Try.prog w 0 (fun _ => true) true 22 v1 d1 p1) (h2 : DataW.Trod enc Try.prog w 0 (fun _ => true) true 23 v2 d2 p2) :
    Calls Try.prog 3 #[v0, v1, v2] w fun e w' => e = .returned (.bool true) ∧ Below w.heap.size w w' := by
  obtain ⟨z, rfl, _⟩ := openOne Try.underlying3 o0 h0
  obtain ⟨a0, L0, c0, zs, rfl, hL0, hz⟩ := openBools Try.underlying22 Try.underlying4 (by kernel_rfl) o1 h1
  obtain ⟨a, L, c, D, rfl, hL, hds⟩ := openDeeds Try.underlying23 Try.underlying46 (by kernel_rfl) (by kernel_rfl) Try.underlying3 Try.underlying3 Try.underlying5 Try.underlying28 Try.underlying5 (by kernel_rfl) o2 h2
  exact run z a0 L0 c0 zs a L c D w hL0 hz hL hds

set_option maxRecDepth 100000 in
theorem lifted (os : Os) (started : os.Started) (H : Type) (enc : TypeId × Value → H) :
    ReturnsInHanded {} Try.checked os 3 .any (Rows.slotsPlaysSpec.pre6 enc Try.prog Try.f3 Rows.slotsPlaysRow.domain false) (Rows.slotsPlaysSpec.post enc Try.prog Try.f3 false true false false) := by
  refine returnsInHanded_of_change (C := Try.checked) own started (by kernel_rfl) Try.func3
    (ChangeSpec.witness6 (enc := enc) (C := Try.checked) false ⟨#[], #[.int .i64 0, .slice none 0 0, .slice none 0 0], []⟩ 8 (by kernel_rfl) (by kernel_rfl) (by kernel_rfl) (by kernel_rfl)) ?_
  intro W base args ds gs before hval0 hW hcnd _
  have hval : ∀ (j : Nat) t v, Try.f3.params[j]? = some t → args[j]? = some v → Value.okWide Try.prog W .any base t v := hval0
  have hW' := hW
  obtain ⟨p, q, hA0, hV, rfl, hfz, hnd⟩ := hW
  have hA : DataW.TrodAll enc Try.prog W 0 (fun _ => true) true Try.f3.params.toList args.toList ds p := hA0
  rw [Try.params3] at hA hval
  obtain ⟨v0, vs0, d0, ds0, p0, q0, hargs, rfl, rfl, h0, r0⟩ := trodAll_cons hA
  obtain ⟨v1, vs1, d1, ds1, p1, q1, rfl, rfl, rfl, h1, r1⟩ := trodAll_cons r0
  obtain ⟨v2, vs2, d2, ds2, p2, q2, rfl, rfl, rfl, h2, r2⟩ := trodAll_cons r1
  obtain ⟨rfl, rfl, rfl⟩ := trodAll_nil r2
  obtain rfl : args = #[v0, v1, v2] := by cases args; simp_all
  obtain ⟨rfl, rfl⟩ := trodVars_none hV
  have o0 := hval 0 3 v0 rfl rfl
  have lt0 : ∀ x ∈ p0, x.block < W.heap.size := by obtain ⟨m, hm⟩ := h0; exact DataW.trod_lt m _ _ _ hm
  have o1 := hval 1 22 v1 rfl rfl
  have lt1 : ∀ x ∈ p1, x.block < W.heap.size := by obtain ⟨m, hm⟩ := h1; exact DataW.trod_lt m _ _ _ hm
  have o2 := hval 2 23 v2 rfl rfl
  have lt2 : ∀ x ∈ p2, x.block < W.heap.size := by obtain ⟨m, hm⟩ := h2; exact DataW.trod_lt m _ _ _ hm
  clear hA0 hval0
  refine (walk o0 o1 o2 h0 h1 h2).mono fun e W' ⟨he, bel⟩ => ?_
  subst he
  exact ⟨_, rfl, _, _, _, [], _, [], hW', trodAll_mk1 (shut_bool Try.underlying4 _), (trodAll_cons_mk (Below.trod laidOut (by kernel_rfl) (of_decide_eq_true (by kernel_rfl)) h0 bel lt0) (trodAll_cons_mk (Below.trod laidOut (by kernel_rfl) (of_decide_eq_true (by kernel_rfl)) h1 bel lt1) (trodAll_cons_mk (Below.trod laidOut (by kernel_rfl) (of_decide_eq_true (by kernel_rfl)) h2 bel lt2) trodAll_mk0))), rfl, bel.frame _, fun h => by cases h⟩

theorem over : Rows.slotsPlaysRow.holds Try.pinned (OpenSpec.ofChange Rows.slotsPlaysSpec) :=
  OpenClaim.holds_of_wide 3 Try.f3 rfl rfl rfl rfl rfl rfl rfl ⟨rfl, rfl, rfl, rfl, rfl⟩ rfl rfl rfl rfl rfl (by kernel_rfl) Try.func3 (by kernel_rfl)
    (of_decide_eq_true (by kernel_rfl)) (by unfold Func.isWrapper; first | (rw [if_pos (by decide +kernel)]; kernel_rfl) | (rw [if_neg (by decide +kernel)]; exact ⟨rfl, rfl⟩))
    (fun os started H enc _ => lifted os started H enc)
end Go.Proofs.Ytacggabopdoijaa.SlotsPlays
namespace Go.Proofs.Ytacggabopdoijaa
/-- The statement. -/
theorem slotsPlays_holds : Rows.SlotsPlaysSaid := SlotsPlays.over
#print axioms slotsPlays_holds
end Go.Proofs.Ytacggabopdoijaa
