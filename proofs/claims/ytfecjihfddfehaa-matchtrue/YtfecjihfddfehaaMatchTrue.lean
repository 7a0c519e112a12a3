/- Proved: gunnylaw12.MatchTrue returns true for all lists of pieces and all lists of uint16: what is found, anywhere in any page, stands there; one byte more isn't the same, or there are 130, or it is the end; four bytes the same are found; the finder keeps the bytes that it was made of. No conditions. -/
import Derived.Test.YtfecjihfddfehaaALives
import Derived.Test.YtfecjihfddfehaaEPieces
import Derived.Test.YtfecjihfddfehaaBOpen
namespace Go.Proofs.Ytfecjihfddfehaa.MatchTrue
open Go.ChangeShapes Go.WideShapes Go.ChangeAt Go.RowKit
set_option linter.unusedVariables false
theorem own : ownKnob Try.prog.godebug = none := by kernel_rfl
theorem laidOut : laidOutB Try.prog = true := by kernel_rfl
theorem nil_own (w : World) : (w.alloc (.cells #[] 5)).ownsRow w.heap.size 5 1 (.slice (some ⟨w.heap.size, 0, none⟩) 0 0) 0 (bv []) :=
  World.ownsRow_made w #[] 0 (Nat.le_refl _) (by unfold maxLen; omega) rfl

set_option maxRecDepth 100000 in
set_option maxHeartbeats 4000000 in
theorem run (a : Option Addr) (L c : Nat) (D : Nat → Pc) (pa : Option Addr) (n pc : Nat) (zs : List Int) (w : World) (hL : L ≤ maxLen) (hd : PcsAt w a L D) (hzl : zs.length = n) (hn : n ≤ maxLen) (hzs : IntsAt .u16 w pa zs)
    (hz6 : ∀ i, i < n → ∃ x : Nat, zs.getD i 0 = x ∧ x < 65536) :
    Calls Try.prog 5 #[.slice a L c, .slice pa n pc] w fun e w' => e = .returned (.bool true) ∧ Below w.heap.size w w' := by
  have HD : Hid (PcsAt w a L D) := hd
  have HZ : Hid (IntsAt .u16 w pa zs) := hzs
  have HZL : Hid (zs.length = n) := hzl
  have HZ6 : Hid (∀ i, i < n → ∃ x : Nat, zs.getD i 0 = x ∧ x < 65536) := hz6
  obtain ⟨i0, hi, hz0, hz1, hz2⟩ := info_parts Try.info5
  unfold maxLen at hL hn
  clear hd hzs hzl hz6
  go_enter Try.func5, Try.ntmps5
  by_cases h1 : 100 < L
  · have i1 : (100 : Int) < (L : Int) := by omega
    go_wp2_with fail
    refine (lives_any _).mono ?_
    rintro e wl ⟨rfl, hb⟩
    have HBL : Hid (Below w.heap.size w wl) := (Below.refl w.heap.size w).trans (hb.mono (Below.refl w.heap.size w).size)
    clear hb
    go_wp2
    go_ret
    exact ⟨rfl, HBL.out⟩
  have i1 : ¬ (100 : Int) < (L : Int) := by omega
  by_cases h2 : 100 < n
  · have i2 : (100 : Int) < (n : Int) := by omega
    go_wp2_with fail
    refine (lives_any _).mono ?_
    rintro e wl ⟨rfl, hb⟩
    have HBL : Hid (Below w.heap.size w wl) := (Below.refl w.heap.size w).trans (hb.mono (Below.refl w.heap.size w).size)
    clear hb
    go_wp2
    go_ret
    exact ⟨rfl, HBL.out⟩
  have i2 : ¬ (100 : Int) < (n : Int) := by omega
  go_wp2_with fail
  go_loopg [5] L (fun gk i wr => ∃ k : Nat, k ≤ L ∧ gk = L - k ∧ i = .int .i64 k ∧ w = wr ∧ ∀ i, i < k → (D i).l ≤ 5000)
  case atStart => exact ⟨0, Nat.zero_le _, rfl, rfl, rfl, fun i hi => by omega⟩
  case round =>
    obtain ⟨k, hk, rfl, rfl, rfl, hall⟩ := hrel
    have HA : Hid (∀ i, i < k → (D i).l ≤ 5000) := hall
    clear hall
    by_cases hlt : k < L
    · have i3 : (k : Int) < (L : Int) := by omega
      obtain ⟨b, off, rfl, hb, c0, _⟩ := HD.out.later (Below.refl _ w) hlt
      have hl := (HD.out.ok hlt).by_.short
      unfold maxLen at hl
      by_cases h6 : 5000 < (D k).l
      · have i4 : (5000 : Int) < ((D k).l : Int) := by omega
        generalize (D k).p = p at *
        generalize (D k).l = l at *
        generalize (D k).c = cc at *
        go_wp2_with fail
        refine (lives_any _).mono ?_
        rintro e wl ⟨rfl, hb⟩
        have HBL : Hid (Below w.heap.size w wl) := (Below.refl w.heap.size w).trans (hb.mono (Below.refl w.heap.size w).size)
        clear hb
        go_wp2
        go_ret
        exact ⟨rfl, HBL.out⟩
      · have i4 : ¬ (5000 : Int) < ((D k).l : Int) := by omega
        have HA2 : Hid (∀ i, i < k + 1 → (D i).l ≤ 5000) := fun i hi => by
          by_cases e : i = k
          · subst e; omega
          · exact HA.out i (by omega)
        clear h6
        generalize (D k).p = p at *
        generalize (D k).l = l at *
        generalize (D k).c = cc at *
        go_wp2
        go_roundg (L - (k + 1))
        case measure => omega
        case rel => exact ⟨k + 1, by omega, rfl, by go_num, rfl, HA2.out⟩
    · obtain rfl : k = L := by omega
      go_wp2_with fail
      refine (pieces_any a k c D w (by omega) HD.out HA.out).mono ?_
      rintro e w1 ⟨gp, cp, q, rfl, own1, h8, b1⟩
      have HP : Hid (ByAt w1 (some ⟨gp, 0, none⟩) 4096 cp q) := by_row own1 h8
      have HB1 : Hid (Below w.heap.size w w1) := b1
      clear own1 h8 b1 HA HD
      have HBA : Hid (Below w1.heap.size w1 (w1.alloc (.cells #[] 5))) := (Below.refl _ w1).alloc (Nat.le_refl _) _
      have HO0 : Hid ((w1.alloc (.cells #[] 5)).ownsRow w1.heap.size 5 1 (.slice (some ⟨w1.heap.size, 0, none⟩) 0 0) 0 (bv [])) := nil_own w1
      go_wp2_with (at_builtin; refine wpList_append_src rfl _ _ 22 rfl w1.heap.size 5 i0 (.int .u8 0) 1 1 Try.underlying22 hi hz0 hz1 hz2 rfl (by decide) _ 0 (bv []) rfl HO0.out _ 4096 (bv q) rfl (HP.out.src.later HBA.out) (bv_one _) ?y1 ?y2 HBA.out.size ?_)
      case y1 => unfold maxLen; omega
      case y2 => omega
      intro v2 w2 own2 gr2
      have hb2 : Below w1.heap.size w1 w2 := HBA.out.grown gr2 HBA.out.size (fun j hj => (HO0.out.lt j hj).1)
      have HB2 : Hid (Below w1.heap.size w1 w2) := hb2
      have own2' : w2.ownsRow w1.heap.size 5 1 v2 4096 (bv q) := own2
      obtain ⟨a2, c2, rfl⟩ := row_slice own2'
      obtain ⟨g2, rfl, _, _, hg1, hg2⟩ := row_at own2' (i := 0) (by omega)
      have HO2 : Hid (w2.ownsRow w1.heap.size 5 1 (.slice (some ⟨g2, 0, none⟩) 4096 c2) 4096 (bv q)) := own2'
      have HG : Hid (w1.heap.size ≤ g2 ∧ g2 < w2.heap.size) := ⟨hg1, hg2⟩
      have HQ4 : Hid (q.take 4096 = q) := List.take_of_length_le (by rw [HP.out.len]; omega)
      clear own2 gr2 own2' hb2 hg1 hg2 HO0 HBA
      go_wp2_with fail
      have hp := new_any _ (by_row HO2.out HP.out.byte)
      rw [HQ4.out] at hp
      refine Calls.mono hp ?_
      rintro e w3 ⟨v3, rfl, hf, b3⟩
      have HF3 : Hid (FinO w2.heap.size w3 v3 q) := hf
      have HB3 : Hid (Below w1.heap.size w1 w3) := HB2.out.trans (b3.mono HB2.out.size)
      have HO3 : Hid (w3.ownsRow w1.heap.size 5 1 (.slice (some ⟨g2, 0, none⟩) 4096 c2) 4096 (bv q)) := row_below HO2.out b3
      clear hf b3 hp HO2 HB2
      go_wp2
      go_loopg [9] 4096 (fun gk i wr => ∃ (k : Nat) (t : List Nat), k ≤ 4096 ∧ gk = 4096 - k ∧ i = .int .i64 k ∧ wr.ownsRow w1.heap.size 5 1 (.slice (some ⟨g2, 0, none⟩) 4096 c2) 4096 (bv t) ∧ FinO w2.heap.size wr v3 q ∧ Below w1.heap.size w1 wr)
      case atStart => exact ⟨0, q, by omega, rfl, rfl, HO3.out, HF3.out, HB3.out⟩
      case round =>
        obtain ⟨j, t, hj, rfl, rfl, ho, hf, hb⟩ := hrel
        have HO : Hid (wr.ownsRow w1.heap.size 5 1 (.slice (some ⟨g2, 0, none⟩) 4096 c2) 4096 (bv t)) := ho
        have HF : Hid (FinO w2.heap.size wr v3 q) := hf
        have HB : Hid (Below w1.heap.size w1 wr) := hb
        clear ho hf hb HO3 HF3 HB3
        by_cases hlt2 : j < 4096
        · have i5 : (j : Int) < 4096 := by omega
          have htl : t.length = 4096 := by have := HO.out.1; simpa [bv] using this
          have hc : wr.cell? ⟨g2, j, none⟩ = some (.int .u8 (t.getD j 0 : Nat)) := by rw [HO.out.cellAt j (by omega), bv_at _ _ (by omega)]
          have hfz := HO.out.frozenAt j
          have R := HO.out.stored j (.int .u8 ((0 : Nat) : Int))
          rw [bv_set] at R
          have HR : Hid ((wr.setCell ⟨g2, j, none⟩ (.int .u8 0)).ownsRow w1.heap.size 5 1 (.slice (some ⟨g2, 0, none⟩) 4096 c2) 4096 (bv (t.set j 0))) := R.1
          have HF2 : Hid (FinO w2.heap.size (wr.setCell ⟨g2, j, none⟩ (.int .u8 0)) v3 q) := HF.out.kept fun i h3 _ => Below.heap_setCell _ _ _ _ (by have := HG.out; show i ≠ g2; omega)
          have HB2 : Hid (Below w1.heap.size w1 (wr.setCell ⟨g2, j, none⟩ (.int .u8 0))) := HB.out.setCell (p := ⟨g2, j, none⟩) HG.out.1 _
          clear R
          generalize t.getD j 0 = y at *
          go_wp2
          go_roundg (4096 - (j + 1))
          case measure => omega
          case rel => exact ⟨j + 1, _, by omega, rfl, by go_num, HR.out, HF2.out, HB2.out⟩
        · obtain rfl : j = 4096 := by omega
          have HW : Hid (Below w.heap.size w wr) := HB1.out.trans (HB.out.mono HB1.out.size)
          have HFR : Hid (∀ m, FinP (wr.drewN m) v3 q) := fun m => HF.out.fin.later (drewN_below _ _ _)
          have HPR : Hid (ByAt wr (some ⟨gp, 0, none⟩) 4096 cp q) := HP.out.later HB.out
          clear HO HF HP
          have HC : Hid (∀ i, i < 4096 → wr.cell? ⟨gp, i, none⟩ = some (.int .u8 (q.getD i 0 : Nat))) := by
            obtain ⟨g', o', e, _, h3⟩ := HPR.out.at (by omega)
            cases e
            exact fun i hi => by have := h3 i hi; rwa [Nat.zero_add] at this
          have HQL : Hid (q.length = 4096) := HPR.out.len
          clear HPR
          go_wp2
          go_loopg [10] n (fun gk i w' => ∃ x m : Nat, x ≤ n ∧ gk = n - x ∧ i = .int .i64 x ∧ w' = wr.drewN m)
          case atStart => exact ⟨0, 0, Nat.zero_le _, rfl, rfl, rfl⟩
          case round =>
            obtain ⟨x, m, hx, rfl, rfl, rfl⟩ := hrel
            by_cases hxn : x < n
            · have i6 : (x : Int) < (n : Int) := by omega
              obtain ⟨zb, zo, rfl, hzc⟩ := HZ.out.later HW.out (i := x) (by rw [HZL.out]; exact hxn)
              obtain ⟨z, hz, hz6⟩ := HZ6.out x hxn
              rw [hz] at hzc
              clear hz
              obtain ⟨A, hA⟩ : ∃ A, z % 4096 = A := ⟨_, rfl⟩
              have hA4 : A < 4096 := by omega
              have HAI : Hid ((z : Int) % 4096 = (A : Int)) := by show _ = _; omega
              clear hA
              obtain ⟨r, d, hrd⟩ : ∃ r d, findI q (A : Int) = (r, d) := ⟨_, _, rfl⟩
              have HRD : Hid (findI q (A : Int) = (r, d)) := hrd
              have hst := find_stands (b := q) (a := A)
              rw [hrd] at hst
              clear hrd
              go_wp2_with fail
              rw [HAI.out]
              refine (find_is _ (HFR.out _) HRD.out).mono ?_
              rintro e w' ⟨rfl, m1, rfl⟩
              rcases hst with ⟨h7, h8⟩ | ⟨h7, h8, h9, h10⟩
              · obtain rfl : r = 0 := h7
                obtain rfl : d = 0 := h8
                have q0 : (((0 : Nat) : Int) != 0) = false := rfl
                by_cases h1a : 1 ≤ A
                · have k1 : (1 : Int) ≤ (A : Int) := by omega
                  have k1' : decide ((1 : Int) ≤ (A : Int)) = true := decide_eq_true k1
                  by_cases h3a : A + 3 ≤ 4096
                  · have k2 : (A : Int) + 3 ≤ 4096 := by omega
                    have k2' : decide ((A : Int) + 3 ≤ 4096) = true := decide_eq_true k2
                    have n1 : IntKind.i64.wrap ((A : Int) + 3) = (A : Int) + 3 := IntWalk.i64_in _ (by omega)
                    have n2 : IntKind.i64.wrap ((A : Int) - 1) = (A : Int) - 1 := IntWalk.i64_in _ (by omega)
                    have n3 : IntKind.i64.wrap ((A : Int) + 1) = (A : Int) + 1 := IntWalk.i64_in _ (by omega)
                    have n4 : IntKind.i64.wrap ((A : Int) + 2) = (A : Int) + 2 := IntWalk.i64_in _ (by omega)
                    have ix0 := index_at (g := gp) (o := 0) (L := 4096) (c := cp) (q := A - 1) (I := (A : Int) - 1) (A - 1) (by omega) (by omega) (by omega)
                    have ix1 := index_at (g := gp) (o := 0) (L := 4096) (c := cp) (q := A) (I := (A : Int)) A rfl (by omega) (by omega)
                    have ix2 := index_at (g := gp) (o := 0) (L := 4096) (c := cp) (q := A + 1) (I := (A : Int) + 1) (A + 1) (by omega) (by omega) (by omega)
                    have ix3 := index_at (g := gp) (o := 0) (L := 4096) (c := cp) (q := A + 2) (I := (A : Int) + 2) (A + 2) (by omega) (by omega) (by omega)
                    have e0 := HC.out (A - 1) (by omega)
                    have e1 := HC.out A (by omega)
                    have e2 := HC.out (A + 1) (by omega)
                    have e3 := HC.out (A + 2) (by omega)
                    have HRUN : Hid (q.getD (A - 1) 0 = q.getD A 0 → q.getD A 0 = q.getD (A + 1) 0 → q.getD (A + 1) 0 = q.getD (A + 2) 0 → False) := by
                      intro e4 e5 e6
                      have e7 := find_run (b := q) (a := A - 1) (by have := HQL.out; omega) ⟨by rw [show A - 1 + 1 = A by omega]; exact e4.symm, by rw [show A - 1 + 1 + 1 = A + 1 by omega, show A - 1 + 1 = A by omega]; exact e5.symm, by rw [show A - 1 + 1 + 2 = A + 2 by omega, show A - 1 + 2 = A + 1 by omega]; exact e6.symm⟩
                      rw [show A - 1 + 1 = A by omega, HRD.out] at e7
                      simp at e7
                    have HRU := HRUN.out
                    generalize q.getD (A - 1) 0 = x0 at *
                    generalize q.getD A 0 = x1 at *
                    generalize q.getD (A + 1) 0 = x2 at *
                    generalize q.getD (A + 2) 0 = x3 at *
                    by_cases y1 : x0 = x1
                    · subst y1
                      by_cases y2 : x0 = x2
                      · subst y2
                        have y3 : ¬ x0 = x3 := fun e => HRU rfl rfl e
                        have z1 : ((x0 : Int) == (x3 : Int)) = false := by rw [beq_eq_false_iff_ne]; omega
                        clear HRU HRUN
                        go_wp2_with fail
                        go_quiet (fail)
                        go_wp2
                        go_roundg (n - (x + 1))
                        case measure => omega
                        case rel => exact ⟨x + 1, _, by omega, rfl, by go_num, rfl⟩
                      · have z1 : ((x0 : Int) == (x2 : Int)) = false := by rw [beq_eq_false_iff_ne]; omega
                        clear HRU HRUN
                        go_wp2_with fail
                        go_quiet (fail)
                        go_wp2
                        go_roundg (n - (x + 1))
                        case measure => omega
                        case rel => exact ⟨x + 1, _, by omega, rfl, by go_num, rfl⟩
                    · have z1 : ((x0 : Int) == (x1 : Int)) = false := by rw [beq_eq_false_iff_ne]; omega
                      clear HRU HRUN
                      go_wp2_with fail
                      go_quiet (fail)
                      go_wp2
                      go_roundg (n - (x + 1))
                      case measure => omega
                      case rel => exact ⟨x + 1, _, by omega, rfl, by go_num, rfl⟩
                  · have k2 : ¬ (A : Int) + 3 ≤ 4096 := by omega
                    have k2' : decide ((A : Int) + 3 ≤ 4096) = false := decide_eq_false k2
                    have n1 : IntKind.i64.wrap ((A : Int) + 3) = (A : Int) + 3 := IntWalk.i64_in _ (by omega)
                    go_wp2_with fail
                    go_quiet (fail)
                    go_wp2
                    go_roundg (n - (x + 1))
                    case measure => omega
                    case rel => exact ⟨x + 1, _, by omega, rfl, by go_num, rfl⟩
                · have k1 : ¬ (1 : Int) ≤ (A : Int) := by omega
                  have k1' : decide ((1 : Int) ≤ (A : Int)) = false := decide_eq_false k1
                  go_wp2_with fail
                  go_quiet (fail)
                  go_wp2
                  go_roundg (n - (x + 1))
                  case measure => omega
                  case rel => exact ⟨x + 1, _, by omega, rfl, by go_num, rfl⟩
              · have HWN : Hid (wN q A (A - d) = r) := h10
                have k1 : ¬ (r : Int) < 3 := by simp at h7; omega
                have k2 : ¬ (130 : Int) < (r : Int) := by have := wN_le q A (A - d); simp at h10; omega
                have k3 : ¬ (d : Int) < 1 := by simp at h8; omega
                have k4 : ¬ (A : Int) < (d : Int) := by simp at h9; omega
                have k5 : ¬ (4096 : Int) < (A : Int) + (r : Int) := by have := wN_len (b := q) (a := A) (f := A - d) (by have := HQL.out; omega); have := HQL.out; simp at h10; omega
                have k6 : ((r : Int) == 0) = false := by rw [beq_eq_false_iff_ne]; omega
                have hdA : d ≤ A ∧ A + r ≤ 4096 := by omega
                clear h7 h8 h9 h10
                go_wp2
                go_loopg [14] r (fun gk i w' => ∃ y m : Nat, y ≤ r ∧ gk = r - y ∧ i = .int .i64 y ∧ w' = wr.drewN m)
                case atStart => exact ⟨0, _, Nat.zero_le _, rfl, rfl, rfl⟩
                case round =>
                  obtain ⟨y, m2, hy, rfl, rfl, rfl⟩ := hrel
                  by_cases hyr : y < r
                  · have k7 : (y : Int) < (r : Int) := by omega
                    have e0 := HC.out (A + y) (by omega)
                    have e1 := HC.out (A + y - d) (by omega)
                    have e2 : q.getD (A + y) 0 = q.getD (A + y - d) 0 := by
                      have := wN_at (b := q) (a := A) (f := A - d) (j := y) (by have := HWN.out; omega)
                      rwa [show A - d + y = A + y - d by omega] at this
                    rw [← e2] at e1
                    clear e2
                    have n1 : IntKind.i64.wrap ((A : Int) + (y : Int)) = (A : Int) + (y : Int) := IntWalk.i64_in _ (by omega)
                    have n2 : IntKind.i64.wrap ((A : Int) + (y : Int) - (d : Int)) = (A : Int) + (y : Int) - (d : Int) := IntWalk.i64_in _ (by omega)
                    have ix0 := index_at (g := gp) (o := 0) (L := 4096) (c := cp) (q := A + y) (I := (A : Int) + (y : Int)) (A + y) (by omega) (by omega) (by omega)
                    have ix1 := index_at (g := gp) (o := 0) (L := 4096) (c := cp) (q := A + y - d) (I := (A : Int) + (y : Int) - (d : Int)) (A + y - d) (by omega) (by omega) (by omega)
                    generalize q.getD (A + y) 0 = b0 at *
                    go_wp2_with fail
                    go_quiet (fail)
                    go_wp2
                    go_roundg (r - (y + 1))
                    case measure => omega
                    case rel => exact ⟨y + 1, _, by omega, rfl, by go_num, rfl⟩
                  · obtain rfl : y = r := by omega
                    by_cases h130 : y < 130
                    · have k7 : (y : Int) < 130 := by omega
                      have k7' : decide ((y : Int) < 130) = true := decide_eq_true k7
                      have n1 : IntKind.i64.wrap ((A : Int) + (y : Int)) = (A : Int) + (y : Int) := IntWalk.i64_in _ (by omega)
                      by_cases hend : A + y < 4096
                      · have k8 : (A : Int) + (y : Int) < 4096 := by omega
                        have k8' : decide ((A : Int) + (y : Int) < 4096) = true := decide_eq_true k8
                        have e0 := HC.out (A + y) (by omega)
                        have e1 := HC.out (A + y - d) (by omega)
                        have e2 : ¬ q.getD (A + y) 0 = q.getD (A + y - d) 0 := by
                          have h9 := HWN.out
                          have := wN_end (b := q) (a := A) (f := A - d) (by omega) (by omega) (by have := HQL.out; omega)
                          rw [h9] at this
                          rwa [show A - d + y = A + y - d by omega] at this
                        have n2 : IntKind.i64.wrap ((A : Int) + (y : Int) - (d : Int)) = (A : Int) + (y : Int) - (d : Int) := IntWalk.i64_in _ (by omega)
                        have ix0 := index_at (g := gp) (o := 0) (L := 4096) (c := cp) (q := A + y) (I := (A : Int) + (y : Int)) (A + y) (by omega) (by omega) (by omega)
                        have ix1 := index_at (g := gp) (o := 0) (L := 4096) (c := cp) (q := A + y - d) (I := (A : Int) + (y : Int) - (d : Int)) (A + y - d) (by omega) (by omega) (by omega)
                        generalize q.getD (A + y) 0 = b0 at *
                        generalize q.getD (A + y - d) 0 = b1 at *
                        have z1 : ((b0 : Int) == (b1 : Int)) = false := by rw [beq_eq_false_iff_ne]; omega
                        go_wp2_with fail
                        go_quiet (fail)
                        go_wp2
                        go_roundg (n - (x + 1))
                        case measure => omega
                        case rel => exact ⟨x + 1, _, by omega, rfl, by go_num, rfl⟩
                      · have k8 : ¬ (A : Int) + (y : Int) < 4096 := by omega
                        have k8' : decide ((A : Int) + (y : Int) < 4096) = false := decide_eq_false k8
                        go_wp2_with fail
                        go_quiet (fail)
                        go_wp2
                        go_roundg (n - (x + 1))
                        case measure => omega
                        case rel => exact ⟨x + 1, _, by omega, rfl, by go_num, rfl⟩
                    · have k7 : ¬ (y : Int) < 130 := by omega
                      have k7' : decide ((y : Int) < 130) = false := decide_eq_false k7
                      go_wp2_with fail
                      go_quiet (fail)
                      go_wp2
                      go_roundg (n - (x + 1))
                      case measure => omega
                      case rel => exact ⟨x + 1, _, by omega, rfl, by go_num, rfl⟩
            · obtain rfl : x = n := by omega
              have HWR : Hid (Below w.heap.size w (wr.drewN m)) := HW.out.trans (drewN_below _ _ _)
              go_wp2_with fail
              refine (lives_any _).mono ?_
              rintro e wl ⟨rfl, hb⟩
              have HBL : Hid (Below w.heap.size w wl) := HWR.out.trans (hb.mono HWR.out.size)
              clear hb
              go_wp2
              go_ret
              exact ⟨rfl, HBL.out⟩

theorem walk {H : Type} {enc : TypeId × Value → H} {w : World} {base : Nat} {v0 v1 : Value} {d0 d1 : DataW H} {p0 p1 : List MemPlace}
    (o0 : Value.okWide Try.prog w .any base 36 v0)
    (o1 : Value.okWide Try.prog w .any base 37 v1)
    (h0 : DataW.Trod enc Try.prog w 0 (fun _ => true) true 36 v0 d0 p0)
    (h1 : DataW.Trod enc Try.prog w 0 (fun _ => true) true 37 v1 d1 p1) :
    Calls Try.prog 5 #[v0, v1] w fun e w' => e = .returned (.bool true) ∧ Below w.heap.size w w' := by
  obtain ⟨a, L, c, D, rfl, hL, hds⟩ := openPcs Try.underlying36 Try.underlying40 (by kernel_rfl) (by kernel_rfl) Try.underlying22 Try.underlying5 (by kernel_rfl) Try.underlying38 o0 h0
  obtain ⟨pa, n, pc, zs, rfl, hzl, hn, hz, hw⟩ := openList Try.underlying37 Try.underlying38 (by kernel_rfl) o1 h1
  refine run a L c D pa n pc zs w hL hds hzl hn hz fun i hi => ?_
  have hb := bounds_u16 (hw (zs.getD i 0) (by rw [List.getD_eq_getElem?_getD, List.getElem?_eq_getElem (by omega)]; exact List.getElem_mem _))
  exact ⟨(zs.getD i 0).toNat, by omega, by omega⟩

set_option maxRecDepth 100000 in
theorem lifted (os : Os) (started : os.Started) (H : Type) (enc : TypeId × Value → H) :
    ReturnsInHanded {} Try.checked os 5 .any (Rows.matchTrueSpec.pre6 enc Try.prog Try.f5 Rows.matchTrueRow.domain false) (Rows.matchTrueSpec.post enc Try.prog Try.f5 false true false false) := by
  refine returnsInHanded_of_change (C := Try.checked) own started (by kernel_rfl) Try.func5
    (ChangeSpec.witness6 (enc := enc) (C := Try.checked) false ⟨#[], #[.slice none 0 0, .slice none 0 0], []⟩ 8 (by kernel_rfl) (by kernel_rfl) (by kernel_rfl) (by kernel_rfl)) ?_
  intro W base args ds gs before hval0 hW hcnd _
  have hval : ∀ (j : Nat) t v, Try.f5.params[j]? = some t → args[j]? = some v → Value.okWide Try.prog W .any base t v := hval0
  have hW' := hW
  obtain ⟨p, q, hA0, hV, rfl, hfz, hnd⟩ := hW
  have hA : DataW.TrodAll enc Try.prog W 0 (fun _ => true) true Try.f5.params.toList args.toList ds p := hA0
  rw [Try.params5] at hA hval
  obtain ⟨v0, vs0, d0, ds0, p0, q0, hargs, rfl, rfl, h0, r0⟩ := trodAll_cons hA
  obtain ⟨v1, vs1, d1, ds1, p1, q1, rfl, rfl, rfl, h1, r1⟩ := trodAll_cons r0
  obtain ⟨rfl, rfl, rfl⟩ := trodAll_nil r1
  obtain rfl : args = #[v0, v1] := by cases args; simp_all
  obtain ⟨rfl, rfl⟩ := trodVars_none hV
  have o0 := hval 0 36 v0 rfl rfl
  have lt0 : ∀ x ∈ p0, x.block < W.heap.size := by obtain ⟨m, hm⟩ := h0; exact DataW.trod_lt m _ _ _ hm
  have o1 := hval 1 37 v1 rfl rfl
  have lt1 : ∀ x ∈ p1, x.block < W.heap.size := by obtain ⟨m, hm⟩ := h1; exact DataW.trod_lt m _ _ _ hm
  clear hA0 hval0
  refine (walk o0 o1 h0 h1).mono fun e W' ⟨he, bel⟩ => ?_
  subst he
  exact ⟨_, rfl, _, _, _, [], _, [], hW', trodAll_mk1 (shut_bool Try.underlying4 _), (trodAll_cons_mk (Below.trod laidOut (by kernel_rfl) (of_decide_eq_true (by kernel_rfl)) h0 bel lt0) (trodAll_cons_mk (Below.trod laidOut (by kernel_rfl) (of_decide_eq_true (by kernel_rfl)) h1 bel lt1) trodAll_mk0)), rfl, bel.frame _, fun h => by cases h⟩

theorem over : Rows.matchTrueRow.holds Try.pinned (OpenSpec.ofChange Rows.matchTrueSpec) :=
  OpenClaim.holds_of_wide 5 Try.f5 rfl rfl rfl rfl rfl rfl rfl ⟨rfl, rfl, rfl, rfl, rfl⟩ rfl rfl rfl rfl rfl (by kernel_rfl) Try.func5 (by kernel_rfl)
    (of_decide_eq_true (by kernel_rfl)) (by unfold Func.isWrapper; first | (rw [if_pos (by decide +kernel)]; kernel_rfl) | (rw [if_neg (by decide +kernel)]; exact ⟨rfl, rfl⟩))
    (fun os started H enc _ => lifted os started H enc)
end Go.Proofs.Ytfecjihfddfehaa.MatchTrue
namespace Go.Proofs.Ytfecjihfddfehaa
/-- The statement. -/
theorem matchTrue_holds : Rows.MatchTrueSaid := MatchTrue.over
#print axioms matchTrue_holds
end Go.Proofs.Ytfecjihfddfehaa
