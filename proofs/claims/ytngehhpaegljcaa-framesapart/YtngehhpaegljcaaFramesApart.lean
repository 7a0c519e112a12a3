/- Proved: gunnylaw05.FramesApart returns true for all lists of deeds: whoever takes and gives, a frame that is taken was Free, and nobody else's is changed; all together are as many as there are; none is left only when all were taken. No conditions. -/
import Derived.Test.YtngehhpaegljcaaFWhose
import Derived.Test.YtngehhpaegljcaaFLives
import Derived.Test.YtngehhpaegljcaaFCount
import Derived.Test.YtngehhpaegljcaaBDeeds
import Derived.Deep.LoopGhost
import Derived.Deep.RegionWith
import Derived.Deep.DeepCutAuto
namespace Go.Proofs.Ytngehhpaegljcaa.FramesApart
open Go.ChangeShapes Go.WideShapes Go.ChangeAt Go.RowKit
set_option linter.unusedVariables false
theorem own : ownKnob Try.prog.godebug = none := by kernel_rfl
theorem laidOut : laidOutB Try.prog = true := by kernel_rfl
/-- The round's state: the law's own array says what the frames say. -/
structure Held (w wr : World) (E wb : Nat) (p : Option Addr) (k t : Nat) (O : List Int) (S : List Nat) : Prop where
  fr : FramesP w.heap.size E wr p 12 t O S
  arr : WAt wb wr O
  bel : Below w.heap.size w wr
  lo : E ≤ wb
  wlo : w.heap.size ≤ wb
  tk : t ≤ k
section
variable {w wr w2 : World} {E wb k t : Nat} {p : Option Addr} {O O' : List Int} {S S' : List Nat}
theorem Held.below (h : Held w wr E wb p k t O S) (hb : Below wr.heap.size wr w2) : Held w w2 E wb p k t O S :=
  ⟨h.fr.below hb, h.arr.keep (hb.block wb h.arr.lt), h.bel.trans (hb.mono h.bel.size), h.lo, h.wlo, h.tk⟩
theorem Held.drewN (h : Held w wr E wb p k t O S) (n : Nat) : Held w (wr.drewN n) E wb p k t O S := h.below (drewN_below _ _ _)
/-- The frames turned; the array is as it was. -/
structure Half (w wr : World) (E wb : Nat) (p : Option Addr) (k t : Nat) (O O' : List Int) (S' : List Nat) : Prop where
  fr : FramesP w.heap.size E wr p 12 t O' S'
  arr : WAt wb wr O
  bel : Below w.heap.size w wr
  lo : E ≤ wb
  wlo : w.heap.size ≤ wb
  tk : t ≤ k
theorem Held.turn {b : Bool} (h : Held w wr E wb p k t O S) (h2 : FramesP w.heap.size E w2 p 12 (up t b) O' S') (ht : Turns w.heap.size E wr w2) : Half w w2 E wb p (k + 1) (up t b) O O' S' :=
  ⟨h2, h.arr.keep (ht.block wb h.arr.lt (.inr h.lo)), h.bel.trans (ht.below h.bel.size), h.lo, h.wlo, by have := h.tk; unfold up; split <;> omega⟩
theorem Half.below (h : Half w wr E wb p k t O O' S') (hb : Below wr.heap.size wr w2) : Half w w2 E wb p k t O O' S' :=
  ⟨h.fr.below hb, h.arr.keep (hb.block wb h.arr.lt), h.bel.trans (hb.mono h.bel.size), h.lo, h.wlo, h.tk⟩
theorem Half.set {n : Nat} {v : Int} (h : Half w wr E wb p k t O O' S') (e : O' = O.set n v) : Held w (wr.setCell ⟨wb, n, none⟩ (.int .i64 v)) E wb p k t O' S' := by
  refine ⟨h.fr.kept (by simp) (fun i hi => Below.heap_setCell _ _ _ _ (by have := h.lo; show i ≠ wb; omega)), ?_, h.bel.setCell (p := ⟨wb, n, none⟩) h.wlo _, h.lo, h.wlo, h.tk⟩
  rw [e]
  exact h.arr.set n v
theorem Half.same (h : Half w wr E wb p k t O O' S') (e : O' = O) : Held w wr E wb p k t O' S' := ⟨h.fr, by rw [e]; exact h.arr, h.bel, h.lo, h.wlo, h.tk⟩
end

set_option maxRecDepth 100000 in
set_option maxHeartbeats 4000000 in
theorem run (a : Option Addr) (L c : Nat) (K N : Nat → Int) (w : World) (hL : L ≤ maxLen) (hd : PairsAt w a L K N) :
    Calls Try.prog 4 #[.slice a L c] w fun e w' => e = .returned (.bool true) ∧ Below w.heap.size w w' := by
  unfold maxLen at hL
  by_cases hlong : 200 < L
  · go_enter Try.func4, Try.ntmps4
    go_wp2_with fail
    refine (lives_any _).mono ?_
    rintro e w1 ⟨rfl, hb⟩
    go_wp2
    go_ret
    exact ⟨rfl, hb⟩
  have HD : Hid (PairsAt w a L K N) := hd
  obtain ⟨Z, hZ⟩ : ∃ Z : Array Value, Z = Array.replicate 12 (.int .i64 0) := ⟨_, rfl⟩
  have hal := zero_whose
  rw [← hZ] at hal
  clear hd
  go_enter Try.func4, Try.ntmps4
  go_wp2_with fail
  refine (new_any 12 (by omega) (by omega) _).mono ?_
  rintro e w1 ⟨p, rfl, h1, b1⟩
  have hH : Held w (w1.alloc (.cells Z 47)) w1.heap.size w1.heap.size p 0 0 (List.replicate 12 0) (down 12) := by
    subst hZ
    exact ⟨h1.below ((Below.refl _ _).alloc (Nat.le_refl _) _), WAt.new w1, b1.alloc b1.size _, Nat.le_refl _, b1.size, Nat.le_refl _⟩
  have HH : Hid _ := hH
  clear hH h1 b1 hZ
  generalize List.replicate 12 (0 : Int) = O0 at *
  generalize down 12 = S0 at *
  go_wp2_with fail
  obtain ⟨wb, hwb⟩ : ∃ wb, wb = w1.heap.size := ⟨_, rfl⟩
  have HH2 : Hid (Held w (w1.alloc (.cells Z 47)) w1.heap.size wb p 0 0 O0 S0) := by rw [hwb]; exact HH.out
  rw [← hwb]
  generalize w1.heap.size = E at *
  clear hwb HH
  generalize w1.alloc (.cells Z 47) = w2 at *
  clear hal
  go_loopg [6, 7, 8, 9, 10, 11] L (fun gk i _ _ _ _ _ wr => ∃ (k t : Nat) (O : List Int) (S : List Nat), k ≤ L ∧ gk = L - k ∧ i = .int .i64 k ∧ Held w wr E wb p k t O S)
  case atStart => exact ⟨0, 0, _, _, Nat.zero_le _, rfl, rfl, HH2.out⟩
  case round =>
    obtain ⟨k, t, O, S, hk, rfl, rfl, hH⟩ := hrel
    by_cases hlt : k < L
    · obtain ⟨bz, off, rfl, hbz, hcK, hcN⟩ := HD.out.later hH.bel hlt
      generalize K k = n at *
      generalize N k = o at *
      have htk := hH.tk
      have HHD : Hid (Held w (wr.alloc (.cells #[.int .i64 n, .int .i64 o] 41)) E wb p k t O S) := hH.below ((Below.refl _ _).alloc (Nat.le_refl _) _)
      have HDB : Hid ((wr.alloc (.cells #[.int .i64 n, .int .i64 o] 41)).heap[wr.heap.size]? = some (.cells #[.int .i64 n, .int .i64 o] 41 (0, 0))) := heap_alloc_new wr _
      have HEB : Hid (E ≤ wr.heap.size) := by show _ ≤ _; have := hH.arr.lt; have := hH.lo; omega
      clear hH HH2
      by_cases hn : 0 ≤ n
      · obtain ⟨n, rfl⟩ := Int.eq_ofNat_of_zero_le hn
        clear hn
        go_upto_region 12 with (fail)
        generalize wr.alloc (.cells #[.int .i64 (n : Int), .int .i64 o] 41) = w5 at *
        generalize wr.heap.size = db at *
        clear hcK hcN
        obtain ⟨b, hb⟩ : ∃ b, gvB O (n : Int) = b := ⟨_, rfl⟩
        have HB : Hid _ := hb
        have hdl : db < w5.heap.size := (Array.getElem?_eq_some_iff.1 HDB.out).1
        have wbl := HHD.out.arr.lt
        have HKD : Hid (∀ w2, Turns w.heap.size E w5.drew w2 → w2.cell? ⟨db, 0, none⟩ = some (.int .i64 (n : Int))) := by
          intro w2 h2
          have := (h2.block db hdl (.inr HEB.out)).trans HDB.out
          rw [cell_of_row w2 db 0 _ _ _ this]; rfl
        have HKW : Hid (∀ w2, Turns w.heap.size E w5.drew w2 → n < 12 → w2.cell? ⟨wb, n, none⟩ = some (.int .i64 (O.getD n 0))) := by
          intro w2 h2 h12
          exact (HHD.out.arr.keep ((h2.block wb wbl (.inr HHD.out.lo)))).cell h12
        have k0 : w5.cell? ⟨db, 0, none⟩ = some (.int .i64 (n : Int)) := HKD.out w5.drew (Turns.refl _ _ _)
        have HFD : Hid (FramesP w.heap.size E w5.drew p 12 t O S) := HHD.out.fr.below (drew_below _ _)
        clear hb hdl wbl
        go_cut [50] (fun c wx => c = .bool false ∧ FramesP w.heap.size E wx p 12 (up t b) (gvO O (n : Int)) (gvS O S (n : Int)) ∧ Turns w.heap.size E w5 wx)
        case first =>
          by_cases h12 : n < 12
          · have kw : w5.cell? ⟨wb, n, none⟩ = some (.int .i64 (O.getD n 0)) := HKW.out w5.drew (Turns.refl _ _ _) h12
            have i1 : (n : Int) < 12 := by omega
            have i2 : decide ((n : Int) < 12) = true := decide_eq_true i1
            have r1 : (n : Int).tmod 12 = (n : Int) := by rw [IntWalk.rem_in _ _ (by omega)]; omega
            have r2 : (n : Int) % 12 = (n : Int) := by omega
            have r3 : IntKind.i64.wrap (n : Int) = (n : Int) := IntWalk.i64_in _ (by omega)
            have r4 : n % 12 = n := by omega
            have hbq : b = (O.getD n 0 != 0) := by
              rw [← HB.out, gvB, ownI_nat]
              by_cases e : O.getD n 0 = 0
              · rw [e]; rfl
              · rw [decide_eq_true e]; exact (bne_iff_ne.2 e).symm
            have hkw2 : Hid (∀ w2, Turns w.heap.size E w5.drew w2 → w2.cell? ⟨wb, n, none⟩ = some (.int .i64 (O.getD n 0))) := fun w2 h2 => HKW.out w2 h2 h12
            generalize O.getD n 0 = q at *
            have HBB : Hid (b = (q != 0)) := hbq
            clear hbq
            go_region_with (go_at_call 7; refine (give_is _ _ HFD.out (by omega) HB.out).mono ?_; rintro e w2 ⟨rfl, h2, t2⟩; have q2 := HKD.out w2 t2; have q3 := hkw2.out w2 t2; have H2 : Hid _ := h2; have T2 : Hid _ := t2; clear h2 t2)
            all_goals
              go_wp2
              go_meet
              exact ⟨congrArg Value.bool (by rw [HBB.out]; simp), H2.out, (Turns.of_below (drew_below _ _)).trans T2.out⟩
          · have i1 : ¬ (n : Int) < 12 := by omega
            have i2 : decide ((n : Int) < 12) = false := decide_eq_false i1
            have hbq : b = false := by rw [← HB.out]; exact gv_no (ownI_far (by rw [HHD.out.fr.good.len]; omega))
            subst hbq
            first | (go_region_with (go_at_call 7; refine (give_is _ _ HFD.out (by omega) HB.out).mono ?_; rintro e w2 ⟨rfl, h2, t2⟩; have q2 := HKD.out w2 t2; have H2 : Hid _ := h2; have T2 : Hid _ := t2; clear h2 t2)) | (fail "the region")
            all_goals
              go_wp2
              go_meet
              exact ⟨rfl, H2.out, (Turns.of_below (drew_below _ _)).trans T2.out⟩
        case rest =>
          obtain ⟨rfl, hf, ht⟩ := hcut
          have HHF : Hid (Half w wc E wb p (k + 1) (up t b) O (gvO O (n : Int)) (gvS O S (n : Int))) := HHD.out.turn hf ht
          have HDC : Hid _ := (ht.block db (Array.getElem?_eq_some_iff.1 HDB.out).1 (.inr HEB.out)).trans HDB.out
          have k1 := cell_of_row wc db 0 _ _ _ HDC.out
          rw [show (#[Value.int .i64 (n : Int), .int .i64 o] : Array Value)[0]? = some (.int .i64 (n : Int)) from rfl] at k1
          clear hf ht k0 HKD HKW HFD HDB HHD
          by_cases h12 : n < 12
          · have i1 : (n : Int) < 12 := by omega
            have kw := HHF.out.arr.cell h12
            have fw := HHF.out.arr.frozen n
            have HI : Hid (Held w (wc.setCell ⟨wb, n, none⟩ (.int .i64 0)) E wb p (k + 1) (up t b) (gvO O (n : Int)) (gvS O S (n : Int))) := HHF.out.set (by
              unfold gvO
              split
              · rfl
              · rename_i h
                have h0 : O.getD n 0 = 0 := by
                  have := gv_not (Bool.eq_false_iff.2 h)
                  rwa [ownI_nat] at this
                apply List.ext_getElem?
                intro i
                rw [List.getElem?_set]
                split
                · rename_i e
                  subst e
                  split
                  · rename_i h1
                    rw [List.getD_eq_getElem?_getD, List.getElem?_eq_getElem h1] at h0
                    rw [List.getElem?_eq_getElem h1]
                    exact congrArg some h0
                  · rename_i h1
                    exact List.getElem?_eq_none (by omega)
                · rfl)
            generalize O.getD n 0 = q at *
            generalize hT : up t b = T at *
            generalize hO' : gvO O (n : Int) = O' at *
            generalize hS' : gvS O S (n : Int) = S' at *
            clear hT hO' hS'
            go_upto_region 24 with (fail)
            generalize wc.setCell ⟨wb, n, none⟩ (.int .i64 0) = w6 at *
            clear k1 kw fw
            go_wp2_with fail
            go_loopg [11] 12 (fun gk i wq => ∃ n : Nat, n ≤ 12 ∧ gk = 12 - n ∧ i = .int .i64 n ∧ Held w wq E wb p (k + 1) T O' S')
            case atStart => exact ⟨0, by omega, rfl, rfl, HI.out⟩
            case round =>
              obtain ⟨n, hn, rfl, rfl, hh⟩ := hrel
              have HJ : Hid (Held w wr E wb p (k + 1) T O' S') := hh
              by_cases hlt : n < 12
              · obtain ⟨q, hq⟩ : ∃ q, List.getD O' n 0 = q := ⟨_, rfl⟩
                have cW := hh.arr.cell hlt
                rw [hq] at cW
                have HQ : Hid (ownI O' (n : Int) = q) := by show _ = _; rw [ownI_nat]; exact hq
                have i1 : (n : Int) < 12 := by omega
                have hqq : (q != q) = false := by simp
                clear hh hq
                go_wp2_with fail
                go_quiet ((go_at_call 8; exact quietSame (owner_is _ _ (HJ.out.fr.drewN _) HQ.out)))
                go_wp2
                go_roundg (12 - (n + 1))
                case measure => omega
                case rel => exact ⟨n + 1, by omega, rfl, by go_num, HJ.out.drewN _⟩
              · have e : n = 12 := by omega
                subst e
                clear hh
                go_wp2
                go_roundg (L - (k + 1))
                case measure => omega
                case rel => exact ⟨k + 1, _, _, _, by omega, rfl, by go_num, HJ.out⟩
          · have i1 : ¬ (n : Int) < 12 := by omega
            have HI : Hid (Held w wc E wb p (k + 1) (up t b) (gvO O (n : Int)) (gvS O S (n : Int))) := HHF.out.same (by
              unfold gvO
              rw [gv_no (ownI_far (by rw [HHF.out.arr.len]; omega))]
              rfl)
            generalize hT : up t b = T at *
            generalize hO' : gvO O (n : Int) = O' at *
            generalize hS' : gvS O S (n : Int) = S' at *
            clear hT hO' hS'
            go_wp2_with fail
            go_loopg [11] 12 (fun gk i wq => ∃ n : Nat, n ≤ 12 ∧ gk = 12 - n ∧ i = .int .i64 n ∧ Held w wq E wb p (k + 1) T O' S')
            case atStart => exact ⟨0, by omega, rfl, rfl, HI.out⟩
            case round =>
              obtain ⟨n, hn, rfl, rfl, hh⟩ := hrel
              have HJ : Hid (Held w wr E wb p (k + 1) T O' S') := hh
              by_cases hlt : n < 12
              · obtain ⟨q, hq⟩ : ∃ q, List.getD O' n 0 = q := ⟨_, rfl⟩
                have cW := hh.arr.cell hlt
                rw [hq] at cW
                have HQ : Hid (ownI O' (n : Int) = q) := by show _ = _; rw [ownI_nat]; exact hq
                have i1 : (n : Int) < 12 := by omega
                have hqq : (q != q) = false := by simp
                clear hh hq
                go_wp2_with fail
                go_quiet ((go_at_call 8; exact quietSame (owner_is _ _ (HJ.out.fr.drewN _) HQ.out)))
                go_wp2
                go_roundg (12 - (n + 1))
                case measure => omega
                case rel => exact ⟨n + 1, by omega, rfl, by go_num, HJ.out.drewN _⟩
              · have e : n = 12 := by omega
                subst e
                clear hh
                go_wp2
                go_roundg (L - (k + 1))
                case measure => omega
                case rel => exact ⟨k + 1, _, _, _, by omega, rfl, by go_num, HJ.out⟩
      · have hn2 : n < 0 := by omega
        go_wp2_with fail
        generalize wr.alloc (.cells #[.int .i64 n, .int .i64 o] 41) = w5 at *
        generalize wr.heap.size = db at *
        clear hcK hcN
        have HGT : Hid _ := HHD.out.fr.good.tk o
        cases hb : tkB S o with
        | true =>
          obtain ⟨hs, o1, o3⟩ := tk_of hb
          obtain ⟨hn12, hn0⟩ := HHD.out.fr.good.top hs
          have HB : Hid (tkB S o = true) := hb
          have HN : Hid (tkN S o = S.getD (S.length - 1) 0) := by show _ = _; simp [tkN, hb]
          have HO : Hid (tkO O S o = O.set (S.getD (S.length - 1) 0) o) := by show _ = _; simp [tkO, hb]
          generalize S.getD (S.length - 1) 0 = nf at *
          have HN0 : Hid (O.getD nf 0 = 0) := hn0
          clear hb hs hn0
          refine (take_is o _ HHD.out.fr (by omega) HB.out HN.out).mono ?_
          rintro e w6 ⟨rfl, h6, t6⟩
          have HHF : Hid (Half w w6 E wb p (k + 1) (up t true) O (tkO O S o) (tkS S o)) := HHD.out.turn h6 t6
          have HDC : Hid (w6.heap[db]? = some (.cells #[.int .i64 n, .int .i64 o] 41 (0, 0))) := (t6.block db (Array.getElem?_eq_some_iff.1 HDB.out).1 (.inr HEB.out)).trans HDB.out
          have HCF : Hid (cnt (tkO O S o) [0] = (tkS S o).length) := HGT.out.cnt_free
          have hfl := HGT.out.slen
          generalize hT : up t true = T at *
          generalize hO' : tkO O S o = O' at *
          generalize hS' : tkS S o = S' at *
          generalize hF : S'.length = F at *
          clear h6 t6 hT hO' hS' hF HGT
          go_wp2_with fail
          refine (count_is (zs := [0]) _ (HHF.out.fr.below ((Below.refl _ _).alloc (Nat.le_refl _) _)) (IntsAt.made w6 [0] _ rfl) rfl (by decide) HCF.out).mono ?_
          rintro e w7 ⟨rfl, b7⟩
          have b67 : Below w6.heap.size w6 w7 := ((Below.refl _ w6).alloc (Nat.le_refl _) _).trans (b7.mono (by simp))
          have HH7 : Hid (Half w w7 E wb p (k + 1) T O O' S') := HHF.out.below b67
          have HD7 : Hid _ := (b67.block db (Array.getElem?_eq_some_iff.1 HDC.out).1).trans HDC.out
          have k1 := cell_of_row w7 db 1 _ _ _ HD7.out
          rw [show (#[Value.int .i64 n, .int .i64 o] : Array Value)[1]? = some (.int .i64 o) from rfl] at k1
          have kw := HH7.out.arr.cell hn12
          rw [HN0.out] at kw
          have fw := HH7.out.arr.frozen nf
          have HI : Hid (Held w (w7.setCell ⟨wb, nf, none⟩ (.int .i64 o)) E wb p (k + 1) T O' S') := HH7.out.set HO.out
          have i1 : (nf : Int) < 12 := by omega
          clear b7 b67
          go_upto_region 24 with (fail)
          generalize w7.setCell ⟨wb, nf, none⟩ (.int .i64 o) = w8 at *
          clear k1 kw fw
          go_wp2_with fail
          go_loopg [11] 12 (fun gk i wq => ∃ n : Nat, n ≤ 12 ∧ gk = 12 - n ∧ i = .int .i64 n ∧ Held w wq E wb p (k + 1) T O' S')
          case atStart => exact ⟨0, by omega, rfl, rfl, HI.out⟩
          case round =>
            obtain ⟨n, hn, rfl, rfl, hh⟩ := hrel
            have HJ : Hid (Held w wr E wb p (k + 1) T O' S') := hh
            by_cases hlt : n < 12
            · obtain ⟨q, hq⟩ : ∃ q, List.getD O' n 0 = q := ⟨_, rfl⟩
              have cW := hh.arr.cell hlt
              rw [hq] at cW
              have HQ : Hid (ownI O' (n : Int) = q) := by show _ = _; rw [ownI_nat]; exact hq
              have i1 : (n : Int) < 12 := by omega
              have hqq : (q != q) = false := by simp
              clear hh hq
              go_wp2_with fail
              go_quiet ((go_at_call 8; exact quietSame (owner_is _ _ (HJ.out.fr.drewN _) HQ.out)))
              go_wp2
              go_roundg (12 - (n + 1))
              case measure => omega
              case rel => exact ⟨n + 1, by omega, rfl, by go_num, HJ.out.drewN _⟩
            · have e : n = 12 := by omega
              subst e
              clear hh
              go_wp2
              go_roundg (L - (k + 1))
              case measure => omega
              case rel => exact ⟨k + 1, _, _, _, by omega, rfl, by go_num, HJ.out⟩
        | false =>
          have hno := tk_not hb
          have HB : Hid (tkB S o = false) := hb
          have HN : Hid (tkN S o = 0) := by show _ = _; simp [tkN, hb]
          have HO : Hid (tkO O S o = O) := by show _ = _; simp [tkO, hb]
          have HS : Hid (tkS S o = S) := by show _ = _; simp [tkS, hb]
          clear hb
          refine (take_is o _ HHD.out.fr (by omega) HB.out HN.out).mono ?_
          rintro e w6 ⟨rfl, h6, t6⟩
          have HHF : Hid (Half w w6 E wb p (k + 1) (up t false) O (tkO O S o) (tkS S o)) := HHD.out.turn h6 t6
          have HDC : Hid (w6.heap[db]? = some (.cells #[.int .i64 n, .int .i64 o] 41 (0, 0))) := (t6.block db (Array.getElem?_eq_some_iff.1 HDB.out).1 (.inr HEB.out)).trans HDB.out
          rw [HO.out, HS.out] at HHF
          have HCF : Hid (cnt O [0] = S.length) := HHF.out.fr.good.cnt_free
          have hfl := HHF.out.fr.good.slen
          generalize hT : up t false = T at *
          generalize hF : S.length = F at *
          clear h6 t6 hT hF HGT
          go_wp2_with fail
          refine (count_is (zs := [0]) _ (HHF.out.fr.below ((Below.refl _ _).alloc (Nat.le_refl _) _)) (IntsAt.made w6 [0] _ rfl) rfl (by decide) HCF.out).mono ?_
          rintro e w7 ⟨rfl, b7⟩
          have b67 : Below w6.heap.size w6 w7 := ((Below.refl _ w6).alloc (Nat.le_refl _) _).trans (b7.mono (by simp))
          have HH7 : Hid (Half w w7 E wb p (k + 1) T O O S) := HHF.out.below b67
          have HD7 : Hid _ := (b67.block db (Array.getElem?_eq_some_iff.1 HDC.out).1).trans HDC.out
          have k1 := cell_of_row w7 db 1 _ _ _ HD7.out
          rw [show (#[Value.int .i64 n, .int .i64 o] : Array Value)[1]? = some (.int .i64 o) from rfl] at k1
          have HI : Hid (Held w w7 E wb p (k + 1) T O S) := HH7.out.same rfl
          clear b7 b67
          go_upto_region 20 with (fail)
          go_cut [100] (fun c wx => c = .bool false ∧ w7 = wx)
          case first =>
            by_cases y1 : 0 < F
            · have y1' : (0 : Int) < (F : Int) := by omega
              by_cases y2 : 1 ≤ o
              · have y3 : ¬ o ≤ 3 := by omega
                go_wp2
                go_meet
                exact ⟨rfl, rfl⟩
              · go_wp2
                go_meet
                exact ⟨rfl, rfl⟩
            · have y1' : F = 0 := by omega
              subst y1'
              go_wp2
              go_meet
              exact ⟨rfl, rfl⟩
          case rest =>
            obtain ⟨rfl, rfl⟩ := hcut
            clear k1 hno
            go_wp2_with fail
            go_loopg [11] 12 (fun gk i wq => ∃ n : Nat, n ≤ 12 ∧ gk = 12 - n ∧ i = .int .i64 n ∧ Held w wq E wb p (k + 1) T O S)
            case atStart => exact ⟨0, by omega, rfl, rfl, HI.out⟩
            case round =>
              obtain ⟨n, hn, rfl, rfl, hh⟩ := hrel
              have HJ : Hid (Held w wr E wb p (k + 1) T O S) := hh
              by_cases hlt : n < 12
              · obtain ⟨q, hq⟩ : ∃ q, List.getD O n 0 = q := ⟨_, rfl⟩
                have cW := hh.arr.cell hlt
                rw [hq] at cW
                have HQ : Hid (ownI O (n : Int) = q) := by show _ = _; rw [ownI_nat]; exact hq
                have i1 : (n : Int) < 12 := by omega
                have hqq : (q != q) = false := by simp
                clear hh hq
                go_wp2_with fail
                go_quiet ((go_at_call 8; exact quietSame (owner_is _ _ (HJ.out.fr.drewN _) HQ.out)))
                go_wp2
                go_roundg (12 - (n + 1))
                case measure => omega
                case rel => exact ⟨n + 1, by omega, rfl, by go_num, HJ.out.drewN _⟩
              · have e : n = 12 := by omega
                subst e
                clear hh
                go_wp2
                go_roundg (L - (k + 1))
                case measure => omega
                case rel => exact ⟨k + 1, _, _, _, by omega, rfl, by go_num, HJ.out⟩
    · have e : k = L := by omega
      subst e
      have HC4 : Hid (cnt O [0, 1, 2, 3] = 12) := hH.fr.good.cnt_all
      have HF4 : Hid (FramesP w.heap.size E wr p 12 t O S) := hH.fr
      have HB4 : Hid (Below w.heap.size w wr) := hH.bel
      clear hH HH2
      go_wp2_with fail
      refine (count_is (zs := [0, 1, 2, 3]) _ (HF4.out.below ((Below.refl _ _).alloc (Nat.le_refl _) _)) (IntsAt.made wr [0, 1, 2, 3] _ rfl) rfl (by decide) HC4.out).mono ?_
      rintro e w7 ⟨rfl, b7⟩
      have b67 : Below w.heap.size w w7 := HB4.out.trans ((((Below.refl _ wr).alloc (Nat.le_refl _) _).trans (b7.mono (by simp))).mono HB4.out.size)
      clear b7
      go_wp2_with fail
      refine (lives_any _).mono ?_
      rintro e w8 ⟨rfl, b8⟩
      go_wp2
      go_ret
      exact ⟨rfl, b67.trans (b8.mono b67.size)⟩

theorem walk {H : Type} {enc : TypeId × Value → H} {w : World} {base : Nat} {v0 : Value} {d0 : DataW H} {p0 : List MemPlace}
    (o0 : Value.okWide Try.prog w .any base 22 v0)
    (h0 : DataW.Trod enc Try.prog w 0 (fun _ => true) true 22 v0 d0 p0) :
    Calls Try.prog 4 #[v0] w fun e w' => e = .returned (.bool true) ∧ Below w.heap.size w w' := by
  obtain ⟨a, L, c, K, N, rfl, hL, hd⟩ := openPairs Try.underlying22 Try.underlying41 (by kernel_rfl) rfl rfl (by kernel_rfl) (by kernel_rfl) Try.underlying3 Try.underlying3 o0 h0
  exact run a L c K N w hL hd

set_option maxRecDepth 100000 in
theorem lifted (os : Os) (started : os.Started) (H : Type) (enc : TypeId × Value → H) :
    ReturnsInHanded {} Try.checked os 4 .any (Rows.framesApartSpec.pre6 enc Try.prog Try.f4 Rows.framesApartRow.domain false) (Rows.framesApartSpec.post enc Try.prog Try.f4 false true false false) := by
  refine returnsInHanded_of_change (C := Try.checked) own started (by kernel_rfl) Try.func4
    (ChangeSpec.witness6 (enc := enc) (C := Try.checked) false ⟨#[], #[.slice none 0 0], []⟩ 8 (by kernel_rfl) (by kernel_rfl) (by kernel_rfl) (by kernel_rfl)) ?_
  intro W base args ds gs before hval0 hW hcnd _
  have hval : ∀ (j : Nat) t v, Try.f4.params[j]? = some t → args[j]? = some v → Value.okWide Try.prog W .any base t v := hval0
  have hW' := hW
  obtain ⟨p, q, hA0, hV, rfl, hfz, hnd⟩ := hW
  have hA : DataW.TrodAll enc Try.prog W 0 (fun _ => true) true Try.f4.params.toList args.toList ds p := hA0
  rw [Try.params4] at hA hval
  obtain ⟨v0, vs0, d0, ds0, p0, q0, hargs, rfl, rfl, h0, r0⟩ := trodAll_cons hA
  obtain ⟨rfl, rfl, rfl⟩ := trodAll_nil r0
  obtain rfl : args = #[v0] := by cases args; simp_all
  obtain ⟨rfl, rfl⟩ := trodVars_none hV
  have o0 := hval 0 22 v0 rfl rfl
  have lt0 : ∀ x ∈ p0, x.block < W.heap.size := by obtain ⟨m, hm⟩ := h0; exact DataW.trod_lt m _ _ _ hm
  clear hA0 hval0
  refine (walk o0 h0).mono fun e W' ⟨he, bel⟩ => ?_
  subst he
  exact ⟨_, rfl, _, _, _, [], _, [], hW', trodAll_mk1 (shut_bool Try.underlying4 _), (trodAll_cons_mk (Below.trod laidOut (by kernel_rfl) (of_decide_eq_true (by kernel_rfl)) h0 bel lt0) trodAll_mk0), rfl, bel.frame _, fun h => by cases h⟩

theorem over : Rows.framesApartRow.holds Try.pinned (OpenSpec.ofChange Rows.framesApartSpec) :=
  OpenClaim.holds_of_wide 4 Try.f4 rfl rfl rfl rfl rfl rfl rfl ⟨rfl, rfl, rfl, rfl, rfl⟩ rfl rfl rfl rfl rfl (by kernel_rfl) Try.func4 (by kernel_rfl)
    (of_decide_eq_true (by kernel_rfl)) (by unfold Func.isWrapper; first | (rw [if_pos (by decide +kernel)]; kernel_rfl) | (rw [if_neg (by decide +kernel)]; exact ⟨rfl, rfl⟩))
    (fun os started H enc _ => lifted os started H enc)
end Go.Proofs.Ytngehhpaegljcaa.FramesApart
namespace Go.Proofs.Ytngehhpaegljcaa
/-- The statement. -/
theorem framesApart_holds : Rows.FramesApartSaid := FramesApart.over
#print axioms framesApart_holds
end Go.Proofs.Ytngehhpaegljcaa
