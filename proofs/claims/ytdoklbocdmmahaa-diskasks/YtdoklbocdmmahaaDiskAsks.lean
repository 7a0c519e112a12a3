/- Proved: gunnylaw08.DiskAsks returns true for all lists of deeds: luck is asked once for each access of a sector that there is, and for no other one. No conditions. -/
import Derived.Test.YtdoklbocdmmahaaDGreat
import Derived.Deep.RegionWith
import Derived.BigRegion
namespace Go.Proofs.Ytdoklbocdmmahaa.DiskAsks
open Go.ChangeShapes Go.WideShapes Go.ChangeAt Go.RowKit
set_option linter.unusedVariables false
theorem own : ownKnob Try.prog.godebug = none := by kernel_rfl
theorem laidOut : laidOutB Try.prog = true := by kernel_rfl
/-- A round's state. -/
structure Held (w wr : World) (Q E r j k : Nat) (P : List Nat) : Prop where
  disk : DiskAt Q E wr r 5 [] k P
  bel : Below w.heap.size w wr
  qs : w.heap.size ≤ Q
  kj : k ≤ j
theorem Held.step {w wr w2 : World} {Q E r j k k' : Nat} {P P' : List Nat} (h : Held w wr Q E r j k P) (h2 : DiskAt Q E w2 r 5 [] k' P') (t2 : Turns Q E wr w2) (hk : k' ≤ k + 1) : Held w w2 Q E r (j + 1) k' P' := by
  have e := h.disk.hi
  have := h.kj
  exact ⟨h2, h.bel.trans ((t2.below (by omega)).mono h.qs), h.qs, by omega⟩
theorem inc_le (k : Nat) (b : Bool) : inc k b ≤ k + 1 := by unfold inc; split <;> omega
theorem ft_nil (k : Nat) : ft [] k = 0 := by simp [ft]

set_option maxRecDepth 100000 in
set_option maxHeartbeats 4000000 in
theorem run (a : Option Addr) (L c : Nat) (D : Nat → Dd) (w : World) (hL : L ≤ maxLen) (hds : DeedsAt w a L D) :
    Calls Try.prog 5 #[.slice a L c] w fun e w' => e = .returned (.bool true) ∧ Below w.heap.size w w' := by
  have HDS : Hid (DeedsAt w a L D) := hds
  have HL : Hid (L ≤ maxLen) := hL
  unfold maxLen at hL
  clear hds
  go_enter Try.func5, Try.ntmps5
  go_wp2_with fail
  refine (great_any a L c D w HL.out HDS.out).mono ?_
  rintro e w' ⟨v, rfl, rfl, b, rfl, hg⟩
  cases b with
  | true =>
    clear hg
    go_wp2_with fail
    refine (lives_any _).mono ?_
    rintro e w1 ⟨rfl, hb⟩
    go_wp2
    go_ret
    exact ⟨rfl, hb⟩
  | false =>
    have hL60 := hg rfl
    clear hg
    go_wp2_with fail
    refine (dNew_any (a := none) (n := 0) (c := 0) (zs := []) 5 _ (by omega) ⟨rfl, .inl ⟨rfl, rfl, rfl⟩⟩ (by omega)).mono ?_
    rintro e w1 ⟨r, rfl, h1, b1⟩
    have HH : Hid (Held w w1 w.heap.size w1.heap.size r 0 0 (zeros 5)) := ⟨h1, b1, Nat.le_refl _, Nat.le_refl _⟩
    clear h1 b1
    generalize zeros 5 = P0 at *
    generalize w1.heap.size = E at *
    obtain ⟨Q, hQ⟩ : ∃ Q, w.heap.size = Q := ⟨_, rfl⟩
    have HQ : Hid (w.heap.size = Q) := hQ
    have HH0 : Hid (Held w w1 Q E r 0 0 P0) := by have := HH.out; rw [hQ] at this; exact this
    clear hQ HH
    go_wp2_with fail
    go_loopw [5, 6] (fun n i wr => ∃ (j k : Nat) (P : List Nat), j ≤ L ∧ i = .int .i64 j ∧ n = .int .i64 k ∧ Held w wr Q E r j k P) (fun _ i _ => L - (intOf i).toNat)
    case atStart => exact ⟨0, 0, _, Nat.zero_le _, rfl, rfl, HH0.out⟩
    case round =>
      obtain ⟨j, k, P, hj, rfl, rfl, hH⟩ := hrel
      have hkj := hH.kj
      have Hh : Hid (Held w wr Q E r j k P) := hH
      clear hH HH0
      by_cases hlt : j < L
      · obtain ⟨b, off, rfl, hbz, c0, c1, c2, c3⟩ := HDS.out.later Hh.out.bel hlt
        have HOK : Hid (DeedOk w (D j)) := HDS.out.ok hlt
        generalize D j = d at *
        have i1 : (j : Int) < (L : Int) := by omega
        have bel0 : Hid (∀ {w2 : World}, Turns Q E wr w2 → ∀ o, w2.cell? ⟨b, off + j * 4 + o, none⟩ = wr.cell? ⟨b, off + j * 4 + o, none⟩) := by
          intro w2 t2 o
          have e := Hh.out.disk.hi
          have := Hh.out.qs
          exact World.cell?_of_block (t2.block b (by show b < _; omega) (.inl (by show b < Q; omega)))
        cases hin : inD 5 d.N with
        | true =>
          have HIN : Hid (inD 5 d.N = true) := hin
          obtain ⟨i2, i3⟩ := of_decide_eq_true hin
          have i3 : d.N < 5 := i3
          clear hin
          by_cases hK : d.K = 0
          · have HAK : Hid (acK 5 k d.N 512 = k + 1) := by show _ = _; rw [acK, acB, HIN.out]; rfl
            rw [hK] at c0
            clear hK
            go_wp2_with fail
            refine (dRead_any d.N _ Hh.out.disk (by omega)).mono ?_
            rintro e w2 ⟨v, rfl, _, h2, t2⟩
            rw [HAK.out] at h2
            have HH2 : Hid (Held w w2 Q E r (j + 1) (k + 1) P) := Hh.out.step h2 t2 (by omega)
            have c1 : w2.cell? ⟨b, off + j * 4 + 1, none⟩ = some (.int .i64 d.N) := (bel0.out t2 1).trans c1
            clear h2 t2 HAK
            generalize acE 5 [] k d.N 512 = x at *
            go_wp2
            go_roundw
            case rel => exact ⟨j + 1, k + 1, _, by omega, by go_num, by first | rfl | go_num, HH2.out⟩
            case measure => simp [intOf]; omega
          · have hK2 : (d.K == 0) = false := by rw [beq_eq_false_iff_ne]; exact hK
            have HS : Hid (SrcAt wr.drew (.slice d.p d.l d.c) d.l 1 (bv d.b)) := HOK.out.src.later (Hh.out.bel.trans (drew_below _ _))
            have HA : Hid (Apart Q E (.slice d.p d.l d.c) d.b) := HOK.out.apart Hh.out.qs
            have HDD : Hid (DiskAt Q E wr.drew r 5 [] k P) := Hh.out.disk.drewN 1
            have hl := HOK.out.l
            unfold maxLen at hl
            by_cases h5 : d.l = 512
            · have HAK : Hid (acK 5 k d.N d.l = k + 1) := by show _ = _; rw [acK, acB, HIN.out, h5]; rfl
              have i5 : ((d.l : Int) == 512) = true := by rw [h5]; rfl
              have i6 : (d.l : Int) = 512 := by omega
              clear hK h5
              go_wp2_with fail
              go_region_with (go_at_call 7; refine (dWrite_is d.N _ HDD.out (by omega) HS.out HA.out HOK.out.byte HOK.out.l rfl).mono ?_; rintro e w3 ⟨rfl, h3, t3⟩; have H3 : Hid _ := h3; have T3 : Hid _ := t3; clear h3 t3)
              all_goals
                have h3 := H3.out
                rw [HAK.out] at h3
                have T4 : Turns Q E wr w3 := (Turns.of_below (drew_below _ _)).trans T3.out
                have HH2 : Hid (Held w w3 Q E r (j + 1) (k + 1) _) := Hh.out.step h3 T4 (by omega)
                have c3 : w3.cell? ⟨b, off + j * 4 + 3, none⟩ = some (.slice d.p d.l d.c) := (bel0.out T4 3).trans c3
                clear h3 T4 H3 T3 HAK
                generalize wrD 5 [] k P d.N d.b = P2 at *
                generalize acE 5 [] k d.N d.l = x at *
                go_wp2
                go_roundw
                case rel => exact ⟨j + 1, k + 1, _, by omega, by go_num, by first | rfl | go_num, HH2.out⟩
                case measure => simp [intOf]; omega
            · have HAK : Hid (acK 5 k d.N d.l = k) := by show _ = _; rw [acK, acB, decide_eq_false h5, Bool.and_false]; rfl
              have i5 : ((d.l : Int) == 512) = false := by rw [beq_eq_false_iff_ne]; omega
              clear hK h5
              go_wp2_with fail
              go_region_with (go_at_call 7; refine (dWrite_is d.N _ HDD.out (by omega) HS.out HA.out HOK.out.byte HOK.out.l rfl).mono ?_; rintro e w3 ⟨rfl, h3, t3⟩; have H3 : Hid _ := h3; have T3 : Hid _ := t3; clear h3 t3)
              all_goals
                have h3 := H3.out
                rw [HAK.out] at h3
                have T4 : Turns Q E wr w3 := (Turns.of_below (drew_below _ _)).trans T3.out
                have HH2 : Hid (Held w w3 Q E r (j + 1) (k) _) := Hh.out.step h3 T4 (by omega)
                have c3 : w3.cell? ⟨b, off + j * 4 + 3, none⟩ = some (.slice d.p d.l d.c) := (bel0.out T4 3).trans c3
                clear h3 T4 H3 T3 HAK
                generalize wrD 5 [] k P d.N d.b = P2 at *
                generalize acE 5 [] k d.N d.l = x at *
                go_wp2
                go_roundw
                case rel => exact ⟨j + 1, k, _, by omega, by go_num, by first | rfl | go_num, HH2.out⟩
                case measure => simp [intOf]; omega
        | false =>
          have HIN : Hid (inD 5 d.N = false) := hin
          have hno := inD_no hin
          clear hin
          by_cases i2 : 0 ≤ d.N
          · have i3 : ¬ d.N < 5 := by omega
            clear hno
            by_cases hK : d.K = 0
            · have HAK : Hid (acK 5 k d.N 512 = k) := by show _ = _; rw [acK, acB, HIN.out]; rfl
              rw [hK] at c0
              clear hK
              go_wp2_with fail
              refine (dRead_any d.N _ Hh.out.disk (by omega)).mono ?_
              rintro e w2 ⟨v, rfl, _, h2, t2⟩
              rw [HAK.out] at h2
              have HH2 : Hid (Held w w2 Q E r (j + 1) (k) P) := Hh.out.step h2 t2 (by omega)
              have c1 : w2.cell? ⟨b, off + j * 4 + 1, none⟩ = some (.int .i64 d.N) := (bel0.out t2 1).trans c1
              clear h2 t2 HAK
              generalize acE 5 [] k d.N 512 = x at *
              go_wp2
              go_roundw
              case rel => exact ⟨j + 1, k, _, by omega, by go_num, by first | rfl | go_num, HH2.out⟩
              case measure => simp [intOf]; omega
            · have hK2 : (d.K == 0) = false := by rw [beq_eq_false_iff_ne]; exact hK
              have HS : Hid (SrcAt wr.drew (.slice d.p d.l d.c) d.l 1 (bv d.b)) := HOK.out.src.later (Hh.out.bel.trans (drew_below _ _))
              have HA : Hid (Apart Q E (.slice d.p d.l d.c) d.b) := HOK.out.apart Hh.out.qs
              have HDD : Hid (DiskAt Q E wr.drew r 5 [] k P) := Hh.out.disk.drewN 1
              have hl := HOK.out.l
              unfold maxLen at hl
              by_cases h5 : d.l = 512
              · have HAK : Hid (acK 5 k d.N d.l = k) := by show _ = _; rw [acK, acB, HIN.out, h5]; rfl
                have i5 : ((d.l : Int) == 512) = true := by rw [h5]; rfl
                have i6 : (d.l : Int) = 512 := by omega
                clear hK h5
                go_wp2_with fail
                go_region_with (go_at_call 7; refine (dWrite_is d.N _ HDD.out (by omega) HS.out HA.out HOK.out.byte HOK.out.l rfl).mono ?_; rintro e w3 ⟨rfl, h3, t3⟩; have H3 : Hid _ := h3; have T3 : Hid _ := t3; clear h3 t3)
                all_goals
                  have h3 := H3.out
                  rw [HAK.out] at h3
                  have T4 : Turns Q E wr w3 := (Turns.of_below (drew_below _ _)).trans T3.out
                  have HH2 : Hid (Held w w3 Q E r (j + 1) (k) _) := Hh.out.step h3 T4 (by omega)
                  have c3 : w3.cell? ⟨b, off + j * 4 + 3, none⟩ = some (.slice d.p d.l d.c) := (bel0.out T4 3).trans c3
                  clear h3 T4 H3 T3 HAK
                  generalize wrD 5 [] k P d.N d.b = P2 at *
                  generalize acE 5 [] k d.N d.l = x at *
                  go_wp2
                  go_roundw
                  case rel => exact ⟨j + 1, k, _, by omega, by go_num, by first | rfl | go_num, HH2.out⟩
                  case measure => simp [intOf]; omega
              · have HAK : Hid (acK 5 k d.N d.l = k) := by show _ = _; rw [acK, acB, decide_eq_false h5, Bool.and_false]; rfl
                have i5 : ((d.l : Int) == 512) = false := by rw [beq_eq_false_iff_ne]; omega
                clear hK h5
                go_wp2_with fail
                go_region_with (go_at_call 7; refine (dWrite_is d.N _ HDD.out (by omega) HS.out HA.out HOK.out.byte HOK.out.l rfl).mono ?_; rintro e w3 ⟨rfl, h3, t3⟩; have H3 : Hid _ := h3; have T3 : Hid _ := t3; clear h3 t3)
                all_goals
                  have h3 := H3.out
                  rw [HAK.out] at h3
                  have T4 : Turns Q E wr w3 := (Turns.of_below (drew_below _ _)).trans T3.out
                  have HH2 : Hid (Held w w3 Q E r (j + 1) (k) _) := Hh.out.step h3 T4 (by omega)
                  have c3 : w3.cell? ⟨b, off + j * 4 + 3, none⟩ = some (.slice d.p d.l d.c) := (bel0.out T4 3).trans c3
                  clear h3 T4 H3 T3 HAK
                  generalize wrD 5 [] k P d.N d.b = P2 at *
                  generalize acE 5 [] k d.N d.l = x at *
                  go_wp2
                  go_roundw
                  case rel => exact ⟨j + 1, k, _, by omega, by go_num, by first | rfl | go_num, HH2.out⟩
                  case measure => simp [intOf]; omega
          · clear hno
            by_cases hK : d.K = 0
            · have HAK : Hid (acK 5 k d.N 512 = k) := by show _ = _; rw [acK, acB, HIN.out]; rfl
              rw [hK] at c0
              clear hK
              go_wp2_with fail
              refine (dRead_any d.N _ Hh.out.disk (by omega)).mono ?_
              rintro e w2 ⟨v, rfl, _, h2, t2⟩
              rw [HAK.out] at h2
              have HH2 : Hid (Held w w2 Q E r (j + 1) (k) P) := Hh.out.step h2 t2 (by omega)
              have c1 : w2.cell? ⟨b, off + j * 4 + 1, none⟩ = some (.int .i64 d.N) := (bel0.out t2 1).trans c1
              clear h2 t2 HAK
              generalize acE 5 [] k d.N 512 = x at *
              go_wp2
              go_roundw
              case rel => exact ⟨j + 1, k, _, by omega, by go_num, by first | rfl | go_num, HH2.out⟩
              case measure => simp [intOf]; omega
            · have hK2 : (d.K == 0) = false := by rw [beq_eq_false_iff_ne]; exact hK
              have HS : Hid (SrcAt wr.drew (.slice d.p d.l d.c) d.l 1 (bv d.b)) := HOK.out.src.later (Hh.out.bel.trans (drew_below _ _))
              have HA : Hid (Apart Q E (.slice d.p d.l d.c) d.b) := HOK.out.apart Hh.out.qs
              have HDD : Hid (DiskAt Q E wr.drew r 5 [] k P) := Hh.out.disk.drewN 1
              have hl := HOK.out.l
              unfold maxLen at hl
              by_cases h5 : d.l = 512
              · have HAK : Hid (acK 5 k d.N d.l = k) := by show _ = _; rw [acK, acB, HIN.out, h5]; rfl
                have i5 : ((d.l : Int) == 512) = true := by rw [h5]; rfl
                have i6 : (d.l : Int) = 512 := by omega
                clear hK h5
                go_wp2_with fail
                go_region_with (go_at_call 7; refine (dWrite_is d.N _ HDD.out (by omega) HS.out HA.out HOK.out.byte HOK.out.l rfl).mono ?_; rintro e w3 ⟨rfl, h3, t3⟩; have H3 : Hid _ := h3; have T3 : Hid _ := t3; clear h3 t3)
                all_goals
                  have h3 := H3.out
                  rw [HAK.out] at h3
                  have T4 : Turns Q E wr w3 := (Turns.of_below (drew_below _ _)).trans T3.out
                  have HH2 : Hid (Held w w3 Q E r (j + 1) (k) _) := Hh.out.step h3 T4 (by omega)
                  have c3 : w3.cell? ⟨b, off + j * 4 + 3, none⟩ = some (.slice d.p d.l d.c) := (bel0.out T4 3).trans c3
                  clear h3 T4 H3 T3 HAK
                  generalize wrD 5 [] k P d.N d.b = P2 at *
                  generalize acE 5 [] k d.N d.l = x at *
                  go_wp2
                  go_roundw
                  case rel => exact ⟨j + 1, k, _, by omega, by go_num, by first | rfl | go_num, HH2.out⟩
                  case measure => simp [intOf]; omega
              · have HAK : Hid (acK 5 k d.N d.l = k) := by show _ = _; rw [acK, acB, decide_eq_false h5, Bool.and_false]; rfl
                have i5 : ((d.l : Int) == 512) = false := by rw [beq_eq_false_iff_ne]; omega
                clear hK h5
                go_wp2_with fail
                go_region_with (go_at_call 7; refine (dWrite_is d.N _ HDD.out (by omega) HS.out HA.out HOK.out.byte HOK.out.l rfl).mono ?_; rintro e w3 ⟨rfl, h3, t3⟩; have H3 : Hid _ := h3; have T3 : Hid _ := t3; clear h3 t3)
                all_goals
                  have h3 := H3.out
                  rw [HAK.out] at h3
                  have T4 : Turns Q E wr w3 := (Turns.of_below (drew_below _ _)).trans T3.out
                  have HH2 : Hid (Held w w3 Q E r (j + 1) (k) _) := Hh.out.step h3 T4 (by omega)
                  have c3 : w3.cell? ⟨b, off + j * 4 + 3, none⟩ = some (.slice d.p d.l d.c) := (bel0.out T4 3).trans c3
                  clear h3 T4 H3 T3 HAK
                  generalize wrD 5 [] k P d.N d.b = P2 at *
                  generalize acE 5 [] k d.N d.l = x at *
                  go_wp2
                  go_roundw
                  case rel => exact ⟨j + 1, k, _, by omega, by go_num, by first | rfl | go_num, HH2.out⟩
                  case measure => simp [intOf]; omega
      · have HF : Hid (ft [] k = 0) := ft_nil k
        have HZ : Hid (([] : List Bool).length - k = 0) := by show _ = _; simp
        have e1 : ((k : Int) == (k : Int)) = true := beq_self_eq_true _
        go_wp2_with fail
        refine (dAsked_is _ Hh.out.disk rfl).mono ?_
        rintro e w' ⟨rfl, rfl⟩
        go_wp2_with fail
        refine (dFailed_is _ Hh.out.disk HF.out).mono ?_
        rintro e w' ⟨rfl, rfl⟩
        go_wp2_with fail
        refine (dLeft_is _ Hh.out.disk HZ.out).mono ?_
        rintro e w' ⟨rfl, rfl⟩
        go_wp2_with fail
        refine (lives_any _).mono ?_
        rintro e w2 ⟨rfl, hb⟩
        go_wp2
        go_ret
        exact ⟨rfl, Hh.out.bel.trans (hb.mono Hh.out.bel.size)⟩

theorem walk {H : Type} {enc : TypeId × Value → H} {w : World} {base : Nat} {v0 : Value} {d0 : DataW H} {p0 : List MemPlace}
    (o0 : Value.okWide Try.prog w .any base 23 v0)
    (h0 : DataW.Trod enc Try.prog w 0 (fun _ => true) true 23 v0 d0 p0) :
    Calls Try.prog 5 #[v0] w fun e w' => e = .returned (.bool true) ∧ Below w.heap.size w w' := by
  obtain ⟨a, L, c, D, rfl, hL, hds⟩ := openDeeds Try.underlying23 Try.underlying41 (by kernel_rfl) (by kernel_rfl) Try.underlying3 Try.underlying3 Try.underlying5 Try.underlying25 Try.underlying5 (by kernel_rfl) o0 h0
  exact run a L c D w hL hds

set_option maxRecDepth 100000 in
theorem lifted (os : Os) (started : os.Started) (H : Type) (enc : TypeId × Value → H) :
    ReturnsInHanded {} Try.checked os 5 .any (Rows.diskAsksSpec.pre6 enc Try.prog Try.f5 Rows.diskAsksRow.domain false) (Rows.diskAsksSpec.post enc Try.prog Try.f5 false true false false) := by
  refine returnsInHanded_of_change (C := Try.checked) own started (by kernel_rfl) Try.func5
    (ChangeSpec.witness6 (enc := enc) (C := Try.checked) false ⟨#[], #[.slice none 0 0], []⟩ 8 (by kernel_rfl) (by kernel_rfl) (by kernel_rfl) (by kernel_rfl)) ?_
  intro W base args ds gs before hval0 hW hcnd _
  have hval : ∀ (j : Nat) t v, Try.f5.params[j]? = some t → args[j]? = some v → Value.okWide Try.prog W .any base t v := hval0
  have hW' := hW
  obtain ⟨p, q, hA0, hV, rfl, hfz, hnd⟩ := hW
  have hA : DataW.TrodAll enc Try.prog W 0 (fun _ => true) true Try.f5.params.toList args.toList ds p := hA0
  rw [Try.params5] at hA hval
  obtain ⟨v0, vs0, d0, ds0, p0, q0, hargs, rfl, rfl, h0, r0⟩ := trodAll_cons hA
  obtain ⟨rfl, rfl, rfl⟩ := trodAll_nil r0
  obtain rfl : args = #[v0] := by cases args; simp_all
  obtain ⟨rfl, rfl⟩ := trodVars_none hV
  have o0 := hval 0 23 v0 rfl rfl
  have lt0 : ∀ x ∈ p0, x.block < W.heap.size := by obtain ⟨m, hm⟩ := h0; exact DataW.trod_lt m _ _ _ hm
  clear hA0 hval0
  refine (walk o0 h0).mono fun e W' ⟨he, bel⟩ => ?_
  subst he
  exact ⟨_, rfl, _, _, _, [], _, [], hW', trodAll_mk1 (shut_bool Try.underlying4 _), (trodAll_cons_mk (Below.trod laidOut (by kernel_rfl) (of_decide_eq_true (by kernel_rfl)) h0 bel lt0) trodAll_mk0), rfl, bel.frame _, fun h => by cases h⟩

theorem over : Rows.diskAsksRow.holds Try.pinned (OpenSpec.ofChange Rows.diskAsksSpec) :=
  OpenClaim.holds_of_wide 5 Try.f5 rfl rfl rfl rfl rfl rfl rfl ⟨rfl, rfl, rfl, rfl, rfl⟩ rfl rfl rfl rfl rfl (by kernel_rfl) Try.func5 (by kernel_rfl)
    (of_decide_eq_true (by kernel_rfl)) (by unfold Func.isWrapper; first | (rw [if_pos (by decide +kernel)]; kernel_rfl) | (rw [if_neg (by decide +kernel)]; exact ⟨rfl, rfl⟩))
    (fun os started H enc _ => lifted os started H enc)
end Go.Proofs.Ytdoklbocdmmahaa.DiskAsks
namespace Go.Proofs.Ytdoklbocdmmahaa
/-- The statement. -/
theorem diskAsks_holds : Rows.DiskAsksSaid := DiskAsks.over
#print axioms diskAsks_holds
end Go.Proofs.Ytdoklbocdmmahaa
