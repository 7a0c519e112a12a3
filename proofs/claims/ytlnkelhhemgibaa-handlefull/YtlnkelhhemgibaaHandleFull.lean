/- Proved: gunnylaw19.HandleFull returns true for all numbers and places: as many handles as 512 are in use, each once; then none more, till one is dropped. No conditions. -/
import Derived.Test.YtlnkelhhemgibaaVKeeps
import Derived.Test.YtlnkelhhemgibaaVLives
import Derived.Test.YtlnkelhhemgibaaVSet
import Derived.Test.YtlnkelhhemgibaaVLen
import Derived.Deep.RegionHeld3
import Derived.Deep.DeepCutAuto
namespace Go.Proofs.Ytlnkelhhemgibaa.HandleFull
open Go.ChangeShapes Go.WideShapes Go.ChangeAt Go.RowKit
set_option linter.unusedVariables false
theorem own : ownKnob Try.prog.godebug = none := by kernel_rfl
theorem laidOut : laidOutB Try.prog = true := by kernel_rfl

/-- A place's box and a table. -/
structure Kf (w wr : World) (b t : Nat) (x : Pl) (T : Int → Pl) : Prop where
  bel : Below w.heap.size w wr
  box : wr.heap[b]? = some (.cells #[.int .i64 x.p, .int .i64 x.o, .int .i64 x.l] 28 (0, 0))
  tab : TabAt wr t T
  lo : w.heap.size ≤ b ∧ b < t
section
variable {w wr w' : World} {b t : Nat} {x : Pl} {T T' : Int → Pl}
theorem Kf.below (h : Kf w wr b t x T) (hb : Below wr.heap.size wr w') : Kf w w' b t x T := by
  have h1 := h.lo
  have h2 := h.tab.lt
  have h3 := h.bel.size
  exact ⟨h.bel.trans (hb.mono h3), (hb.block b (by omega)).trans h.box, h.tab.below hb h2, h.lo⟩
theorem Kf.turns (h : Kf w wr b t x T) (ht : Turns t (t + 1) wr w') (hT : TabAt w' t T') : Kf w w' b t x T' := by
  have h1 := h.lo
  have h2 := h.tab.lt
  have h3 := h.bel.size
  exact ⟨h.bel.trans ((ht.below (by omega)).mono (by omega)), (ht.block b (by omega) (.inl (by omega))).trans h.box, hT, h.lo⟩
end
theorem pre_back {T : Int → Pl} (h : Pre T 512) {k : Nat} (hk : 1 ≤ k ∧ k ≤ 512) : IsFree (putT T (k : Nat) zP) k := by
  refine ⟨hk.1, hk.2, putT_same _ _ _, fun j h1 h2 => ?_⟩
  rw [putT_other zP (by omega)]
  exact (h.used j h1).2 (by omega)
theorem pre_again {T : Int → Pl} (h : Pre T 512) {k : Nat} (hk : 1 ≤ k ∧ k ≤ 512) {x : Pl} (hx : mayP x = true) : Pre (putT (putT T (k : Nat) zP) (k : Nat) x) 512 := by
  have e : putT (putT T (k : Nat) zP) (k : Nat) x = putT T (k : Nat) x := by
    funext i
    unfold putT
    split <;> rfl
  rw [e]
  refine ⟨h.ok.put (by omega) (.inr hx), fun j h1 => ?_, h.hi⟩
  by_cases e : j = k
  · subst e
    rw [putT_same]
    exact ⟨fun _ => by omega, fun _ => may_used hx⟩
  · rw [putT_other x (by omega)]
    exact h.used j h1
set_option maxRecDepth 100000 in
set_option maxHeartbeats 4000000 in
theorem run {z m : Nat} (p o l : Int) (w : World) (hz : z < 65536) (hm : z % 512 = m) :
    Calls Try.prog 4 #[.int .u16 (z : Nat), .agg #[.int .i64 p, .int .i64 o, .int .i64 l]] w fun e w' => e = .returned (.bool true) ∧ Below w.heap.size w w' := by
  obtain ⟨W1, hW1⟩ : ∃ W1, W1 = w.alloc (.cells #[.int .i64 p, .int .i64 o, .int .i64 l] 28) := ⟨_, rfl⟩
  have hb1 : Below w.heap.size w W1 := by rw [hW1]; exact (Below.refl _ w).alloc (Nat.le_refl _) _
  have hx1 : W1.heap[w.heap.size]? = some (.cells #[.int .i64 p, .int .i64 o, .int .i64 l] 28 (0, 0)) := by rw [hW1]; exact heap_alloc_new w _
  have HB1 : Hid (Below w.heap.size w W1) := hb1
  have HX1 : Hid (W1.heap[w.heap.size]? = some (.cells #[.int .i64 p, .int .i64 o, .int .i64 l] 28 (0, 0))) := hx1
  have HZ : Hid (z < 65536 ∧ z % 512 = m) := ⟨hz, hm⟩
  have HN : Hid _ := new_any W1
  clear hb1 hx1 hz hm
  go_enter Try.func4, Try.ntmps4
  go_wp2_with fail
  rw [← hW1]
  clear hW1
  refine Calls.mono HN.out ?_
  rintro e W2 ⟨rfl, hT2, hb2, hs2⟩
  obtain ⟨t, ht⟩ : ∃ t, W1.heap.size = t := ⟨_, rfl⟩
  rw [ht] at hT2 ⊢
  have hbt : w.heap.size < t := by have := (Array.getElem?_eq_some_iff.1 HX1.out).1; omega
  have HK0 : Hid (Kf w W2 w.heap.size t ⟨p, o, l⟩ noT) := ⟨HB1.out.trans (hb2.mono HB1.out.size), by rw [hb2.block w.heap.size (by omega)]; exact HX1.out, hT2, Nat.le_refl _, hbt⟩
  clear hT2 hb2 hs2 HN HX1 HB1 ht hbt
  go_wp2_with fail
  go_loopg [6] 512 (fun gk i wr => ∃ (j : Nat) (T : Int → Pl), j ≤ 512 ∧ gk = 512 - j ∧ i = .int .i64 j ∧ Kf w wr w.heap.size t ⟨p, o, l⟩ T ∧ Pre T j ∧ ∀ i : Nat, i < j → T ((i + 1 : Nat) : Int) = ⟨i, 0, 1⟩)
  case atStart => exact ⟨0, noT, by omega, rfl, rfl, HK0.out, pre_no, fun i h => by omega⟩
  case round =>
    obtain ⟨j, T, hj, rfl, rfl, hkf, hpre, hall⟩ := hrel
    have HKF : Hid (Kf w wr w.heap.size t ⟨p, o, l⟩ T) := hkf
    have HPRE : Hid (Pre T j) := hpre
    have HALL : Hid (∀ i : Nat, i < j → T ((i + 1 : Nat) : Int) = ⟨i, 0, 1⟩) := hall
    by_cases hlt : j < 512
    · have i3 : (j : Int) < 512 := by omega
      have HMA : Hid (mayP ⟨(j : Int), 0, 1⟩ = true) := mayP_iff.2 (by simp only; omega)
      have HM : Hid _ := make_free (j : Int) 0 1 wr hkf.tab HMA.out (hpre.free hlt)
      clear hkf hpre hall
      go_wp2_with fail
      refine Calls.mono HM.out ?_
      rintro e W3 ⟨rfl, hT3, ht3⟩
      have HK3 : Hid (Kf w W3 w.heap.size t ⟨p, o, l⟩ (putT T ((j + 1 : Nat) : Int) ⟨(j : Int), 0, 1⟩)) := HKF.out.turns ht3 hT3
      have HP3 : Hid (Pre (putT T ((j + 1 : Nat) : Int) ⟨(j : Int), 0, 1⟩) (j + 1)) := HPRE.out.put hlt HMA.out
      have HA3 : Hid (∀ i : Nat, i < j + 1 → putT T ((j + 1 : Nat) : Int) ⟨(j : Int), 0, 1⟩ ((i + 1 : Nat) : Int) = ⟨i, 0, 1⟩) := by
        intro i hi
        by_cases e : i = j
        · subst e
          exact putT_same _ _ _
        · rw [putT_other _ (by omega)]
          exact HALL.out i (by omega)
      have j1 : IntKind.i64.wrap ((j : Int) + 1) = ((j + 1 : Nat) : Int) := by rw [IntWalk.i64_in _ (by omega)]; omega
      clear hT3 ht3 HM HMA HKF HPRE HALL
      obtain ⟨M, hM⟩ : ∃ M : Int, ((j + 1 : Nat) : Int) = M := ⟨_, rfl⟩
      have hMM : (M != M) = false := bne_self_eq_false _
      rw [hM] at j1 ⊢
      have HMJ : Hid (M = ((j + 1 : Nat) : Int)) := hM.symm
      clear hM
      go_wp2
      go_roundg (512 - (j + 1))
      case measure => omega
      case rel => exact ⟨j + 1, _, by omega, rfl, by rw [HMJ.out], HK3.out, HP3.out, HA3.out⟩
    · obtain rfl : j = 512 := by omega
      have i3 : ¬ ((512 : Nat) : Int) < 512 := by omega
      obtain ⟨y0, y1, y2⟩ := cells_three hkf.box
      simp only at y0 y1 y2
      have hzz := HZ.out
      obtain ⟨k, hk⟩ : ∃ k, m + 1 = k := ⟨_, rfl⟩
      have HKK : Hid (m + 1 = k ∧ 1 ≤ k ∧ k ≤ 512) := ⟨hk, by omega, by omega⟩
      have HTK : Hid (gotV (T (k : Nat)) = .tuple #[.agg #[.int .i64 (m : Nat), .int .i64 0, .int .i64 1], .bool true]) := by
        have h1 := HALL.out m (by omega)
        rw [hk] at h1
        show gotV _ = _
        rw [h1]
        unfold gotV
        rw [show isU ⟨(m : Int), 0, 1⟩ = true from isU_iff.2 (fun h => by cases h)]
      have r1 : (z : Int).tmod 512 = (m : Int) := by rw [Int.tmod_eq_emod_of_nonneg (by omega)]; omega
      have r2 : IntKind.i64.wrap (z : Int) = (z : Int) := IntWalk.i64_in _ (by omega)
      have r3 : IntKind.i64.wrap (m : Int) = (m : Int) := IntWalk.i64_in _ (by omega)
      have r4 : IntKind.i64.wrap (1 + (m : Int)) = (k : Int) := by rw [IntWalk.i64_in _ (by omega)]; omega
      clear hzz hk
      by_cases hmy : mayP ⟨p, o, l⟩ = true
      · have HM : Hid _ := make_full p o l wr hkf.tab hmy (hpre.full rfl)
        have HMA : Hid (mayP ⟨p, o, l⟩ = true) := hmy
        clear hkf hpre hall hmy hlt hj
        go_wp2_with fail
        refine Calls.mono HM.out ?_
        rintro e W3 ⟨rfl, hb3⟩
        have HK3 : Hid (Kf w W3 w.heap.size t ⟨p, o, l⟩ T) := HKF.out.below hb3
        have HR : Hid _ := refMay_is W3 HMA.out
        clear hb3 HM y0 y1 y2 HKF
        obtain ⟨y0, y1, y2⟩ := cells_three HK3.out.box
        simp only at y0 y1 y2
        go_wp2_with fail
        refine Calls.mono HR.out ?_
        rintro e W4 ⟨rfl, b4⟩
        have HK4 : Hid (Kf w W4 w.heap.size t ⟨p, o, l⟩ T) := HK3.out.below b4
        have HD : Hid _ := drop_any (k : Nat) W4 HK4.out.tab.p
        clear b4 HR HK3 y0 y1 y2 HMA
        go_wp2_with fail
        refine Calls.mono HD.out ?_
        rintro e W5 ⟨rfl, hT5, hw5⟩
        replace hT5 := hT5.at rfl
        have ht5 : Turns t (t + 1) W4 W5 := turns_or rfl hw5
        rw [HTK.out]
        have HK5 : Hid (Kf w W5 w.heap.size t ⟨p, o, l⟩ (putT T (k : Nat) zP)) := HK4.out.turns ht5 hT5
        clear hT5 hw5 ht5 HD HK4 HTK
        obtain ⟨W6, hW6⟩ : ∃ W6, W6 = W5.alloc (.cells #[.int .i64 (m : Nat), .int .i64 0, .int .i64 1] 28) := ⟨_, rfl⟩
        have hb6 : Below W5.heap.size W5 W6 := by rw [hW6]; exact (Below.refl _ W5).alloc (Nat.le_refl _) _
        have hx6 : W6.heap[W5.heap.size]? = some (.cells #[.int .i64 (m : Nat), .int .i64 0, .int .i64 1] 28 (0, 0)) := by rw [hW6]; exact place_new W5 ⟨m, 0, 1⟩
        have hlt6 := HK5.out.tab.lt
        have HK6 : Hid (Kf w W6 w.heap.size t ⟨p, o, l⟩ (putT T (k : Nat) zP)) := HK5.out.below hb6
        have HX6 : Hid (t < W5.heap.size ∧ W6.heap[W5.heap.size]? = some (.cells #[.int .i64 (m : Nat), .int .i64 0, .int .i64 1] 28 (0, 0))) := ⟨hlt6, hx6⟩
        have HM7 : Hid _ := make_free 0 0 7 W6 HK6.out.tab (by decide) (pre_back HPRE.out HKK.out.2)
        clear hb6 hx6 hlt6 HK5
        go_upto_region 13 with (fail)
        rw [← hW6]
        clear hW6
        go_wp2_with fail
        refine Calls.mono HM7.out ?_
        rintro e W7 ⟨rfl, hT7, ht7⟩
        have HK7 : Hid (Kf w W7 w.heap.size t ⟨p, o, l⟩ _) := HK6.out.turns ht7 hT7
        have hx7 := (ht7.block _ (Array.getElem?_eq_some_iff.1 HX6.out.2).1 (.inr (by have := HX6.out.1; omega))).trans HX6.out.2
        have HL := len_is W7 HK7.out.tab.p (pre_again HPRE.out HKK.out.2 (by decide)).cnt
        rw [show ((512 : Nat) : Int) = 512 from rfl] at HL
        have HL : Hid _ := HL
        obtain ⟨z0, z1, z2⟩ := cells_three hx7
        have r5 : IntKind.i64.wrap ((k : Int) - 1) = (m : Int) := by have := HKK.out; rw [IntWalk.i64_in _ (by omega)]; omega
        have e1 : ((m : Int) == (m : Int)) = true := beq_self_eq_true _
        have e2 : ((k : Int) == (k : Int)) = true := beq_self_eq_true _
        clear hT7 ht7 hx7 HM7 HK6 HX6
        go_wp2_with fail
        refine Calls.mono HL.out ?_
        rintro e W8 ⟨rfl, b8⟩
        have HB8 : Hid (Below w.heap.size w W8) := (HK7.out.below b8).bel
        clear b8 HL HK7
        go_wp2_with fail
        refine (lives_any _).mono ?_
        rintro e w' ⟨rfl, b1⟩
        have HB : Hid (Below w.heap.size w w') := HB8.out.trans (b1.mono HB8.out.size)
        clear b1
        go_wp2
        go_ret
        exact ⟨rfl, HB.out⟩
      · have hmf : mayP ⟨p, o, l⟩ = false := by simpa using hmy
        have HM : Hid _ := make_bad (v := .pointer (some ⟨t, 0, none⟩)) p o l wr hmf
        have HMA : Hid (mayP ⟨p, o, l⟩ = false) := hmf
        clear hkf hpre hall hmy hmf hlt hj
        go_wp2_with fail
        refine Calls.mono HM.out ?_
        rintro e W3 ⟨rfl, hb3⟩
        have HK3 : Hid (Kf w W3 w.heap.size t ⟨p, o, l⟩ T) := HKF.out.below hb3
        have HR : Hid _ := refMay_is W3 HMA.out
        clear hb3 HM y0 y1 y2 HKF
        obtain ⟨y0, y1, y2⟩ := cells_three HK3.out.box
        simp only at y0 y1 y2
        go_wp2_with fail
        refine Calls.mono HR.out ?_
        rintro e W4 ⟨rfl, b4⟩
        have HK4 : Hid (Kf w W4 w.heap.size t ⟨p, o, l⟩ T) := HK3.out.below b4
        have HD : Hid _ := drop_any (k : Nat) W4 HK4.out.tab.p
        clear b4 HR HK3 y0 y1 y2 HMA
        go_wp2_with fail
        refine Calls.mono HD.out ?_
        rintro e W5 ⟨rfl, hT5, hw5⟩
        replace hT5 := hT5.at rfl
        have ht5 : Turns t (t + 1) W4 W5 := turns_or rfl hw5
        rw [HTK.out]
        have HK5 : Hid (Kf w W5 w.heap.size t ⟨p, o, l⟩ (putT T (k : Nat) zP)) := HK4.out.turns ht5 hT5
        clear hT5 hw5 ht5 HD HK4 HTK
        obtain ⟨W6, hW6⟩ : ∃ W6, W6 = W5.alloc (.cells #[.int .i64 (m : Nat), .int .i64 0, .int .i64 1] 28) := ⟨_, rfl⟩
        have hb6 : Below W5.heap.size W5 W6 := by rw [hW6]; exact (Below.refl _ W5).alloc (Nat.le_refl _) _
        have hx6 : W6.heap[W5.heap.size]? = some (.cells #[.int .i64 (m : Nat), .int .i64 0, .int .i64 1] 28 (0, 0)) := by rw [hW6]; exact place_new W5 ⟨m, 0, 1⟩
        have hlt6 := HK5.out.tab.lt
        have HK6 : Hid (Kf w W6 w.heap.size t ⟨p, o, l⟩ (putT T (k : Nat) zP)) := HK5.out.below hb6
        have HX6 : Hid (t < W5.heap.size ∧ W6.heap[W5.heap.size]? = some (.cells #[.int .i64 (m : Nat), .int .i64 0, .int .i64 1] 28 (0, 0))) := ⟨hlt6, hx6⟩
        have HM7 : Hid _ := make_free 0 0 7 W6 HK6.out.tab (by decide) (pre_back HPRE.out HKK.out.2)
        clear hb6 hx6 hlt6 HK5
        go_upto_region 13 with (fail)
        rw [← hW6]
        clear hW6
        go_wp2_with fail
        refine Calls.mono HM7.out ?_
        rintro e W7 ⟨rfl, hT7, ht7⟩
        have HK7 : Hid (Kf w W7 w.heap.size t ⟨p, o, l⟩ _) := HK6.out.turns ht7 hT7
        have hx7 := (ht7.block _ (Array.getElem?_eq_some_iff.1 HX6.out.2).1 (.inr (by have := HX6.out.1; omega))).trans HX6.out.2
        have HL := len_is W7 HK7.out.tab.p (pre_again HPRE.out HKK.out.2 (by decide)).cnt
        rw [show ((512 : Nat) : Int) = 512 from rfl] at HL
        have HL : Hid _ := HL
        obtain ⟨z0, z1, z2⟩ := cells_three hx7
        have r5 : IntKind.i64.wrap ((k : Int) - 1) = (m : Int) := by have := HKK.out; rw [IntWalk.i64_in _ (by omega)]; omega
        have e1 : ((m : Int) == (m : Int)) = true := beq_self_eq_true _
        have e2 : ((k : Int) == (k : Int)) = true := beq_self_eq_true _
        clear hT7 ht7 hx7 HM7 HK6 HX6
        go_wp2_with fail
        refine Calls.mono HL.out ?_
        rintro e W8 ⟨rfl, b8⟩
        have HB8 : Hid (Below w.heap.size w W8) := (HK7.out.below b8).bel
        clear b8 HL HK7
        go_wp2_with fail
        refine (lives_any _).mono ?_
        rintro e w' ⟨rfl, b1⟩
        have HB : Hid (Below w.heap.size w w') := HB8.out.trans (b1.mono HB8.out.size)
        clear b1
        go_wp2
        go_ret
        exact ⟨rfl, HB.out⟩

theorem walk {H : Type} {enc : TypeId × Value → H} {w : World} {base : Nat} {v0 v1 : Value} {d0 d1 : DataW H} {p0 p1 : List MemPlace}
    (o0 : Value.okWide Try.prog w .any base 48 v0) (o1 : Value.okWide Try.prog w .any base 28 v1)
    (h0 : DataW.Trod enc Try.prog w 0 (fun _ => true) true 48 v0 d0 p0) (h1 : DataW.Trod enc Try.prog w 0 (fun _ => true) true 28 v1 d1 p1) :
    Calls Try.prog 4 #[v0, v1] w fun e w' => e = .returned (.bool true) ∧ Below w.heap.size w w' := by
  obtain ⟨z, rfl, hz⟩ := openOne Try.underlying48 o0 h0
  have hb := bounds_u16 hz
  obtain ⟨n, rfl⟩ := Int.eq_ofNat_of_zero_le hb.1
  obtain ⟨⟨p, o, l⟩, rfl⟩ := openP1 Try.underlying28 (by kernel_rfl) (by kernel_rfl) (by kernel_rfl) (by kernel_rfl) (by kernel_rfl) (by kernel_rfl) (by kernel_rfl) Try.underlying3 Try.underlying3 Try.underlying3 o1 h1
  exact run p o l w (by omega) rfl

set_option maxRecDepth 100000 in
theorem lifted (os : Os) (started : os.Started) (H : Type) (enc : TypeId × Value → H) :
    ReturnsInHanded {} Try.checked os 4 .any (Rows.handleFullSpec.pre6 enc Try.prog Try.f4 Rows.handleFullRow.domain false) (Rows.handleFullSpec.post enc Try.prog Try.f4 false true false false) := by
  refine returnsInHanded_of_change (C := Try.checked) own started (by kernel_rfl) Try.func4
    (ChangeSpec.witness6 (enc := enc) (C := Try.checked) false ⟨#[], #[.int .u16 0, .agg #[.int .i64 0, .int .i64 0, .int .i64 0]], []⟩ 8 (by kernel_rfl) (by kernel_rfl) (by kernel_rfl) (by kernel_rfl)) ?_
  intro W base args ds gs before hval0 hW hcnd _
  have hval : ∀ (j : Nat) t v, Try.f4.params[j]? = some t → args[j]? = some v → Value.okWide Try.prog W .any base t v := hval0
  have hW' := hW
  obtain ⟨p, q, hA0, hV, rfl, hfz, hnd⟩ := hW
  have hA : DataW.TrodAll enc Try.prog W 0 (fun _ => true) true Try.f4.params.toList args.toList ds p := hA0
  rw [Try.params4] at hA hval
  obtain ⟨v0, vs0, d0, ds0, p0, q0, hargs, rfl, rfl, h0, r0⟩ := trodAll_cons hA
  obtain ⟨v1, vs1, d1, ds1, p1, q1, rfl, rfl, rfl, h1, r1⟩ := trodAll_cons r0
  obtain ⟨rfl, rfl, rfl⟩ := trodAll_nil r1
  obtain rfl : args = #[v0, v1] := by cases args; simp_all
  obtain ⟨rfl, rfl⟩ := trodVars_none hV
  have o0 := hval 0 48 v0 rfl rfl
  have lt0 : ∀ x ∈ p0, x.block < W.heap.size := by obtain ⟨m, hm⟩ := h0; exact DataW.trod_lt m _ _ _ hm
  have o1 := hval 1 28 v1 rfl rfl
  have lt1 : ∀ x ∈ p1, x.block < W.heap.size := by obtain ⟨m, hm⟩ := h1; exact DataW.trod_lt m _ _ _ hm
  clear hA0 hval0
  refine (walk o0 o1 h0 h1).mono fun e W' ⟨he, bel⟩ => ?_
  subst he
  exact ⟨_, rfl, _, _, _, [], _, [], hW', trodAll_mk1 (shut_bool Try.underlying4 _), (trodAll_cons_mk (Below.trod laidOut (by kernel_rfl) (of_decide_eq_true (by kernel_rfl)) h0 bel lt0) (trodAll_cons_mk (Below.trod laidOut (by kernel_rfl) (of_decide_eq_true (by kernel_rfl)) h1 bel lt1) trodAll_mk0)), rfl, bel.frame _, fun h => by cases h⟩

theorem over : Rows.handleFullRow.holds Try.pinned (OpenSpec.ofChange Rows.handleFullSpec) :=
  OpenClaim.holds_of_wide 4 Try.f4 rfl rfl rfl rfl rfl rfl rfl ⟨rfl, rfl, rfl, rfl, rfl⟩ rfl rfl rfl rfl rfl (by kernel_rfl) Try.func4 (by kernel_rfl)
    (of_decide_eq_true (by kernel_rfl)) (by unfold Func.isWrapper; first | (rw [if_pos (by decide +kernel)]; kernel_rfl) | (rw [if_neg (by decide +kernel)]; exact ⟨rfl, rfl⟩))
    (fun os started H enc _ => lifted os started H enc)
end Go.Proofs.Ytlnkelhhemgibaa.HandleFull
namespace Go.Proofs.Ytlnkelhhemgibaa
/-- The statement. -/
theorem handleFull_holds : Rows.HandleFullSaid := HandleFull.over
#print axioms handleFull_holds
end Go.Proofs.Ytlnkelhhemgibaa
