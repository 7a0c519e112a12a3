/- Proved: gunnylaw14.CodecMakes returns true for all lists of pieces and all lists of bytes: the form of any page, and of any bytes that are none, how much is kept, and how much that saves, is the document's, as packing is. No conditions. -/
import Derived.Test.YtgninhecclinaaaOLives
import Derived.Test.YtgninhecclinaaaOGreat
import Derived.Test.YtgninhecclinaaaORef
import Derived.Test.YtgninhecclinaaaEPieces
import Derived.Test.YtgninhecclinaaaBOpen
import Derived.Test.YtgninhecclinaaaGOpBy
import Derived.Deep.LoopGhost
namespace Go.Proofs.Ytgninhecclinaaa.CodecMakes
open Go.ChangeShapes Go.WideShapes Go.ChangeAt Go.RowKit
set_option linter.unusedVariables false
theorem own : ownKnob Try.prog.godebug = none := by kernel_rfl
theorem laidOut : laidOutB Try.prog = true := by kernel_rfl
theorem pcs_later {w w' : World} {a : Option Addr} {L : Nat} {D : Nat → Pc} (h : PcsAt w a L D) (hb : Below w.heap.size w w') : PcsAt w' a L D := by
  rcases h with rfl | ⟨b, off, rfl, hlt, hc⟩
  · exact .inl rfl
  · exact .inr ⟨b, off, rfl, Nat.lt_of_lt_of_le hlt hb.size, fun i hi => ⟨(hc i hi).1.below hb, fun j hj => by rw [hb.cell (p := ⟨b, off + i * 2 + j, none⟩) hlt]; exact (hc i hi).2 j hj⟩⟩
theorem ways (b : List Nat) : (formN b = 0 ∧ (keptL b).length = 0 ∧ savesN b = 0) ∨ (formN b = 1 ∧ (keptL b).length = 8 ∧ savesN b = 4088) ∨ (formN b = 2 ∧ (keptL b).length = (pkL b).length ∧ keptL b = pkL b ∧ (pkL b).length ≤ 3072 ∧ savesN b = 4096 - (pkL b).length) ∨ (formN b = 3 ∧ (keptL b).length = 4096 ∧ savesN b = 0) := by
  by_cases hl : b.length = 4096
  · cases ho : oneB b with
    | true =>
      obtain ⟨h1, h2, h3⟩ := form_one hl ho
      exact .inr (.inl ⟨h1, by rw [h2, length_putN], h3⟩)
    | false =>
      by_cases hp : (pkL b).length ≤ 3072
      · obtain ⟨h1, h2, h3⟩ := form_pack hl ho hp
        exact .inr (.inr (.inl ⟨h1, by rw [h2], h2, hp, h3⟩))
      · obtain ⟨h1, h2, h3⟩ := form_raw hl ho hp
        exact .inr (.inr (.inr ⟨h1, by rw [h2, hl], h3⟩))
  · obtain ⟨h1, h2, h3⟩ := form_none hl
    exact .inl ⟨h1, by rw [h2]; rfl, h3⟩
set_option maxRecDepth 100000 in
set_option maxHeartbeats 4000000 in
theorem run (a : Option Addr) (L c : Nat) (D : Nat → Pc) (hL : L ≤ maxLen) (p : Option Addr) (L2 c2 : Nat) (b : List Nat) (w : World) (hd : PcsAt w a L D) (h : ByAt w p L2 c2 b) :
    Calls Try.prog 3 #[.slice a L c, .slice p L2 c2] w fun e w' => e = .returned (.bool true) ∧ Below w.heap.size w w' := by
  have HD : Hid (PcsAt w a L D) := hd
  have HA : Hid (∀ w', Below w.heap.size w w' → ByAt w' p L2 c2 b) := fun w' hw => h.later hw
  have hL2 := h.short
  unfold maxLen at hL2
  clear hd h
  go_enter Try.func3, Try.ntmps3
  go_wp2_with fail
  refine (great_any a L c D w hL HD.out).mono ?_
  rintro e w' ⟨v, rfl, rfl, hv⟩
  obtain ⟨bb, rfl, hgb⟩ := hv
  cases bb with
  | true =>
    clear hgb
    go_wp2_with fail
    refine (lives_any _).mono ?_
    rintro e w1 ⟨rfl, hb⟩
    have HB : Hid (Below w.heap.size w w1) := hb
    clear hb
    go_wp2
    go_ret
    exact ⟨rfl, HB.out⟩
  | false =>
    obtain ⟨h200, h5⟩ := hgb rfl
    clear hgb
    by_cases h9 : 9000 < L2
    · have i1 : (9000 : Int) < (L2 : Int) := by omega
      clear h5
      go_wp2_with fail
      refine (lives_any _).mono ?_
      rintro e w1 ⟨rfl, hb⟩
      have HB : Hid (Below w.heap.size w w1) := hb
      clear hb
      go_wp2
      go_ret
      exact ⟨rfl, HB.out⟩
    have i1 : ¬ (9000 : Int) < (L2 : Int) := by omega
    have H5 : Hid (∀ i, i < L → (D i).l ≤ 5000) := h5
    clear h5
    go_wp2_with fail
    go_loopg [5] 2 (fun gk i wr => ∃ t : Nat, t ≤ 2 ∧ gk = 2 - t ∧ i = .int .i64 t ∧ Below w.heap.size w wr)
    case atStart => exact ⟨0, by omega, rfl, rfl, Below.refl _ _⟩
    case round =>
      obtain ⟨t, ht, rfl, rfl, hbr⟩ := hrel
      have HBR0 : Hid (Below w.heap.size w wr) := hbr
      have hszr := hbr.size
      clear hbr
      have ht4 : t = 0 ∨ t = 1 ∨ t = 2 := by omega
      have hpi := pieces_any a L c D wr h200 (pcs_later HD.out HBR0.out) H5.out
      have HPI : Hid _ := hpi
      clear hpi
      rcases ht4 with rfl | rfl | rfl
      · go_wp2_with fail
        refine Calls.mono HPI.out ?_
        rintro e wp ⟨g, c', b0, rfl, own1, h8, b1⟩
        have HP : Hid (∀ w', Below wp.heap.size wp w' → ByAt w' (some ⟨g, 0, none⟩) 4096 c' b0) := fun w' hw => (by_row own1 h8).later hw
        have HBR : Hid (Below w.heap.size w wp) := HBR0.out.trans (b1.mono hszr)
        clear own1 h8 b1 HPI
        have hl0 := (HP.out wp (Below.refl _ _)).len
        have h80 := (HP.out wp (Below.refl _ _)).byte
        have hs0 := (HP.out wp (Below.refl _ _)).short
        unfold maxLen at hs0
        obtain ⟨k3, hk3⟩ : ∃ k, pkL b0 = k := ⟨_, rfl⟩
        obtain ⟨m, hm⟩ : ∃ m, k3.length = m := ⟨_, rfl⟩
        obtain ⟨f, hf⟩ : ∃ f, formN b0 = f := ⟨_, rfl⟩
        obtain ⟨k4, hk4⟩ : ∃ k, keptL b0 = k := ⟨_, rfl⟩
        obtain ⟨m4, hm4⟩ : ∃ m, k4.length = m := ⟨_, rfl⟩
        obtain ⟨s, hs⟩ : ∃ s, savesN b0 = s := ⟨_, rfl⟩
        have HW : Hid ((f = 0 ∧ m4 = 0 ∧ s = 0) ∨ (f = 1 ∧ m4 = 8 ∧ s = 4088) ∨ (f = 2 ∧ m4 = m ∧ k4 = k3 ∧ m ≤ 3072 ∧ s = 4096 - m) ∨ (f = 3 ∧ m4 = 4096 ∧ s = 0)) := by
          show _ ∨ _
          rw [← hf, ← hm4, ← hk4, ← hs, ← hm, ← hk3]
          exact ways b0
        have HK : Hid (pkL b0 = k3 ∧ k3.length = m) := ⟨hk3, hm⟩
        have HF : Hid (formN b0 = f ∧ keptL b0 = k4) := ⟨hf, hk4⟩
        have HM4 : Hid (k4.length = m4) := hm4
        have HS : Hid (savesN b0 = s) := hs
        have HPM : Hid ((pkL b0).length = m) := by show _ = _; rw [hk3, hm]
        have hmm : m ≤ 4128 := by rw [← hm, ← hk3]; exact pkL_len b0
        have hq0 := (HP.out wp (Below.refl _ _)).conv
        obtain ⟨tq, htq⟩ : ∃ t, strB b0 = t := ⟨_, rfl⟩
        rw [htq] at hq0
        have HTQ : Hid (strB b0 = tq) := htq
        clear hl0 h80 hk3 hm hf hk4 hm4 hs htq
        go_wp2_with fail
        refine (packs_is wp (HP.out wp (Below.refl _ _)) HK.out.1 HK.out.2).mono ?_
        rintro e w3 ⟨a3, c3, rfl, own3, b3⟩
        have HO3 : Hid (w3.ownsRow wp.heap.size 5 1 (.slice a3 m c3) m (bv k3)) := own3
        have HB3 : Hid (Below wp.heap.size wp w3) := b3
        have hsz3 := b3.size
        clear own3 b3 hq0
        go_wp2_with fail
        refine (make_any w3 (HP.out w3 HB3.out) HF.out.1 HF.out.2).mono ?_
        rw [HM4.out]
        rintro e w4 ⟨a4, c4, rfl, own4, b4⟩
        have HO4 : Hid (w4.ownsRow w3.heap.size 5 1 (.slice a4 m4 c4) m4 (bv k4)) := own4
        have HO34 : Hid (w4.ownsRow wp.heap.size 5 1 (.slice a3 m c3) m (bv k3)) := row_below HO3.out b4
        have HB4 : Hid (Below wp.heap.size wp w4) := HB3.out.trans (b4.mono hsz3)
        have hsz4 := HB4.out.size
        clear own4 b4 HO3
        go_wp2_with fail
        refine (refForm_any w4 (HP.out w4 HB4.out) HF.out.1 HPM.out).mono ?_
        rintro e w5 ⟨rfl, z, hw5⟩
        have b5 : Below w4.heap.size w4 w5 := by rw [hw5]; exact drewN_below _ _ _
        have HO45 : Hid (w5.ownsRow w3.heap.size 5 1 (.slice a4 m4 c4) m4 (bv k4)) := row_below HO4.out b5
        have HO35 : Hid (w5.ownsRow wp.heap.size 5 1 (.slice a3 m c3) m (bv k3)) := row_below HO34.out b5
        have HB5 : Hid (Below wp.heap.size wp w5) := HB4.out.trans (b5.mono hsz4)
        have hsz5 := HB5.out.size
        have hq5 := (HP.out w5 HB5.out).conv
        rw [HTQ.out] at hq5
        have hfe : ((f : Int) != (f : Int)) = false := by simp
        clear b5 hw5 HO4 HO34
        rcases HW.out with ⟨rfl, rfl, rfl⟩ | ⟨rfl, rfl, rfl⟩ | ⟨rfl, rfl, rfl, hm3, hsm⟩ | ⟨rfl, rfl, rfl⟩
        · go_wp2_with fail
          refine (saves_any w5 (HP.out w5 HB5.out) HS.out).mono ?_
          rintro e w6 ⟨rfl, b6⟩
          have HB6 : Hid (Below w.heap.size w w6) := HBR.out.trans ((HB5.out.trans (b6.mono HB5.out.size)).mono HBR.out.size)
          clear b6
          go_wp2
          go_roundg (2 - (0 + 1))
          case measure => omega
          case rel => exact ⟨0 + 1, by omega, rfl, by go_num, HB6.out⟩
        · go_wp2_with fail
          refine (saves_any w5 (HP.out w5 HB5.out) HS.out).mono ?_
          rintro e w6 ⟨rfl, b6⟩
          have HB6 : Hid (Below w.heap.size w w6) := HBR.out.trans ((HB5.out.trans (b6.mono HB5.out.size)).mono HBR.out.size)
          clear b6
          go_wp2
          go_roundg (2 - (0 + 1))
          case measure => omega
          case rel => exact ⟨0 + 1, by omega, rfl, by go_num, HB6.out⟩
        · have h40 : (4096 : Int) - (m4 : Int) = (s : Int) := by omega
          go_wp2_with fail
          refine (saves_any w5 (HP.out w5 HB5.out) HS.out).mono ?_
          rintro e w6 ⟨rfl, b6⟩
          have HB6 : Hid (Below w.heap.size w w6) := HBR.out.trans ((HB5.out.trans (b6.mono HB5.out.size)).mono HBR.out.size)
          have HR3 : Hid (w6.ownsRow wp.heap.size 5 1 (.slice a3 m4 c3) m4 (bv k4)) := row_below HO35.out b6
          have HR4 : Hid (w6.ownsRow w3.heap.size 5 1 (.slice a4 m4 c4) m4 (bv k4)) := row_below HO45.out b6
          clear b6
          go_wp2_with fail
          refine (refBytes_same _ _ k4 w6 (conv_any HR4.out) (conv_any HR3.out)).mono ?_
          rintro e w' ⟨rfl, rfl⟩
          go_wp2
          go_roundg (2 - (0 + 1))
          case measure => omega
          case rel => exact ⟨0 + 1, by omega, rfl, by go_num, HB6.out⟩
        · go_wp2_with fail
          refine (saves_any w5 (HP.out w5 HB5.out) HS.out).mono ?_
          rintro e w6 ⟨rfl, b6⟩
          have HB6 : Hid (Below w.heap.size w w6) := HBR.out.trans ((HB5.out.trans (b6.mono HB5.out.size)).mono HBR.out.size)
          clear b6
          go_wp2
          go_roundg (2 - (0 + 1))
          case measure => omega
          case rel => exact ⟨0 + 1, by omega, rfl, by go_num, HB6.out⟩
      · go_wp2_with fail
        refine Calls.mono HPI.out ?_
        rintro e wp ⟨g, c', b1, rfl, own1, h8, b1⟩
        have HBR : Hid (Below w.heap.size w wp) := HBR0.out.trans (b1.mono hszr)
        have HP : Hid (∀ w', Below wp.heap.size wp w' → ByAt w' p L2 c2 b) := fun w' hw => HA.out w' (HBR.out.trans (hw.mono HBR.out.size))
        clear own1 h8 b1 HPI
        obtain ⟨b0, rfl⟩ : ∃ b0, b0 = b := ⟨_, rfl⟩
        have hl0 := (HP.out wp (Below.refl _ _)).len
        have h80 := (HP.out wp (Below.refl _ _)).byte
        have hs0 := (HP.out wp (Below.refl _ _)).short
        unfold maxLen at hs0
        obtain ⟨k3, hk3⟩ : ∃ k, pkL b0 = k := ⟨_, rfl⟩
        obtain ⟨m, hm⟩ : ∃ m, k3.length = m := ⟨_, rfl⟩
        obtain ⟨f, hf⟩ : ∃ f, formN b0 = f := ⟨_, rfl⟩
        obtain ⟨k4, hk4⟩ : ∃ k, keptL b0 = k := ⟨_, rfl⟩
        obtain ⟨m4, hm4⟩ : ∃ m, k4.length = m := ⟨_, rfl⟩
        obtain ⟨s, hs⟩ : ∃ s, savesN b0 = s := ⟨_, rfl⟩
        have HW : Hid ((f = 0 ∧ m4 = 0 ∧ s = 0) ∨ (f = 1 ∧ m4 = 8 ∧ s = 4088) ∨ (f = 2 ∧ m4 = m ∧ k4 = k3 ∧ m ≤ 3072 ∧ s = 4096 - m) ∨ (f = 3 ∧ m4 = 4096 ∧ s = 0)) := by
          show _ ∨ _
          rw [← hf, ← hm4, ← hk4, ← hs, ← hm, ← hk3]
          exact ways b0
        have HK : Hid (pkL b0 = k3 ∧ k3.length = m) := ⟨hk3, hm⟩
        have HF : Hid (formN b0 = f ∧ keptL b0 = k4) := ⟨hf, hk4⟩
        have HM4 : Hid (k4.length = m4) := hm4
        have HS : Hid (savesN b0 = s) := hs
        have HPM : Hid ((pkL b0).length = m) := by show _ = _; rw [hk3, hm]
        have hmm : m ≤ 4128 := by rw [← hm, ← hk3]; exact pkL_len b0
        have hq0 := (HP.out wp (Below.refl _ _)).conv
        obtain ⟨tq, htq⟩ : ∃ t, strB b0 = t := ⟨_, rfl⟩
        rw [htq] at hq0
        have HTQ : Hid (strB b0 = tq) := htq
        clear hl0 h80 hk3 hm hf hk4 hm4 hs htq
        go_wp2_with fail
        refine (packs_is wp (HP.out wp (Below.refl _ _)) HK.out.1 HK.out.2).mono ?_
        rintro e w3 ⟨a3, c3, rfl, own3, b3⟩
        have HO3 : Hid (w3.ownsRow wp.heap.size 5 1 (.slice a3 m c3) m (bv k3)) := own3
        have HB3 : Hid (Below wp.heap.size wp w3) := b3
        have hsz3 := b3.size
        clear own3 b3 hq0
        go_wp2_with fail
        refine (make_any w3 (HP.out w3 HB3.out) HF.out.1 HF.out.2).mono ?_
        rw [HM4.out]
        rintro e w4 ⟨a4, c4, rfl, own4, b4⟩
        have HO4 : Hid (w4.ownsRow w3.heap.size 5 1 (.slice a4 m4 c4) m4 (bv k4)) := own4
        have HO34 : Hid (w4.ownsRow wp.heap.size 5 1 (.slice a3 m c3) m (bv k3)) := row_below HO3.out b4
        have HB4 : Hid (Below wp.heap.size wp w4) := HB3.out.trans (b4.mono hsz3)
        have hsz4 := HB4.out.size
        clear own4 b4 HO3
        go_wp2_with fail
        refine (refForm_any w4 (HP.out w4 HB4.out) HF.out.1 HPM.out).mono ?_
        rintro e w5 ⟨rfl, z, hw5⟩
        have b5 : Below w4.heap.size w4 w5 := by rw [hw5]; exact drewN_below _ _ _
        have HO45 : Hid (w5.ownsRow w3.heap.size 5 1 (.slice a4 m4 c4) m4 (bv k4)) := row_below HO4.out b5
        have HO35 : Hid (w5.ownsRow wp.heap.size 5 1 (.slice a3 m c3) m (bv k3)) := row_below HO34.out b5
        have HB5 : Hid (Below wp.heap.size wp w5) := HB4.out.trans (b5.mono hsz4)
        have hsz5 := HB5.out.size
        have hq5 := (HP.out w5 HB5.out).conv
        rw [HTQ.out] at hq5
        have hfe : ((f : Int) != (f : Int)) = false := by simp
        clear b5 hw5 HO4 HO34
        rcases HW.out with ⟨rfl, rfl, rfl⟩ | ⟨rfl, rfl, rfl⟩ | ⟨rfl, rfl, rfl, hm3, hsm⟩ | ⟨rfl, rfl, rfl⟩
        · go_wp2_with fail
          refine (saves_any w5 (HP.out w5 HB5.out) HS.out).mono ?_
          rintro e w6 ⟨rfl, b6⟩
          have HB6 : Hid (Below w.heap.size w w6) := HBR.out.trans ((HB5.out.trans (b6.mono HB5.out.size)).mono HBR.out.size)
          clear b6
          go_wp2
          go_roundg (2 - (1 + 1))
          case measure => omega
          case rel => exact ⟨1 + 1, by omega, rfl, by go_num, HB6.out⟩
        · go_wp2_with fail
          refine (saves_any w5 (HP.out w5 HB5.out) HS.out).mono ?_
          rintro e w6 ⟨rfl, b6⟩
          have HB6 : Hid (Below w.heap.size w w6) := HBR.out.trans ((HB5.out.trans (b6.mono HB5.out.size)).mono HBR.out.size)
          clear b6
          go_wp2
          go_roundg (2 - (1 + 1))
          case measure => omega
          case rel => exact ⟨1 + 1, by omega, rfl, by go_num, HB6.out⟩
        · have h40 : (4096 : Int) - (m4 : Int) = (s : Int) := by omega
          go_wp2_with fail
          refine (saves_any w5 (HP.out w5 HB5.out) HS.out).mono ?_
          rintro e w6 ⟨rfl, b6⟩
          have HB6 : Hid (Below w.heap.size w w6) := HBR.out.trans ((HB5.out.trans (b6.mono HB5.out.size)).mono HBR.out.size)
          have HR3 : Hid (w6.ownsRow wp.heap.size 5 1 (.slice a3 m4 c3) m4 (bv k4)) := row_below HO35.out b6
          have HR4 : Hid (w6.ownsRow w3.heap.size 5 1 (.slice a4 m4 c4) m4 (bv k4)) := row_below HO45.out b6
          clear b6
          go_wp2_with fail
          refine (refBytes_same _ _ k4 w6 (conv_any HR4.out) (conv_any HR3.out)).mono ?_
          rintro e w' ⟨rfl, rfl⟩
          go_wp2
          go_roundg (2 - (1 + 1))
          case measure => omega
          case rel => exact ⟨1 + 1, by omega, rfl, by go_num, HB6.out⟩
        · go_wp2_with fail
          refine (saves_any w5 (HP.out w5 HB5.out) HS.out).mono ?_
          rintro e w6 ⟨rfl, b6⟩
          have HB6 : Hid (Below w.heap.size w w6) := HBR.out.trans ((HB5.out.trans (b6.mono HB5.out.size)).mono HBR.out.size)
          clear b6
          go_wp2
          go_roundg (2 - (1 + 1))
          case measure => omega
          case rel => exact ⟨1 + 1, by omega, rfl, by go_num, HB6.out⟩
      · go_wp2_with fail
        refine (lives_any _).mono ?_
        rintro e w7 ⟨rfl, b7⟩
        have HB7 : Hid (Below w.heap.size w w7) := HBR0.out.trans (b7.mono hszr)
        clear b7
        go_wp2
        go_ret
        exact ⟨rfl, HB7.out⟩

set_option maxRecDepth 100000 in
theorem walk {H : Type} {enc : TypeId × Value → H} {w : World} {base : Nat} {v0 v1 : Value} {d0 d1 : DataW H} {p0 p1 : List MemPlace}
    (o0 : Value.okWide Try.prog w .any base 22 v0)
    (o1 : Value.okWide Try.prog w .any base 23 v1)
    (h0 : DataW.Trod enc Try.prog w 0 (fun _ => true) true 22 v0 d0 p0)
    (h1 : DataW.Trod enc Try.prog w 0 (fun _ => true) true 23 v1 d1 p1) :
    Calls Try.prog 3 #[v0, v1] w fun e w' => e = .returned (.bool true) ∧ Below w.heap.size w w' := by
  obtain ⟨a, L, c, D, rfl, hL, hds⟩ := openPcs Try.underlying22 Try.underlying43 (by kernel_rfl) (by kernel_rfl) Try.underlying23 Try.underlying5 (by kernel_rfl) Try.underlying41 o0 h0
  obtain ⟨p, L2, c2, b, rfl, hb⟩ := openBy Try.underlying23 Try.underlying5 (by kernel_rfl) o1 h1
  exact run a L c D hL p L2 c2 b w hds hb

set_option maxRecDepth 100000 in
theorem lifted (os : Os) (started : os.Started) (H : Type) (enc : TypeId × Value → H) :
    ReturnsInHanded {} Try.checked os 3 .any (Rows.codecMakesSpec.pre6 enc Try.prog Try.f3 Rows.codecMakesRow.domain false) (Rows.codecMakesSpec.post enc Try.prog Try.f3 false true false false) := by
  refine returnsInHanded_of_change (C := Try.checked) own started (by kernel_rfl) Try.func3
    (ChangeSpec.witness6 (enc := enc) (C := Try.checked) false ⟨#[], #[.slice none 0 0, .slice none 0 0], []⟩ 8 (by kernel_rfl) (by kernel_rfl) (by kernel_rfl) (by kernel_rfl)) ?_
  intro W base args ds gs before hval0 hW hcnd _
  have hval : ∀ (j : Nat) t v, Try.f3.params[j]? = some t → args[j]? = some v → Value.okWide Try.prog W .any base t v := hval0
  have hW' := hW
  obtain ⟨p, q, hA0, hV, rfl, hfz, hnd⟩ := hW
  have hA : DataW.TrodAll enc Try.prog W 0 (fun _ => true) true Try.f3.params.toList args.toList ds p := hA0
  rw [Try.params3] at hA hval
  obtain ⟨v0, vs0, d0, ds0, p0, q0, hargs, rfl, rfl, h0, r0⟩ := trodAll_cons hA
  obtain ⟨v1, vs1, d1, ds1, p1, q1, rfl, rfl, rfl, h1, r1⟩ := trodAll_cons r0
  obtain ⟨rfl, rfl, rfl⟩ := trodAll_nil r1
  obtain rfl : args = #[v0, v1] := by cases args; simp_all
  obtain ⟨rfl, rfl⟩ := trodVars_none hV
  have o0 := hval 0 22 v0 rfl rfl
  have lt0 : ∀ x ∈ p0, x.block < W.heap.size := by obtain ⟨m, hm⟩ := h0; exact DataW.trod_lt m _ _ _ hm
  have o1 := hval 1 23 v1 rfl rfl
  have lt1 : ∀ x ∈ p1, x.block < W.heap.size := by obtain ⟨m, hm⟩ := h1; exact DataW.trod_lt m _ _ _ hm
  clear hA0 hval0
  refine (walk o0 o1 h0 h1).mono fun e W' ⟨he, bel⟩ => ?_
  subst he
  exact ⟨_, rfl, _, _, _, [], _, [], hW', trodAll_mk1 (shut_bool Try.underlying4 _), (trodAll_cons_mk (Below.trod laidOut (by kernel_rfl) (of_decide_eq_true (by kernel_rfl)) h0 bel lt0) (trodAll_cons_mk (Below.trod laidOut (by kernel_rfl) (of_decide_eq_true (by kernel_rfl)) h1 bel lt1) trodAll_mk0)), rfl, bel.frame _, fun h => by cases h⟩

theorem over : Rows.codecMakesRow.holds Try.pinned (OpenSpec.ofChange Rows.codecMakesSpec) :=
  OpenClaim.holds_of_wide 3 Try.f3 rfl rfl rfl rfl rfl rfl rfl ⟨rfl, rfl, rfl, rfl, rfl⟩ rfl rfl rfl rfl rfl (by kernel_rfl) Try.func3 (by kernel_rfl)
    (of_decide_eq_true (by kernel_rfl)) (by unfold Func.isWrapper; first | (rw [if_pos (by decide +kernel)]; kernel_rfl) | (rw [if_neg (by decide +kernel)]; exact ⟨rfl, rfl⟩))
    (fun os started H enc _ => lifted os started H enc)
end Go.Proofs.Ytgninhecclinaaa.CodecMakes
namespace Go.Proofs.Ytgninhecclinaaa
/-- The statement. -/
theorem codecMakes_holds : Rows.CodecMakesSaid := CodecMakes.over
#print axioms codecMakes_holds
end Go.Proofs.Ytgninhecclinaaa
