/- Proved: gunnylaw13.SqueezeBack returns true for all lists of pieces and all lists of bytes: whatever page is packed, is unpacked, by the document, too; it has at most 4128 bytes; the same page is packed to the same; bytes that aren't a page aren't packed. No conditions. -/
import Derived.Test.YtmpocmfnpipehaaQLives
import Derived.Test.YtmpocmfnpipehaaQRef
import Derived.Test.YtmpocmfnpipehaaQGreat
import Derived.Test.YtmpocmfnpipehaaEPieces
import Derived.Test.YtmpocmfnpipehaaBOpen
import Derived.Test.YtmpocmfnpipehaaGOpBy
namespace Go.Proofs.Ytmpocmfnpipehaa.SqueezeBack
open Go.ChangeShapes Go.WideShapes Go.ChangeAt Go.RowKit
set_option linter.unusedVariables false
theorem own : ownKnob Try.prog.godebug = none := by kernel_rfl
theorem laidOut : laidOutB Try.prog = true := by kernel_rfl
set_option maxRecDepth 100000 in
set_option maxHeartbeats 4000000 in
theorem run (a : Option Addr) (L c : Nat) (D : Nat → Pc) (hL : L ≤ maxLen) (p : Option Addr) (L2 c2 : Nat) (b : List Nat) (w : World) (hd : PcsAt w a L D) (h : ByAt w p L2 c2 b) :
    Calls Try.prog 5 #[.slice a L c, .slice p L2 c2] w fun e w' => e = .returned (.bool true) ∧ Below w.heap.size w w' := by
  obtain ⟨i0, hi, hz0, hz1, hz2⟩ := info_parts Try.info5
  have HD : Hid (PcsAt w a L D) := hd
  have HA : Hid (∀ w', Below w.heap.size w w' → ByAt w' p L2 c2 b) := fun w' hw => h.later hw
  have hL2 := h.short
  unfold maxLen at hL2
  clear hd h
  go_enter Try.func5, Try.ntmps5
  go_wp2_with fail
  refine (great_any a L c D w hL HD.out).mono ?_
  rintro e w' ⟨v, rfl, rfl, hv⟩
  obtain ⟨bb, rfl, hgb⟩ := hv
  cases bb with
  | true =>
    clear hgb
    go_wp2_with fail
    refine (lives_any _).mono ?_
    rintro e w1 ⟨rfl, hb⟩
    have HB : Hid (Below w.heap.size w w1) := hb
    clear hb
    go_wp2
    go_ret
    exact ⟨rfl, HB.out⟩
  | false =>
    obtain ⟨h200, h5⟩ := hgb rfl
    clear hgb
    by_cases h9 : 9000 < L2
    · have i1 : (9000 : Int) < (L2 : Int) := by omega
      clear h5
      go_wp2_with fail
      refine (lives_any _).mono ?_
      rintro e w1 ⟨rfl, hb⟩
      have HB : Hid (Below w.heap.size w w1) := hb
      clear hb
      go_wp2
      go_ret
      exact ⟨rfl, HB.out⟩
    have i1 : ¬ (9000 : Int) < (L2 : Int) := by omega
    have H5 : Hid (∀ i, i < L → (D i).l ≤ 5000) := h5
    clear h5
    go_wp2_with fail
    refine (pieces_any a L c D w h200 HD.out H5.out).mono ?_
    rintro e w1 ⟨g, c', q, rfl, own1, h8, b1⟩
    have hql : q.length = 4096 := by simpa [bv] using own1.1
    obtain ⟨T, hT⟩ : ∃ T, packL q = T := ⟨_, rfl⟩
    have hback := pack_back hql h8
    have h4128 := pack_4128 hql
    rw [hT] at hback h4128
    have HT : Hid (packL q = T) := hT
    have HBK : Hid (unpA (catZ q T) = ⟨0, q, T.length⟩) := hback
    have H8 : Hid (∀ x ∈ q, x < 256) := h8
    have H48 : Hid (∀ x ∈ catZ q T, x < 256) := hT ▸ tz_byte h8 (packL_spell hql).may
    have HO1 : Hid (w1.ownsRow w.heap.size 5 1 (.slice (some ⟨g, 0, none⟩) 4096 c') 4096 (bv q)) := own1
    have HP : Hid (∀ w', Below w1.heap.size w1 w' → ByAt w' (some ⟨g, 0, none⟩) 4096 c' q) := fun w' hw => (by_row own1 h8).later hw
    have HB1 : Hid (Below w.heap.size w w1) := b1
    have hsz1 := b1.size
    have hk1 := (HP.out w1 (Below.refl _ _)).conv
    clear own1 h8 b1 hback hT
    go_wp2_with fail
    refine (pack_any w1 (HP.out w1 (Below.refl _ _))).mono ?_
    rintro e w2 ⟨v2, rfl, own2, b2⟩
    rw [HT.out] at own2
    obtain ⟨m, hm⟩ : ∃ m, (catZ q T).length = m := ⟨_, rfl⟩
    rw [hm] at own2 h4128
    have HM : Hid ((catZ q T).length = m) := hm
    obtain ⟨a2, k2, rfl⟩ := row_slice own2
    have HO2 : Hid (w2.ownsRow w1.heap.size 5 1 (.slice a2 m k2) m (bv (catZ q T))) := own2
    have HB2 : Hid (Below w1.heap.size w1 w2) := b2
    have hsz2 := b2.size
    clear own2 b2 hk1 hm
    have HL0 : Hid ((w2.alloc (.cells #[] 5)).ownsRow w1.heap.size 5 1 (.slice (some ⟨w2.heap.size, 0, none⟩) 0 0) 0 (bv [])) := own_lit w2 w1.heap.size w2.heap.size 0 [] #[] rfl hsz2 rfl (by unfold maxLen; omega) rfl
    have HB2a : Hid (Below w1.heap.size w1 (w2.alloc (.cells #[] 5))) := HB2.out.alloc hsz2 _
    go_wp2_with (at_builtin; refine wpList_append_src rfl _ _ 22 rfl w1.heap.size 5 i0 (.int .u8 0) 1 1 Try.underlying22 hi hz0 hz1 hz2 rfl (by decide) _ 0 (bv []) rfl HL0.out _ 4096 (bv q) rfl (HP.out _ HB2a.out).src (bv_one _) ?y1 ?y2 ?y3 ?_)
    case y1 => unfold maxLen; omega
    case y2 => omega
    case y3 => simp; omega
    intro v3 w3 own3 gr3
    have e3 : bv [] ++ bv q = bv q := rfl
    rw [e3] at own3
    obtain ⟨a3, k3, rfl⟩ := row_slice own3
    have hb3 : Below w2.heap.size w2 w3 := ((Below.refl _ w2).alloc (Nat.le_refl _) _).grown gr3 (by simp) (fun j hj => by
      have e : w2.heap.size = j := by simpa [Value.ownBlock] using hj
      omega)
    have HY3 : Hid (ByAt w3 a3 4096 k3 q) := by_own own3 H8.out
    have HB3 : Hid (Below w1.heap.size w1 w3) := HB2.out.trans (hb3.mono hsz2)
    have hsz3 := HB3.out.size
    have HO3 : Hid (w3.ownsRow w1.heap.size 5 1 (.slice a2 m k2) m (bv (catZ q T))) := row_below HO2.out hb3
    clear own3 gr3 e3 hb3 HL0 HB2a
    go_wp2_with fail
    refine (pack_any w3 HY3.out).mono ?_
    rintro e w4 ⟨v4, rfl, own4, b4⟩
    rw [HT.out, HM.out] at own4
    obtain ⟨a4, k4, rfl⟩ := row_slice own4
    have HO4 : Hid (w4.ownsRow w3.heap.size 5 1 (.slice a4 m k4) m (bv (catZ q T))) := own4
    have HO24 : Hid (w4.ownsRow w1.heap.size 5 1 (.slice a2 m k2) m (bv (catZ q T))) := row_below HO3.out b4
    have HB4 : Hid (Below w1.heap.size w1 w4) := HB3.out.trans (b4.mono hsz3)
    have hsz4 := HB4.out.size
    clear own4 b4 HO3 HY3
    have HYB : Hid (∀ w', Below w4.heap.size w4 w' → ByAt w' a2 m k2 (catZ q T)) := fun w' hw => (by_own HO24.out H48.out).later hw
    go_wp2_with fail
    refine (sunpack_any w4 (HYB.out w4 (Below.refl _ _)) (by omega) HBK.out).mono ?_
    rintro e w5 ⟨a5, k5, rfl, own5, b5⟩
    have HO5 : Hid (w5.ownsRow w4.heap.size 5 1 (.slice a5 q.length k5) q.length (bv q)) := own5
    have HB5 : Hid (Below w4.heap.size w4 w5) := b5
    have hsz5 := b5.size
    clear own5 b5
    go_wp2_with fail
    have hr := refUnpack_any w5 (HYB.out w5 HB5.out) (by omega)
    rw [HBK.out] at hr
    refine Calls.mono hr ?_
    rintro e w6 ⟨v6, rfl, own6, b6⟩
    obtain ⟨a6, k6, rfl⟩ := row_slice own6
    have HO6 : Hid (w6.ownsRow w5.heap.size 5 1 (.slice a6 q.length k6) q.length (bv q)) := own6
    have HO56 : Hid (w6.ownsRow w4.heap.size 5 1 (.slice a5 q.length k5) q.length (bv q)) := row_below HO5.out b6
    have HB46 : Hid (Below w4.heap.size w4 w6) := HB5.out.trans (b6.mono hsz5)
    have HB6 : Hid (Below w1.heap.size w1 w6) := HB4.out.trans (HB46.out.mono hsz4)
    have hsz6 := HB6.out.size
    have hq1 := (HYB.out w6 HB46.out).conv
    have hq2 := (by_own (row_below HO4.out HB46.out) H48.out).conv
    have hq3 := (by_own HO56.out H8.out).conv
    have hq4 := (by_own HO6.out H8.out).conv
    have hq5 := (HP.out w6 HB6.out).conv
    have i2 : ¬ (4128 : Int) < (m : Int) := by omega
    clear own6 b6 hr
    rw [hql] at hq3 hq4
    generalize htq : strB q = tq at *
    have HTQ : Hid (strB q = tq) := htq
    clear htq
    generalize strB (catZ q T) = tc at *
    go_wp2_with fail
    refine (tokens_any w6 (HYB.out w6 HB46.out) (by omega) HBK.out).mono ?_
    rintro e w7 ⟨rfl, b7⟩
    have HB7 : Hid (Below w1.heap.size w1 w7) := HB6.out.trans (b7.mono hsz6)
    have hsz7 := HB7.out.size
    have hq6 := (HP.out w7 HB7.out).conv
    rw [HTQ.out] at hq6
    clear hq1 hq2 hq3 hq4 hq5 b7
    have HN : Hid (∀ z : World, Below w1.heap.size w1 z → Calls Try.prog 13 #[.slice p L2 c2] z fun e w' => ∃ v, e = .returned (.tuple #[v, .bool (decide (L2 = 4096))]) ∧ (∃ x y u, v = .slice x y u) ∧ Below z.heap.size z w') := by
      intro z hz
      have hby := HA.out z (HB1.out.trans (hz.mono hsz1))
      by_cases e4 : L2 = 4096
      · subst e4
        refine (pack_any z hby).mono ?_
        rintro e w' ⟨v, rfl, own, bel⟩
        obtain ⟨x, u, rfl⟩ := row_slice own
        exact ⟨_, rfl, ⟨_, _, _, rfl⟩, bel⟩
      · refine (pack_no z e4).mono ?_
        rintro e w' ⟨rfl, rfl⟩
        rw [decide_eq_false e4]
        exact ⟨_, rfl, ⟨_, _, _, rfl⟩, Below.refl _ _⟩
    have hde : ((L2 : Int) == 4096) = decide (L2 = 4096) := by
      by_cases e4 : L2 = 4096
      · subst e4; rfl
      · rw [decide_eq_false e4, beq_eq_false_iff_ne]; omega
    obtain ⟨bb, hbb⟩ : ∃ bb, decide (L2 = 4096) = bb := ⟨_, rfl⟩
    rw [hbb] at HN hde
    clear hbb
    go_wp2_with fail
    refine Calls.mono (HN.out w7 HB7.out) ?_
    rintro e w8 ⟨v8, rfl, ⟨x8, y8, u8, rfl⟩, b8⟩
    have HB8 : Hid (Below w.heap.size w w8) := HB1.out.trans ((HB7.out.trans (b8.mono hsz7)).mono hsz1)
    have hbe : (bb == bb) = true := by cases bb <;> rfl
    clear b8 hq6
    go_wp2_with fail
    refine (lives_any _).mono ?_
    rintro e w9 ⟨rfl, b9⟩
    have HB9 : Hid (Below w.heap.size w w9) := HB8.out.trans (b9.mono HB8.out.size)
    clear b9
    go_wp2
    go_ret
    exact ⟨rfl, HB9.out⟩

theorem walk {H : Type} {enc : TypeId × Value → H} {w : World} {base : Nat} {v0 v1 : Value} {d0 d1 : DataW H} {p0 p1 : List MemPlace}
    (o0 : Value.okWide Try.prog w .any base 32 v0)
    (o1 : Value.okWide Try.prog w .any base 22 v1)
    (h0 : DataW.Trod enc Try.prog w 0 (fun _ => true) true 32 v0 d0 p0)
    (h1 : DataW.Trod enc Try.prog w 0 (fun _ => true) true 22 v1 d1 p1) :
    Calls Try.prog 5 #[v0, v1] w fun e w' => e = .returned (.bool true) ∧ Below w.heap.size w w' := by
  obtain ⟨a, L, c, D, rfl, hL, hds⟩ := openPcs Try.underlying32 Try.underlying51 (by kernel_rfl) (by kernel_rfl) Try.underlying22 Try.underlying5 (by kernel_rfl) Try.underlying33 o0 h0
  obtain ⟨p, L2, c2, b, rfl, hb⟩ := openBy Try.underlying22 Try.underlying5 (by kernel_rfl) o1 h1
  exact run a L c D hL p L2 c2 b w hds hb

set_option maxRecDepth 100000 in
theorem lifted (os : Os) (started : os.Started) (H : Type) (enc : TypeId × Value → H) :
    ReturnsInHanded {} Try.checked os 5 .any (Rows.squeezeBackSpec.pre6 enc Try.prog Try.f5 Rows.squeezeBackRow.domain false) (Rows.squeezeBackSpec.post enc Try.prog Try.f5 false true false false) := by
  refine returnsInHanded_of_change (C := Try.checked) own started (by kernel_rfl) Try.func5
    (ChangeSpec.witness6 (enc := enc) (C := Try.checked) false ⟨#[], #[.slice none 0 0, .slice none 0 0], []⟩ 8 (by kernel_rfl) (by kernel_rfl) (by kernel_rfl) (by kernel_rfl)) ?_
  intro W base args ds gs before hval0 hW hcnd _
  have hval : ∀ (j : Nat) t v, Try.f5.params[j]? = some t → args[j]? = some v → Value.okWide Try.prog W .any base t v := hval0
  have hW' := hW
  obtain ⟨p, q, hA0, hV, rfl, hfz, hnd⟩ := hW
  have hA : DataW.TrodAll enc Try.prog W 0 (fun _ => true) true Try.f5.params.toList args.toList ds p := hA0
  rw [Try.params5] at hA hval
  obtain ⟨v0, vs0, d0, ds0, p0, q0, hargs, rfl, rfl, h0, r0⟩ := trodAll_cons hA
  obtain ⟨v1, vs1, d1, ds1, p1, q1, rfl, rfl, rfl, h1, r1⟩ := trodAll_cons r0
  obtain ⟨rfl, rfl, rfl⟩ := trodAll_nil r1
  obtain rfl : args = #[v0, v1] := by cases args; simp_all
  obtain ⟨rfl, rfl⟩ := trodVars_none hV
  have o0 := hval 0 32 v0 rfl rfl
  have lt0 : ∀ x ∈ p0, x.block < W.heap.size := by obtain ⟨m, hm⟩ := h0; exact DataW.trod_lt m _ _ _ hm
  have o1 := hval 1 22 v1 rfl rfl
  have lt1 : ∀ x ∈ p1, x.block < W.heap.size := by obtain ⟨m, hm⟩ := h1; exact DataW.trod_lt m _ _ _ hm
  clear hA0 hval0
  refine (walk o0 o1 h0 h1).mono fun e W' ⟨he, bel⟩ => ?_
  subst he
  exact ⟨_, rfl, _, _, _, [], _, [], hW', trodAll_mk1 (shut_bool Try.underlying4 _), (trodAll_cons_mk (Below.trod laidOut (by kernel_rfl) (of_decide_eq_true (by kernel_rfl)) h0 bel lt0) (trodAll_cons_mk (Below.trod laidOut (by kernel_rfl) (of_decide_eq_true (by kernel_rfl)) h1 bel lt1) trodAll_mk0)), rfl, bel.frame _, fun h => by cases h⟩

theorem over : Rows.squeezeBackRow.holds Try.pinned (OpenSpec.ofChange Rows.squeezeBackSpec) :=
  OpenClaim.holds_of_wide 5 Try.f5 rfl rfl rfl rfl rfl rfl rfl ⟨rfl, rfl, rfl, rfl, rfl⟩ rfl rfl rfl rfl rfl (by kernel_rfl) Try.func5 (by kernel_rfl)
    (of_decide_eq_true (by kernel_rfl)) (by unfold Func.isWrapper; first | (rw [if_pos (by decide +kernel)]; kernel_rfl) | (rw [if_neg (by decide +kernel)]; exact ⟨rfl, rfl⟩))
    (fun os started H enc _ => lifted os started H enc)
end Go.Proofs.Ytmpocmfnpipehaa.SqueezeBack
namespace Go.Proofs.Ytmpocmfnpipehaa
/-- The statement. -/
theorem squeezeBack_holds : Rows.SqueezeBackSaid := SqueezeBack.over
#print axioms squeezeBack_holds
end Go.Proofs.Ytmpocmfnpipehaa
