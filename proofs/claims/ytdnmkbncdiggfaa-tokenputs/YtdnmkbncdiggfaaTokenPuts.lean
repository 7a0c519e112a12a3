/- Proved: gunnylaw11.TokenPuts returns true for all lists of tokens: whether any tokens are some, how many bytes each stands for, and their bytes, are the document's. No conditions. -/
import Derived.Test.YtdnmkbncdiggfaaKLives
import Derived.Test.YtdnmkbncdiggfaaKOpen
import Derived.Deep.DeepCutAuto
namespace Go.Proofs.Ytdnmkbncdiggfaa.TokenPuts
open Go.ChangeShapes Go.WideShapes Go.ChangeAt Go.RowKit
set_option linter.unusedVariables false
theorem own : ownKnob Try.prog.godebug = none := by kernel_rfl
theorem laidOut : laidOutB Try.prog = true := by kernel_rfl
set_option maxRecDepth 100000 in
set_option maxHeartbeats 4000000 in
theorem run (a : Option Addr) (L c : Nat) (D : Nat → Tk) (w : World) (hL : L ≤ maxLen) (h : TksAt w a L D) :
    Calls Try.prog 3 #[.slice a L c] w fun e w' => e = .returned (.bool true) ∧ Below w.heap.size w w' := by
  obtain ⟨i0, hi, hz0, hz1, hz2⟩ := info_parts Try.info5
  have H : Hid (TksAt w a L D) := h
  have HC : Hid (∀ k, k ≤ L → (catT D k).length ≤ 129 * k) := catT_len (fun i hi => (h.ok hi).by_.len)
  have hL2 := hL
  unfold maxLen at hL2
  clear h
  go_enter Try.func3, Try.ntmps3
  by_cases h5 : 100 < L
  · have i1 : (100 : Int) < (L : Int) := by omega
    go_wp2_with fail
    refine (lives_any _).mono ?_
    rintro e wq ⟨rfl, hb⟩
    have HB : Hid (Below w.heap.size w wq) := (Below.refl w.heap.size w).trans (hb.mono (Below.refl w.heap.size w).size)
    clear hb
    go_wp2
    go_ret
    exact ⟨rfl, HB.out⟩
  have i1 : ¬ (100 : Int) < (L : Int) := by omega
  have hL3 : L ≤ 100 := by omega
  clear hL hL2 h5
  go_wp2
  go_loopw [3, 4, 5] (fun v t i wr => ∃ k : Nat, k ≤ L ∧ i = .int .i64 k ∧ t = .bool (allT D k) ∧ wr.ownsRow w.heap.size 5 1 v (catT D k).length (bv (catT D k)) ∧ Below w.heap.size w wr) (fun _ _ i _ => L - (intOf i).toNat)
  case atStart => exact ⟨0, Nat.zero_le _, rfl, rfl, World.ownsRow_nil _ _ _ _, Below.refl _ _⟩
  case round =>
    obtain ⟨k, hk, rfl, rfl, hown, hb⟩ := hrel
    obtain ⟨av, cv, rfl⟩ := row_slice hown
    have HO : Hid (wr.ownsRow w.heap.size 5 1 (.slice av (catT D k).length cv) (catT D k).length (bv (catT D k))) := hown
    have HB : Hid (Below w.heap.size w wr) := hb
    clear hown hb
    obtain ⟨al, hal⟩ : ∃ al, allT D k = al := ⟨_, rfl⟩
    rw [hal]
    by_cases hlt : k < L
    · have i2 : (k : Int) < (L : Int) := by omega
      obtain ⟨g, off, rfl, hg, hc⟩ := H.out.at hlt
      have hok := H.out.ok hlt
      have hl := hok.by_.short
      have HK : Hid (ByAt w (D k).p (D k).l (D k).c (D k).b) := hok.by_
      have HCK : Hid ((catT D k).length ≤ 129 * k) := HC.out k hk
      have HAK : Hid (allT D (k + 1) = (al && mayD (D k))) := by show _ = _; rw [← hal]; rfl
      clear hok hal
      obtain ⟨mb, hm⟩ : ∃ mb, mayD (D k) = mb := ⟨_, rfl⟩
      have HM : Hid (mayT (D k).l (D k).n (D k).d = mb) := hm
      have HE : Hid (catT D (k + 1) = if mb then catT D k ++ tokB (D k).b (D k).n (D k).d else catT D k) := by show _ = _; rw [← hm]; rfl
      rw [hm] at HAK
      clear hm
      have HCL : Hid (∀ (w' : World), Below w.heap.size w w' → w'.cell? ⟨g, off + k * 3, none⟩ = some (.slice (D k).p (D k).l (D k).c) ∧ w'.cell? ⟨g, off + k * 3 + 1, none⟩ = some (.int .i64 (D k).n) ∧ w'.cell? ⟨g, off + k * 3 + 2, none⟩ = some (.int .i64 (D k).d)) := hc
      clear hc
      obtain ⟨c0, c1, c2⟩ := HCL.out wr HB.out
      generalize (D k).p = dp at *
      generalize (D k).l = dl at *
      generalize (D k).c = dc at *
      generalize (D k).b = db at *
      generalize (D k).n = dn at *
      generalize (D k).d = dd at *
      cases hgr : decide (300 < dl) with
      | true =>
        have HGR : Hid (decide (300 < dl) = true) := hgr
        clear hgr
        go_wp2_with fail
        refine (great_is _ hl HGR.out).mono ?_
        rintro e w0 ⟨rfl, b0⟩
        have HB0 : Hid (Below w.heap.size w w0) := HB.out.trans (b0.mono HB.out.size)
        clear b0 c0 c1 c2
        go_wp2_with fail
        refine (lives_any _).mono ?_
        rintro e wq ⟨rfl, hb⟩
        have HB : Hid (Below w.heap.size w wq) := HB0.out.trans (hb.mono HB0.out.size)
        clear hb
        go_wp2
        go_ret
        exact ⟨rfl, HB.out⟩
      | false =>
        have HGR : Hid (decide (300 < dl) = false) := hgr
        clear hgr
        go_wp2_with fail
        refine (great_is _ hl HGR.out).mono ?_
        rintro e w1 ⟨rfl, b1⟩
        have HB1 : Hid (Below w.heap.size w w1) := HB.out.trans (b1.mono HB.out.size)
        have HO1 : Hid (w1.ownsRow w.heap.size 5 1 (.slice av (catT D k).length cv) (catT D k).length (bv (catT D k))) := row_below HO.out b1
        clear b1 c0 c1 c2 HO HB
        obtain ⟨c0, c1, c2⟩ := HCL.out w1 HB1.out
        go_wp2_with fail
        refine (refMay_is _ hl HM.out).mono ?_
        rintro e w2 ⟨rfl, b2⟩
        obtain ⟨hx2, hb2⟩ := three_new b2
        have HX2 : Hid _ := hx2
        have HB2 : Hid (Below w.heap.size w w2) := HB1.out.trans (hb2.mono HB1.out.size)
        have HO2 : Hid (w2.ownsRow w.heap.size 5 1 (.slice av (catT D k).length cv) (catT D k).length (bv (catT D k))) := row_below HO1.out hb2
        clear c0 c1 c2 hb2 b2 HB1 HO1
        obtain ⟨c0, c1, c2⟩ := HCL.out w2 HB2.out
        obtain ⟨d0, d1, d2⟩ := three_cells hx2
        clear hx2
        cases mb with
        | true =>
          have HEY : Hid (catT D (k + 1) = catT D k ++ tokB db dn dd) := HE.out
          have HKW : Hid (ByAt w2 dp dl dc db) := HK.out.later HB2.out
          have hn : 0 ≤ dn ∧ dn ≤ 130 ∧ dl ≤ 128 := by rcases may_ways HM.out with ⟨_, _, rfl, _⟩ | ⟨_, N, D, rfl, rfl, _⟩ <;> omega
          obtain ⟨n0, n1, n2⟩ := hn
          obtain ⟨S, hS⟩ : ∃ S, sizeT dl dn dd = S := ⟨_, rfl⟩
          have hS2 : ((S : Int) != (dl : Int) + dn) = false := by
            rw [← hS, sizeT_yes HM.out, bne_eq_false_iff_eq]
            omega
          have HSI : Hid (sizeT dl dn dd = S) := hS
          have HTL : Hid ((tokB db dn dd).length ≤ 129) := tok_len (by rw [HK.out.len]; exact HM.out)
          clear hS HE
          go_wp2_with fail
          refine (refPut_any w2 HKW.out HM.out).mono ?_
          rintro e w3 ⟨v3, rfl, own3, b3⟩
          have HS3 : Hid (SrcAt w3 v3 (tokB db dn dd).length 1 (bv (tokB db dn dd))) := src_row own3
          have HB3 : Hid (Below w.heap.size w w3) := HB2.out.trans (b3.mono HB2.out.size)
          have HO3 : Hid (w3.ownsRow w.heap.size 5 1 (.slice av (catT D k).length cv) (catT D k).length (bv (catT D k))) := row_below HO2.out b3
          obtain ⟨a3, q3, rfl⟩ := row_slice own3
          clear own3 b3 c0 c1 c2 d0 d1 d2 HB2 HO2 HX2 HKW
          go_wp2_with (at_builtin; refine wpList_append_src rfl _ _ 24 rfl w.heap.size 5 i0 (.int .u8 0) 1 1 Try.underlying24 hi hz0 hz1 hz2 rfl (by decide) _ (catT D k).length (bv (catT D k)) rfl HO3.out _ (tokB db dn dd).length (bv (tokB db dn dd)) rfl HS3.out (bv_one _) ?y1 ?y2 HB3.out.size ?_)
          case y1 => have := HTL.out; have := HCK.out; unfold maxLen; omega
          case y2 => have := HTL.out; have := HCK.out; omega
          intro v4 w4 own4 gr4
          have HB4 : Hid (Below w.heap.size w w4) := HB3.out.grown gr4 HB3.out.size (fun i hi => (World.ownsRow.lt HO3.out i hi).1)
          have HO4 : Hid (w4.ownsRow w.heap.size 5 1 v4 (catT D (k + 1)).length (bv (catT D (k + 1)))) := by
            rw [← bv_append] at own4
            rw [HEY.out, List.length_append]
            exact own4
          clear own4 gr4 HB3 HO3 HS3
          obtain ⟨c0, c1, c2⟩ := HCL.out w4 HB4.out
          cases al with
          | true =>
            have HAL : Hid (Value.bool true = Value.bool (allT D (k + 1))) := by show _ = _; rw [HAK.out]; rfl
            go_wp2_with fail
            refine (may_is _ hl HM.out).mono ?_
            rintro e wA ⟨rfl, bA⟩
            have HBA : Hid (Below w.heap.size w wA) := HB4.out.trans (bA.mono HB4.out.size)
            have HOA : Hid (wA.ownsRow w.heap.size 5 1 v4 (catT D (k + 1)).length (bv (catT D (k + 1)))) := row_below HO4.out bA
            clear bA c0 c1 c2
            obtain ⟨c0, c1, c2⟩ := HCL.out wA HBA.out
            go_wp2_with fail
            refine (size_is _ hl HSI.out).mono ?_
            rintro e wB ⟨rfl, bB⟩
            have HBB : Hid (Below w.heap.size w wB) := HBA.out.trans (bB.mono HBA.out.size)
            have HOB : Hid (wB.ownsRow w.heap.size 5 1 v4 (catT D (k + 1)).length (bv (catT D (k + 1)))) := row_below HOA.out bB
            clear bB c0 c1 c2 HBA HOA
            go_wp2
            go_roundw
            case rel => exact ⟨k + 1, by omega, by go_num, HAL.out, HOB.out, HBB.out⟩
            case measure => simp [intOf]; omega
          | false =>
            have HAL : Hid (Value.bool false = Value.bool (allT D (k + 1))) := by show _ = _; rw [HAK.out]; rfl
            go_wp2_with fail
            refine (may_is _ hl HM.out).mono ?_
            rintro e wA ⟨rfl, bA⟩
            have HBA : Hid (Below w.heap.size w wA) := HB4.out.trans (bA.mono HB4.out.size)
            have HOA : Hid (wA.ownsRow w.heap.size 5 1 v4 (catT D (k + 1)).length (bv (catT D (k + 1)))) := row_below HO4.out bA
            clear bA c0 c1 c2
            obtain ⟨c0, c1, c2⟩ := HCL.out wA HBA.out
            go_wp2_with fail
            refine (size_is _ hl HSI.out).mono ?_
            rintro e wB ⟨rfl, bB⟩
            have HBB : Hid (Below w.heap.size w wB) := HBA.out.trans (bB.mono HBA.out.size)
            have HOB : Hid (wB.ownsRow w.heap.size 5 1 v4 (catT D (k + 1)).length (bv (catT D (k + 1)))) := row_below HOA.out bB
            clear bB c0 c1 c2 HBA HOA
            go_wp2
            go_roundw
            case rel => exact ⟨k + 1, by omega, by go_num, HAL.out, HOB.out, HBB.out⟩
            case measure => simp [intOf]; omega
        | false =>
          have HEY : Hid (catT D (k + 1) = catT D k) := HE.out
          have HSI : Hid (sizeT dl dn dd = 0) := sizeT_no HM.out
          have HO4 : Hid (w2.ownsRow w.heap.size 5 1 (.slice av (catT D k).length cv) (catT D (k + 1)).length (bv (catT D (k + 1)))) := by rw [HEY.out]; exact HO2.out
          clear HE HO2
          cases al with
          | true =>
            have HAL : Hid (Value.bool false = Value.bool (allT D (k + 1))) := by show _ = _; rw [HAK.out]; rfl
            go_wp2_with fail
            refine (may_is _ hl HM.out).mono ?_
            rintro e wA ⟨rfl, bA⟩
            have HBA : Hid (Below w.heap.size w wA) := HB2.out.trans (bA.mono HB2.out.size)
            have HOA : Hid (wA.ownsRow w.heap.size 5 1 (.slice av (catT D k).length cv) (catT D (k + 1)).length (bv (catT D (k + 1)))) := row_below HO4.out bA
            clear bA c0 c1 c2
            obtain ⟨c0, c1, c2⟩ := HCL.out wA HBA.out
            go_wp2_with fail
            refine (size_is _ hl HSI.out).mono ?_
            rintro e wB ⟨rfl, bB⟩
            have HBB : Hid (Below w.heap.size w wB) := HBA.out.trans (bB.mono HBA.out.size)
            have HOB : Hid (wB.ownsRow w.heap.size 5 1 (.slice av (catT D k).length cv) (catT D (k + 1)).length (bv (catT D (k + 1)))) := row_below HOA.out bB
            clear bB c0 c1 c2 HBA HOA
            go_wp2
            go_roundw
            case rel => exact ⟨k + 1, by omega, by go_num, HAL.out, HOB.out, HBB.out⟩
            case measure => simp [intOf]; omega
          | false =>
            have HAL : Hid (Value.bool false = Value.bool (allT D (k + 1))) := by show _ = _; rw [HAK.out]; rfl
            go_wp2_with fail
            refine (may_is _ hl HM.out).mono ?_
            rintro e wA ⟨rfl, bA⟩
            have HBA : Hid (Below w.heap.size w wA) := HB2.out.trans (bA.mono HB2.out.size)
            have HOA : Hid (wA.ownsRow w.heap.size 5 1 (.slice av (catT D k).length cv) (catT D (k + 1)).length (bv (catT D (k + 1)))) := row_below HO4.out bA
            clear bA c0 c1 c2
            obtain ⟨c0, c1, c2⟩ := HCL.out wA HBA.out
            go_wp2_with fail
            refine (size_is _ hl HSI.out).mono ?_
            rintro e wB ⟨rfl, bB⟩
            have HBB : Hid (Below w.heap.size w wB) := HBA.out.trans (bB.mono HBA.out.size)
            have HOB : Hid (wB.ownsRow w.heap.size 5 1 (.slice av (catT D k).length cv) (catT D (k + 1)).length (bv (catT D (k + 1)))) := row_below HOA.out bB
            clear bB c0 c1 c2 HBA HOA
            go_wp2
            go_roundw
            case rel => exact ⟨k + 1, by omega, by go_num, HAL.out, HOB.out, HBB.out⟩
            case measure => simp [intOf]; omega
    · obtain rfl : k = L := by omega
      have HP : Hid _ := puts_any (c := c) wr (H.out.below HB.out) hL3
      go_wp2_with fail
      refine Calls.mono HP.out ?_
      rintro e w1 ⟨v1, rfl, own1, b1⟩
      rw [hal]
      have HB1 : Hid (Below w.heap.size w w1) := HB.out.trans (b1.mono HB.out.size)
      have HO1 : Hid (w1.ownsRow w.heap.size 5 1 (.slice av (catT D k).length cv) (catT D k).length (bv (catT D k))) := row_below HO.out b1
      cases al with
      | true =>
        have HPT : Hid (putT D k = catT D k) := by show _ = _; rw [putT, hal]; rfl
        rw [HPT.out] at own1
        obtain ⟨a1, q1, rfl⟩ := row_slice own1
        have k1 := conv_src (src_row own1)
        have k2 := conv_src (src_row HO1.out)
        have HBS : Hid _ := refBytes_same _ _ _ w1 k1 k2
        clear own1 b1 k1 k2 hal
        go_wp2_with fail
        refine Calls.mono HBS.out ?_
        rintro e w' ⟨rfl, rfl⟩
        go_wp2_with fail
        refine (lives_any _).mono ?_
        rintro e wq ⟨rfl, hb⟩
        have HB : Hid (Below w.heap.size w wq) := HB1.out.trans (hb.mono HB1.out.size)
        clear hb
        go_wp2
        go_ret
        exact ⟨rfl, HB.out⟩
      | false =>
        have HPT : Hid (putT D k = []) := by show _ = _; rw [putT, hal]; rfl
        rw [HPT.out] at own1
        obtain ⟨a1, q1, rfl⟩ := row_slice own1
        clear own1 b1 hal
        go_wp2_with fail
        refine (lives_any _).mono ?_
        rintro e wq ⟨rfl, hb⟩
        have HB : Hid (Below w.heap.size w wq) := HB1.out.trans (hb.mono HB1.out.size)
        clear hb
        go_wp2
        go_ret
        exact ⟨rfl, HB.out⟩

theorem walk {H : Type} {enc : TypeId × Value → H} {w : World} {base : Nat} {v0 : Value} {d0 : DataW H} {p0 : List MemPlace}
    (o0 : Value.okWide Try.prog w .any base 22 v0)
    (h0 : DataW.Trod enc Try.prog w 0 (fun _ => true) true 22 v0 d0 p0) :
    Calls Try.prog 3 #[v0] w fun e w' => e = .returned (.bool true) ∧ Below w.heap.size w w' := by
  obtain ⟨a, L, c, D, rfl, hL, hds⟩ := openTks Try.underlying22 Try.underlying27 (by kernel_rfl) (by kernel_rfl) Try.underlying24 Try.underlying5 (by kernel_rfl) Try.underlying3 Try.underlying3 o0 h0
  exact run a L c D w hL hds

set_option maxRecDepth 100000 in
theorem lifted (os : Os) (started : os.Started) (H : Type) (enc : TypeId × Value → H) :
    ReturnsInHanded {} Try.checked os 3 .any (Rows.tokenPutsSpec.pre6 enc Try.prog Try.f3 Rows.tokenPutsRow.domain false) (Rows.tokenPutsSpec.post enc Try.prog Try.f3 false true false false) := by
  refine returnsInHanded_of_change (C := Try.checked) own started (by kernel_rfl) Try.func3
    (ChangeSpec.witness6 (enc := enc) (C := Try.checked) false ⟨#[], #[.slice none 0 0], []⟩ 8 (by kernel_rfl) (by kernel_rfl) (by kernel_rfl) (by kernel_rfl)) ?_
  intro W base args ds gs before hval0 hW hcnd _
  have hval : ∀ (j : Nat) t v, Try.f3.params[j]? = some t → args[j]? = some v → Value.okWide Try.prog W .any base t v := hval0
  have hW' := hW
  obtain ⟨p, q, hA0, hV, rfl, hfz, hnd⟩ := hW
  have hA : DataW.TrodAll enc Try.prog W 0 (fun _ => true) true Try.f3.params.toList args.toList ds p := hA0
  rw [Try.params3] at hA hval
  obtain ⟨v0, vs0, d0, ds0, p0, q0, hargs, rfl, rfl, h0, r0⟩ := trodAll_cons hA
  obtain ⟨rfl, rfl, rfl⟩ := trodAll_nil r0
  obtain rfl : args = #[v0] := by cases args; simp_all
  obtain ⟨rfl, rfl⟩ := trodVars_none hV
  have o0 := hval 0 22 v0 rfl rfl
  have lt0 : ∀ x ∈ p0, x.block < W.heap.size := by obtain ⟨m, hm⟩ := h0; exact DataW.trod_lt m _ _ _ hm
  clear hA0 hval0
  refine (walk o0 h0).mono fun e W' ⟨he, bel⟩ => ?_
  subst he
  exact ⟨_, rfl, _, _, _, [], _, [], hW', trodAll_mk1 (shut_bool Try.underlying4 _), (trodAll_cons_mk (Below.trod laidOut (by kernel_rfl) (of_decide_eq_true (by kernel_rfl)) h0 bel lt0) trodAll_mk0), rfl, bel.frame _, fun h => by cases h⟩

theorem over : Rows.tokenPutsRow.holds Try.pinned (OpenSpec.ofChange Rows.tokenPutsSpec) :=
  OpenClaim.holds_of_wide 3 Try.f3 rfl rfl rfl rfl rfl rfl rfl ⟨rfl, rfl, rfl, rfl, rfl⟩ rfl rfl rfl rfl rfl (by kernel_rfl) Try.func3 (by kernel_rfl)
    (of_decide_eq_true (by kernel_rfl)) (by unfold Func.isWrapper; first | (rw [if_pos (by decide +kernel)]; kernel_rfl) | (rw [if_neg (by decide +kernel)]; exact ⟨rfl, rfl⟩))
    (fun os started H enc _ => lifted os started H enc)
end Go.Proofs.Ytdnmkbncdiggfaa.TokenPuts
namespace Go.Proofs.Ytdnmkbncdiggfaa
/-- The statement. -/
theorem tokenPuts_holds : Rows.TokenPutsSaid := TokenPuts.over
#print axioms tokenPuts_holds
end Go.Proofs.Ytdnmkbncdiggfaa
