/- The walks of the document's Best and Worst. -/
import Derived.Test.YthjacjckobkhmaaURefB
import Derived.Test.YthjacjckobkhmaaUWorst
namespace Go.Proofs.Ythjacjckobkhmaa
open Go.RowKit

theorem refOf_is {z u m : Int} (w : World) (hu : 0 ≤ u ∧ u ≤ m ∧ m ≤ 100000000) (h : ofN u m = z) : Calls Try.prog 9 #[.int .i64 u, .int .i64 m] w fun e w' => e = .returned (.int .i64 z) ∧ w = w' := by
  subst h
  exact refOf_any u m w (by omega) (by omega)
theorem quiet_more {w wr : World} (h : ∃ m, wr = w.drewN m) (n : Nat) : ∃ m, wr.drewN n = w.drewN m := by
  obtain ⟨m, rfl⟩ := h
  exact ⟨m + n, by simp⟩
/-- A search that is at an index. -/
structure AtO (L : List Gh) (k : Nat) (o : Option Gh) (bi : Int) : Prop where
  no : o = none → bi = -1
  yes : ∀ b, o = some b → ∃ j : Nat, bi = j ∧ j < k ∧ L[j]? = some b
theorem atO_none (L : List Gh) (k : Nat) : AtO L k none (-1) := ⟨fun _ => rfl, fun _ h => (by cases h)⟩
theorem AtO.more {L : List Gh} {k : Nat} {o : Option Gh} {bi : Int} (h : AtO L k o bi) : AtO L (k + 1) o bi :=
  ⟨h.no, fun b hb => by obtain ⟨j, h1, h2, h3⟩ := h.yes b hb; exact ⟨j, h1, by omega, h3⟩⟩
theorem atO_new {L : List Gh} {k : Nat} {x : Gh} (hx : L[k]? = some x) : AtO L (k + 1) (some x) (k : Nat) := ⟨fun h => (by cases h), fun b hb => by cases hb; exact ⟨k, rfl, by omega, hx⟩⟩
def ltBD : Gh → Gh → Bool := lexG free Gh.n
set_option maxRecDepth 100000 in
set_option maxHeartbeats 1000000 in
theorem refBest_any {base : Nat} {v : Value} {L : List Gh} (w : World) (h : HsAt w base v L) (hG : Gok L) (hL : L.length ≤ 1000) :
    Calls Try.prog 21 #[v] w fun e w' => e = .returned (.int .i64 (wantO (bestD L))) ∧ ∃ m, w' = w.drewN m := by
  obtain ⟨aL, cL, rfl⟩ := row_slice h
  have H : Hid (HsAt w base (.slice aL L.length cL) L) := h
  have HG : Hid (Gok L) := hG
  clear h hG
  go_enter Try.func21, Try.ntmps21
  go_wp2_with fail
  go_loopg [3, 4] L.length (fun gk bv i wr => ∃ k : Nat, k ≤ L.length ∧ gk = L.length - k ∧ i = .int .i64 k ∧ (∃ m, wr = w.drewN m) ∧ ∃ bi, bv = .int .i64 bi ∧ AtO L k (minOf notFull ltBD (L.take k)) bi)
  case atStart => exact ⟨0, by omega, rfl, rfl, ⟨0, rfl⟩, -1, rfl, by rw [minOf_zero]; exact atO_none _ _⟩
  case round =>
    obtain ⟨k, hk, rfl, rfl, hwm, bi, rfl, hat⟩ := hrel
    have HWM : Hid (∃ m, wr = w.drewN m) := hwm
    have HR : Hid (HsAt wr base (.slice aL L.length cL) L) := by obtain ⟨m, rfl⟩ := hwm; exact H.out.below (drewN_below _ _ _)
    clear hwm
    by_cases hlt : k < L.length
    · have i1 : (k : Int) < (L.length : Int) := by omega
      obtain ⟨x, hx⟩ : ∃ x, L[k]? = some x := ⟨_, List.getElem?_eq_getElem hlt⟩
      obtain ⟨g, rfl, _, _, c0, c1, c2⟩ := HR.out.at hx
      have hxb := HG.out.ok x (List.mem_of_getElem? hx)
      have HX : Hid (L[k]? = some x) := hx
      have HTK : Hid (minOf notFull ltBD (L.take (k + 1)) = stM notFull ltBD (minOf notFull ltBD (L.take k)) x) := minOf_take hx
      obtain ⟨xn, xu, xm⟩ := x
      simp only at c0 c1 c2 hxb HTK
      obtain ⟨o, ho⟩ : ∃ o, minOf notFull ltBD (L.take k) = o := ⟨_, rfl⟩
      rw [ho] at hat HTK
      clear ho hx
      obtain ⟨z, hz⟩ : ∃ z, ofN xu xm = z := ⟨_, rfl⟩
      have HZ : Hid (ofN xu xm = z) := hz
      have hb2 : 0 ≤ xu ∧ xu ≤ xm ∧ xm ≤ 100000000 := by omega
      by_cases hz4 : z = 4
      · have hzb : (z == 4) = true := by rw [beq_iff_eq]; exact hz4
        have hnf : notFull ⟨xn, xu, xm⟩ = false := by unfold notFull; rw [hz, hz4]; rfl
        have hst : stM notFull ltBD o ⟨xn, xu, xm⟩ = o := by unfold stM; cases o <;> simp [hnf]
        have HA2 : Hid (AtO L (k + 1) (minOf notFull ltBD (L.take (k + 1))) bi) := by
          show AtO _ _ _ _
          rw [HTK.out]
          exact (hst.symm ▸ hat.more)
        clear hst hnf hz hz4 hat
        go_wp2_with fail
        go_quiet ((go_at_call 9; exact quietSame (refOf_is _ hb2 HZ.out)))
        go_wp2
        go_roundg (L.length - (k + 1))
        case measure => omega
        case rel => exact ⟨k + 1, by omega, rfl, by go_num, quiet_more HWM.out _, bi, rfl, HA2.out⟩
      · have hzb : (z == 4) = false := by rw [beq_eq_false_iff_ne]; exact hz4
        have hnf : notFull ⟨xn, xu, xm⟩ = true := by unfold notFull; rw [hz, decide_eq_false hz4]; rfl
        cases o with
        | none =>
          obtain rfl := hat.no rfl
          have hst : stM notFull ltBD none ⟨xn, xu, xm⟩ = some ⟨xn, xu, xm⟩ := by simp [stM, hnf]
          have HA2 : Hid (AtO L (k + 1) (minOf notFull ltBD (L.take (k + 1))) (k : Nat)) := by
            show AtO _ _ _ _
            rw [HTK.out]
            exact (hst.symm ▸ atO_new HX.out)
          clear hst hnf hz hz4 hat
          go_wp2_with fail
          go_quiet ((go_at_call 9; exact quietSame (refOf_is _ hb2 HZ.out)))
          go_wp2
          go_roundg (L.length - (k + 1))
          case measure => omega
          case rel => exact ⟨k + 1, by omega, rfl, by go_num, quiet_more HWM.out _, _, rfl, HA2.out⟩
        | some b =>
          obtain ⟨j, rfl, hjk, hj⟩ := hat.yes b rfl
          obtain ⟨g', e', _, _, d0, d1, d2⟩ := HR.out.at hj
          cases e'
          have hbb := HG.out.ok b (List.mem_of_getElem? hj)
          have hst : stM notFull ltBD (some b) ⟨xn, xu, xm⟩ = if ltBD ⟨xn, xu, xm⟩ b then some ⟨xn, xu, xm⟩ else some b := by simp [stM, hnf]
          have hlx : ltBD ⟨xn, xu, xm⟩ b = (decide (xm - xu < b.m - b.u) || (decide (xm - xu = b.m - b.u) && decide (xn < b.n))) := rfl
          have HAT : Hid (AtO L (k + 1) (some b) (j : Nat)) := hat.more
          have i2 : (j : Int) < (L.length : Int) := by omega
          have i3 : ¬ (j : Int) < 0 := by omega
          rw [hlx] at hst
          obtain ⟨bn, bu, bm⟩ := b
          simp only at d0 d1 d2 hst hbb
          have hb3 : 0 ≤ bu ∧ bu ≤ bm ∧ bm ≤ 100000000 := by omega
          have hw1 : IntKind.i64.wrap (xm - xu) = xm - xu := IntWalk.i64_in _ (by omega)
          have hw2 : IntKind.i64.wrap (bm - bu) = bm - bu := IntWalk.i64_in _ (by omega)
          clear hat hlx hnf hz hz4 hj hbb hxb
          obtain ⟨fa, hfa⟩ : ∃ fa, xm - xu = fa := ⟨_, rfl⟩
          obtain ⟨fb, hfb⟩ : ∃ fb, bm - bu = fb := ⟨_, rfl⟩
          have HFA : Hid (xm - xu = fa) := hfa
          have HFB : Hid (bm - bu = fb) := hfb
          rw [hfa, hfb] at hst
          clear hfa hfb
          go_wp2_with fail
          go_quiet ((go_at_call 9; exact quietSame (refOf_is _ hb2 HZ.out)))
          go_wp2_with fail
          go_quiet (fail)
          rw [HFA.out, HFB.out]
          by_cases l1 : fa < fb
          · have l1b : decide (fa < fb) = true := decide_eq_true l1
            rw [l1b, Bool.true_or, if_pos rfl] at hst
            have HA2 : Hid (AtO L (k + 1) (minOf notFull ltBD (L.take (k + 1))) (k : Nat)) := by
              show AtO _ _ _ _
              rw [HTK.out]
              exact (hst.symm ▸ atO_new HX.out)
            clear hst
            go_wp2_with fail
            go_quiet (fail)
            go_wp2
            go_roundg (L.length - (k + 1))
            case measure => omega
            case rel => exact ⟨k + 1, by omega, rfl, by go_num, quiet_more HWM.out _, _, rfl, HA2.out⟩
          · have l1b : decide (fa < fb) = false := decide_eq_false l1
            by_cases l2 : fa = fb
            · have l2b : (fa == fb) = true := by rw [beq_iff_eq]; exact l2
              have l2c : decide (fa = fb) = true := decide_eq_true l2
              by_cases l3 : xn < bn
              · have l3b : decide (xn < bn) = true := decide_eq_true l3
                rw [l1b, l2c, l3b, Bool.true_and, Bool.false_or, if_pos rfl] at hst
                have HA2 : Hid (AtO L (k + 1) (minOf notFull ltBD (L.take (k + 1))) (k : Nat)) := by
                  show AtO _ _ _ _
                  rw [HTK.out]
                  exact (hst.symm ▸ atO_new HX.out)
                clear hst l2
                go_wp2_with fail
                go_quiet (fail)
                go_wp2
                go_roundg (L.length - (k + 1))
                case measure => omega
                case rel => exact ⟨k + 1, by omega, rfl, by go_num, quiet_more HWM.out _, _, rfl, HA2.out⟩
              · have l3b : decide (xn < bn) = false := decide_eq_false l3
                rw [l1b, l3b, Bool.and_false, Bool.false_or, if_neg (by simp)] at hst
                have HA2 : Hid (AtO L (k + 1) (minOf notFull ltBD (L.take (k + 1))) (j : Nat)) := by
                  show AtO _ _ _ _
                  rw [HTK.out]
                  exact (hst.symm ▸ HAT.out)
                clear hst l2
                go_wp2_with fail
                go_quiet (fail)
                go_wp2
                go_roundg (L.length - (k + 1))
                case measure => omega
                case rel => exact ⟨k + 1, by omega, rfl, by go_num, quiet_more HWM.out _, _, rfl, HA2.out⟩
            · have l2b : (fa == fb) = false := by rw [beq_eq_false_iff_ne]; exact l2
              have l2c : decide (fa = fb) = false := decide_eq_false l2
              rw [l1b, l2c, Bool.false_and, Bool.false_or, if_neg (by simp)] at hst
              have HA2 : Hid (AtO L (k + 1) (minOf notFull ltBD (L.take (k + 1))) (j : Nat)) := by
                show AtO _ _ _ _
                rw [HTK.out]
                exact (hst.symm ▸ HAT.out)
              clear hst l2
              go_wp2_with fail
              go_quiet (fail)
              go_wp2
              go_roundg (L.length - (k + 1))
              case measure => omega
              case rel => exact ⟨k + 1, by omega, rfl, by go_num, quiet_more HWM.out _, _, rfl, HA2.out⟩
    · have i1 : ¬ (k : Int) < (L.length : Int) := by omega
      have e : L.take k = L := List.take_of_length_le (by omega)
      rw [e] at hat
      have HE : Hid (bestD L = minOf notFull ltBD L) := rfl
      obtain ⟨o, ho⟩ : ∃ o, minOf notFull ltBD L = o := ⟨_, rfl⟩
      have HO : Hid (bestD L = o) := HE.out.trans ho
      rw [ho] at hat
      clear ho e HE
      cases o with
      | none =>
        obtain rfl := hat.no rfl
        clear hat
        go_wp2
        go_ret
        exact ⟨by rw [HO.out]; rfl, HWM.out⟩
      | some b =>
        obtain ⟨j, rfl, hjk, hj⟩ := hat.yes b rfl
        obtain ⟨g, rfl, _, _, d0, _, _⟩ := HR.out.at hj
        have i2 : (j : Int) < (L.length : Int) := by omega
        have i3 : ¬ (j : Int) < 0 := by omega
        obtain ⟨bn, bu, bm⟩ := b
        simp only at d0
        clear hat hj
        go_wp2
        go_ret
        exact ⟨by rw [HO.out]; rfl, HWM.out⟩
end Go.Proofs.Ythjacjckobkhmaa
