/- The walk of the document's Worst. -/
import Derived.Test.YthjacjckobkhmaaURefS
namespace Go.Proofs.Ythjacjckobkhmaa
open Go.RowKit

def ltWD : Gh → Gh → Bool := lexG Gh.u fun h => -h.n
set_option maxRecDepth 100000 in
set_option maxHeartbeats 1000000 in
theorem refWorst_any {base : Nat} {v : Value} {L : List Gh} (w : World) (h : HsAt w base v L) (hG : Gok L) (hL : L.length ≤ 1000) :
    Calls Try.prog 22 #[v] w fun e w' => e = .returned (.int .i64 (wantO (worstD L))) ∧ ∃ m, w' = w.drewN m := by
  obtain ⟨aL, cL, rfl⟩ := row_slice h
  have H : Hid (HsAt w base (.slice aL L.length cL) L) := h
  have HG : Hid (Gok L) := hG
  clear h hG
  go_enter Try.func22, Try.ntmps22
  go_wp2_with fail
  go_loopg [3, 4] L.length (fun gk bv i wr => ∃ k : Nat, k ≤ L.length ∧ gk = L.length - k ∧ i = .int .i64 k ∧ (∃ m, wr = w.drewN m) ∧ ∃ bi, bv = .int .i64 bi ∧ AtO L k (minOf isMid ltWD (L.take k)) bi)
  case atStart => exact ⟨0, by omega, rfl, rfl, ⟨0, rfl⟩, -1, rfl, by rw [minOf_zero]; exact atO_none _ _⟩
  case round =>
    obtain ⟨k, hk, rfl, rfl, hwm, bi, rfl, hat⟩ := hrel
    have HWM : Hid (∃ m, wr = w.drewN m) := hwm
    have HR : Hid (HsAt wr base (.slice aL L.length cL) L) := by obtain ⟨m, rfl⟩ := hwm; exact H.out.below (drewN_below _ _ _)
    clear hwm
    by_cases hlt : k < L.length
    · have i1 : (k : Int) < (L.length : Int) := by omega
      obtain ⟨x, hx⟩ : ∃ x, L[k]? = some x := ⟨_, List.getElem?_eq_getElem hlt⟩
      obtain ⟨g, rfl, _, _, c0, c1, c2⟩ := HR.out.at hx
      have hxb := HG.out.ok x (List.mem_of_getElem? hx)
      have HX : Hid (L[k]? = some x) := hx
      have HTK : Hid (minOf isMid ltWD (L.take (k + 1)) = stM isMid ltWD (minOf isMid ltWD (L.take k)) x) := minOf_take hx
      obtain ⟨xn, xu, xm⟩ := x
      simp only at c0 c1 c2 hxb HTK
      obtain ⟨o, ho⟩ : ∃ o, minOf isMid ltWD (L.take k) = o := ⟨_, rfl⟩
      rw [ho] at hat HTK
      clear ho hx
      obtain ⟨z, hz⟩ : ∃ z, ofN xu xm = z := ⟨_, rfl⟩
      have HZ : Hid (ofN xu xm = z) := hz
      have hb2 : 0 ≤ xu ∧ xu ≤ xm ∧ xm ≤ 100000000 := by omega
      have HIM : Hid (isMid ⟨xn, xu, xm⟩ = (!decide (z = 0) && !decide (z = 4))) := by
        show _ = _
        unfold isMid
        rw [hz]
      by_cases hz0 : z = 0
      · have hzb0 : (z == 0) = true := by rw [beq_iff_eq]; exact hz0
        have hnf : isMid ⟨xn, xu, xm⟩ = false := by rw [HIM.out, hz0]; rfl
        have hst : stM isMid ltWD o ⟨xn, xu, xm⟩ = o := by unfold stM; cases o <;> simp [hnf]
        have HA2 : Hid (AtO L (k + 1) (minOf isMid ltWD (L.take (k + 1))) bi) := by
          show AtO _ _ _ _
          rw [HTK.out]
          exact (hst.symm ▸ hat.more)
        clear hst hnf hz hz0 hat
        go_wp2_with fail
        go_quiet ((go_at_call 9; exact quietSame (refOf_is _ hb2 HZ.out)))
        go_wp2
        go_roundg (L.length - (k + 1))
        case measure => omega
        case rel => exact ⟨k + 1, by omega, rfl, by go_num, quiet_more HWM.out _, bi, rfl, HA2.out⟩
      · have hzb0 : (z == 0) = false := by rw [beq_eq_false_iff_ne]; exact hz0
        by_cases hz4 : z = 4
        · have hzb4 : (z == 4) = true := by rw [beq_iff_eq]; exact hz4
          have hnf : isMid ⟨xn, xu, xm⟩ = false := by rw [HIM.out, hz4]; rfl
          have hst : stM isMid ltWD o ⟨xn, xu, xm⟩ = o := by unfold stM; cases o <;> simp [hnf]
          have HA2 : Hid (AtO L (k + 1) (minOf isMid ltWD (L.take (k + 1))) bi) := by
            show AtO _ _ _ _
            rw [HTK.out]
            exact (hst.symm ▸ hat.more)
          clear hst hnf hz hz4 hat
          go_wp2_with fail
          go_quiet ((go_at_call 9; exact quietSame (refOf_is _ hb2 HZ.out)))
          go_wp2
          go_roundg (L.length - (k + 1))
          case measure => omega
          case rel => exact ⟨k + 1, by omega, rfl, by go_num, quiet_more HWM.out _, bi, rfl, HA2.out⟩
        · have hzb4 : (z == 4) = false := by rw [beq_eq_false_iff_ne]; exact hz4
          have hnf : isMid ⟨xn, xu, xm⟩ = true := by rw [HIM.out, decide_eq_false hz0, decide_eq_false hz4]; rfl
          cases o with
          | none =>
            obtain rfl := hat.no rfl
            have hst : stM isMid ltWD none ⟨xn, xu, xm⟩ = some ⟨xn, xu, xm⟩ := by simp [stM, hnf]
            have HA2 : Hid (AtO L (k + 1) (minOf isMid ltWD (L.take (k + 1))) (k : Nat)) := by
              show AtO _ _ _ _
              rw [HTK.out]
              exact (hst.symm ▸ atO_new HX.out)
            clear hst hnf hz hz4 hz0 hat
            go_wp2_with fail
            go_quiet ((go_at_call 9; exact quietSame (refOf_is _ hb2 HZ.out)))
            go_wp2_with fail
            go_quiet (fail)
            go_wp2
            go_roundg (L.length - (k + 1))
            case measure => omega
            case rel => exact ⟨k + 1, by omega, rfl, by go_num, quiet_more HWM.out _, _, rfl, HA2.out⟩
          | some b =>
            obtain ⟨j, rfl, hjk, hj⟩ := hat.yes b rfl
            obtain ⟨g', e', _, _, d0, d1, d2⟩ := HR.out.at hj
            cases e'
            have hbb := HG.out.ok b (List.mem_of_getElem? hj)
            have hst : stM isMid ltWD (some b) ⟨xn, xu, xm⟩ = if ltWD ⟨xn, xu, xm⟩ b then some ⟨xn, xu, xm⟩ else some b := by simp [stM, hnf]
            have hlx : ltWD ⟨xn, xu, xm⟩ b = (decide (xu < b.u) || (decide (xu = b.u) && decide (-xn < -b.n))) := rfl
            have HAT : Hid (AtO L (k + 1) (some b) (j : Nat)) := hat.more
            have i2 : (j : Int) < (L.length : Int) := by omega
            have i3 : ¬ (j : Int) < 0 := by omega
            have i4 : decide ((j : Int) < 0) = false := decide_eq_false i3
            rw [hlx] at hst
            obtain ⟨bn, bu, bm⟩ := b
            simp only at d0 d1 d2 hst hbb
            clear hat hlx hnf hz hz4 hz0 hj hbb hxb
            go_wp2_with fail
            go_quiet ((go_at_call 9; exact quietSame (refOf_is _ hb2 HZ.out)))
            go_wp2_with fail
            by_cases l1 : xu < bu
            · have l1b : decide (xu < bu) = true := decide_eq_true l1
              rw [l1b, Bool.true_or, if_pos rfl] at hst
              have HA2 : Hid (AtO L (k + 1) (minOf isMid ltWD (L.take (k + 1))) (k : Nat)) := by
                show AtO _ _ _ _
                rw [HTK.out]
                exact (hst.symm ▸ atO_new HX.out)
              clear hst
              go_quiet (fail)
              go_wp2
              go_roundg (L.length - (k + 1))
              case measure => omega
              case rel => exact ⟨k + 1, by omega, rfl, by go_num, quiet_more HWM.out _, _, rfl, HA2.out⟩
            · have l1b : decide (xu < bu) = false := decide_eq_false l1
              by_cases l2 : xu = bu
              · have l2b : (xu == bu) = true := by rw [beq_iff_eq]; exact l2
                have l2c : decide (xu = bu) = true := decide_eq_true l2
                by_cases l3 : bn < xn
                · have l3b : decide (-xn < -bn) = true := decide_eq_true (by omega)
                  have l3c : decide (bn < xn) = true := decide_eq_true l3
                  rw [l1b, l2c, l3b, Bool.true_and, Bool.false_or, if_pos rfl] at hst
                  have HA2 : Hid (AtO L (k + 1) (minOf isMid ltWD (L.take (k + 1))) (k : Nat)) := by
                    show AtO _ _ _ _
                    rw [HTK.out]
                    exact (hst.symm ▸ atO_new HX.out)
                  clear hst l2 l2c l3b
                  go_quiet (fail)
                  go_wp2
                  go_roundg (L.length - (k + 1))
                  case measure => omega
                  case rel => exact ⟨k + 1, by omega, rfl, by go_num, quiet_more HWM.out _, _, rfl, HA2.out⟩
                · have l3b : decide (-xn < -bn) = false := decide_eq_false (by omega)
                  have l3c : decide (bn < xn) = false := decide_eq_false l3
                  rw [l1b, l3b, Bool.and_false, Bool.false_or, if_neg (by simp)] at hst
                  have HA2 : Hid (AtO L (k + 1) (minOf isMid ltWD (L.take (k + 1))) (j : Nat)) := by
                    show AtO _ _ _ _
                    rw [HTK.out]
                    exact (hst.symm ▸ HAT.out)
                  clear hst l2 l2c l3b
                  go_quiet (fail)
                  go_wp2
                  go_roundg (L.length - (k + 1))
                  case measure => omega
                  case rel => exact ⟨k + 1, by omega, rfl, by go_num, quiet_more HWM.out _, _, rfl, HA2.out⟩
              · have l2b : (xu == bu) = false := by rw [beq_eq_false_iff_ne]; exact l2
                have l2c : decide (xu = bu) = false := decide_eq_false l2
                rw [l1b, l2c, Bool.false_and, Bool.false_or, if_neg (by simp)] at hst
                have HA2 : Hid (AtO L (k + 1) (minOf isMid ltWD (L.take (k + 1))) (j : Nat)) := by
                  show AtO _ _ _ _
                  rw [HTK.out]
                  exact (hst.symm ▸ HAT.out)
                clear hst l2 l2c
                go_quiet (fail)
                go_wp2
                go_roundg (L.length - (k + 1))
                case measure => omega
                case rel => exact ⟨k + 1, by omega, rfl, by go_num, quiet_more HWM.out _, _, rfl, HA2.out⟩
    · have i1 : ¬ (k : Int) < (L.length : Int) := by omega
      have e : L.take k = L := List.take_of_length_le (by omega)
      rw [e] at hat
      have HE : Hid (worstD L = minOf isMid ltWD L) := rfl
      obtain ⟨o, ho⟩ : ∃ o, minOf isMid ltWD L = o := ⟨_, rfl⟩
      have HO : Hid (worstD L = o) := HE.out.trans ho
      rw [ho] at hat
      clear ho e HE
      cases o with
      | none =>
        obtain rfl := hat.no rfl
        clear hat
        go_wp2
        go_ret
        exact ⟨by rw [HO.out]; rfl, HWM.out⟩
      | some b =>
        obtain ⟨j, rfl, hjk, hj⟩ := hat.yes b rfl
        obtain ⟨g, rfl, _, _, d0, _, _⟩ := HR.out.at hj
        have i2 : (j : Int) < (L.length : Int) := by omega
        have i3 : ¬ (j : Int) < 0 := by omega
        obtain ⟨bn, bu, bm⟩ := b
        simp only at d0
        clear hat hj
        go_wp2
        go_ret
        exact ⟨by rw [HO.out]; rfl, HWM.out⟩
end Go.Proofs.Ythjacjckobkhmaa
