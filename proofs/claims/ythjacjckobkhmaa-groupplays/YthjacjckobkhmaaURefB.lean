/- The walk of the document's But. -/
import Derived.Test.YthjacjckobkhmaaURefP
import Derived.Test.YthjacjckobkhmaaBOpen
namespace Go.Proofs.Ythjacjckobkhmaa
open Go.RowKit

def isB (bs : List Int) (n : Int) : Bool := bs.any fun b => decide (b = n)
theorem butG_take {L : List Gh} {k : Nat} {x : Gh} (bs : List Int) (hk : L[k]? = some x) : butG (L.take (k + 1)) bs = butG (L.take k) bs ++ (if isB bs x.n then [] else [x]) := by
  unfold butG isB
  rw [List.take_add_one, hk, List.filter_append]
  congr 1
  rw [Option.toList_some, List.filter_cons, List.filter_nil]
  cases (bs.any fun b => decide (b = x.n)) <;> rfl
theorem isB_take {bs : List Int} {j : Nat} (n : Int) (hj : j < bs.length) : isB (bs.take (j + 1)) n = (isB (bs.take j) n || decide (bs.getD j 0 = n)) := by
  unfold isB
  rw [List.take_add_one, List.any_append, List.getElem?_eq_getElem hj, List.getD_eq_getElem?_getD, List.getElem?_eq_getElem hj]
  simp
set_option maxRecDepth 100000 in
set_option maxHeartbeats 1000000 in
theorem refBut_any {base : Nat} {v : Value} {L : List Gh} {a : Option Addr} {c : Nat} {bs : List Int} (w : World) (h : HsAt w base v L) (hi : IntsAt .i64 w a bs) (hL : L.length ≤ 1000) (hl : bs.length ≤ 1000) :
    Calls Try.prog 19 #[v, .slice a bs.length c] w fun e w' => ∃ v', e = .returned v' ∧ HsAt w' w.heap.size v' (butG L bs) ∧ Below w.heap.size w w' := by
  obtain ⟨i0, hi0, hz0, hz1, hz2⟩ := info_parts Try.infoH
  obtain ⟨aL, cL, rfl⟩ := row_slice h
  have H : Hid (HsAt w base (.slice aL L.length cL) L) := h
  have HI : Hid (IntsAt .i64 w a bs) := hi
  obtain ⟨nb, hnb⟩ : ∃ nb, bs.length = nb := ⟨_, rfl⟩
  have HNB : Hid (bs.length = nb) := hnb
  rw [hnb] at hl ⊢
  clear h hi hnb
  go_enter Try.func19, Try.ntmps19
  go_wp2_with fail
  go_loopg [5, 6] L.length (fun gk o i wr => ∃ k : Nat, k ≤ L.length ∧ gk = L.length - k ∧ i = .int .i64 k ∧ HsAt wr w.heap.size o (butG (L.take k) bs) ∧ Below w.heap.size w wr)
  case atStart => exact ⟨0, by omega, rfl, rfl, by rw [List.take_zero]; exact hsAt_nil _ _, Below.refl _ _⟩
  case round =>
    obtain ⟨k, hk, rfl, rfl, ho, hb⟩ := hrel
    by_cases hlt : k < L.length
    · have i1 : (k : Int) < (L.length : Int) := by omega
      obtain ⟨x, hx⟩ : ∃ x, L[k]? = some x := ⟨_, List.getElem?_eq_getElem hlt⟩
      have HB : Hid (Below w.heap.size w wr) := hb
      obtain ⟨g, rfl, _, _, c0, c1, c2⟩ := (H.out.below hb).at hx
      have HO : Hid (HsAt wr w.heap.size u5 (butG (L.take k) bs)) := ho
      have HT : Hid (butG (L.take (k + 1)) bs = butG (L.take k) bs ++ (if isB bs x.n then [] else [x])) := butG_take bs hx
      have HIL : Hid (∀ j, j < nb → ∃ b off, a = some ⟨b, off, none⟩ ∧ wr.cell? ⟨b, off + j, none⟩ = some (.int .i64 (bs.getD j 0))) := fun j hj => HI.out.later HB.out (by rw [HNB.out]; exact hj)
      obtain ⟨xn, xu, xm⟩ := x
      simp only at c0 c1 c2
      have HX : Hid (wr.cell? ⟨g, k * 3, none⟩ = some (.int .i64 xn) ∧ wr.cell? ⟨g, k * 3 + 1, none⟩ = some (.int .i64 xu) ∧ wr.cell? ⟨g, k * 3 + 2, none⟩ = some (.int .i64 xm)) := ⟨c0, c1, c2⟩
      have HBT : Hid (∀ t, t < nb → isB (bs.take (t + 1)) xn = (isB (bs.take t) xn || decide (bs.getD t 0 = xn))) := fun t ht => isB_take xn (by rw [HNB.out]; exact ht)
      have HBE : Hid (isB (bs.take nb) xn = isB bs xn) := by show _ = _; rw [← HNB.out, List.take_length]
      have HBZ : Hid (isB (bs.take 0) xn = false) := rfl
      clear hx ho hb
      go_wp2_with fail
      go_loopg [7, 8] nb (fun gk z j wx => ∃ t m : Nat, t ≤ nb ∧ gk = nb - t ∧ j = .int .i64 t ∧ z = .bool (isB (bs.take t) xn) ∧ wx = wr.drewN m)
      case atStart => exact ⟨0, 0, by omega, rfl, rfl, by rw [HBZ.out], rfl⟩
      case round =>
        obtain ⟨t, m, ht, rfl, rfl, rfl, rfl⟩ := hrel
        by_cases hlt2 : t < nb
        · have i3 : (t : Int) < (nb : Int) := by omega
          obtain ⟨b, off, rfl, d0⟩ := HIL.out t hlt2
          have HS : Hid _ := HBT.out t hlt2
          obtain ⟨z, hz⟩ : ∃ z, isB (bs.take t) xn = z := ⟨_, rfl⟩
          obtain ⟨y, hy⟩ : ∃ y, bs.getD t 0 = y := ⟨_, rfl⟩
          rw [hz, hy] at HS
          rw [hy] at d0
          rw [hz]
          clear hz hy
          cases z with
          | true =>
            have HS2 : Hid (isB (bs.take (t + 1)) xn = true) := HS.out
            clear d0 c0 c1 c2
            go_wp2_with fail
            go_quiet (fail)
            go_wp2
            go_roundg (nb - (t + 1))
            case measure => omega
            case rel => exact ⟨t + 1, _, by omega, rfl, by go_num, by rw [HS2.out], rfl⟩
          | false =>
            by_cases hyx : y = xn
            · have i4 : (y == xn) = true := by rw [beq_iff_eq]; exact hyx
              have HS2 : Hid (isB (bs.take (t + 1)) xn = true) := by rw [HS.out, decide_eq_true hyx]; exact rfl
              clear hyx HS
              go_wp2_with fail
              go_quiet (fail)
              go_wp2
              go_roundg (nb - (t + 1))
              case measure => omega
              case rel => exact ⟨t + 1, _, by omega, rfl, by go_num, by rw [HS2.out], rfl⟩
            · have i4 : (y == xn) = false := by rw [beq_eq_false_iff_ne]; exact hyx
              have HS2 : Hid (isB (bs.take (t + 1)) xn = false) := by rw [HS.out, decide_eq_false hyx]; exact rfl
              clear hyx HS
              go_wp2_with fail
              go_quiet (fail)
              go_wp2
              go_roundg (nb - (t + 1))
              case measure => omega
              case rel => exact ⟨t + 1, _, by omega, rfl, by go_num, by rw [HS2.out], rfl⟩
        · have i3 : ¬ (t : Int) < (nb : Int) := by omega
          obtain rfl : t = nb := by omega
          have hbd : Below wr.heap.size wr (wr.drewN m) := drewN_below _ _ _
          have HO2 : Hid (HsAt (wr.drewN m) w.heap.size u5 (butG (L.take k) bs)) := HO.out.below hbd
          have HB2 : Hid (Below w.heap.size w (wr.drewN m)) := HB.out.trans (hbd.mono HB.out.size)
          obtain ⟨d0, d1, d2⟩ : (wr.drewN m).cell? ⟨g, k * 3, none⟩ = some (.int .i64 xn) ∧ (wr.drewN m).cell? ⟨g, k * 3 + 1, none⟩ = some (.int .i64 xu) ∧ (wr.drewN m).cell? ⟨g, k * 3 + 2, none⟩ = some (.int .i64 xm) := HX.out
          rw [HBE.out]
          clear hbd c0 c1 c2
          generalize wr.drewN m = wy at *
          cases hz : isB bs xn with
          | true =>
            have HT2 : Hid (butG (L.take (k + 1)) bs = butG (L.take k) bs) := by
              show _ = _
              rw [HT.out]
              simp [hz]
            go_wp2_with fail
            go_roundg (L.length - (k + 1))
            case measure => omega
            case rel => exact ⟨k + 1, by omega, rfl, by go_num, by rw [HT2.out]; exact HO2.out, HB2.out⟩
          | false =>
            have HT2 : Hid (butG (L.take (k + 1)) bs = butG (L.take k) bs ++ [⟨xn, xu, xm⟩]) := by
              show _ = _
              rw [HT.out]
              simp [hz]
            obtain ⟨q, hq⟩ : ∃ q, (butG (L.take k) bs).length = q := ⟨_, rfl⟩
            have hq2 : q ≤ 1000 := by
              rw [← hq]
              exact Nat.le_trans (List.length_filter_le _ _) (by rw [List.length_take]; omega)
            have hrow : wy.ownsRow w.heap.size 37 3 u5 q (rowH (butG (L.take k) bs)) := by rw [← hq]; exact HO2.out
            obtain ⟨ao, co, rfl⟩ := row_slice hrow
            have HRO : Hid (wy.ownsRow w.heap.size 37 3 (.slice ao q co) q (rowH (butG (L.take k) bs))) := hrow
            have HQ : Hid ((butG (L.take k) bs).length = q) := hq
            clear hrow hq HO HO2
            go_wp2_with (at_builtin; refine wpList_append_own _ rfl _ _ 26 rfl w.heap.size 37 i0 _ 3 24 Try.underlying26 hi0 hz0 hz1 hz2 rfl (by decide) (.slice ao q co) q (rowH (butG (L.take k) bs)) rfl (HRO.out.alloc _) ⟨wy.heap.size, 0, none⟩ 1 1 [.int .i64 xn, .int .i64 xu, .int .i64 xm] rfl rfl (World.news_of_block (heap_alloc_new _ _)) (cells_one ⟨xn, xu, xm⟩) ?c3 ?c4 ?c5 ?_)
            case c3 => unfold maxLen; omega
            case c4 => omega
            case c5 => have := HB2.out.size; simp; omega
            intro v3 w3 own3 gr3 _
            have HF : Hid (HsAt w3 w.heap.size v3 (butG (L.take (k + 1)) bs) ∧ Below w.heap.size w w3) := by
              refine ⟨?_, (HB2.out.alloc HB2.out.size _).grown gr3 (by have := HB2.out.size; simp; omega) (fun i hi => (HRO.out.lt i hi).1)⟩
              unfold HsAt
              have e1 : (butG (L.take (k + 1)) bs).length = q + 1 := by rw [HT2.out, List.length_append, HQ.out]; rfl
              rw [e1, HT2.out, rowH_app]
              have e2 : rowH [⟨xn, xu, xm⟩] = [.int .i64 xn, .int .i64 xu, .int .i64 xm] := rfl
              rw [e2]
              exact own3
            clear own3 gr3
            go_wp2_with fail
            go_roundg (L.length - (k + 1))
            case measure => omega
            case rel => exact ⟨k + 1, by omega, rfl, by go_num, HF.out⟩
    · have i1 : ¬ (k : Int) < (L.length : Int) := by omega
      have HF : Hid (HsAt wr w.heap.size u5 (butG L bs) ∧ Below w.heap.size w wr) := ⟨by have e : L.take k = L := List.take_of_length_le (by omega); rw [e] at ho; exact ho, hb⟩
      clear ho hb
      go_wp2
      go_ret
      exact ⟨_, rfl, HF.out⟩
end Go.Proofs.Ythjacjckobkhmaa
