/- The walk of Of: the frames of an owner, in a new row. -/
import Derived.Test.YtngehhpaegljcaaFSet
import Derived.BigRegion
namespace Go.Proofs.Ytngehhpaegljcaa
open Go.RowKit

set_option maxHeartbeats 1000000 in
theorem of_any {B E m t : Nat} {p : Option Addr} {O : List Int} {S : List Nat} (o : Int) (w : World) (h : FramesP B E w p m t O S) :
    Calls Try.prog 10 #[.pointer p, .int .i64 o] w fun e w' => ∃ v, e = .returned v ∧ w'.ownsRow w.heap.size 3 1 v (ofL O o).length (iv (ofL O o)) ∧ Below w.heap.size w w' := by
  obtain ⟨i0, hi, hz0, hz1, hz2⟩ := info_parts Try.info3
  have hsm := h.small
  have HL : Hid (O.length = m) := h.good.len
  have H : Hid (FramesP B E w p m t O S) := h
  clear h
  go_enter Try.func10, Try.ntmps10
  go_wp2_with (go_at_call 11; refine (many_any _ H.out).mono ?_; rintro e w' ⟨rfl, rfl⟩)
  go_loopw [5, 6, 9] (fun v _ i wr => ∃ k : Nat, k ≤ m ∧ i = .int .i64 k ∧ wr.ownsRow w.heap.size 3 1 v (ofTo O o k).length (iv (ofTo O o k)) ∧ Below w.heap.size w wr) (fun _ _ i _ => m - (intOf i).toNat)
  case atStart => exact ⟨0, Nat.zero_le _, rfl, World.ownsRow_nil _ _ _ _, Below.refl _ _⟩
  case round =>
    obtain ⟨k, hk, rfl, hown, hb⟩ := hrel
    obtain ⟨a, c, rfl⟩ := row_slice hown
    by_cases hlt : k < m
    · have H2 := H.out.below hb
      rcases H2.2 with ⟨_, rfl, _⟩ | ⟨b, g1, g2, rfl, hp⟩
      · omega
      have c0 := hp.cell0
      have cO := hp.cellO hlt
      have hle := ofTo_le O o k
      have i1 : (k : Int) < (m : Int) := by omega
      by_cases hq : O.getD k 0 = o
      · have HT : Hid _ := ofTo_yes hq
        rw [hq] at cO
        generalize hU : ofTo O o k = U at *
        clear hU hp H2 hq
        have hoo : (o == o) = true := beq_self_eq_true o
        go_wp2_with (at_builtin; refine wpList_append_own _ rfl _ _ 29 rfl w.heap.size 3 i0 (.int .i64 0) 1 8 Try.underlying29 hi hz0 hz1 hz2 rfl (by decide) _ _ _ rfl (hown.alloc _) ⟨wr.heap.size, 0, none⟩ 1 1 [.int .i64 (k : Int)] rfl rfl (one_new wr _) (one_one _) ?c3 ?c4 ?c5 ?_)
        case c3 => unfold maxLen; omega
        case c4 => omega
        case c5 => have := hb.size; simp; omega
        intro v' w2 hown' hgr' _
        have hbw : Below w.heap.size w w2 := (hb.alloc hb.size _).grown hgr' (by have := hb.size; simp; omega) (fun j hj => (hown.lt j hj).1)
        have HOW : Hid (w2.ownsRow w.heap.size 3 1 v' (U.length + 1) (iv U ++ [.int .i64 (k : Int)])) := hown'
        have HBW : Hid _ := hbw
        clear hgr' hown' hbw
        go_wp2
        go_roundw
        case rel =>
          refine ⟨k + 1, by omega, by go_num, ?_, HBW.out⟩
          rw [HT.out]
          have e : iv (U ++ [k]) = iv U ++ [.int .i64 (k : Int)] := by simp [iv]
          rw [e, List.length_append]
          exact HOW.out
        case measure => simp [intOf]; omega
      · have HT : Hid _ := ofTo_no hq
        generalize O.getD k 0 = q at *
        generalize hU : ofTo O o k = U at *
        have hqo : (q == o) = false := by rw [beq_eq_false_iff_ne]; exact hq
        clear hU hp H2
        go_wp2
        go_roundw
        case rel => exact ⟨k + 1, by omega, by go_num, by rw [HT.out]; exact hown, hb⟩
        case measure => simp [intOf]; omega
    · have e : k = m := by omega
      subst e
      go_wp2
      go_ret
      exact ⟨_, rfl, by rw [ofL, HL.out]; exact hown, hb⟩
end Go.Proofs.Ytngehhpaegljcaa
