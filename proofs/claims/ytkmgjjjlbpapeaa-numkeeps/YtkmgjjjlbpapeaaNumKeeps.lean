/- Proved: gunnylaw01.NumKeeps returns true for all bytes, places, sizes, widths and numbers: what is put is got, what is laid is got and changes no other byte, what is set is cut and no other part is changed. No conditions. -/
import Derived.Test.YtkmgjjjlbpapeaaLay
import Derived.Test.YtkmgjjjlbpapeaaOpen
import Derived.Test.YtkmgjjjlbpapeaaKeeps
import Derived.Deep.QuietTactic
import Derived.BigQuiet
import Derived.Deep.RegionHeld3
import Derived.Deep.DeepCutAuto
import Derived.Deep.CutBlock
namespace Go.Proofs.Ytkmgjjjlbpapeaa.NumKeeps
open Go.ChangeShapes Go.WideShapes Go.ChangeAt Go.RowKit
set_option linter.unusedVariables false
theorem own : ownKnob Try.prog.godebug = none := by kernel_rfl
theorem laidOut : laidOutB Try.prog = true := by kernel_rfl

theorem drewN_below (B : Nat) (w : World) (n : Nat) : Below B w (w.drewN n) := ⟨rfl, rfl, rfl, Nat.le_refl _, fun _ _ => rfl⟩
theorem nums_stay {k : IntKind} {w w' : World} {p : Option Addr} {zs : List Nat} (h : NumsAt k w p zs) (hb : Below w.heap.size w w') : NumsAt k w' p zs := by
  rcases h with rfl | ⟨b, off, rfl, hlt, hc⟩
  · exact .inl rfl
  · exact .inr ⟨b, off, rfl, Nat.lt_of_lt_of_le hlt hb.size, fun i hi => by rw [hb.cell (p := ⟨b, off + i, none⟩) hlt]; exact hc i hi⟩
theorem two_cells (W : World) (n : Nat) (t : TypeId) {g : Nat} (hg : g = W.heap.size) : NumsAt .u64 (W.alloc (Obj.cells #[Value.int IntKind.u64 ↑n, Value.int IntKind.u64 ↑n] t)) (some ⟨g, 0, none⟩) [n, n] := by
  subst hg
  refine .inr ⟨W.heap.size, 0, rfl, by simp, ?_⟩
  intro i hi
  match i, hi with
  | 0, _ => simp
  | 1, _ => simp
theorem own_nums {w : World} {B g L cap : Nat} {l : List Nat} (h : w.ownsRow B 5 1 (.slice (some ⟨g, 0, none⟩) L cap) L (bv l)) : NumsAt .u8 w (some ⟨g, 0, none⟩) l := by
  have hl : l.length = L := by have := h.1; simpa using this
  refine .inr ⟨g, 0, rfl, (h.lt g rfl).2, ?_⟩
  intro i hi
  rw [Nat.zero_add, h.cellAt i (by omega)]
  simp [bv, List.getD, hi]

set_option maxRecDepth 100000 in
set_option maxHeartbeats 400000 in
theorem run_long (p : Option Addr) (L c : Nat) (a s v n : Int) (w : World) (hL : L ≤ maxLen) (h1 : 300 < L) :
    Calls Try.prog 6 #[.slice p L c, .agg #[.int .i64 a, .int .i64 s, .int .i64 v], .int .u64 n] w fun e w' => e = .returned (.bool true) ∧ Below w.heap.size w w' := by
  unfold maxLen at hL
  go_enter Try.func6, Try.ntmps6
  go_wp2_with fail
  go_quiet (fail)
  go_wp2_with fail
  refine (lives_any _).mono ?_
  rintro e w1 ⟨rfl, hb⟩
  go_wp2
  go_ret
  exact ⟨rfl, (((Below.refl _ _).alloc (Nat.le_refl _) _).trans (drewN_below _ _ nq)).trans (hb.mono (by simp))⟩



theorem mul_two (s : Nat) : (((2 * s : Nat) : Int) != 2 * (s : Int)) = false := by simp

set_option maxRecDepth 100000 in
set_option maxHeartbeats 8000000 in
theorem run (p : Option Addr) (L c : Nat) (b : List Nat) (a s v : Int) (n : Nat) (w : World) (hL : L ≤ 300) (hbl : b.length = L) (hb : NumsAt .u8 w p b) (hb8 : ∀ x ∈ b, x < 256) (hn : n < 18446744073709551616)
    (ha : -9223372036854775808 ≤ a ∧ a ≤ 9223372036854775807) (hv : -9223372036854775808 ≤ v ∧ v ≤ 9223372036854775807) :
    Calls Try.prog 6 #[.slice p L c, .agg #[.int .i64 a, .int .i64 s, .int .i64 v], .int .u64 n] w fun e w' => e = .returned (.bool true) ∧ Below w.heap.size w w' := by
  have HBL : Hid _ := hbl
  have h300 : decide ((300 : Int) < (L : Int)) = false := decide_eq_false (by omega)
  clear hbl
  go_enter Try.func6, Try.ntmps6
  go_wp2_with fail
  go_quiet (fail)
  go_wp2_with fail
  have hb1 : Below w.heap.size w (((w.alloc (Obj.cells #[Value.int IntKind.i64 a, Value.int IntKind.i64 s, Value.int IntKind.i64 v] 44)).drewN nq).alloc (Obj.cells #[Value.int IntKind.u64 ↑n, Value.int IntKind.u64 ↑n] 27)) :=
    (((Below.refl _ _).alloc (Nat.le_refl _) _).trans (drewN_below _ _ nq)).alloc (by show w.heap.size ≤ (w.alloc _).heap.size; simp) _
  have hN : NumsAt .u64 (((w.alloc (Obj.cells #[Value.int IntKind.i64 a, Value.int IntKind.i64 s, Value.int IntKind.i64 v] 44)).drewN nq).alloc (Obj.cells #[Value.int IntKind.u64 ↑n, Value.int IntKind.u64 ↑n] 27)) (some ⟨w.heap.size + 1, 0, none⟩) [n, n] := by
    exact two_cells _ n _ (by show _ = (w.alloc _).heap.size; simp)
  generalize ((w.alloc (Obj.cells #[Value.int IntKind.i64 a, Value.int IntKind.i64 s, Value.int IntKind.i64 v] 44)).drewN nq).alloc (Obj.cells #[Value.int IntKind.u64 ↑n, Value.int IntKind.u64 ↑n] 27) = W at *
  refine (put_all s _ 2 2 [n, n] W (by omega) rfl hN).mono ?_
  rintro e w2 ⟨p2, n2, rfl, hown2, hb2⟩
  have hb3 := hb1.trans (hb2.mono hb1.size)
  clear hb1 hb2 hN
  go_upto_region 5 with fail
  go_cut [41] (fun t wx => t = .bool (decide (1 ≤ s ∧ s ≤ 8)) ∧ w2 = wx)
  case first =>
    by_cases hs1 : 1 ≤ s
    · by_cases hs2 : s ≤ 8
      · go_wp2_with fail
        go_meet
        exact ⟨by rw [decide_eq_true ⟨hs1, hs2⟩], rfl⟩
      · go_wp2_with fail
        go_meet
        exact ⟨by rw [decide_eq_false (show ¬ (1 ≤ s ∧ s ≤ 8) by omega)], rfl⟩
    · go_wp2_with fail
      go_meet
      exact ⟨by rw [decide_eq_false (show ¬ (1 ≤ s ∧ s ≤ 8) by omega)], rfl⟩
  case rest =>
    obtain ⟨rfl, rfl⟩ := hcut
    go_upto_if 41 with fail
    go_cut [] (fun wx => w2 = wx)
    case first =>
      by_cases hok : 1 ≤ s ∧ s ≤ 8
      · rw [decide_eq_true hok]
        obtain ⟨S, rfl⟩ := Int.eq_ofNat_of_zero_le (show 0 ≤ s by omega)
        have hS : 1 ≤ S ∧ S ≤ 8 := by omega
        have ew : wantOf (S : Int) [n, n] = putAll S [n, n] := by rw [wantOf, if_pos hok, Int.toNat_natCast]
        rw [ew] at hown2
        have hn2 : n2 = 2 * S := by have := hown2.1; rw [length_bv, length_putAll] at this; simpa using this.symm
        subst hn2
        obtain ⟨g, cp, hp2⟩ : ∃ g cp, p2 = .slice (some ⟨g, 0, none⟩) (2 * S) cp := by
          rcases hown2.2 with ⟨_, h0⟩ | ⟨g1, c1, _, h1, _⟩
          · omega
          · exact ⟨g1, c1, h1⟩
        subst hp2
        have hnum := own_nums hown2
        have hlen : (putAll S [n, n]).length = 2 * S := by rw [length_putAll]; rfl
        obtain ⟨C, HC⟩ : ∃ C, Hid (n % 256 ^ S = C) := ⟨_, rfl⟩
        have H1 : Hid (getTo (putAll S [n, n]) 0 S = C) := by show _ = _; rw [get_put1, HC.out]
        have H2 : Hid (getTo (putAll S [n, n]) S S = C) := by show _ = _; rw [get_put2, HC.out]
        have H3 : Hid (cutZ n 0 (8 * (S : Int)) = C) := by show _ = _; rw [cut_low n S hS, HC.out]
        have HNm : Hid _ := hnum
        have HLn : Hid _ := hlen
        have hne : (((2 * S : Nat) : Int) != 2 * (S : Int)) = false := mul_two S
        clear hown2 ew hnum hlen hok HC
        go_wp2_with fail
        refine (get_yes _ _ _ 0 S _ _ rfl rfl (putAll S [n, n]) _ (by unfold maxLen; omega) HLn.out HNm.out (putAll_lt _ _) hS (by omega)).mono ?_
        rintro e w3 ⟨rfl, rfl⟩
        rw [H1.out]
        go_wp2_with fail
        refine (get_yes _ _ _ S S _ _ rfl rfl (putAll S [n, n]) _ (by unfold maxLen; omega) HLn.out HNm.out (putAll_lt _ _) hS (by omega)).mono ?_
        rintro e w3 ⟨rfl, rfl⟩
        rw [H2.out]
        go_wp2_with fail
        refine (cut_any n _ rfl _ _ _ hn (by omega)).mono ?_
        rintro e w3 ⟨rfl, rfl⟩
        rw [H3.out]
        go_wp2_with fail
        go_meet
        rfl
      · rw [decide_eq_false hok]
        go_wp2_with fail
        go_meet
        rfl
    case rest =>
      subst hcut
      clear hown2
      go_upto_region 10 with fail
      go_cut [15, 16] (fun l t wx => ∃ k : Bool, t = .bool k ∧ Below w.heap.size w wx ∧ (k = true → ∃ g A S : Nat, a = A ∧ s = S ∧ 1 ≤ S ∧ S ≤ 8 ∧ A + S ≤ L ∧ w2.heap.size ≤ g ∧ l = .slice (some ⟨g, 0, none⟩) L L ∧ wx.ownsRow w2.heap.size 5 1 (.slice (some ⟨g, 0, none⟩) L L) L (bv (layN b A S n))))
      case first =>
        cases ht : thereB L a s
        · have HT : Hid _ := ht
          clear ht
          go_wp2_with fail
          refine (lay_no _ _ _ _ _ _ _ (by unfold maxLen; omega) ha.2 HT.out).mono ?_
          rintro e w3 ⟨rfl, rfl⟩
          go_wp2_with fail
          go_meet
          exact ⟨false, rfl, hb3, fun h => by cases h⟩
        · obtain ⟨t1, t2, t3, t4⟩ := thereB_iff ht
          clear ht
          obtain ⟨A, rfl⟩ := Int.eq_ofNat_of_zero_le t3
          obtain ⟨S, rfl⟩ := Int.eq_ofNat_of_zero_le (show 0 ≤ s by omega)
          go_wp2_with fail
          refine (lay_yes _ _ _ A S n _ _ _ rfl rfl rfl b _ (by omega) HBL.out (nums_stay hb hb3) (by omega) (by omega)).mono ?_
          rintro e w3 ⟨rfl, hown3, hb4⟩
          go_wp2_with fail
          go_meet
          exact ⟨true, rfl, hb3.trans (hb4.mono hb3.size), fun _ => ⟨_, A, S, rfl, rfl, by omega, by omega, by omega, Nat.le_refl _, rfl, hown3⟩⟩
      case rest =>
        obtain ⟨k, rfl, hb4, hk⟩ := hcut
        go_upto_if 89 with fail
        go_cut [] (fun wx => Below w.heap.size w wx)
        case first =>
          cases k
          · go_wp2_with fail
            go_meet
            exact hb4
          · obtain ⟨g, A, S, rfl, rfl, h1, h2, h3, hg, rfl, hown⟩ := hk rfl
            clear hk
            have hnum := own_nums hown
            have hlen : (layN b A S n).length = L := by rw [length_layN (by rw [HBL.out]; exact h3)]; exact HBL.out
            obtain ⟨C, HC⟩ : ∃ C, Hid (n % 256 ^ S = C) := ⟨_, rfl⟩
            have H1 : Hid (getTo (layN b A S n) A S = C) := by show _ = _; rw [get_lay (by rw [HBL.out]; exact h3), HC.out]
            have H3 : Hid (cutZ n 0 (8 * (S : Int)) = C) := by show _ = _; rw [cut_low n S ⟨h1, h2⟩, HC.out]
            have HNm : Hid _ := hnum
            have HLn : Hid _ := hlen
            have HOw : Hid _ := hown
            clear hnum hlen HC hown
            go_wp2_with fail
            refine (get_yes _ _ _ A S _ _ rfl rfl (layN b A S n) _ (by unfold maxLen; omega) HLn.out HNm.out (layN_lt hb8 _ _ _) ⟨h1, h2⟩ h3).mono ?_
            rintro e w3 ⟨rfl, rfl⟩
            rw [H1.out]
            go_wp2_with fail
            refine (cut_any n _ rfl _ _ _ hn (by omega)).mono ?_
            rintro e w3 ⟨rfl, rfl⟩
            rw [H3.out]
            go_wp2_with fail
            go_loopw [19] (fun i wr => ∃ j : Nat, j ≤ L ∧ i = .int .i64 j ∧ Below wc.heap.size wc wr) (fun i _ => L - (intOf i).toNat)
            case atStart => exact ⟨0, Nat.zero_le _, rfl, Below.refl _ _⟩
            case round =>
              obtain ⟨j, hj, rfl, hbr⟩ := hrel
              by_cases hlt : j < L
              · rcases hb with rfl | ⟨bb, off, rfl, hbb, hcell⟩
                · have := HBL.out; simp at this; omega
                have hjb : j < b.length := by rw [HBL.out]; exact hlt
                have hc1 : wr.cell? ⟨bb, off + j, none⟩ = some (.int .u8 ((b[j] : Nat) : Int)) := by
                  rw [hbr.cell (p := ⟨bb, off + j, none⟩) (Nat.lt_of_lt_of_le hbb hb4.size), hb4.cell (p := ⟨bb, off + j, none⟩) hbb, hcell j hjb]; simp [List.getD, hjb]
                have hjl : j < (layN b A S n).length := by rw [HLn.out]; exact hlt
                have hc2 : wr.cell? ⟨g, j, none⟩ = some (.int .u8 (((layN b A S n)[j] : Nat) : Int)) := by
                  rw [hbr.cell (p := ⟨g, j, none⟩) ((World.ownsRow.lt HOw.out g rfl).2), World.ownsRow.cellAt HOw.out j (by omega)]; simp [bv, hjl]
                by_cases ho : j < A ∨ A + S ≤ j
                · rw [lay_other (by rw [HBL.out]; exact h3) hjb ho] at hc2
                  generalize b[j] = y at *
                  clear hjl hjb
                  by_cases ho1 : j < A
                  · have hi1 : (j : Int) < (A : Int) := by omega
                    clear ho
                    go_wp2_with fail
                    go_quiet (fail)
                    go_wp2_with fail
                    go_roundw
                    case rel => exact ⟨j + 1, by omega, by go_num, hbr.trans (drewN_below _ _ _)⟩
                    case measure => simp [intOf]; omega
                  · have hi1 : decide ((j : Int) < (A : Int)) = false := decide_eq_false (by omega)
                    have hi2 : (S : Int) ≤ (j : Int) - (A : Int) := by omega
                    have hwr : IntKind.i64.wrap ((j : Int) - (A : Int)) = (j : Int) - (A : Int) := by rw [IntKind.wrap_i64]; omega
                    clear ho
                    go_wp2_with fail
                    go_quiet (fail)
                    go_wp2_with fail
                    go_roundw
                    case rel => exact ⟨j + 1, by omega, by go_num, hbr.trans (drewN_below _ _ _)⟩
                    case measure => simp [intOf]; omega
                · have ho1 : ¬ j < A := by omega
                  have ho2 : (j : Int) - (A : Int) < (S : Int) := by omega
                  have hi1 : decide ((j : Int) < (A : Int)) = false := decide_eq_false (by omega)
                  have hi2 : decide ((S : Int) ≤ (j : Int) - (A : Int)) = false := decide_eq_false (by omega)
                  have hwr : IntKind.i64.wrap ((j : Int) - (A : Int)) = (j : Int) - (A : Int) := by rw [IntKind.wrap_i64]; omega
                  clear hc1 hc2 ho
                  go_wp2_with fail
                  go_quiet (fail)
                  go_wp2_with fail
                  go_roundw
                  case rel => exact ⟨j + 1, by omega, by go_num, hbr.trans (drewN_below _ _ _)⟩
                  case measure => simp [intOf]; omega
              · go_wp2_with fail
                go_meet
                exact hb4.trans (hbr.mono hb4.size)
        case rest =>
          clear hk hb4 hb3
          have hb1 := hcut
          clear hcut
          by_cases hp1 : 0 ≤ a
          · by_cases hp2 : a ≤ 63
            · by_cases hp3 : 1 ≤ v
              · obtain ⟨A, rfl⟩ := Int.eq_ofNat_of_zero_le hp1
                have hp : partOk (A : Int) v = true := by simp only [partOk, decide_eq_true_eq]; omega
                obtain ⟨m, HM⟩ : ∃ m, Hid (n / 3 = m) := ⟨_, rfl⟩
                obtain ⟨x, HX⟩ : ∃ x, Hid (setZ n A v m = x) := ⟨_, rfl⟩
                obtain ⟨C, HC⟩ : ∃ C, Hid (cutZ x A v = C) := ⟨_, rfl⟩
                obtain ⟨D, HD⟩ : ∃ D, Hid (cutZ n A v = D) := ⟨_, rfl⟩
                have hdiv : (n : Int) / 3 = (m : Int) := by rw [← HM.out]; omega
                have hm : m < 18446744073709551616 := by rw [← HM.out]; omega
                have hx : x < 18446744073709551616 := by rw [← HX.out]; exact set_lt _ _ _ _
                have HE : Hid (cutZ m 0 (min v (64 - (A : Int))) = C) := by show _ = _; rw [← HC.out, ← HX.out, set_cut hp]
                have heq : (IntKind.u64.wrap ((x : Int) - IntKind.u64.wrap ((C : Int) * 2 ^ A)) == IntKind.u64.wrap ((n : Int) - IntKind.u64.wrap ((D : Int) * 2 ^ A))) = true := by
                  have e := set_rest (n := m) hp hn
                  rw [HX.out, HC.out, HD.out] at e
                  simp only [Int.toNat_natCast] at e
                  rw [e]
                  simp
                have hA : A < 64 := by omega
                have hwr : IntKind.i64.wrap (64 - (A : Int)) = 64 - (A : Int) := by rw [IntKind.wrap_i64]; omega
                have hwm : IntKind.u64.wrap (m : Int) = (m : Int) := by rw [IntKind.wrap_u64]; omega
                clear hp HM
                go_wp2_with fail
                refine (set_any n A v m _ hn hm hv.2).mono ?_
                rintro e w7 ⟨rfl, rfl⟩
                rw [HX.out]
                go_wp2_with fail
                by_cases hmin : 64 - (A : Int) < v
                · have HF : Hid (cutZ m 0 (64 - (A : Int)) = C) := by have := HE.out; rw [show min v (64 - (A : Int)) = 64 - (A : Int) by omega] at this; exact this
                  go_region_held3 (fun _ => True) (trivial) (first | (go_at_call_of 17 (Value.int .u64 (x : Int)); refine (cut_any x _ rfl _ _ _ hx (by omega)).mono ?_; rintro e w8 ⟨rfl, rfl⟩; rw [HC.out]) | (go_at_call_of 17 (Value.int .u64 (m : Int)); refine (cut_any m _ rfl _ _ _ hm (by omega)).mono ?_; rintro e w8 ⟨rfl, rfl⟩; rw [HF.out]) | (go_at_call_of 17 (Value.int .u64 (n : Int)); refine (cut_any n _ rfl _ _ _ hn (by omega)).mono ?_; rintro e w8 ⟨rfl, rfl⟩; rw [HD.out]) | (go_at_call 7; refine (lives_any _).mono ?_; rintro e w9 ⟨rfl, hb9⟩))
                  all_goals (go_wp2; go_ret; exact ⟨rfl, hb1.trans (((Below.refl _ _).drew.trans hb9).mono hb1.size)⟩)
                · have hmin2 : ((64 - (A : Int)) < v) = False := eq_false hmin
                  have HF : Hid (cutZ m 0 v = C) := by have := HE.out; rw [show min v (64 - (A : Int)) = v by omega] at this; exact this
                  go_region_held3 (fun _ => True) (trivial) (first | (go_at_call_of 17 (Value.int .u64 (x : Int)); refine (cut_any x _ rfl _ _ _ hx (by omega)).mono ?_; rintro e w8 ⟨rfl, rfl⟩; rw [HC.out]) | (go_at_call_of 17 (Value.int .u64 (m : Int)); refine (cut_any m _ rfl _ _ _ hm (by omega)).mono ?_; rintro e w8 ⟨rfl, rfl⟩; rw [HF.out]) | (go_at_call_of 17 (Value.int .u64 (n : Int)); refine (cut_any n _ rfl _ _ _ hn (by omega)).mono ?_; rintro e w8 ⟨rfl, rfl⟩; rw [HD.out]) | (go_at_call 7; refine (lives_any _).mono ?_; rintro e w9 ⟨rfl, hb9⟩))
                  all_goals (go_wp2; go_ret; exact ⟨rfl, hb1.trans (((Below.refl _ _).drew.trans hb9).mono hb1.size)⟩)
              · go_wp2_with fail
                refine (lives_any _).mono ?_
                rintro e w9 ⟨rfl, hb9⟩
                go_wp2
                go_ret
                exact ⟨rfl, hb1.trans (hb9.mono hb1.size)⟩
            · go_wp2_with fail
              refine (lives_any _).mono ?_
              rintro e w9 ⟨rfl, hb9⟩
              go_wp2
              go_ret
              exact ⟨rfl, hb1.trans (hb9.mono hb1.size)⟩
          · go_wp2_with fail
            refine (lives_any _).mono ?_
            rintro e w9 ⟨rfl, hb9⟩
            go_wp2
            go_ret
            exact ⟨rfl, hb1.trans (hb9.mono hb1.size)⟩

theorem walk {H : Type} {enc : TypeId × Value → H} {w : World} {base : Nat} {v0 v1 v2 : Value} {d0 d1 d2 : DataW H} {p0 p1 p2 : List MemPlace}
    (o0 : Value.okWide Try.prog w .any base 22 v0) (o1 : Value.okWide Try.prog w .any base 44 v1) (o2 : Value.okWide Try.prog w .any base 27 v2)
    (h0 : DataW.Trod enc Try.prog w 0 (fun _ => true) true 22 v0 d0 p0) (h1 : DataW.Trod enc Try.prog w 0 (fun _ => true) true 44 v1 d1 p1) (h2 : DataW.Trod enc Try.prog w 0 (fun _ => true) true 27 v2 d2 p2) :
    Calls Try.prog 6 #[v0, v1, v2] w fun e w' => e = .returned (.bool true) ∧ Below w.heap.size w w' := by
  obtain ⟨p, L, c, b, rfl, hbl, hL, hb, _, hb8⟩ := openNums (M := 256) (fun n h => by have := bounds_u8 h; omega) Try.underlying22 Try.underlying5 (by kernel_rfl) o0 h0
  obtain ⟨a, s, v, rfl, ha, _, hv⟩ := openArr3 Try.underlying44 Try.underlying3 (by kernel_rfl) (by kernel_rfl) o1 h1
  obtain ⟨n, rfl, hn⟩ := openU64 Try.underlying27 o2 h2
  by_cases h : 300 < L
  · exact run_long p L c a s v n w hL h
  · exact run p L c b a s v n w (by omega) hbl hb (fun x hx => by have := hb8 x hx; omega) hn (bounds_i64 ha) (bounds_i64 hv)

set_option maxRecDepth 100000 in
theorem lifted (os : Os) (started : os.Started) (H : Type) (enc : TypeId × Value → H) :
    ReturnsInHanded {} Try.checked os 6 .any (Rows.numKeepsSpec.pre6 enc Try.prog Try.f6 Rows.numKeepsRow.domain false) (Rows.numKeepsSpec.post enc Try.prog Try.f6 false true false false) := by
  refine returnsInHanded_of_change (C := Try.checked) own started (by kernel_rfl) Try.func6
    (ChangeSpec.witness6 (enc := enc) (C := Try.checked) false ⟨#[], #[.slice none 0 0, .agg #[.int .i64 0, .int .i64 0, .int .i64 0], .int .u64 0], []⟩ 8 (by kernel_rfl) (by kernel_rfl) (by kernel_rfl) (by kernel_rfl)) ?_
  intro W base args ds gs before hval0 hW hcnd _
  have hval : ∀ (j : Nat) t v, Try.f6.params[j]? = some t → args[j]? = some v → Value.okWide Try.prog W .any base t v := hval0
  have hW' := hW
  obtain ⟨p, q, hA0, hV, rfl, hfz, hnd⟩ := hW
  have hA : DataW.TrodAll enc Try.prog W 0 (fun _ => true) true Try.f6.params.toList args.toList ds p := hA0
  rw [Try.params6] at hA hval
  obtain ⟨v0, vs0, d0, ds0, p0, q0, hargs, rfl, rfl, h0, r0⟩ := trodAll_cons hA
  obtain ⟨v1, vs1, d1, ds1, p1, q1, rfl, rfl, rfl, h1, r1⟩ := trodAll_cons r0
  obtain ⟨v2, vs2, d2, ds2, p2, q2, rfl, rfl, rfl, h2, r2⟩ := trodAll_cons r1
  obtain ⟨rfl, rfl, rfl⟩ := trodAll_nil r2
  obtain rfl : args = #[v0, v1, v2] := by cases args; simp_all
  obtain ⟨rfl, rfl⟩ := trodVars_none hV
  have o0 := hval 0 22 v0 rfl rfl
  have lt0 : ∀ x ∈ p0, x.block < W.heap.size := by obtain ⟨m, hm⟩ := h0; exact DataW.trod_lt m _ _ _ hm
  have o1 := hval 1 44 v1 rfl rfl
  have lt1 : ∀ x ∈ p1, x.block < W.heap.size := by obtain ⟨m, hm⟩ := h1; exact DataW.trod_lt m _ _ _ hm
  have o2 := hval 2 27 v2 rfl rfl
  have lt2 : ∀ x ∈ p2, x.block < W.heap.size := by obtain ⟨m, hm⟩ := h2; exact DataW.trod_lt m _ _ _ hm
  clear hA0 hval0
  refine (walk o0 o1 o2 h0 h1 h2).mono fun e W' ⟨he, bel⟩ => ?_
  subst he
  exact ⟨_, rfl, _, _, _, [], _, [], hW', trodAll_mk1 (shut_bool Try.underlying4 _), (trodAll_cons_mk (Below.trod laidOut (by kernel_rfl) (of_decide_eq_true (by kernel_rfl)) h0 bel lt0) (trodAll_cons_mk (Below.trod laidOut (by kernel_rfl) (of_decide_eq_true (by kernel_rfl)) h1 bel lt1) (trodAll_cons_mk (Below.trod laidOut (by kernel_rfl) (of_decide_eq_true (by kernel_rfl)) h2 bel lt2) trodAll_mk0))), rfl, bel.frame _, fun h => by cases h⟩

theorem over : Rows.numKeepsRow.holds Try.pinned (OpenSpec.ofChange Rows.numKeepsSpec) :=
  OpenClaim.holds_of_wide 6 Try.f6 rfl rfl rfl rfl rfl rfl rfl ⟨rfl, rfl, rfl, rfl, rfl⟩ rfl rfl rfl rfl rfl (by kernel_rfl) Try.func6 (by kernel_rfl)
    (of_decide_eq_true (by kernel_rfl)) (by unfold Func.isWrapper; first | (rw [if_pos (by decide +kernel)]; kernel_rfl) | (rw [if_neg (by decide +kernel)]; exact ⟨rfl, rfl⟩))
    (fun os started H enc _ => lifted os started H enc)
end Go.Proofs.Ytkmgjjjlbpapeaa.NumKeeps
namespace Go.Proofs.Ytkmgjjjlbpapeaa
/-- The statement. -/
theorem numKeeps_holds : Rows.NumKeepsSaid := NumKeeps.over
#print axioms numKeeps_holds
end Go.Proofs.Ytkmgjjjlbpapeaa
