/- The walk of the law NumBytes where what is handed in is long, or no such place is there. -/
import Derived.Test.YtkmgjjjlbpapeaaLay
import Derived.Test.YtkmgjjjlbpapeaaOpen
import Derived.Deep.QuietTactic
import Derived.BigQuiet
import Derived.Deep.RegionWith
namespace Go.Proofs.Ytkmgjjjlbpapeaa.NumBytes
open Go.ChangeShapes Go.WideShapes Go.ChangeAt Go.RowKit
set_option linter.unusedVariables false
theorem own : ownKnob Try.prog.godebug = none := by kernel_rfl
theorem laidOut : laidOutB Try.prog = true := by kernel_rfl

theorem drewN_below (B : Nat) (w : World) (n : Nat) : Below B w (w.drewN n) := ⟨rfl, rfl, rfl, Nat.le_refl _, fun _ _ => rfl⟩
theorem nums_stay {k : IntKind} {w w' : World} {p : Option Addr} {zs : List Nat} (h : NumsAt k w p zs) (hb : Below w.heap.size w w') : NumsAt k w' p zs := by
  rcases h with rfl | ⟨b, off, rfl, hlt, hc⟩
  · exact .inl rfl
  · exact .inr ⟨b, off, rfl, Nat.lt_of_lt_of_le hlt hb.size, fun i hi => by rw [hb.cell (p := ⟨b, off + i, none⟩) hlt]; exact hc i hi⟩

set_option maxHeartbeats 400000 in
theorem run_long (p q : Option Addr) (L c M d : Nat) (a s : Int) (w : World) (hL : L ≤ maxLen) (hM : M ≤ maxLen) (h : 300 < L ∨ 50 < M) :
    Calls Try.prog 3 #[.slice p L c, .agg #[.int .i64 a, .int .i64 s], .slice q M d] w fun e w' => e = .returned (.bool true) ∧ Below w.heap.size w w' := by
  unfold maxLen at hL hM
  by_cases h1 : 300 < L
  · clear h
    go_enter Try.func3, Try.ntmps3
    go_wp2_with fail
    go_quiet (fail)
    go_wp2_with fail
    refine (lives_any _).mono ?_
    rintro e w1 ⟨rfl, hb⟩
    go_wp2
    go_ret
    exact ⟨rfl, (((Below.refl _ _).alloc (Nat.le_refl _) _).trans (drewN_below _ _ nq)).trans (hb.mono (by simp))⟩
  · have h2 : 50 < M := by omega
    clear h
    go_enter Try.func3, Try.ntmps3
    go_wp2_with fail
    go_quiet (fail)
    go_wp2_with fail
    refine (lives_any _).mono ?_
    rintro e w1 ⟨rfl, hb⟩
    go_wp2
    go_ret
    exact ⟨rfl, (((Below.refl _ _).alloc (Nat.le_refl _) _).trans (drewN_below _ _ nq)).trans (hb.mono (by simp))⟩

theorem want_zero (s : Int) : wantOf s [] = [] := by unfold wantOf putAll; split <;> rfl
theorem want_bad {s : Int} (h : ¬ (1 ≤ s ∧ s ≤ 8)) (ns : List Nat) : wantOf s ns = [] := if_neg h
theorem want_succ {s : Int} (h : 1 ≤ s ∧ s ≤ 8) (ns : List Nat) (k : Nat) (hk : k < ns.length) : wantOf s (ns.take (k + 1)) = wantOf s (ns.take k) ++ putN s.toNat ns[k] := by
  unfold wantOf
  rw [if_pos h, if_pos h, List.take_succ_eq_append_getElem hk, putAll_snoc]
theorem want_len (s : Int) (ns : List Nat) : (wantOf s ns).length ≤ ns.length * 8 := by
  unfold wantOf
  split
  · rw [length_putAll]; exact Nat.mul_le_mul_left _ (by omega)
  · simp

theorem below_grown {w w' : World} (h : Below w.heap.size w w') : w.grownBy w' none := ⟨h.os, h.tape, h.output, h.size, fun k hk _ => h.block k hk⟩
theorem own_stay {B : Nat} {w w' : World} {v : Value} {n : Nat} {xs : List Value} (h : w.ownsRow B 5 1 v n xs) (hb : Below w.heap.size w w') : w'.ownsRow B 5 1 v n xs :=
  h.kept (below_grown hb) (by cases hv : v.ownBlock <;> simp)


set_option maxHeartbeats 4000000 in
theorem run_bad (p q : Option Addr) (L c M d : Nat) (b ns : List Nat) (a s : Int) (w : World) (hL : L ≤ 300) (hM : M ≤ 50) (hbl : b.length = L) (hb : NumsAt .u8 w p b) (hp : p = none → L = 0)
    (hnl : ns.length = M) (hns : NumsAt .u64 w q ns) (hn64 : ∀ x ∈ ns, (x : Int) < 18446744073709551616) (ha : -9223372036854775808 ≤ a ∧ a ≤ 9223372036854775807) (hs : ¬ (1 ≤ s ∧ s ≤ 8)) :
    Calls Try.prog 3 #[.slice p L c, .agg #[.int .i64 a, .int .i64 s], .slice q M d] w fun e w' => e = .returned (.bool true) ∧ Below w.heap.size w w' := by
  have HT : Hid _ := thereB_no (L := L) (a := a) (s := s) (by omega)
  have HW : Hid _ := want_bad hs ns
  obtain ⟨i0, hi, hz0, hz1, hz2⟩ := info_parts Try.info5
  have HBL : Hid _ := hbl
  have HNL : Hid _ := hnl
  have HP : Hid _ := hp
  have h300 : decide ((300 : Int) < (L : Int)) = false := decide_eq_false (by omega)
  have h50 : decide ((50 : Int) < (M : Int)) = false := decide_eq_false (by omega)
  clear hbl hnl hp
  go_enter Try.func3, Try.ntmps3
  go_wp2_with fail
  go_quiet (fail)
  go_wp2_with fail
  have hW : Below w.heap.size w ((w.alloc (Obj.cells #[Value.int IntKind.i64 a, Value.int IntKind.i64 s] 23)).drewN nq) := ((Below.refl _ _).alloc (Nat.le_refl _) _).trans (drewN_below _ _ nq)
  generalize (w.alloc (Obj.cells #[Value.int IntKind.i64 a, Value.int IntKind.i64 s] 23)).drewN nq = W at *
  go_loopw [9, 10] (fun v i wr => v = .slice none 0 0 ∧ i = .int .i64 0 ∧ Below w.heap.size w wr) (fun _ _ _ => 0)
  case atStart => exact ⟨rfl, rfl, hW⟩
  case round =>
    obtain ⟨rfl, rfl, hb1⟩ := hrel
    have hown : wr.ownsRow w.heap.size 5 1 (.slice none 0 0) 0 (bv (wantOf s ns)) := by rw [HW.out]; exact World.ownsRow_nil _ _ _ _
    by_cases hm : 0 < M
    · by_cases h1 : 1 ≤ s
      · have h2 : ¬ s ≤ 8 := by omega
        clear hs
        go_wp2_with fail
        refine (put_all s q M d ns _ (by omega) HNL.out (nums_stay hns hb1)).mono ?_
        rintro e w2 ⟨v2, n2, rfl, hown2, hb2⟩
        have hb3 := hb1.trans (hb2.mono hb1.size)
        have hx1 := conv_any hown2
        have hx2 := conv_any (own_stay hown hb2)
        have hx3 := conv_nums (c := c) HBL.out (nums_stay hb hb3) HP.out
        clear hown2 hown hb2 hb1
        go_wp2_with fail
        refine (refBytes_same _ _ _ _ hx1 hx2).mono ?_
        rintro e w3 ⟨rfl, rfl⟩
        clear hx1 hx2
        have hM0 : ((0 : Int) < (M : Int)) := by omega
        obtain ⟨qb, qo, rfl, hqb, hcell⟩ : ∃ qb qo, q = some ⟨qb, qo, none⟩ ∧ qb < w.heap.size ∧ w2.cell? ⟨qb, qo, none⟩ = some (.int .u64 ((ns.getD 0 0 : Nat) : Int)) := by
          rcases hns with rfl | ⟨qb, qo, rfl, hqb, hcell⟩
          · have := HNL.out; simp at this; omega
          · refine ⟨qb, qo, rfl, hqb, ?_⟩
            rw [hb3.cell (p := ⟨qb, qo, none⟩) hqb]
            exact hcell 0 (by have := HNL.out; omega)
        have hn0 : ns.getD 0 0 < 18446744073709551616 := by
          have h0 : 0 < ns.length := by have := HNL.out; omega
          have := hn64 ns[0] (List.getElem_mem h0)
          simp [List.getD, h0]
          omega
        generalize ns.getD 0 0 = N at *
        go_wp2_with fail
        refine (get_no _ _ _ _ _ _ (by unfold maxLen; omega) ha.2 HT.out).mono ?_
        rintro e w4 ⟨rfl, rfl⟩
        go_wp2_with fail
        refine (lay_no _ _ _ _ _ _ _ (by unfold maxLen; omega) ha.2 HT.out).mono ?_
        rintro e w4 ⟨rfl, rfl⟩
        go_wp2_with fail
        refine (refThere_any _ _ _ _ _ _ (by unfold maxLen; omega)).mono ?_
        rintro e w4 ⟨rfl, rfl⟩
        rw [HT.out]
        go_wp2_with fail
        refine (lives_any _).mono ?_
        rintro e w4 ⟨rfl, hb4⟩
        go_wp2
        go_ret
        exact ⟨rfl, hb3.trans (hb4.mono hb3.size)⟩
      · clear hs
        go_wp2_with fail
        refine (put_all s q M d ns _ (by omega) HNL.out (nums_stay hns hb1)).mono ?_
        rintro e w2 ⟨v2, n2, rfl, hown2, hb2⟩
        have hb3 := hb1.trans (hb2.mono hb1.size)
        have hx1 := conv_any hown2
        have hx2 := conv_any (own_stay hown hb2)
        have hx3 := conv_nums (c := c) HBL.out (nums_stay hb hb3) HP.out
        clear hown2 hown hb2 hb1
        go_wp2_with fail
        refine (refBytes_same _ _ _ _ hx1 hx2).mono ?_
        rintro e w3 ⟨rfl, rfl⟩
        clear hx1 hx2
        have hM0 : ((0 : Int) < (M : Int)) := by omega
        obtain ⟨qb, qo, rfl, hqb, hcell⟩ : ∃ qb qo, q = some ⟨qb, qo, none⟩ ∧ qb < w.heap.size ∧ w2.cell? ⟨qb, qo, none⟩ = some (.int .u64 ((ns.getD 0 0 : Nat) : Int)) := by
          rcases hns with rfl | ⟨qb, qo, rfl, hqb, hcell⟩
          · have := HNL.out; simp at this; omega
          · refine ⟨qb, qo, rfl, hqb, ?_⟩
            rw [hb3.cell (p := ⟨qb, qo, none⟩) hqb]
            exact hcell 0 (by have := HNL.out; omega)
        have hn0 : ns.getD 0 0 < 18446744073709551616 := by
          have h0 : 0 < ns.length := by have := HNL.out; omega
          have := hn64 ns[0] (List.getElem_mem h0)
          simp [List.getD, h0]
          omega
        generalize ns.getD 0 0 = N at *
        go_wp2_with fail
        refine (get_no _ _ _ _ _ _ (by unfold maxLen; omega) ha.2 HT.out).mono ?_
        rintro e w4 ⟨rfl, rfl⟩
        go_wp2_with fail
        refine (lay_no _ _ _ _ _ _ _ (by unfold maxLen; omega) ha.2 HT.out).mono ?_
        rintro e w4 ⟨rfl, rfl⟩
        go_wp2_with fail
        refine (refThere_any _ _ _ _ _ _ (by unfold maxLen; omega)).mono ?_
        rintro e w4 ⟨rfl, rfl⟩
        rw [HT.out]
        go_wp2_with fail
        refine (lives_any _).mono ?_
        rintro e w4 ⟨rfl, hb4⟩
        go_wp2
        go_ret
        exact ⟨rfl, hb3.trans (hb4.mono hb3.size)⟩
    · have hM0 : ¬ ((0 : Int) < (M : Int)) := by omega
      clear hs
      go_wp2_with fail
      refine (put_all s q M d ns _ (by omega) HNL.out (nums_stay hns hb1)).mono ?_
      rintro e w2 ⟨v2, n2, rfl, hown2, hb2⟩
      have hb3 := hb1.trans (hb2.mono hb1.size)
      have hx1 := conv_any hown2
      have hx2 := conv_any (own_stay hown hb2)
      have hx3 := conv_nums (c := c) HBL.out (nums_stay hb hb3) HP.out
      clear hown2 hown hb2 hb1
      go_wp2_with fail
      refine (refBytes_same _ _ _ _ hx1 hx2).mono ?_
      rintro e w3 ⟨rfl, rfl⟩
      clear hx1 hx2
      go_wp2_with fail
      refine (get_no _ _ _ _ _ _ (by unfold maxLen; omega) ha.2 HT.out).mono ?_
      rintro e w4 ⟨rfl, rfl⟩
      go_wp2_with fail
      refine (lay_no _ _ _ _ _ _ _ (by unfold maxLen; omega) ha.2 HT.out).mono ?_
      rintro e w4 ⟨rfl, rfl⟩
      go_wp2_with fail
      refine (refThere_any _ _ _ _ _ _ (by unfold maxLen; omega)).mono ?_
      rintro e w4 ⟨rfl, rfl⟩
      rw [HT.out]
      go_wp2_with fail
      refine (lives_any _).mono ?_
      rintro e w4 ⟨rfl, hb4⟩
      go_wp2
      go_ret
      exact ⟨rfl, hb3.trans (hb4.mono hb3.size)⟩


set_option maxHeartbeats 4000000 in
theorem run_out (p q : Option Addr) (L c M d : Nat) (b ns : List Nat) (a s : Int) (w : World) (hL : L ≤ 300) (hM : M ≤ 50) (hbl : b.length = L) (hb : NumsAt .u8 w p b) (hp : p = none → L = 0)
    (hnl : ns.length = M) (hns : NumsAt .u64 w q ns) (hn64 : ∀ x ∈ ns, (x : Int) < 18446744073709551616) (ha : -9223372036854775808 ≤ a ∧ a ≤ 9223372036854775807) (hs1 : 1 ≤ s) (hs2 : s ≤ 8) (ht : thereB L a s = false) :
    Calls Try.prog 3 #[.slice p L c, .agg #[.int .i64 a, .int .i64 s], .slice q M d] w fun e w' => e = .returned (.bool true) ∧ Below w.heap.size w w' := by
  have HT : Hid _ := ht
  clear ht
  obtain ⟨i0, hi, hz0, hz1, hz2⟩ := info_parts Try.info5
  have HBL : Hid _ := hbl
  have HNL : Hid _ := hnl
  have HP : Hid _ := hp
  have h300 : decide ((300 : Int) < (L : Int)) = false := decide_eq_false (by omega)
  have h50 : decide ((50 : Int) < (M : Int)) = false := decide_eq_false (by omega)
  clear hbl hnl hp
  go_enter Try.func3, Try.ntmps3
  go_wp2_with fail
  go_quiet (fail)
  go_wp2_with fail
  have hW : Below w.heap.size w ((w.alloc (Obj.cells #[Value.int IntKind.i64 a, Value.int IntKind.i64 s] 23)).drewN nq) := ((Below.refl _ _).alloc (Nat.le_refl _) _).trans (drewN_below _ _ nq)
  generalize (w.alloc (Obj.cells #[Value.int IntKind.i64 a, Value.int IntKind.i64 s] 23)).drewN nq = W at *
  go_loopw [9, 10] (fun v i wr => ∃ k n : Nat, k ≤ M ∧ i = .int .i64 k ∧ wr.ownsRow w.heap.size 5 1 v n (bv (wantOf s (ns.take k))) ∧ Below w.heap.size w wr) (fun _ i _ => M - (intOf i).toNat)
  case atStart => exact ⟨0, 0, Nat.zero_le _, rfl, by rw [List.take_zero, want_zero]; exact World.ownsRow_nil _ _ _ _, hW⟩
  case round =>
    obtain ⟨k, n, hk, rfl, hown, hb1⟩ := hrel
    by_cases hlt : k < M
    · rcases hns with rfl | ⟨nb, no, rfl, hnb, hcell⟩
      · have := HNL.out; simp at this; omega
      have hkn : k < ns.length := by have := HNL.out; omega
      have hc : wr.cell? ⟨nb, no + k, none⟩ = some (.int .u64 ((ns[k] : Nat) : Int)) := by
        rw [hb1.cell (p := ⟨nb, no + k, none⟩) hnb, hcell k hkn]; simp [List.getD, hkn]
      have HK : Hid _ := want_succ ⟨hs1, hs2⟩ ns k hkn
      have hnw : n ≤ 400 := by
        have h1 := hown.1
        have h2 := want_len s (ns.take k)
        simp at h1 h2
        omega
      have hnk := hn64 _ (List.getElem_mem hkn)
      generalize ns[k] = N at *
      go_wp2_with fail
      refine (refPut_any s.toNat N _ _ (by omega) rfl _ (by omega) (by omega)).mono ?_
      rintro e w1 ⟨v1, rfl, hown1, hb2⟩
      have hb3 := hb1.trans (hb2.mono hb1.size)
      have hown2 := own_stay hown hb2
      obtain ⟨g1, c1, hv1⟩ : ∃ g1 c1, v1 = .slice (some ⟨g1, 0, none⟩) s.toNat c1 := by
        rcases hown1.2 with ⟨_, h0⟩ | ⟨g1, c1, _, h1, _⟩
        · omega
        · exact ⟨g1, c1, h1⟩
      rw [hv1]
      rw [hv1] at hown1
      have HC : Hid _ := hown1.cells (g := g1) rfl
      have HL1 : Hid _ := hown1.1
      clear hown hb2 hb1 hown1 hc hcell hv1
      go_wp2_with (at_builtin; refine wpList_append_own _ rfl _ _ 22 rfl w.heap.size 5 i0 (.int .u8 0) 1 1 Try.underlying22 hi hz0 hz1 hz2 rfl (by decide) _ _ _ rfl hown2 ⟨g1, 0, none⟩ s.toNat c1 (bv (putN s.toNat N)) rfl HL1.out HC.out ?c2 ?c3 ?c4 ?c5 ?_)
      case c2 => intro u hu; obtain ⟨x, _, rfl⟩ := List.mem_map.1 hu; rfl
      case c3 => unfold maxLen; omega
      case c4 => omega
      case c5 => exact hb3.size
      · intro v' w2 hown' hgr _
        have hb4 : Below w.heap.size w w2 := hb3.grown hgr hb3.size (fun j hj => (hown2.lt j hj).1)
        have hown3 : w2.ownsRow w.heap.size 5 1 v' (n + s.toNat) (bv (wantOf s (ns.take (k + 1)))) := by rw [HK.out]; simpa [bv] using hown'
        clear hown' hgr hown2 hb3
        go_wp2
        go_roundw
        case rel => exact ⟨k + 1, _, by omega, by go_num, hown3, hb4⟩
        case measure => simp [intOf]; omega
    · have e : k = M := by omega
      subst e
      have et : ns.take k = ns := List.take_of_length_le (by have := HNL.out; omega)
      rw [et] at hown
      clear et
      go_wp2_with fail
      refine (put_all s q k d ns _ (by omega) HNL.out (nums_stay hns hb1)).mono ?_
      rintro e w2 ⟨v2, n2, rfl, hown2, hb2⟩
      have hb3 := hb1.trans (hb2.mono hb1.size)
      have hx1 := conv_any hown2
      have hx2 := conv_any (own_stay hown hb2)
      have hx3 := conv_nums (c := c) HBL.out (nums_stay hb hb3) HP.out
      clear hown2 hown hb2 hb1
      go_wp2_with fail
      refine (refBytes_same _ _ _ _ hx1 hx2).mono ?_
      rintro e w3 ⟨rfl, rfl⟩
      clear hx1 hx2
      by_cases hm : 0 < k
      · have hM0 : ((0 : Int) < (k : Int)) := by omega
        have hk0 : ((0 : Int) < (k : Int)) := by omega
        obtain ⟨qb, qo, rfl, hqb, hcell⟩ : ∃ qb qo, q = some ⟨qb, qo, none⟩ ∧ qb < w.heap.size ∧ w2.cell? ⟨qb, qo, none⟩ = some (.int .u64 ((ns.getD 0 0 : Nat) : Int)) := by
          rcases hns with rfl | ⟨qb, qo, rfl, hqb, hcell⟩
          · have := HNL.out; simp at this; omega
          · refine ⟨qb, qo, rfl, hqb, ?_⟩
            rw [hb3.cell (p := ⟨qb, qo, none⟩) hqb]
            exact hcell 0 (by have := HNL.out; omega)
        have hn0 : ns.getD 0 0 < 18446744073709551616 := by
          have h0 : 0 < ns.length := by have := HNL.out; omega
          have := hn64 ns[0] (List.getElem_mem h0)
          simp [List.getD, h0]
          omega
        generalize ns.getD 0 0 = N at *
        go_wp2_with fail
        refine (get_no _ _ _ _ _ _ (by unfold maxLen; omega) ha.2 HT.out).mono ?_
        rintro e w4 ⟨rfl, rfl⟩
        go_wp2_with fail
        refine (lay_no _ _ _ _ _ _ _ (by unfold maxLen; omega) ha.2 HT.out).mono ?_
        rintro e w4 ⟨rfl, rfl⟩
        go_wp2_with fail
        refine (refThere_any _ _ _ _ _ _ (by unfold maxLen; omega)).mono ?_
        rintro e w4 ⟨rfl, rfl⟩
        rw [HT.out]
        go_wp2_with fail
        refine (lives_any _).mono ?_
        rintro e w4 ⟨rfl, hb4⟩
        go_wp2
        go_ret
        exact ⟨rfl, hb3.trans (hb4.mono hb3.size)⟩
      · have hM0 : ¬ ((0 : Int) < (k : Int)) := by omega
        go_wp2_with fail
        refine (get_no _ _ _ _ _ _ (by unfold maxLen; omega) ha.2 HT.out).mono ?_
        rintro e w4 ⟨rfl, rfl⟩
        go_wp2_with fail
        refine (lay_no _ _ _ _ _ _ _ (by unfold maxLen; omega) ha.2 HT.out).mono ?_
        rintro e w4 ⟨rfl, rfl⟩
        go_wp2_with fail
        refine (refThere_any _ _ _ _ _ _ (by unfold maxLen; omega)).mono ?_
        rintro e w4 ⟨rfl, rfl⟩
        rw [HT.out]
        go_wp2_with fail
        refine (lives_any _).mono ?_
        rintro e w4 ⟨rfl, hb4⟩
        go_wp2
        go_ret
        exact ⟨rfl, hb3.trans (hb4.mono hb3.size)⟩

end Go.Proofs.Ytkmgjjjlbpapeaa.NumBytes
