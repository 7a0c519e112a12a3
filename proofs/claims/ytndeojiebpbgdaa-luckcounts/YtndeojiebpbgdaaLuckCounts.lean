/- Proved: gunnylaw07.LuckCounts returns true for all lists of bools and all bytes: what was asked for is what failed and what didn't; as many are asked for or left as there are choices, till all were. No conditions. -/
import Derived.Test.YtndeojiebpbgdaaLLives
namespace Go.Proofs.Ytndeojiebpbgdaa.LuckCounts
open Go.ChangeShapes Go.WideShapes Go.ChangeAt Go.RowKit
set_option linter.unusedVariables false
theorem own : ownKnob Try.prog.godebug = none := by kernel_rfl
theorem laidOut : laidOutB Try.prog = true := by kernel_rfl
/-- A round's state. -/
structure Held (w wr : World) (E b : Nat) (zs : List Bool) (k : Nat) : Prop where
  at_ : LuckAt w.heap.size E wr b zs k
  bel : Below w.heap.size w wr

set_option maxRecDepth 100000 in
set_option maxHeartbeats 4000000 in
theorem run (a : Option Addr) (L c : Nat) (zs : List Bool) (n : Nat) (w : World) (hL : L ≤ maxLen) (hz : BoolsAt w a L c zs) (hn : n < 256) :
    Calls Try.prog 5 #[.slice a L c, .int .u8 (n : Nat)] w fun e w' => e = .returned (.bool true) ∧ Below w.heap.size w w' := by
  unfold maxLen at hL
  by_cases hlong : 500 < L
  · go_enter Try.func5, Try.ntmps5
    go_wp2_with fail
    refine (lives_any _).mono ?_
    rintro e w1 ⟨rfl, hb⟩
    go_wp2
    go_ret
    exact ⟨rfl, hb⟩
  have HZ : Hid (BoolsAt w a L c zs) := hz
  have HZL : Hid (zs.length = L) := hz.1
  clear hz
  go_enter Try.func5, Try.ntmps5
  go_wp2_with fail
  refine (new_any _ HZ.out (by omega)).mono ?_
  rintro e w1 ⟨b, rfl, h1, b1⟩
  have HH : Hid (Held w w1 w1.heap.size b zs 0) := ⟨h1, b1⟩
  clear h1 b1
  generalize w1.heap.size = E at *
  go_wp2_with fail
  go_loopw [6, 7] (fun x i wr => ∃ k : Nat, k ≤ n ∧ x = .int .i64 (ft zs k : Nat) ∧ i = .int .i64 k ∧ Held w wr E b zs k) (fun _ i _ => n - (intOf i).toNat)
  case atStart => exact ⟨0, Nat.zero_le _, rfl, rfl, HH.out⟩
  case round =>
    obtain ⟨k, hk, rfl, rfl, hH⟩ := hrel
    have hfl := ft_le zs k
    by_cases hlt : k < n
    · have HF : Hid (ft zs (k + 1) = inc (ft zs k) (fa zs k)) := ft_next zs k
      generalize ft zs k = t at *
      go_wp2_with fail
      refine (fails_any _ hH.at_ (by omega)).mono ?_
      rintro e w2 ⟨rfl, h2, t2⟩
      have H2 : Hid (Held w w2 E b zs (k + 1)) := ⟨h2, hH.bel.trans (t2.below hH.bel.size)⟩
      clear h2 t2
      cases hy : fa zs k with
      | true =>
        rw [hy] at HF
        clear hy
        go_wp2
        go_roundw
        case rel => exact ⟨k + 1, by omega, by rw [HF.out]; simp [inc], by go_num, H2.out⟩
        case measure => simp [intOf]; omega
      | false =>
        rw [hy] at HF
        clear hy
        go_wp2
        go_roundw
        case rel => exact ⟨k + 1, by omega, by rw [HF.out]; rfl, by go_num, H2.out⟩
        case measure => simp [intOf]; omega
    · have e : k = n := by omega
      subst e
      have H1 : Hid (LuckAt w.heap.size E wr b zs k) := hH.at_
      have HB : Hid (Below w.heap.size w wr) := hH.bel
      have HLE : Hid (∀ q, zs.length - k = q → ((q : Int) == 0) = false → q + k = L) := by
        intro q hq h0
        have := HZL.out
        rw [beq_eq_false_iff_ne] at h0
        omega
      clear hH HH
      have e1 : ((k : Int) == (k : Int)) = true := beq_self_eq_true _
      have hq : zs.length - k ≤ 500 := by have := HZL.out; omega
      generalize hT : ft zs k = t at *
      have HT : Hid (ft zs k = t) := hT
      clear hT
      have e2 : ((t : Int) == (t : Int)) = true := beq_self_eq_true _
      go_wp2_with fail
      refine (asked_any _ H1.out).mono ?_
      rintro e w' ⟨rfl, rfl⟩
      go_wp2_with fail
      refine (failed_any _ H1.out).mono ?_
      rintro e w' ⟨rfl, rfl⟩
      rw [HT.out]
      go_wp2_with fail
      refine (left_any _ H1.out).mono ?_
      rintro e w' ⟨rfl, rfl⟩
      generalize hQ : zs.length - k = q at *
      have HQ : Hid (zs.length - k = q) := hQ
      clear hQ
      by_cases hq0 : q = 0
      · subst hq0
        go_wp2_with fail
        refine (lives_any _).mono ?_
        rintro e w1 ⟨rfl, hb⟩
        go_wp2
        go_ret
        exact ⟨rfl, HB.out.trans (hb.mono HB.out.size)⟩
      · have hq1 : ((q : Int) == 0) = false := by rw [beq_eq_false_iff_ne]; omega
        have hq2 := HLE.out q rfl hq1
        have hq3 : ((q : Int) + (k : Int) == (L : Int)) = true := by rw [beq_iff_eq]; omega
        go_wp2_with fail
        refine (left_any _ H1.out).mono ?_
        rintro e w' ⟨rfl, rfl⟩
        rw [HQ.out]
        go_wp2_with fail
        refine (asked_any _ H1.out).mono ?_
        rintro e w' ⟨rfl, rfl⟩
        go_wp2_with fail
        refine (lives_any _).mono ?_
        rintro e w1 ⟨rfl, hb⟩
        go_wp2
        go_ret
        exact ⟨rfl, HB.out.trans (hb.mono HB.out.size)⟩

theorem walk {H : Type} {enc : TypeId × Value → H} {w : World} {base : Nat} {v0 v1 : Value} {d0 d1 : DataW H} {p0 p1 : List MemPlace}
    (o0 : Value.okWide Try.prog w .any base 22 v0) (o1 : Value.okWide Try.prog w .any base 5 v1)
    (h0 : DataW.Trod enc Try.prog w 0 (fun _ => true) true 22 v0 d0 p0) (h1 : DataW.Trod enc Try.prog w 0 (fun _ => true) true 5 v1 d1 p1) :
    Calls Try.prog 5 #[v0, v1] w fun e w' => e = .returned (.bool true) ∧ Below w.heap.size w w' := by
  obtain ⟨a, L, c, zs, rfl, hL, hz⟩ := openBools Try.underlying22 Try.underlying4 (by kernel_rfl) o0 h0
  obtain ⟨n, rfl, hm⟩ := openOne Try.underlying5 o1 h1
  have hb := bounds_u8 hm
  obtain ⟨n, rfl⟩ := Int.eq_ofNat_of_zero_le hb.1
  exact run a L c zs n w hL hz (by omega)

set_option maxRecDepth 100000 in
theorem lifted (os : Os) (started : os.Started) (H : Type) (enc : TypeId × Value → H) :
    ReturnsInHanded {} Try.checked os 5 .any (Rows.luckCountsSpec.pre6 enc Try.prog Try.f5 Rows.luckCountsRow.domain false) (Rows.luckCountsSpec.post enc Try.prog Try.f5 false true false false) := by
  refine returnsInHanded_of_change (C := Try.checked) own started (by kernel_rfl) Try.func5
    (ChangeSpec.witness6 (enc := enc) (C := Try.checked) false ⟨#[], #[.slice none 0 0, .int .u8 0], []⟩ 8 (by kernel_rfl) (by kernel_rfl) (by kernel_rfl) (by kernel_rfl)) ?_
  intro W base args ds gs before hval0 hW hcnd _
  have hval : ∀ (j : Nat) t v, Try.f5.params[j]? = some t → args[j]? = some v → Value.okWide Try.prog W .any base t v := hval0
  have hW' := hW
  obtain ⟨p, q, hA0, hV, rfl, hfz, hnd⟩ := hW
  have hA : DataW.TrodAll enc Try.prog W 0 (fun _ => true) true Try.f5.params.toList args.toList ds p := hA0
  rw [Try.params5] at hA hval
  obtain ⟨v0, vs0, d0, ds0, p0, q0, hargs, rfl, rfl, h0, r0⟩ := trodAll_cons hA
  obtain ⟨v1, vs1, d1, ds1, p1, q1, rfl, rfl, rfl, h1, r1⟩ := trodAll_cons r0
  obtain ⟨rfl, rfl, rfl⟩ := trodAll_nil r1
  obtain rfl : args = #[v0, v1] := by cases args; simp_all
  obtain ⟨rfl, rfl⟩ := trodVars_none hV
  have o0 := hval 0 22 v0 rfl rfl
  have lt0 : ∀ x ∈ p0, x.block < W.heap.size := by obtain ⟨m, hm⟩ := h0; exact DataW.trod_lt m _ _ _ hm
  have o1 := hval 1 5 v1 rfl rfl
  have lt1 : ∀ x ∈ p1, x.block < W.heap.size := by obtain ⟨m, hm⟩ := h1; exact DataW.trod_lt m _ _ _ hm
  clear hA0 hval0
  refine (walk o0 o1 h0 h1).mono fun e W' ⟨he, bel⟩ => ?_
  subst he
  exact ⟨_, rfl, _, _, _, [], _, [], hW', trodAll_mk1 (shut_bool Try.underlying4 _), (trodAll_cons_mk (Below.trod laidOut (by kernel_rfl) (of_decide_eq_true (by kernel_rfl)) h0 bel lt0) (trodAll_cons_mk (Below.trod laidOut (by kernel_rfl) (of_decide_eq_true (by kernel_rfl)) h1 bel lt1) trodAll_mk0)), rfl, bel.frame _, fun h => by cases h⟩

theorem over : Rows.luckCountsRow.holds Try.pinned (OpenSpec.ofChange Rows.luckCountsSpec) :=
  OpenClaim.holds_of_wide 5 Try.f5 rfl rfl rfl rfl rfl rfl rfl ⟨rfl, rfl, rfl, rfl, rfl⟩ rfl rfl rfl rfl rfl (by kernel_rfl) Try.func5 (by kernel_rfl)
    (of_decide_eq_true (by kernel_rfl)) (by unfold Func.isWrapper; first | (rw [if_pos (by decide +kernel)]; kernel_rfl) | (rw [if_neg (by decide +kernel)]; exact ⟨rfl, rfl⟩))
    (fun os started H enc _ => lifted os started H enc)
end Go.Proofs.Ytndeojiebpbgdaa.LuckCounts
namespace Go.Proofs.Ytndeojiebpbgdaa
/-- The statement. -/
theorem luckCounts_holds : Rows.LuckCountsSaid := LuckCounts.over
#print axioms luckCounts_holds
end Go.Proofs.Ytndeojiebpbgdaa
