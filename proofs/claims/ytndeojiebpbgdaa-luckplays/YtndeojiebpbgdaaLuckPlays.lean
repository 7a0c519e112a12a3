/- Proved: gunnylaw07.LuckPlays returns true for all lists of bools and all bytes: which of any accesses fail, how many were asked for, failed, and are left behind each, is the document's; luck that isn't there lets nothing fail. No conditions. -/
import Derived.Test.YtndeojiebpbgdaaLLives
import Derived.Test.YtndeojiebpbgdaaLRef
namespace Go.Proofs.Ytndeojiebpbgdaa.LuckPlays
open Go.ChangeShapes Go.WideShapes Go.ChangeAt Go.RowKit
set_option linter.unusedVariables false
theorem own : ownKnob Try.prog.godebug = none := by kernel_rfl
theorem laidOut : laidOutB Try.prog = true := by kernel_rfl
/-- A round's state. -/
structure Held (w wr : World) (E b : Nat) (zs : List Bool) (k : Nat) : Prop where
  at_ : LuckAt w.heap.size E wr b zs k
  bel : Below w.heap.size w wr

set_option maxRecDepth 100000 in
set_option maxHeartbeats 4000000 in
theorem run (a : Option Addr) (L c : Nat) (zs : List Bool) (n : Nat) (w : World) (hL : L ≤ maxLen) (hz : BoolsAt w a L c zs) (hn : n < 256) :
    Calls Try.prog 3 #[.slice a L c, .int .u8 (n : Nat)] w fun e w' => e = .returned (.bool true) ∧ Below w.heap.size w w' := by
  unfold maxLen at hL
  by_cases hlong : 500 < L
  · go_enter Try.func3, Try.ntmps3
    go_wp2_with fail
    refine (fails_nil _).mono ?_
    rintro e w' ⟨rfl, rfl⟩
    go_wp2_with fail
    refine (asked_nil _).mono ?_
    rintro e w' ⟨rfl, rfl⟩
    go_wp2_with fail
    refine (failed_nil _).mono ?_
    rintro e w' ⟨rfl, rfl⟩
    go_wp2_with fail
    refine (left_nil _).mono ?_
    rintro e w' ⟨rfl, rfl⟩
    go_wp2_with fail
    refine (lives_any _).mono ?_
    rintro e w1 ⟨rfl, hb⟩
    go_wp2
    go_ret
    exact ⟨rfl, hb⟩
  have HZ : Hid (BoolsAt w a L c zs) := hz
  have HZL : Hid (zs.length = L) := hz.1
  clear hz
  go_enter Try.func3, Try.ntmps3
  go_wp2_with fail
  refine (fails_nil _).mono ?_
  rintro e w' ⟨rfl, rfl⟩
  go_wp2_with fail
  refine (asked_nil _).mono ?_
  rintro e w' ⟨rfl, rfl⟩
  go_wp2_with fail
  refine (failed_nil _).mono ?_
  rintro e w' ⟨rfl, rfl⟩
  go_wp2_with fail
  refine (left_nil _).mono ?_
  rintro e w' ⟨rfl, rfl⟩
  go_wp2_with fail
  refine (new_any _ HZ.out (by omega)).mono ?_
  rintro e w1 ⟨b, rfl, h1, b1⟩
  have HH : Hid (Held w w1 w1.heap.size b zs 0) := ⟨h1, b1⟩
  clear h1 b1
  generalize w1.heap.size = E at *
  go_wp2_with fail
  go_loopw [7] (fun i wr => ∃ k : Nat, k ≤ n ∧ i = .int .i64 k ∧ Held w wr E b zs k) (fun i _ => n - (intOf i).toNat)
  case atStart => exact ⟨0, Nat.zero_le _, rfl, HH.out⟩
  case round =>
    obtain ⟨k, hk, rfl, hH⟩ := hrel
    have hfl := ft_le zs k
    have H1 : Hid (LuckAt w.heap.size E wr b zs k) := hH.at_
    have HB : Hid (Below w.heap.size w wr) := hH.bel
    clear hH HH
    by_cases hlt : k < n
    · obtain ⟨q, hq⟩ : ∃ q, zs.length - k = q := ⟨_, rfl⟩
      have HQ : Hid (zs.length - k = q) := hq
      have hmax : ∀ (ts : Array TypeId) (t : TypeId) (w : World), (Builtin.max_ ts t #[.int .i64 0, .int .i64 ((L : Int) - (k : Int))]).run Try.prog w = .ok (.int .i64 (q : Int)) w := by
        intro ts t w
        have := HZL.out
        rw [run_max_int2]
        congr 2
        split <;> omega
      obtain ⟨t, ht⟩ : ∃ t, ft zs k = t := ⟨_, rfl⟩
      have HT : Hid (ft zs k = t) := ht
      obtain ⟨y, hy⟩ : ∃ y, fa zs k = y := ⟨_, rfl⟩
      have HY : Hid (fa zs k = y) := hy
      have e1 : ((k : Int) != (k : Int)) = false := by simp
      have e2 : ((t : Int) != (t : Int)) = false := by simp
      have e3 : ((q : Int) != (q : Int)) = false := by simp
      clear hq ht hy
      go_wp2_with fail
      refine (asked_any _ H1.out).mono ?_
      rintro e w' ⟨rfl, rfl⟩
      go_wp2_with fail
      refine (failed_any _ H1.out).mono ?_
      rintro e w' ⟨rfl, rfl⟩
      rw [HT.out]
      go_wp2_with fail
      refine (refFailed_is _ _ (HZ.out.below HB.out) (by omega) (by omega) HT.out).mono ?_
      rintro e w' ⟨rfl, rfl⟩
      go_wp2_with fail
      refine (left_any _ H1.out).mono ?_
      rintro e w' ⟨rfl, rfl⟩
      rw [HQ.out]
      go_wp2_with fail
      refine (fails_is _ H1.out (by omega) HY.out).mono ?_
      rintro e w2 ⟨rfl, h2, t2⟩
      have H2 : Hid (Held w w2 E b zs (k + 1)) := ⟨h2, HB.out.trans (t2.below HB.out.size)⟩
      clear h2 t2
      go_wp2_with fail
      refine (refFails_any _ _ (HZ.out.below H2.out.bel)).mono ?_
      rintro e w' ⟨rfl, rfl⟩
      rw [HY.out]
      cases y
      all_goals
        go_wp2
        go_roundw
        case rel => exact ⟨k + 1, by omega, by go_num, H2.out⟩
        case measure => simp [intOf]; omega
    · go_wp2_with fail
      refine (lives_any _).mono ?_
      rintro e w1 ⟨rfl, hb⟩
      go_wp2
      go_ret
      exact ⟨rfl, HB.out.trans (hb.mono HB.out.size)⟩

theorem walk {H : Type} {enc : TypeId × Value → H} {w : World} {base : Nat} {v0 v1 : Value} {d0 d1 : DataW H} {p0 p1 : List MemPlace}
    (o0 : Value.okWide Try.prog w .any base 22 v0) (o1 : Value.okWide Try.prog w .any base 5 v1)
    (h0 : DataW.Trod enc Try.prog w 0 (fun _ => true) true 22 v0 d0 p0) (h1 : DataW.Trod enc Try.prog w 0 (fun _ => true) true 5 v1 d1 p1) :
    Calls Try.prog 3 #[v0, v1] w fun e w' => e = .returned (.bool true) ∧ Below w.heap.size w w' := by
  obtain ⟨a, L, c, zs, rfl, hL, hz⟩ := openBools Try.underlying22 Try.underlying4 (by kernel_rfl) o0 h0
  obtain ⟨n, rfl, hm⟩ := openOne Try.underlying5 o1 h1
  have hb := bounds_u8 hm
  obtain ⟨n, rfl⟩ := Int.eq_ofNat_of_zero_le hb.1
  exact run a L c zs n w hL hz (by omega)

set_option maxRecDepth 100000 in
theorem lifted (os : Os) (started : os.Started) (H : Type) (enc : TypeId × Value → H) :
    ReturnsInHanded {} Try.checked os 3 .any (Rows.luckPlaysSpec.pre6 enc Try.prog Try.f3 Rows.luckPlaysRow.domain false) (Rows.luckPlaysSpec.post enc Try.prog Try.f3 false true false false) := by
  refine returnsInHanded_of_change (C := Try.checked) own started (by kernel_rfl) Try.func3
    (ChangeSpec.witness6 (enc := enc) (C := Try.checked) false ⟨#[], #[.slice none 0 0, .int .u8 0], []⟩ 8 (by kernel_rfl) (by kernel_rfl) (by kernel_rfl) (by kernel_rfl)) ?_
  intro W base args ds gs before hval0 hW hcnd _
  have hval : ∀ (j : Nat) t v, Try.f3.params[j]? = some t → args[j]? = some v → Value.okWide Try.prog W .any base t v := hval0
  have hW' := hW
  obtain ⟨p, q, hA0, hV, rfl, hfz, hnd⟩ := hW
  have hA : DataW.TrodAll enc Try.prog W 0 (fun _ => true) true Try.f3.params.toList args.toList ds p := hA0
  rw [Try.params3] at hA hval
  obtain ⟨v0, vs0, d0, ds0, p0, q0, hargs, rfl, rfl, h0, r0⟩ := trodAll_cons hA
  obtain ⟨v1, vs1, d1, ds1, p1, q1, rfl, rfl, rfl, h1, r1⟩ := trodAll_cons r0
  obtain ⟨rfl, rfl, rfl⟩ := trodAll_nil r1
  obtain rfl : args = #[v0, v1] := by cases args; simp_all
  obtain ⟨rfl, rfl⟩ := trodVars_none hV
  have o0 := hval 0 22 v0 rfl rfl
  have lt0 : ∀ x ∈ p0, x.block < W.heap.size := by obtain ⟨m, hm⟩ := h0; exact DataW.trod_lt m _ _ _ hm
  have o1 := hval 1 5 v1 rfl rfl
  have lt1 : ∀ x ∈ p1, x.block < W.heap.size := by obtain ⟨m, hm⟩ := h1; exact DataW.trod_lt m _ _ _ hm
  clear hA0 hval0
  refine (walk o0 o1 h0 h1).mono fun e W' ⟨he, bel⟩ => ?_
  subst he
  exact ⟨_, rfl, _, _, _, [], _, [], hW', trodAll_mk1 (shut_bool Try.underlying4 _), (trodAll_cons_mk (Below.trod laidOut (by kernel_rfl) (of_decide_eq_true (by kernel_rfl)) h0 bel lt0) (trodAll_cons_mk (Below.trod laidOut (by kernel_rfl) (of_decide_eq_true (by kernel_rfl)) h1 bel lt1) trodAll_mk0)), rfl, bel.frame _, fun h => by cases h⟩

theorem over : Rows.luckPlaysRow.holds Try.pinned (OpenSpec.ofChange Rows.luckPlaysSpec) :=
  OpenClaim.holds_of_wide 3 Try.f3 rfl rfl rfl rfl rfl rfl rfl ⟨rfl, rfl, rfl, rfl, rfl⟩ rfl rfl rfl rfl rfl (by kernel_rfl) Try.func3 (by kernel_rfl)
    (of_decide_eq_true (by kernel_rfl)) (by unfold Func.isWrapper; first | (rw [if_pos (by decide +kernel)]; kernel_rfl) | (rw [if_neg (by decide +kernel)]; exact ⟨rfl, rfl⟩))
    (fun os started H enc _ => lifted os started H enc)
end Go.Proofs.Ytndeojiebpbgdaa.LuckPlays
namespace Go.Proofs.Ytndeojiebpbgdaa
/-- The statement. -/
theorem luckPlays_holds : Rows.LuckPlaysSaid := LuckPlays.over
#print axioms luckPlays_holds
end Go.Proofs.Ytndeojiebpbgdaa
