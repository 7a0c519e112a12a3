/- Proved: gunnylaw12.MatchFinds returns true for all lists of bytes and all lists of ints: what is found at any places of any bytes, and how many bytes there are, is the document's; a finder that isn't there finds nothing. No conditions. -/
import Derived.Test.YtfecjihfddfehaaALives
import Derived.Test.YtfecjihfddfehaaARef
import Derived.Test.YtfecjihfddfehaaBOpen
import Derived.Test.YtfecjihfddfehaaGOpBy
namespace Go.Proofs.Ytfecjihfddfehaa.MatchFinds
open Go.ChangeShapes Go.WideShapes Go.ChangeAt Go.RowKit
set_option linter.unusedVariables false
theorem own : ownKnob Try.prog.godebug = none := by kernel_rfl
theorem laidOut : laidOutB Try.prog = true := by kernel_rfl
set_option maxRecDepth 100000 in
set_option maxHeartbeats 2000000 in
theorem run (p : Option Addr) (L c : Nat) (b : List Nat) (a : Option Addr) (n c2 : Nat) (zs : List Int) (w : World) (h : ByAt w p L c b) (hzl : zs.length = n) (hn : n ≤ maxLen) (hzs : IntsAt .i64 w a zs) :
    Calls Try.prog 3 #[.slice p L c, .slice a n c2] w fun e w' => e = .returned (.bool true) ∧ Below w.heap.size w w' := by
  have HA : Hid (ByAt w p L c b) := h
  have HZ : Hid (IntsAt .i64 w a zs) := hzs
  have HZL : Hid (zs.length = n) := hzl
  have hL := h.short
  unfold maxLen at hL hn
  clear h hzs hzl
  go_enter Try.func3, Try.ntmps3
  by_cases h5 : 5000 < L
  · have i1 : (5000 : Int) < (L : Int) := by omega
    go_wp2_with fail
    refine (lives_any _).mono ?_
    rintro e w1 ⟨rfl, hb⟩
    have HB : Hid (Below w.heap.size w w1) := hb
    clear hb
    go_wp2
    go_ret
    exact ⟨rfl, HB.out⟩
  have i1 : ¬ (5000 : Int) < (L : Int) := by omega
  by_cases h6 : 20 < n
  · have i2 : (20 : Int) < (n : Int) := by omega
    go_wp2_with fail
    refine (lives_any _).mono ?_
    rintro e w1 ⟨rfl, hb⟩
    have HB : Hid (Below w.heap.size w w1) := hb
    clear hb
    go_wp2
    go_ret
    exact ⟨rfl, HB.out⟩
  have i2 : ¬ (20 : Int) < (n : Int) := by omega
  obtain ⟨b', hb'⟩ : ∃ b', b.take 4096 = b' := ⟨_, rfl⟩
  have HBB : Hid (b.take 4096 = b') := hb'
  obtain ⟨l, hl⟩ : ∃ l, b'.length = l := ⟨_, rfl⟩
  have HLL : Hid (b'.length = l) := hl
  have hl4 : l ≤ 4096 := by rw [← hl, ← hb', List.length_take]; omega
  clear hb' hl
  go_wp2_with fail
  have hp := new_any _ HA.out
  rw [HBB.out] at hp
  refine Calls.mono hp ?_
  rintro e w1 ⟨v1, rfl, hf, b1⟩
  have HF : Hid (FinP w1 v1 b') := hf.fin
  have HB1 : Hid (Below w.heap.size w w1) := b1
  have HA1 : Hid (ByAt w1 p L c b) := HA.out.later b1
  clear hf b1 hp
  go_wp2_with fail
  have hc := cut_any _ HA1.out (by omega)
  rw [HBB.out, HLL.out] at hc
  refine Calls.mono hc ?_
  rintro e w' ⟨rfl, hy, rfl⟩
  have HY : Hid (ByAt w1 p l c b') := hy
  clear hy hc HA1
  go_wp2_with fail
  refine (len_is _ HF.out.has HLL.out).mono ?_
  rintro e w' ⟨rfl, rfl⟩
  go_wp2_with fail
  refine (len_is (b := []) _ (.inl ⟨rfl, rfl⟩) rfl).mono ?_
  rintro e w' ⟨rfl, rfl⟩
  go_wp2_with fail
  refine (with_is (b := []) (n := 0) _ (.inl ⟨rfl, rfl⟩) (by simp [withI])).mono ?_
  rintro e w2 ⟨rfl, m, rfl⟩
  have HB2 : Hid (Below w.heap.size w (w1.drewN m)) := HB1.out.trans (drewN_below _ _ _)
  have HF2 : Hid (FinP (w1.drewN m) v1 b') := HF.out.later (drewN_below _ _ _)
  have HY2 : Hid (ByAt (w1.drewN m) p l c b') := HY.out.later (drewN_below _ _ _)
  generalize w1.drewN m = w2 at *
  clear HB1 HF HY
  go_wp2
  go_loopg [8] n (fun gk i wr => ∃ (k m : Nat), k ≤ n ∧ gk = n - k ∧ i = .int .i64 k ∧ wr = w2.drewN m)
  case atStart => exact ⟨0, 0, Nat.zero_le _, rfl, rfl, rfl⟩
  case round =>
    obtain ⟨k, m, hk, rfl, rfl, rfl⟩ := hrel
    by_cases hlt : k < n
    · have i3 : (k : Int) < (n : Int) := by omega
      have HBR : Hid (∀ m, Below w.heap.size w (w2.drewN m)) := fun m => HB2.out.trans (drewN_below _ _ _)
      have HFR : Hid (∀ m, FinP (w2.drewN m) v1 b') := fun m => HF2.out.later (drewN_below _ _ _)
      have HYR : Hid (∀ m, ByAt (w2.drewN m) p l c b') := fun m => HY2.out.later (drewN_below _ _ _)
      obtain ⟨g, off, rfl, hc⟩ := HZ.out.later HB2.out (i := k) (by rw [HZL.out]; exact hlt)
      obtain ⟨z, hz⟩ : ∃ z, zs.getD k 0 = z := ⟨_, rfl⟩
      rw [hz] at hc
      obtain ⟨r, d, hrd⟩ : ∃ r d, findI b' z = (r, d) := ⟨_, _, rfl⟩
      have HRD : Hid (findI b' z = (r, d)) := hrd
      clear hz hrd
      go_wp2_with fail
      refine (find_is _ (HFR.out _) HRD.out).mono ?_
      rintro e w' ⟨rfl, m1, rfl⟩
      go_wp2_with fail
      refine (refFind_is _ (HYR.out _) hl4 HRD.out).mono ?_
      rintro e w' ⟨rfl, m2, rfl⟩
      go_wp2_with fail
      refine (find_is (b := []) _ (.inl ⟨rfl, rfl⟩) (find_nil _)).mono ?_
      rintro e w' ⟨rfl, m3, rfl⟩
      go_wp2
      go_roundg (n - (k + 1))
      case measure => omega
      case rel => exact ⟨k + 1, _, by omega, rfl, by go_num, rfl⟩
    · obtain rfl : k = n := by omega
      have HBR : Hid (Below w.heap.size w (w2.drewN m)) := HB2.out.trans (drewN_below _ _ _)
      go_wp2_with fail
      refine (lives_any _).mono ?_
      rintro e w4 ⟨rfl, b4⟩
      have HB4 : Hid (Below w.heap.size w w4) := HBR.out.trans (b4.mono HBR.out.size)
      clear b4
      go_wp2
      go_ret
      exact ⟨rfl, HB4.out⟩

theorem walk {H : Type} {enc : TypeId × Value → H} {w : World} {base : Nat} {v0 v1 : Value} {d0 d1 : DataW H} {p0 p1 : List MemPlace}
    (o0 : Value.okWide Try.prog w .any base 22 v0)
    (o1 : Value.okWide Try.prog w .any base 23 v1)
    (h0 : DataW.Trod enc Try.prog w 0 (fun _ => true) true 22 v0 d0 p0)
    (h1 : DataW.Trod enc Try.prog w 0 (fun _ => true) true 23 v1 d1 p1) :
    Calls Try.prog 3 #[v0, v1] w fun e w' => e = .returned (.bool true) ∧ Below w.heap.size w w' := by
  obtain ⟨p, L, c, b, rfl, hb⟩ := openBy Try.underlying22 Try.underlying5 (by kernel_rfl) o0 h0
  obtain ⟨a, n, c2, zs, rfl, hzl, hn, hz, _⟩ := openList Try.underlying23 Try.underlying3 (by kernel_rfl) o1 h1
  exact run p L c b a n c2 zs w hb hzl hn hz

set_option maxRecDepth 100000 in
theorem lifted (os : Os) (started : os.Started) (H : Type) (enc : TypeId × Value → H) :
    ReturnsInHanded {} Try.checked os 3 .any (Rows.matchFindsSpec.pre6 enc Try.prog Try.f3 Rows.matchFindsRow.domain false) (Rows.matchFindsSpec.post enc Try.prog Try.f3 false true false false) := by
  refine returnsInHanded_of_change (C := Try.checked) own started (by kernel_rfl) Try.func3
    (ChangeSpec.witness6 (enc := enc) (C := Try.checked) false ⟨#[], #[.slice none 0 0, .slice none 0 0], []⟩ 8 (by kernel_rfl) (by kernel_rfl) (by kernel_rfl) (by kernel_rfl)) ?_
  intro W base args ds gs before hval0 hW hcnd _
  have hval : ∀ (j : Nat) t v, Try.f3.params[j]? = some t → args[j]? = some v → Value.okWide Try.prog W .any base t v := hval0
  have hW' := hW
  obtain ⟨p, q, hA0, hV, rfl, hfz, hnd⟩ := hW
  have hA : DataW.TrodAll enc Try.prog W 0 (fun _ => true) true Try.f3.params.toList args.toList ds p := hA0
  rw [Try.params3] at hA hval
  obtain ⟨v0, vs0, d0, ds0, p0, q0, hargs, rfl, rfl, h0, r0⟩ := trodAll_cons hA
  obtain ⟨v1, vs1, d1, ds1, p1, q1, rfl, rfl, rfl, h1, r1⟩ := trodAll_cons r0
  obtain ⟨rfl, rfl, rfl⟩ := trodAll_nil r1
  obtain rfl : args = #[v0, v1] := by cases args; simp_all
  obtain ⟨rfl, rfl⟩ := trodVars_none hV
  have o0 := hval 0 22 v0 rfl rfl
  have lt0 : ∀ x ∈ p0, x.block < W.heap.size := by obtain ⟨m, hm⟩ := h0; exact DataW.trod_lt m _ _ _ hm
  have o1 := hval 1 23 v1 rfl rfl
  have lt1 : ∀ x ∈ p1, x.block < W.heap.size := by obtain ⟨m, hm⟩ := h1; exact DataW.trod_lt m _ _ _ hm
  clear hA0 hval0
  refine (walk o0 o1 h0 h1).mono fun e W' ⟨he, bel⟩ => ?_
  subst he
  exact ⟨_, rfl, _, _, _, [], _, [], hW', trodAll_mk1 (shut_bool Try.underlying4 _), (trodAll_cons_mk (Below.trod laidOut (by kernel_rfl) (of_decide_eq_true (by kernel_rfl)) h0 bel lt0) (trodAll_cons_mk (Below.trod laidOut (by kernel_rfl) (of_decide_eq_true (by kernel_rfl)) h1 bel lt1) trodAll_mk0)), rfl, bel.frame _, fun h => by cases h⟩

theorem over : Rows.matchFindsRow.holds Try.pinned (OpenSpec.ofChange Rows.matchFindsSpec) :=
  OpenClaim.holds_of_wide 3 Try.f3 rfl rfl rfl rfl rfl rfl rfl ⟨rfl, rfl, rfl, rfl, rfl⟩ rfl rfl rfl rfl rfl (by kernel_rfl) Try.func3 (by kernel_rfl)
    (of_decide_eq_true (by kernel_rfl)) (by unfold Func.isWrapper; first | (rw [if_pos (by decide +kernel)]; kernel_rfl) | (rw [if_neg (by decide +kernel)]; exact ⟨rfl, rfl⟩))
    (fun os started H enc _ => lifted os started H enc)
end Go.Proofs.Ytfecjihfddfehaa.MatchFinds
namespace Go.Proofs.Ytfecjihfddfehaa
/-- The statement. -/
theorem matchFinds_holds : Rows.MatchFindsSaid := MatchFinds.over
#print axioms matchFinds_holds
end Go.Proofs.Ytfecjihfddfehaa
