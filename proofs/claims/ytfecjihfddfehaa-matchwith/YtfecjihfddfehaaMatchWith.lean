/- Proved: gunnylaw12.MatchWith returns true for all lists of bytes and all two ints: how many bytes are the same from any two places on is the document's. No conditions. -/
import Derived.Test.YtfecjihfddfehaaALives
import Derived.Test.YtfecjihfddfehaaARef
import Derived.Test.YtfecjihfddfehaaBOpen
import Derived.Test.YtfecjihfddfehaaGOpBy
namespace Go.Proofs.Ytfecjihfddfehaa.MatchWith
open Go.ChangeShapes Go.WideShapes Go.ChangeAt Go.RowKit
set_option linter.unusedVariables false
theorem own : ownKnob Try.prog.godebug = none := by kernel_rfl
theorem laidOut : laidOutB Try.prog = true := by kernel_rfl
set_option maxRecDepth 100000 in
set_option maxHeartbeats 1000000 in
theorem run (p : Option Addr) (L c : Nat) (b : List Nat) (I J : Int) (w : World) (h : ByAt w p L c b) :
    Calls Try.prog 4 #[.slice p L c, .int .i64 I, .int .i64 J] w fun e w' => e = .returned (.bool true) ∧ Below w.heap.size w w' := by
  have HA : Hid (ByAt w p L c b) := h
  have hL := h.short
  unfold maxLen at hL
  clear h
  go_enter Try.func4, Try.ntmps4
  by_cases h5 : 5000 < L
  · have i1 : (5000 : Int) < (L : Int) := by omega
    go_wp2_with fail
    refine (lives_any _).mono ?_
    rintro e w1 ⟨rfl, hb⟩
    have HB : Hid (Below w.heap.size w w1) := hb
    clear hb
    go_wp2
    go_ret
    exact ⟨rfl, HB.out⟩
  have i1 : ¬ (5000 : Int) < (L : Int) := by omega
  obtain ⟨b', hb'⟩ : ∃ b', b.take 4096 = b' := ⟨_, rfl⟩
  have HBB : Hid (b.take 4096 = b') := hb'
  have hl4 : b'.length ≤ 4096 := by rw [← hb', List.length_take]; omega
  obtain ⟨s, hs⟩ : ∃ s, withI b' I J = s := ⟨_, rfl⟩
  have HS : Hid (withI b' I J = s) := hs
  clear hb' hs
  go_wp2_with fail
  have hp := new_any _ HA.out
  rw [HBB.out] at hp
  refine Calls.mono hp ?_
  rintro e w1 ⟨v1, rfl, hf, b1⟩
  have HF : Hid (HasB w1 v1 b') := hf.fin.has
  have HB1 : Hid (Below w.heap.size w w1) := b1
  clear hf b1 hp
  go_wp2_with fail
  refine (with_is _ HF.out HS.out).mono ?_
  rintro e w2 ⟨rfl, m, rfl⟩
  have HB2 : Hid (Below w.heap.size w (w1.drewN m)) := HB1.out.trans (drewN_below _ _ _)
  generalize w1.drewN m = w2 at *
  have HA2 : Hid (ByAt w2 p L c b) := HA.out.later HB2.out
  clear HF HB1
  go_wp2_with fail
  have hc := cut_any _ HA2.out (by omega)
  rw [HBB.out] at hc
  refine Calls.mono hc ?_
  rintro e w' ⟨rfl, hy, rfl⟩
  have HY : Hid (ByAt w2 p b'.length c b') := hy
  generalize b'.length = l at *
  clear hy hc
  go_wp2_with fail
  refine (refWith_is _ HY.out hl4 HS.out).mono ?_
  rintro e w3 ⟨rfl, m3, rfl⟩
  have HB3 : Hid (Below w.heap.size w (w2.drewN m3)) := HB2.out.trans (drewN_below _ _ _)
  generalize w2.drewN m3 = w3 at *
  clear HY HB2 HA2
  go_wp2_with fail
  refine (lives_any _).mono ?_
  rintro e w4 ⟨rfl, b4⟩
  have HB4 : Hid (Below w.heap.size w w4) := HB3.out.trans (b4.mono HB3.out.size)
  clear b4
  go_wp2
  go_ret
  exact ⟨rfl, HB4.out⟩

theorem walk {H : Type} {enc : TypeId × Value → H} {w : World} {base : Nat} {v0 v1 v2 : Value} {d0 d1 d2 : DataW H} {p0 p1 p2 : List MemPlace}
    (o0 : Value.okWide Try.prog w .any base 22 v0)
    (o1 : Value.okWide Try.prog w .any base 3 v1)
    (o2 : Value.okWide Try.prog w .any base 3 v2)
    (h0 : DataW.Trod enc Try.prog w 0 (fun _ => true) true 22 v0 d0 p0)
    (h1 : DataW.Trod enc Try.prog w 0 (fun _ => true) true 3 v1 d1 p1)
    (h2 : DataW.Trod enc Try.prog w 0 (fun _ => true) true 3 v2 d2 p2) :
    Calls Try.prog 4 #[v0, v1, v2] w fun e w' => e = .returned (.bool true) ∧ Below w.heap.size w w' := by
  obtain ⟨p, L, c, b, rfl, hb⟩ := openBy Try.underlying22 Try.underlying5 (by kernel_rfl) o0 h0
  obtain ⟨x, rfl, _⟩ := openOne Try.underlying3 o1 h1
  obtain ⟨y, rfl, _⟩ := openOne Try.underlying3 o2 h2
  exact run p L c b x y w hb

set_option maxRecDepth 100000 in
theorem lifted (os : Os) (started : os.Started) (H : Type) (enc : TypeId × Value → H) :
    ReturnsInHanded {} Try.checked os 4 .any (Rows.matchWithSpec.pre6 enc Try.prog Try.f4 Rows.matchWithRow.domain false) (Rows.matchWithSpec.post enc Try.prog Try.f4 false true false false) := by
  refine returnsInHanded_of_change (C := Try.checked) own started (by kernel_rfl) Try.func4
    (ChangeSpec.witness6 (enc := enc) (C := Try.checked) false ⟨#[], #[.slice none 0 0, .int .i64 0, .int .i64 0], []⟩ 8 (by kernel_rfl) (by kernel_rfl) (by kernel_rfl) (by kernel_rfl)) ?_
  intro W base args ds gs before hval0 hW hcnd _
  have hval : ∀ (j : Nat) t v, Try.f4.params[j]? = some t → args[j]? = some v → Value.okWide Try.prog W .any base t v := hval0
  have hW' := hW
  obtain ⟨p, q, hA0, hV, rfl, hfz, hnd⟩ := hW
  have hA : DataW.TrodAll enc Try.prog W 0 (fun _ => true) true Try.f4.params.toList args.toList ds p := hA0
  rw [Try.params4] at hA hval
  obtain ⟨v0, vs0, d0, ds0, p0, q0, hargs, rfl, rfl, h0, r0⟩ := trodAll_cons hA
  obtain ⟨v1, vs1, d1, ds1, p1, q1, rfl, rfl, rfl, h1, r1⟩ := trodAll_cons r0
  obtain ⟨v2, vs2, d2, ds2, p2, q2, rfl, rfl, rfl, h2, r2⟩ := trodAll_cons r1
  obtain ⟨rfl, rfl, rfl⟩ := trodAll_nil r2
  obtain rfl : args = #[v0, v1, v2] := by cases args; simp_all
  obtain ⟨rfl, rfl⟩ := trodVars_none hV
  have o0 := hval 0 22 v0 rfl rfl
  have lt0 : ∀ x ∈ p0, x.block < W.heap.size := by obtain ⟨m, hm⟩ := h0; exact DataW.trod_lt m _ _ _ hm
  have o1 := hval 1 3 v1 rfl rfl
  have lt1 : ∀ x ∈ p1, x.block < W.heap.size := by obtain ⟨m, hm⟩ := h1; exact DataW.trod_lt m _ _ _ hm
  have o2 := hval 2 3 v2 rfl rfl
  have lt2 : ∀ x ∈ p2, x.block < W.heap.size := by obtain ⟨m, hm⟩ := h2; exact DataW.trod_lt m _ _ _ hm
  clear hA0 hval0
  refine (walk o0 o1 o2 h0 h1 h2).mono fun e W' ⟨he, bel⟩ => ?_
  subst he
  exact ⟨_, rfl, _, _, _, [], _, [], hW', trodAll_mk1 (shut_bool Try.underlying4 _), (trodAll_cons_mk (Below.trod laidOut (by kernel_rfl) (of_decide_eq_true (by kernel_rfl)) h0 bel lt0) (trodAll_cons_mk (Below.trod laidOut (by kernel_rfl) (of_decide_eq_true (by kernel_rfl)) h1 bel lt1) (trodAll_cons_mk (Below.trod laidOut (by kernel_rfl) (of_decide_eq_true (by kernel_rfl)) h2 bel lt2) trodAll_mk0))), rfl, bel.frame _, fun h => by cases h⟩

theorem over : Rows.matchWithRow.holds Try.pinned (OpenSpec.ofChange Rows.matchWithSpec) :=
  OpenClaim.holds_of_wide 4 Try.f4 rfl rfl rfl rfl rfl rfl rfl ⟨rfl, rfl, rfl, rfl, rfl⟩ rfl rfl rfl rfl rfl (by kernel_rfl) Try.func4 (by kernel_rfl)
    (of_decide_eq_true (by kernel_rfl)) (by unfold Func.isWrapper; first | (rw [if_pos (by decide +kernel)]; kernel_rfl) | (rw [if_neg (by decide +kernel)]; exact ⟨rfl, rfl⟩))
    (fun os started H enc _ => lifted os started H enc)
end Go.Proofs.Ytfecjihfddfehaa.MatchWith
namespace Go.Proofs.Ytfecjihfddfehaa
/-- The statement. -/
theorem matchWith_holds : Rows.MatchWithSaid := MatchWith.over
#print axioms matchWith_holds
end Go.Proofs.Ytfecjihfddfehaa
