/- Proved: gunnylaw11.TokenTakes returns true for all lists of bytes and all ints: the token at any place of any bytes, where it ends, or why there is none, is the document's. No conditions. -/
import Derived.Test.YtdnmkbncdiggfaaKLives
import Derived.Test.YtdnmkbncdiggfaaKTakeC
import Derived.Test.YtdnmkbncdiggfaaKRefT
import Derived.Test.YtdnmkbncdiggfaaKOpen
namespace Go.Proofs.Ytdnmkbncdiggfaa.TokenTakes
open Go.ChangeShapes Go.WideShapes Go.ChangeAt Go.RowKit
set_option linter.unusedVariables false
theorem own : ownKnob Try.prog.godebug = none := by kernel_rfl
theorem laidOut : laidOutB Try.prog = true := by kernel_rfl
set_option maxRecDepth 100000 in
set_option maxHeartbeats 2000000 in
theorem run (p : Option Addr) (L c : Nat) (b : List Nat) (I : Int) (w : World) (h : ByAt w p L c b) :
    Calls Try.prog 4 #[.slice p L c, .int .i64 I] w fun e w' => e = .returned (.bool true) ∧ Below w.heap.size w w' := by
  have HA : Hid (ByAt w p L c b) := h
  have hL := h.short
  unfold maxLen at hL
  clear h
  go_enter Try.func4, Try.ntmps4
  by_cases h5 : 1000 < L
  · have i1 : (1000 : Int) < (L : Int) := by omega
    go_wp2_with fail
    refine (lives_any _).mono ?_
    rintro e w1 ⟨rfl, hb⟩
    have HB : Hid (Below w.heap.size w w1) := hb
    clear hb
    go_wp2
    go_ret
    exact ⟨rfl, HB.out⟩
  have i1 : ¬ (1000 : Int) < (L : Int) := by omega
  go_wp2_with fail
  obtain ⟨A, hA⟩ : ∃ A, takeA b I = A := ⟨_, rfl⟩
  have HE : Hid (takeA b I = A) := hA
  clear hA
  refine (take_is I _ HA.out (by omega) HE.out).mono ?_
  rintro e w1 ⟨p1, l1, c1, rfl, own1, h8, b1⟩
  have HB1 : Hid (Below w.heap.size w w1) := b1
  have HY1 : Hid (ByAt w1 p1 l1 c1 A.b) := by_own own1 h8
  clear own1 h8 b1
  go_wp2_with fail
  have hb2 : Below w1.heap.size w1 (w1.alloc (.cells #[.slice p1 l1 c1, .int .i64 (A.n : Nat), .int .i64 (A.d : Nat)] 27)) := (Below.refl _ _).alloc (Nat.le_refl _) _
  have hx2 := heap_alloc_new w1 (.cells #[.slice p1 l1 c1, .int .i64 (A.n : Nat), .int .i64 (A.d : Nat)] 27)
  have HX2 : Hid _ := hx2
  have HB2 : Hid (Below w.heap.size w _) := HB1.out.trans (hb2.mono HB1.out.size)
  have HY2 : Hid (ByAt _ p1 l1 c1 A.b) := HY1.out.later hb2
  have HA2 : Hid (ByAt _ p L c b) := HA.out.later HB2.out
  clear hb2 hx2
  generalize w1.alloc (.cells #[.slice p1 l1 c1, .int .i64 (A.n : Nat), .int .i64 (A.d : Nat)] 27) = w2 at *
  generalize w1.heap.size = g1 at *
  have hT := refTake_any I _ HA2.out (by omega)
  rw [HE.out] at hT
  refine Calls.mono hT ?_
  rintro e w3 ⟨p3, l3, c3, rfl, by3, b3⟩
  have hx3 := (b3.block g1 (Array.getElem?_eq_some_iff.1 HX2.out).1).trans HX2.out
  have HB3 : Hid (Below w.heap.size w w3) := HB2.out.trans (b3.mono HB2.out.size)
  have HY3 : Hid (ByAt w3 p1 l1 c1 A.b) := HY2.out.later b3
  have HZ3 : Hid (ByAt w3 p3 l3 c3 A.b) := by3
  have hg1 : g1 < w3.heap.size := (Array.getElem?_eq_some_iff.1 hx3).1
  have hg2 : g1 ≠ w3.heap.size := by omega
  obtain ⟨d0, d1, d2⟩ := three_cells hx3
  have hb4 : Below w3.heap.size w3 (w3.alloc (.cells #[.slice p3 l3 c3, .int .i64 (A.n : Nat), .int .i64 (A.d : Nat)] 28)) := (Below.refl _ _).alloc (Nat.le_refl _) _
  have HB4 : Hid (Below w.heap.size w _) := HB3.out.trans (hb4.mono HB3.out.size)
  have HY4 : Hid (ByAt _ p1 l1 c1 A.b) := HY3.out.later hb4
  have HZ4 : Hid (ByAt _ p3 l3 c3 A.b) := HZ3.out.later hb4
  clear hb4 hx3 by3 b3 hT
  go_wp2_with fail
  refine (refSame_any _ HY4.out HZ4.out).mono ?_
  rintro e w5 ⟨rfl, b5⟩
  have HB5 : Hid (Below w.heap.size w w5) := HB4.out.trans (b5.mono HB4.out.size)
  clear b5 d0 d1 d2 HB4 HY4 HZ4 HY3 HZ3 HB3
  go_wp2_with fail
  refine (lives_any _).mono ?_
  rintro e w6 ⟨rfl, b6⟩
  have HB6 : Hid (Below w.heap.size w w6) := HB5.out.trans (b6.mono HB5.out.size)
  clear b6
  go_wp2
  go_ret
  exact ⟨rfl, HB6.out⟩

theorem walk {H : Type} {enc : TypeId × Value → H} {w : World} {base : Nat} {v0 v1 : Value} {d0 d1 : DataW H} {p0 p1 : List MemPlace}
    (o0 : Value.okWide Try.prog w .any base 24 v0)
    (o1 : Value.okWide Try.prog w .any base 3 v1)
    (h0 : DataW.Trod enc Try.prog w 0 (fun _ => true) true 24 v0 d0 p0)
    (h1 : DataW.Trod enc Try.prog w 0 (fun _ => true) true 3 v1 d1 p1) :
    Calls Try.prog 4 #[v0, v1] w fun e w' => e = .returned (.bool true) ∧ Below w.heap.size w w' := by
  obtain ⟨p, L, c, b, rfl, hb⟩ := openBy Try.underlying24 Try.underlying5 (by kernel_rfl) o0 h0
  obtain ⟨x, rfl, _⟩ := openOne Try.underlying3 o1 h1
  exact run p L c b x w hb

set_option maxRecDepth 100000 in
theorem lifted (os : Os) (started : os.Started) (H : Type) (enc : TypeId × Value → H) :
    ReturnsInHanded {} Try.checked os 4 .any (Rows.tokenTakesSpec.pre6 enc Try.prog Try.f4 Rows.tokenTakesRow.domain false) (Rows.tokenTakesSpec.post enc Try.prog Try.f4 false true false false) := by
  refine returnsInHanded_of_change (C := Try.checked) own started (by kernel_rfl) Try.func4
    (ChangeSpec.witness6 (enc := enc) (C := Try.checked) false ⟨#[], #[.slice none 0 0, .int .i64 0], []⟩ 8 (by kernel_rfl) (by kernel_rfl) (by kernel_rfl) (by kernel_rfl)) ?_
  intro W base args ds gs before hval0 hW hcnd _
  have hval : ∀ (j : Nat) t v, Try.f4.params[j]? = some t → args[j]? = some v → Value.okWide Try.prog W .any base t v := hval0
  have hW' := hW
  obtain ⟨p, q, hA0, hV, rfl, hfz, hnd⟩ := hW
  have hA : DataW.TrodAll enc Try.prog W 0 (fun _ => true) true Try.f4.params.toList args.toList ds p := hA0
  rw [Try.params4] at hA hval
  obtain ⟨v0, vs0, d0, ds0, p0, q0, hargs, rfl, rfl, h0, r0⟩ := trodAll_cons hA
  obtain ⟨v1, vs1, d1, ds1, p1, q1, rfl, rfl, rfl, h1, r1⟩ := trodAll_cons r0
  obtain ⟨rfl, rfl, rfl⟩ := trodAll_nil r1
  obtain rfl : args = #[v0, v1] := by cases args; simp_all
  obtain ⟨rfl, rfl⟩ := trodVars_none hV
  have o0 := hval 0 24 v0 rfl rfl
  have lt0 : ∀ x ∈ p0, x.block < W.heap.size := by obtain ⟨m, hm⟩ := h0; exact DataW.trod_lt m _ _ _ hm
  have o1 := hval 1 3 v1 rfl rfl
  have lt1 : ∀ x ∈ p1, x.block < W.heap.size := by obtain ⟨m, hm⟩ := h1; exact DataW.trod_lt m _ _ _ hm
  clear hA0 hval0
  refine (walk o0 o1 h0 h1).mono fun e W' ⟨he, bel⟩ => ?_
  subst he
  exact ⟨_, rfl, _, _, _, [], _, [], hW', trodAll_mk1 (shut_bool Try.underlying4 _), (trodAll_cons_mk (Below.trod laidOut (by kernel_rfl) (of_decide_eq_true (by kernel_rfl)) h0 bel lt0) (trodAll_cons_mk (Below.trod laidOut (by kernel_rfl) (of_decide_eq_true (by kernel_rfl)) h1 bel lt1) trodAll_mk0)), rfl, bel.frame _, fun h => by cases h⟩

theorem over : Rows.tokenTakesRow.holds Try.pinned (OpenSpec.ofChange Rows.tokenTakesSpec) :=
  OpenClaim.holds_of_wide 4 Try.f4 rfl rfl rfl rfl rfl rfl rfl ⟨rfl, rfl, rfl, rfl, rfl⟩ rfl rfl rfl rfl rfl (by kernel_rfl) Try.func4 (by kernel_rfl)
    (of_decide_eq_true (by kernel_rfl)) (by unfold Func.isWrapper; first | (rw [if_pos (by decide +kernel)]; kernel_rfl) | (rw [if_neg (by decide +kernel)]; exact ⟨rfl, rfl⟩))
    (fun os started H enc _ => lifted os started H enc)
end Go.Proofs.Ytdnmkbncdiggfaa.TokenTakes
namespace Go.Proofs.Ytdnmkbncdiggfaa
/-- The statement. -/
theorem tokenTakes_holds : Rows.TokenTakesSaid := TokenTakes.over
#print axioms tokenTakes_holds
end Go.Proofs.Ytdnmkbncdiggfaa
