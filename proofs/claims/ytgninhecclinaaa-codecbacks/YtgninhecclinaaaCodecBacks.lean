/- Proved: gunnylaw14.CodecBacks returns true for all ints and all lists of bytes: the page of which any bytes are kept, in any form, or why there is none, is the document's. No conditions. -/
import Derived.Test.YtgninhecclinaaaOLives
import Derived.Test.YtgninhecclinaaaORef
import Derived.Test.YtgninhecclinaaaBOpen
import Derived.Test.YtgninhecclinaaaGOpBy
namespace Go.Proofs.Ytgninhecclinaaa.CodecBacks
open Go.ChangeShapes Go.WideShapes Go.ChangeAt Go.RowKit
set_option linter.unusedVariables false
theorem own : ownKnob Try.prog.godebug = none := by kernel_rfl
theorem laidOut : laidOutB Try.prog = true := by kernel_rfl
set_option maxRecDepth 100000 in
set_option maxHeartbeats 2000000 in
theorem run (f : Int) (p : Option Addr) (L c : Nat) (b : List Nat) (w : World) (h : ByAt w p L c b) :
    Calls Try.prog 4 #[.int .i64 f, .slice p L c] w fun e w' => e = .returned (.bool true) ∧ Below w.heap.size w w' := by
  have HA : Hid (∀ w', Below w.heap.size w w' → ByAt w' p L c b) := fun w' hw => h.later hw
  have hL := h.short
  unfold maxLen at hL
  clear h
  go_enter Try.func4, Try.ntmps4
  by_cases h5 : 9000 < L
  · have i1 : (9000 : Int) < (L : Int) := by omega
    go_wp2_with fail
    refine (lives_any _).mono ?_
    rintro e w1 ⟨rfl, hb⟩
    have HB : Hid (Below w.heap.size w w1) := hb
    clear hb
    go_wp2
    go_ret
    exact ⟨rfl, HB.out⟩
  have i1 : ¬ (9000 : Int) < (L : Int) := by omega
  have hk0 := (HA.out w (Below.refl _ _)).conv
  obtain ⟨x, hx⟩ : ∃ x, backE f b = x := ⟨_, rfl⟩
  obtain ⟨q, hq⟩ : ∃ q, backQ f b = q := ⟨_, rfl⟩
  have HX : Hid (backE f b = x ∧ backQ f b = q) := ⟨hx, hq⟩
  clear hx hq
  go_wp2_with fail
  refine (back_any f w (HA.out w (Below.refl _ _)) (by omega) HX.out.1 HX.out.2).mono ?_
  rintro e w1 ⟨a1, c1, rfl, own1, b1⟩
  have HB1 : Hid (Below w.heap.size w w1) := b1
  have HO1 : Hid (w1.ownsRow w.heap.size 5 1 (.slice a1 q.length c1) q.length (bv q)) := own1
  have hsz1 := b1.size
  clear own1 b1 hk0
  go_wp2_with fail
  refine (refBack_any f w1 (HA.out w1 HB1.out) (by omega) HX.out.1 HX.out.2).mono ?_
  rintro e w2 ⟨v2, rfl, own2, b2⟩
  obtain ⟨a2, c2, rfl⟩ := row_slice own2
  have HB2 : Hid (Below w.heap.size w w2) := HB1.out.trans (b2.mono hsz1)
  have HO2 : Hid (w2.ownsRow w1.heap.size 5 1 (.slice a2 q.length c2) q.length (bv q)) := own2
  have HO12 : Hid (w2.ownsRow w.heap.size 5 1 (.slice a1 q.length c1) q.length (bv q)) := row_below HO1.out b2
  have hsz2 := HB2.out.size
  clear own2 b2
  have hk2 := (HA.out w2 HB2.out).conv
  go_wp2_with fail
  refine (refBytes_same _ _ q w2 (conv_any HO12.out) (conv_any HO2.out)).mono ?_
  rintro e w3 ⟨rfl, rfl⟩
  go_wp2_with fail
  refine (lives_any _).mono ?_
  rintro e w4 ⟨rfl, b4⟩
  have HB4 : Hid (Below w.heap.size w w4) := HB2.out.trans (b4.mono hsz2)
  clear b4 hk2
  go_wp2
  go_ret
  exact ⟨rfl, HB4.out⟩

set_option maxRecDepth 100000 in
theorem walk {H : Type} {enc : TypeId × Value → H} {w : World} {base : Nat} {v0 v1 : Value} {d0 d1 : DataW H} {p0 p1 : List MemPlace}
    (o0 : Value.okWide Try.prog w .any base 3 v0)
    (o1 : Value.okWide Try.prog w .any base 23 v1)
    (h0 : DataW.Trod enc Try.prog w 0 (fun _ => true) true 3 v0 d0 p0)
    (h1 : DataW.Trod enc Try.prog w 0 (fun _ => true) true 23 v1 d1 p1) :
    Calls Try.prog 4 #[v0, v1] w fun e w' => e = .returned (.bool true) ∧ Below w.heap.size w w' := by
  obtain ⟨f, rfl, _⟩ := openOne Try.underlying3 o0 h0
  obtain ⟨p, L, c, b, rfl, hb⟩ := openBy Try.underlying23 Try.underlying5 (by kernel_rfl) o1 h1
  exact run f p L c b w hb

set_option maxRecDepth 100000 in
theorem lifted (os : Os) (started : os.Started) (H : Type) (enc : TypeId × Value → H) :
    ReturnsInHanded {} Try.checked os 4 .any (Rows.codecBacksSpec.pre6 enc Try.prog Try.f4 Rows.codecBacksRow.domain false) (Rows.codecBacksSpec.post enc Try.prog Try.f4 false true false false) := by
  refine returnsInHanded_of_change (C := Try.checked) own started (by kernel_rfl) Try.func4
    (ChangeSpec.witness6 (enc := enc) (C := Try.checked) false ⟨#[], #[.int .i64 0, .slice none 0 0], []⟩ 8 (by kernel_rfl) (by kernel_rfl) (by kernel_rfl) (by kernel_rfl)) ?_
  intro W base args ds gs before hval0 hW hcnd _
  have hval : ∀ (j : Nat) t v, Try.f4.params[j]? = some t → args[j]? = some v → Value.okWide Try.prog W .any base t v := hval0
  have hW' := hW
  obtain ⟨p, q, hA0, hV, rfl, hfz, hnd⟩ := hW
  have hA : DataW.TrodAll enc Try.prog W 0 (fun _ => true) true Try.f4.params.toList args.toList ds p := hA0
  rw [Try.params4] at hA hval
  obtain ⟨v0, vs0, d0, ds0, p0, q0, hargs, rfl, rfl, h0, r0⟩ := trodAll_cons hA
  obtain ⟨v1, vs1, d1, ds1, p1, q1, rfl, rfl, rfl, h1, r1⟩ := trodAll_cons r0
  obtain ⟨rfl, rfl, rfl⟩ := trodAll_nil r1
  obtain rfl : args = #[v0, v1] := by cases args; simp_all
  obtain ⟨rfl, rfl⟩ := trodVars_none hV
  have o0 := hval 0 3 v0 rfl rfl
  have lt0 : ∀ x ∈ p0, x.block < W.heap.size := by obtain ⟨m, hm⟩ := h0; exact DataW.trod_lt m _ _ _ hm
  have o1 := hval 1 23 v1 rfl rfl
  have lt1 : ∀ x ∈ p1, x.block < W.heap.size := by obtain ⟨m, hm⟩ := h1; exact DataW.trod_lt m _ _ _ hm
  clear hA0 hval0
  refine (walk o0 o1 h0 h1).mono fun e W' ⟨he, bel⟩ => ?_
  subst he
  exact ⟨_, rfl, _, _, _, [], _, [], hW', trodAll_mk1 (shut_bool Try.underlying4 _), (trodAll_cons_mk (Below.trod laidOut (by kernel_rfl) (of_decide_eq_true (by kernel_rfl)) h0 bel lt0) (trodAll_cons_mk (Below.trod laidOut (by kernel_rfl) (of_decide_eq_true (by kernel_rfl)) h1 bel lt1) trodAll_mk0)), rfl, bel.frame _, fun h => by cases h⟩

theorem over : Rows.codecBacksRow.holds Try.pinned (OpenSpec.ofChange Rows.codecBacksSpec) :=
  OpenClaim.holds_of_wide 4 Try.f4 rfl rfl rfl rfl rfl rfl rfl ⟨rfl, rfl, rfl, rfl, rfl⟩ rfl rfl rfl rfl rfl (by kernel_rfl) Try.func4 (by kernel_rfl)
    (of_decide_eq_true (by kernel_rfl)) (by unfold Func.isWrapper; first | (rw [if_pos (by decide +kernel)]; kernel_rfl) | (rw [if_neg (by decide +kernel)]; exact ⟨rfl, rfl⟩))
    (fun os started H enc _ => lifted os started H enc)
end Go.Proofs.Ytgninhecclinaaa.CodecBacks
namespace Go.Proofs.Ytgninhecclinaaa
/-- The statement. -/
theorem codecBacks_holds : Rows.CodecBacksSaid := CodecBacks.over
#print axioms codecBacks_holds
end Go.Proofs.Ytgninhecclinaaa
