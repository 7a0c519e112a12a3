/- Proved: gunnylaw13.SqueezeUnpacks returns true for all lists of bytes: the page of any bytes, how many tokens it took, or why there is none, is the document's; what was handed in stays. No conditions. -/
import Derived.Test.YtmpocmfnpipehaaQLives
import Derived.Test.YtmpocmfnpipehaaQRef
import Derived.Test.YtmpocmfnpipehaaBOpen
import Derived.Test.YtmpocmfnpipehaaGOpBy
namespace Go.Proofs.Ytmpocmfnpipehaa.SqueezeUnpacks
open Go.ChangeShapes Go.WideShapes Go.ChangeAt Go.RowKit
set_option linter.unusedVariables false
theorem own : ownKnob Try.prog.godebug = none := by kernel_rfl
theorem laidOut : laidOutB Try.prog = true := by kernel_rfl
set_option maxRecDepth 100000 in
set_option maxHeartbeats 2000000 in
theorem run (p : Option Addr) (L c : Nat) (b : List Nat) (w : World) (h : ByAt w p L c b) :
    Calls Try.prog 3 #[.slice p L c] w fun e w' => e = .returned (.bool true) ∧ Below w.heap.size w w' := by
  have HA : Hid (∀ w', Below w.heap.size w w' → ByAt w' p L c b) := fun w' hw => h.later hw
  have hL := h.short
  unfold maxLen at hL
  clear h
  go_enter Try.func3, Try.ntmps3
  by_cases h5 : 9000 < L
  · have i1 : (9000 : Int) < (L : Int) := by omega
    go_wp2_with fail
    refine (lives_any _).mono ?_
    rintro e w1 ⟨rfl, hb⟩
    have HB : Hid (Below w.heap.size w w1) := hb
    clear hb
    go_wp2
    go_ret
    exact ⟨rfl, HB.out⟩
  have i1 : ¬ (9000 : Int) < (L : Int) := by omega
  have hk0 := (HA.out w (Below.refl _ _)).conv
  obtain ⟨U, hU⟩ : ∃ U, unpA b = U := ⟨_, rfl⟩
  have HU : Hid (unpA b = U) := hU
  clear hU
  go_wp2_with fail
  refine (sunpack_any w (HA.out w (Below.refl _ _)) (by omega) HU.out).mono ?_
  rintro e w1 ⟨a1, c1, rfl, own1, b1⟩
  have HB1 : Hid (Below w.heap.size w w1) := b1
  have HO1 : Hid (w1.ownsRow w.heap.size 5 1 (.slice a1 U.q.length c1) U.q.length (bv U.q)) := own1
  have hsz1 := b1.size
  clear own1 b1 hk0
  go_wp2_with fail
  have hr := refUnpack_any w1 (HA.out w1 HB1.out) (by omega)
  rw [HU.out] at hr
  refine Calls.mono hr ?_
  rintro e w2 ⟨v2, rfl, own2, b2⟩
  obtain ⟨a2, c2, rfl⟩ := row_slice own2
  have HB2 : Hid (Below w.heap.size w w2) := HB1.out.trans (b2.mono hsz1)
  have HO2 : Hid (w2.ownsRow w1.heap.size 5 1 (.slice a2 U.q.length c2) U.q.length (bv U.q)) := own2
  have HO12 : Hid (w2.ownsRow w.heap.size 5 1 (.slice a1 U.q.length c1) U.q.length (bv U.q)) := row_below HO1.out b2
  have hsz2 := HB2.out.size
  clear own2 b2 hr
  go_wp2_with fail
  refine (refBytes_same _ _ U.q w2 (conv_any HO12.out) (conv_any HO2.out)).mono ?_
  rintro e w3 ⟨rfl, rfl⟩
  go_wp2_with fail
  refine (tokens_any w2 (HA.out w2 HB2.out) (by omega) HU.out).mono ?_
  rintro e w3 ⟨rfl, b3⟩
  have HB3 : Hid (Below w.heap.size w w3) := HB2.out.trans (b3.mono hsz2)
  have hsz3 := HB3.out.size
  have hk3 := (HA.out w3 HB3.out).conv
  clear b3
  go_wp2_with fail
  refine (lives_any _).mono ?_
  rintro e w4 ⟨rfl, b4⟩
  have HB4 : Hid (Below w.heap.size w w4) := HB3.out.trans (b4.mono hsz3)
  clear b4 hk3
  go_wp2
  go_ret
  exact ⟨rfl, HB4.out⟩

theorem walk {H : Type} {enc : TypeId × Value → H} {w : World} {base : Nat} {v0 : Value} {d0 : DataW H} {p0 : List MemPlace}
    (o0 : Value.okWide Try.prog w .any base 22 v0)
    (h0 : DataW.Trod enc Try.prog w 0 (fun _ => true) true 22 v0 d0 p0) :
    Calls Try.prog 3 #[v0] w fun e w' => e = .returned (.bool true) ∧ Below w.heap.size w w' := by
  obtain ⟨p, L, c, b, rfl, hb⟩ := openBy Try.underlying22 Try.underlying5 (by kernel_rfl) o0 h0
  exact run p L c b w hb

set_option maxRecDepth 100000 in
theorem lifted (os : Os) (started : os.Started) (H : Type) (enc : TypeId × Value → H) :
    ReturnsInHanded {} Try.checked os 3 .any (Rows.squeezeUnpacksSpec.pre6 enc Try.prog Try.f3 Rows.squeezeUnpacksRow.domain false) (Rows.squeezeUnpacksSpec.post enc Try.prog Try.f3 false true false false) := by
  refine returnsInHanded_of_change (C := Try.checked) own started (by kernel_rfl) Try.func3
    (ChangeSpec.witness6 (enc := enc) (C := Try.checked) false ⟨#[], #[.slice none 0 0], []⟩ 8 (by kernel_rfl) (by kernel_rfl) (by kernel_rfl) (by kernel_rfl)) ?_
  intro W base args ds gs before hval0 hW hcnd _
  have hval : ∀ (j : Nat) t v, Try.f3.params[j]? = some t → args[j]? = some v → Value.okWide Try.prog W .any base t v := hval0
  have hW' := hW
  obtain ⟨p, q, hA0, hV, rfl, hfz, hnd⟩ := hW
  have hA : DataW.TrodAll enc Try.prog W 0 (fun _ => true) true Try.f3.params.toList args.toList ds p := hA0
  rw [Try.params3] at hA hval
  obtain ⟨v0, vs0, d0, ds0, p0, q0, hargs, rfl, rfl, h0, r0⟩ := trodAll_cons hA
  obtain ⟨rfl, rfl, rfl⟩ := trodAll_nil r0
  obtain rfl : args = #[v0] := by cases args; simp_all
  obtain ⟨rfl, rfl⟩ := trodVars_none hV
  have o0 := hval 0 22 v0 rfl rfl
  have lt0 : ∀ x ∈ p0, x.block < W.heap.size := by obtain ⟨m, hm⟩ := h0; exact DataW.trod_lt m _ _ _ hm
  clear hA0 hval0
  refine (walk o0 h0).mono fun e W' ⟨he, bel⟩ => ?_
  subst he
  exact ⟨_, rfl, _, _, _, [], _, [], hW', trodAll_mk1 (shut_bool Try.underlying4 _), (trodAll_cons_mk (Below.trod laidOut (by kernel_rfl) (of_decide_eq_true (by kernel_rfl)) h0 bel lt0) trodAll_mk0), rfl, bel.frame _, fun h => by cases h⟩

theorem over : Rows.squeezeUnpacksRow.holds Try.pinned (OpenSpec.ofChange Rows.squeezeUnpacksSpec) :=
  OpenClaim.holds_of_wide 3 Try.f3 rfl rfl rfl rfl rfl rfl rfl ⟨rfl, rfl, rfl, rfl, rfl⟩ rfl rfl rfl rfl rfl (by kernel_rfl) Try.func3 (by kernel_rfl)
    (of_decide_eq_true (by kernel_rfl)) (by unfold Func.isWrapper; first | (rw [if_pos (by decide +kernel)]; kernel_rfl) | (rw [if_neg (by decide +kernel)]; exact ⟨rfl, rfl⟩))
    (fun os started H enc _ => lifted os started H enc)
end Go.Proofs.Ytmpocmfnpipehaa.SqueezeUnpacks
namespace Go.Proofs.Ytmpocmfnpipehaa
/-- The statement. -/
theorem squeezeUnpacks_holds : Rows.SqueezeUnpacksSaid := SqueezeUnpacks.over
#print axioms squeezeUnpacks_holds
end Go.Proofs.Ytmpocmfnpipehaa
