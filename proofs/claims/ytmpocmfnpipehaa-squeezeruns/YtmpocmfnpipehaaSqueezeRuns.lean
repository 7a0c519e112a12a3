/- Proved: gunnylaw13.SqueezeRuns returns true for all uint64: a page of any eight bytes, said again and again, is packed to at most 200 bytes. No conditions. -/
import Derived.Test.YtmpocmfnpipehaaQLives
import Derived.Test.YtmpocmfnpipehaaBOpen
namespace Go.Proofs.Ytmpocmfnpipehaa.SqueezeRuns
open Go.ChangeShapes Go.WideShapes Go.ChangeAt Go.RowKit
set_option linter.unusedVariables false
theorem own : ownKnob Try.prog.godebug = none := by kernel_rfl
theorem laidOut : laidOutB Try.prog = true := by kernel_rfl

set_option maxRecDepth 100000 in
set_option maxHeartbeats 2000000 in
theorem run (n : Nat) (w : World) (hn : n < 18446744073709551616) :
    Calls Try.prog 6 #[.int .u64 (n : Nat)] w fun e w' => e = .returned (.bool true) ∧ Below w.heap.size w w' := by
  go_enter Try.func6, Try.ntmps6
  go_wp2_with fail
  refine (refPage_any n _ rfl hn w).mono ?_
  obtain ⟨b, hb⟩ : ∃ b, pageN n = b := ⟨_, rfl⟩
  have hbl : b.length = 4096 := by rw [← hb]; exact pageN_len _
  have hb8 : ∀ x ∈ b, x < 256 := by rw [← hb]; exact pageN_byte _
  have hba : Again b := by rw [← hb]; exact page_again _
  rintro e w1 ⟨g, rfl, own1, b1⟩
  rw [hb] at own1
  have h200 := pack_200 hbl hba
  have HY1 : Hid (ByAt w1 (some ⟨g, 0, none⟩) 4096 4096 b) := by_row own1 hb8
  have HB1 : Hid (Below w.heap.size w w1) := b1
  clear hb hbl hb8 hba own1 b1
  go_wp2_with fail
  refine (pack_any w1 HY1.out).mono ?_
  rintro e w2 ⟨v2, rfl, own2, b2⟩
  obtain ⟨a2, c2, rfl⟩ := row_slice own2
  have HB2 : Hid (Below w.heap.size w w2) := HB1.out.trans (b2.mono HB1.out.size)
  obtain ⟨m, hm⟩ : ∃ m, (catZ b (packL b)).length = m := ⟨_, rfl⟩
  rw [hm] at h200 ⊢
  have i2 : (m : Int) ≤ 200 := by omega
  clear own2 b2 hm
  go_wp2_with fail
  refine (lives_any _).mono ?_
  rintro e w3 ⟨rfl, b3⟩
  have HB3 : Hid (Below w.heap.size w w3) := HB2.out.trans (b3.mono HB2.out.size)
  clear b3
  go_wp2
  go_ret
  exact ⟨rfl, HB3.out⟩

theorem walk {H : Type} {enc : TypeId × Value → H} {w : World} {base : Nat} {v0 : Value} {d0 : DataW H} {p0 : List MemPlace}
    (o0 : Value.okWide Try.prog w .any base 40 v0)
    (h0 : DataW.Trod enc Try.prog w 0 (fun _ => true) true 40 v0 d0 p0) :
    Calls Try.prog 6 #[v0] w fun e w' => e = .returned (.bool true) ∧ Below w.heap.size w w' := by
  obtain ⟨x, rfl, hx⟩ := openOne Try.underlying40 o0 h0
  have hb := bounds_u64 hx
  have := run x.toNat w (by omega)
  rwa [Int.toNat_of_nonneg hb.1] at this

set_option maxRecDepth 100000 in
theorem lifted (os : Os) (started : os.Started) (H : Type) (enc : TypeId × Value → H) :
    ReturnsInHanded {} Try.checked os 6 .any (Rows.squeezeRunsSpec.pre6 enc Try.prog Try.f6 Rows.squeezeRunsRow.domain false) (Rows.squeezeRunsSpec.post enc Try.prog Try.f6 false true false false) := by
  refine returnsInHanded_of_change (C := Try.checked) own started (by kernel_rfl) Try.func6
    (ChangeSpec.witness6 (enc := enc) (C := Try.checked) false ⟨#[], #[.int .u64 0], []⟩ 8 (by kernel_rfl) (by kernel_rfl) (by kernel_rfl) (by kernel_rfl)) ?_
  intro W base args ds gs before hval0 hW hcnd _
  have hval : ∀ (j : Nat) t v, Try.f6.params[j]? = some t → args[j]? = some v → Value.okWide Try.prog W .any base t v := hval0
  have hW' := hW
  obtain ⟨p, q, hA0, hV, rfl, hfz, hnd⟩ := hW
  have hA : DataW.TrodAll enc Try.prog W 0 (fun _ => true) true Try.f6.params.toList args.toList ds p := hA0
  rw [Try.params6] at hA hval
  obtain ⟨v0, vs0, d0, ds0, p0, q0, hargs, rfl, rfl, h0, r0⟩ := trodAll_cons hA
  obtain ⟨rfl, rfl, rfl⟩ := trodAll_nil r0
  obtain rfl : args = #[v0] := by cases args; simp_all
  obtain ⟨rfl, rfl⟩ := trodVars_none hV
  have o0 := hval 0 40 v0 rfl rfl
  have lt0 : ∀ x ∈ p0, x.block < W.heap.size := by obtain ⟨m, hm⟩ := h0; exact DataW.trod_lt m _ _ _ hm
  clear hA0 hval0
  refine (walk o0 h0).mono fun e W' ⟨he, bel⟩ => ?_
  subst he
  exact ⟨_, rfl, _, _, _, [], _, [], hW', trodAll_mk1 (shut_bool Try.underlying4 _), (trodAll_cons_mk (Below.trod laidOut (by kernel_rfl) (of_decide_eq_true (by kernel_rfl)) h0 bel lt0) trodAll_mk0), rfl, bel.frame _, fun h => by cases h⟩

theorem over : Rows.squeezeRunsRow.holds Try.pinned (OpenSpec.ofChange Rows.squeezeRunsSpec) :=
  OpenClaim.holds_of_wide 6 Try.f6 rfl rfl rfl rfl rfl rfl rfl ⟨rfl, rfl, rfl, rfl, rfl⟩ rfl rfl rfl rfl rfl (by kernel_rfl) Try.func6 (by kernel_rfl)
    (of_decide_eq_true (by kernel_rfl)) (by unfold Func.isWrapper; first | (rw [if_pos (by decide +kernel)]; kernel_rfl) | (rw [if_neg (by decide +kernel)]; exact ⟨rfl, rfl⟩))
    (fun os started H enc _ => lifted os started H enc)
end Go.Proofs.Ytmpocmfnpipehaa.SqueezeRuns
namespace Go.Proofs.Ytmpocmfnpipehaa
/-- The statement. -/
theorem squeezeRuns_holds : Rows.SqueezeRunsSaid := SqueezeRuns.over
#print axioms squeezeRuns_holds
end Go.Proofs.Ytmpocmfnpipehaa
