/- Proved: gunnylaw15.ClassFits returns true for all numbers of bytes: bytes have room in their class's objects, and in none of a smaller one; objects have room in their zspages, and one more hasn't. No conditions. -/
import Derived.Test.YtbcebkbjlfkfgaaJRef
import Derived.Test.YtbcebkbjlfkfgaaJLives
import Derived.Test.YtbcebkbjlfkfgaaBOpen
namespace Go.Proofs.Ytbcebkbjlfkfgaa.ClassFits
open Go.ChangeShapes Go.WideShapes Go.ChangeAt Go.RowKit
set_option linter.unusedVariables false
theorem own : ownKnob Try.prog.godebug = none := by kernel_rfl
theorem laidOut : laidOutB Try.prog = true := by kernel_rfl
set_option maxRecDepth 100000 in
set_option maxHeartbeats 1000000 in
theorem run (n : Nat) (w : World) (hn : n < 65536) : Calls Try.prog 5 #[.int .u16 (n : Nat)] w fun e w' => e = .returned (.bool true) ∧ w = w' := by
  obtain ⟨s, hs⟩ : ∃ s : Nat, 1 + n % 4096 = s := ⟨_, rfl⟩
  have h1 : 1 ≤ s ∧ s ≤ 4096 := by omega
  have HN : Hid (1 + (n : Int) % 4096 = (s : Int)) := by show _ = _; omega
  obtain ⟨c, hc⟩ : ∃ c : Nat, (s - 1) / 64 = c := ⟨_, rfl⟩
  have H0 : Hid _ := of_yes s w (by omega) (by omega)
  rw [hc] at H0
  have h : c < 64 := by omega
  have h2 : (s : Int) ≤ 64 * ((c : Int) + 1) := by omega
  have h3 : 64 * (c : Int) < (s : Int) := by omega
  have hf := jFr_le h
  have HS : Hid ((jSz c : Int) = 64 * ((c : Int) + 1)) := by show _ = _; unfold jSz; omega
  have H1 : Hid _ := size_yes c w h
  have H2 : Hid _ := frames_yes c w h
  have H3 : Hid _ := objects_yes c w h
  have hx := @jObj_next c (jFr c)
  have hz := jSz_le h
  have ho1 : 1 ≤ jObj c (jFr c) := hx.1 (by omega)
  have hm := jObj_mul c (jFr c)
  have hl := jLef_lt c (jFr c)
  have hp1 : (jObj c (jFr c) : Int) * (jSz c : Int) ≤ 4096 * (jFr c : Int) := by rw [← Int.natCast_mul]; omega
  have hp2 : 4096 * (jFr c : Int) < ((jObj c (jFr c) : Int) + 1) * (jSz c : Int) := by
    rw [show ((jObj c (jFr c) : Int) + 1) * (jSz c : Int) = ((jObj c (jFr c) + 1) * jSz c : Nat) by rw [Int.natCast_mul]; rfl, Nat.succ_mul]
    omega
  have hp3 : ((jObj c (jFr c) : Int) + 1) * (jSz c : Int) ≤ 20480 := by
    rw [show ((jObj c (jFr c) : Int) + 1) * (jSz c : Int) = ((jObj c (jFr c) + 1) * jSz c : Nat) by rw [Int.natCast_mul]; rfl, Nat.succ_mul]
    omega
  have hp0 : 0 ≤ (jObj c (jFr c) : Int) * (jSz c : Int) := by rw [← Int.natCast_mul]; omega
  have hob : jObj c (jFr c) ≤ 16384 := by
    have : jObj c (jFr c) * 1 ≤ jObj c (jFr c) * jSz c := Nat.mul_le_mul_left _ (by omega)
    omega
  have h4 : (s : Int) ≤ (jSz c : Int) := by rw [HS.out]; exact h2
  clear hx hm hl hs hc HS
  generalize jObj c (jFr c) = o at *
  generalize jFr c = fr at *
  by_cases h0 : c = 0
  · subst h0
    generalize jSz 0 = z at *
    go_enter Try.func5, Try.ntmps5
    go_wp2_with fail
    rw [HN.out]
    refine Calls.mono H0.out ?_
    rintro e w' ⟨rfl, rfl⟩
    go_wp2_with fail
    refine Calls.mono H1.out ?_
    rintro e w' ⟨rfl, rfl⟩
    go_wp2_with fail
    refine Calls.mono H2.out ?_
    rintro e w' ⟨rfl, rfl⟩
    go_wp2_with fail
    refine Calls.mono H3.out ?_
    rintro e w' ⟨rfl, rfl⟩
    go_wp2_with fail
    refine Calls.mono H1.out ?_
    rintro e w' ⟨rfl, rfl⟩
    go_wp2_with fail
    refine Calls.mono H1.out ?_
    rintro e w' ⟨rfl, rfl⟩
    go_wp2_with fail
    refine (lives_any _).mono ?_
    rintro e w' ⟨rfl, rfl⟩
    go_wp2
    go_ret
    exact ⟨rfl, rfl⟩
  · obtain ⟨d, rfl⟩ : ∃ d, c = d + 1 := ⟨c - 1, by omega⟩
    have HD : Hid _ := size_yes d w (by omega)
    have h5 : (jSz d : Int) < (s : Int) := by unfold jSz; omega
    have hd0 := jSz_le (c := d) (by omega)
    rw [show ((d + 1 : Nat) : Int) = (d : Int) + 1 by omega] at *
    generalize jSz (d + 1) = z at *
    generalize jSz d = y at *
    go_enter Try.func5, Try.ntmps5
    go_wp2_with fail
    rw [HN.out]
    refine Calls.mono H0.out ?_
    rintro e w' ⟨rfl, rfl⟩
    go_wp2_with fail
    refine Calls.mono H1.out ?_
    rintro e w' ⟨rfl, rfl⟩
    go_wp2_with fail
    refine Calls.mono HD.out ?_
    rintro e w' ⟨rfl, rfl⟩
    go_wp2_with fail
    refine Calls.mono H2.out ?_
    rintro e w' ⟨rfl, rfl⟩
    go_wp2_with fail
    refine Calls.mono H3.out ?_
    rintro e w' ⟨rfl, rfl⟩
    go_wp2_with fail
    refine Calls.mono H1.out ?_
    rintro e w' ⟨rfl, rfl⟩
    go_wp2_with fail
    refine Calls.mono H1.out ?_
    rintro e w' ⟨rfl, rfl⟩
    go_wp2_with fail
    refine (lives_any _).mono ?_
    rintro e w' ⟨rfl, rfl⟩
    go_wp2
    go_ret
    exact ⟨rfl, rfl⟩

set_option maxRecDepth 100000 in
theorem walk {H : Type} {enc : TypeId × Value → H} {w : World} {base : Nat} {v0 : Value} {d0 : DataW H} {p0 : List MemPlace}
    (o0 : Value.okWide Try.prog w .any base 29 v0)
    (h0 : DataW.Trod enc Try.prog w 0 (fun _ => true) true 29 v0 d0 p0) :
    Calls Try.prog 5 #[v0] w fun e w' => e = .returned (.bool true) ∧ Below w.heap.size w w' := by
  obtain ⟨x, rfl, hx⟩ := openOne Try.underlying29 o0 h0
  have hb := bounds_u16 hx
  obtain ⟨n, rfl⟩ : ∃ n : Nat, x = n := ⟨x.toNat, by omega⟩
  exact (run n w (by omega)).mono fun _ _ ⟨h1, h2⟩ => ⟨h1, h2 ▸ Below.refl _ _⟩

set_option maxRecDepth 100000 in
theorem lifted (os : Os) (started : os.Started) (H : Type) (enc : TypeId × Value → H) :
    ReturnsInHanded {} Try.checked os 5 .any (Rows.classFitsSpec.pre6 enc Try.prog Try.f5 Rows.classFitsRow.domain false) (Rows.classFitsSpec.post enc Try.prog Try.f5 false true false false) := by
  refine returnsInHanded_of_change (C := Try.checked) own started (by kernel_rfl) Try.func5
    (ChangeSpec.witness6 (enc := enc) (C := Try.checked) false ⟨#[], #[.int .u16 0], []⟩ 8 (by kernel_rfl) (by kernel_rfl) (by kernel_rfl) (by kernel_rfl)) ?_
  intro W base args ds gs before hval0 hW hcnd _
  have hval : ∀ (j : Nat) t v, Try.f5.params[j]? = some t → args[j]? = some v → Value.okWide Try.prog W .any base t v := hval0
  have hW' := hW
  obtain ⟨p, q, hA0, hV, rfl, hfz, hnd⟩ := hW
  have hA : DataW.TrodAll enc Try.prog W 0 (fun _ => true) true Try.f5.params.toList args.toList ds p := hA0
  rw [Try.params5] at hA hval
  obtain ⟨v0, vs0, d0, ds0, p0, q0, hargs, rfl, rfl, h0, r0⟩ := trodAll_cons hA
  obtain ⟨rfl, rfl, rfl⟩ := trodAll_nil r0
  obtain rfl : args = #[v0] := by cases args; simp_all
  obtain ⟨rfl, rfl⟩ := trodVars_none hV
  have o0 := hval 0 29 v0 rfl rfl
  have lt0 : ∀ x ∈ p0, x.block < W.heap.size := by obtain ⟨m, hm⟩ := h0; exact DataW.trod_lt m _ _ _ hm
  clear hA0 hval0
  refine (walk o0 h0).mono fun e W' ⟨he, bel⟩ => ?_
  subst he
  exact ⟨_, rfl, _, _, _, [], _, [], hW', trodAll_mk1 (shut_bool Try.underlying4 _), (trodAll_cons_mk (Below.trod laidOut (by kernel_rfl) (of_decide_eq_true (by kernel_rfl)) h0 bel lt0) trodAll_mk0), rfl, bel.frame _, fun h => by cases h⟩

theorem over : Rows.classFitsRow.holds Try.pinned (OpenSpec.ofChange Rows.classFitsSpec) :=
  OpenClaim.holds_of_wide 5 Try.f5 rfl rfl rfl rfl rfl rfl rfl ⟨rfl, rfl, rfl, rfl, rfl⟩ rfl rfl rfl rfl rfl (by kernel_rfl) Try.func5 (by kernel_rfl)
    (of_decide_eq_true (by kernel_rfl)) (by unfold Func.isWrapper; first | (rw [if_pos (by decide +kernel)]; kernel_rfl) | (rw [if_neg (by decide +kernel)]; exact ⟨rfl, rfl⟩))
    (fun os started H enc _ => lifted os started H enc)
end Go.Proofs.Ytbcebkbjlfkfgaa.ClassFits
namespace Go.Proofs.Ytbcebkbjlfkfgaa
/-- The statement. -/
theorem classFits_holds : Rows.ClassFitsSaid := ClassFits.over
#print axioms classFits_holds
end Go.Proofs.Ytbcebkbjlfkfgaa
