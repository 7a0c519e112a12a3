/- The walks of the document's Of, Objects, Left and Frames. -/
import Derived.Test.YtbcebkbjlfkfgaaJWalk
import Derived.Deep.LoopGhost
namespace Go.Proofs.Ytbcebkbjlfkfgaa
open Go.RowKit

set_option maxHeartbeats 400000 in
theorem refOf_any (n : Int) (w : World) : Calls Try.prog 7 #[.int .i64 n] w fun e w' => e = .returned (.int .i64 (jOf n)) ∧ w = w' := by
  go_enter Try.func7, Try.ntmps7
  go_wp2
  go_loop [3] (fun i => ∃ k : Nat, k ≤ 64 ∧ i = .int .i64 k ∧ (n < 1 ∨ 64 * (k : Int) < n)) (fun i => 64 - (intOf i).toNat)
  case atStart => exact ⟨0, by omega, rfl, by omega⟩
  case round =>
    obtain ⟨k, hk, rfl, hn⟩ := hrel
    by_cases hlt : k < 64
    · have i1 : (k : Int) < 64 := by omega
      by_cases h1 : n < 1
      · clear hn
        go_wp2
        go_round
        case rel => exact ⟨k + 1, by omega, by go_num, by omega⟩
        case measure => simp [intOf]; omega
      · have h1' : 1 ≤ n := by omega
        by_cases h2 : n ≤ 64 * ((k : Int) + 1)
        · have H : Hid (jOf n = k) := by rw [jOf_yes (by omega)]; show _ = _; omega
          clear hn
          go_wp2
          go_ret
          exact ⟨retInt H.out.symm, rfl⟩
        · have h2' : 64 * ((k : Int) + 1) < n := by omega
          clear hn
          go_wp2
          go_round
          case rel => exact ⟨k + 1, by omega, by go_num, by omega⟩
          case measure => simp [intOf]; omega
    · have e : k = 64 := by omega
      subst e
      have H : Hid (jOf n = -1) := jOf_no (by omega)
      clear hn
      go_wp2
      go_ret
      exact ⟨retInt H.out.symm, rfl⟩

set_option maxHeartbeats 400000 in
theorem refObj_any (c f : Nat) (w : World) (h : c < 64) (hf : f ≤ 4) :
    Calls Try.prog 15 #[.int .i64 (c : Nat), .int .i64 (f : Nat)] w fun e w' => e = .returned (.int .i64 (jObj c f : Nat)) ∧ w = w' := by
  have hO := jObj_mul c f
  have hs := jSz_le h
  have HX : Hid (∀ n, (n + 1) * jSz c ≤ 4096 * f ↔ n < jObj c f) := fun n => jObj_next
  have HS : Hid (∀ n : Nat, ((n : Int) + 1) * 64 * ((c : Int) + 1) = ((n + 1) * jSz c : Nat)) := by
    intro n
    unfold jSz
    rw [Int.natCast_mul, Int.natCast_mul, Int.mul_assoc]
    rfl
  have HB : Hid (∀ n, n ≤ jObj c f → (n + 1) * jSz c ≤ 20480) := by
    intro n hn
    have : n * jSz c ≤ jObj c f * jSz c := Nat.mul_le_mul_right _ hn
    rw [Nat.succ_mul]
    omega
  have HP : Hid (jObj c f ≤ 16384) := by
    show _ ≤ _
    have : jObj c f * 1 ≤ jObj c f * jSz c := Nat.mul_le_mul_left _ (by omega)
    omega
  clear hO
  generalize jObj c f = o at *
  generalize jSz c = s at *
  go_enter Try.func15, Try.ntmps15
  go_wp2
  go_loop [5] (fun i => ∃ k : Nat, k ≤ o ∧ i = .int .i64 k) (fun i => o - (intOf i).toNat)
  case atStart => exact ⟨0, by omega, rfl⟩
  case round =>
    obtain ⟨k, hk, rfl⟩ := hrel
    have hb := HB.out k hk
    have hq := HS.out k
    have hx := HX.out k
    have ho := HP.out
    have hp : 0 ≤ ((k : Int) + 1) * 64 * ((c : Int) + 1) ∧ ((k : Int) + 1) * 64 * ((c : Int) + 1) ≤ 20480 := by rw [hq]; omega
    by_cases hlt : k < o
    · have h6 : ((k : Int) + 1) * 64 * ((c : Int) + 1) ≤ 4096 * (f : Int) := by rw [hq]; have := hx.2 hlt; omega
      clear hx hq hb
      go_wp2
      go_round
      case rel => exact ⟨k + 1, by omega, by go_num⟩
      case measure => simp [intOf]; omega
    · have h6 : 4096 * (f : Int) < ((k : Int) + 1) * 64 * ((c : Int) + 1) := by
        rw [hq]
        have : ¬ ((k + 1) * s ≤ 4096 * f) := fun e => hlt (hx.1 e)
        omega
      have e : k = o := by omega
      subst e
      clear hx hq hb
      go_wp2
      go_ret
      exact ⟨rfl, rfl⟩

theorem refLeft_any (c f : Nat) (w : World) (h : c < 64) (hf : f ≤ 4) :
    Calls Try.prog 13 #[.int .i64 (c : Nat), .int .i64 (f : Nat)] w fun e w' => e = .returned (.int .i64 (jLef c f : Nat)) ∧ w = w' := by
  have hO := jObj_mul c f
  have HC : Hid _ := refObj_any c f w h hf
  have HS : Hid ((jObj c f : Int) * 64 * ((c : Int) + 1) = (jObj c f * jSz c : Nat)) := by
    show _ = _
    unfold jSz
    rw [Int.natCast_mul, Int.natCast_mul, Int.mul_assoc]
    rfl
  have hz : jObj c f ≤ 16384 := by
    have := (jSz_le h).1
    have : jObj c f * 1 ≤ jObj c f * jSz c := Nat.mul_le_mul_left _ (by omega)
    omega
  have hp : 0 ≤ (jObj c f : Int) * 64 * ((c : Int) + 1) ∧ (jObj c f : Int) * 64 * ((c : Int) + 1) ≤ 16384 := by rw [HS.out]; omega
  have HR : Hid (4096 * (f : Int) - (jObj c f : Int) * 64 * ((c : Int) + 1) = (jLef c f : Nat)) := by show _ = _; rw [HS.out]; omega
  clear hO HS
  generalize jObj c f = o at *
  generalize jLef c f = l at *
  go_enter Try.func13, Try.ntmps13
  go_wp2_with fail
  refine Calls.mono HC.out ?_
  rintro e w' ⟨rfl, rfl⟩
  go_wp2
  go_ret
  exact ⟨retInt HR.out, rfl⟩

set_option maxHeartbeats 1000000 in
theorem refFrames_any (c : Nat) (w : World) (h : c < 64) :
    Calls Try.prog 14 #[.int .i64 (c : Nat)] w fun e w' => e = .returned (.int .i64 (jFr c : Nat)) ∧ w = w' := by
  have hs := jSz_le h
  have hF := jFr_le h
  have HY : Hid (∀ f, 1 ≤ f → f ≤ jFr c → jFine c f 4 = true → f = jFr c) := fun f => jFr_yes h
  have HN : Hid (∀ f, f ≤ jFr c → jFine c f 4 = false → f + 1 ≤ jFr c) := fun f => jFr_no h
  generalize jFr c = fr at *
  go_enter Try.func14, Try.ntmps14
  go_wp2
  go_loopg [3, 4, 5] 4 (fun gk i _ _ wr => ∃ f : Nat, 1 ≤ f ∧ f ≤ fr ∧ gk = 5 - f ∧ i = .int .i64 f ∧ w = wr)
  case atStart => exact ⟨1, by omega, by omega, rfl, rfl, rfl⟩
  case round =>
    obtain ⟨f, hf1, hf, rfl, rfl, rfl⟩ := hrel
    have i1 : (f : Int) ≤ 4 := by omega
    go_wp2
    go_loopg [4, 5] 4 (fun gk t i wr => ∃ g : Nat, g ≤ 4 ∧ gk = 4 - g ∧ t = .bool (jFine c f g) ∧ i = .int .i64 ((g : Int) + 1) ∧ w = wr)
    case atStart => exact ⟨0, by omega, rfl, rfl, rfl, rfl⟩
    case round =>
      obtain ⟨g, hg, rfl, rfl, rfl, rfl⟩ := hrel
      by_cases hlt : g < 4
      · have i2 : (g : Int) + 1 ≤ 4 := by omega
        have hx := jLef_lt c f
        have hy := jLef_lt c (g + 1)
        have hp := jProd (x := jLef c f) (y := g + 1) (by omega) (by omega)
        have hq := jProd (x := jLef c (g + 1)) (y := f) (by omega) (by omega)
        have HA : Hid _ := refLeft_any c f w h (by omega)
        have HB : Hid _ := refLeft_any c (g + 1) w h (by omega)
        have HW : Hid _ := @jWl_is c (g + 1) f
        have HT : Hid (jFine c f (g + 1) = (jFine c f g && !jWl c (g + 1) f)) := rfl
        rw [show ((g + 1 : Nat) : Int) = (g : Int) + 1 by omega] at hp HW HB
        clear hx hy hs
        generalize jLef c f = x at *
        generalize jLef c (g + 1) = y at *
        generalize jFine c f g = t at *
        cases hw : jWl c (g + 1) f with
        | true =>
          rw [hw] at HW HT
          have h6 : (y : Int) * (f : Int) < (x : Int) * ((g : Int) + 1) := of_decide_eq_true HW.out
          go_wp2_with fail
          refine Calls.mono HB.out ?_
          rintro e w' ⟨rfl, rfl⟩
          go_wp2_with fail
          refine Calls.mono HA.out ?_
          rintro e w' ⟨rfl, rfl⟩
          go_wp2
          go_roundg (4 - (g + 1))
          case measure => omega
          case rel => exact ⟨g + 1, by omega, rfl, by rw [HT.out]; simp, by go_num, rfl⟩
        | false =>
          rw [hw] at HW HT
          have h6 : (x : Int) * ((g : Int) + 1) ≤ (y : Int) * (f : Int) := by have := of_decide_eq_false HW.out; omega
          go_wp2_with fail
          refine Calls.mono HB.out ?_
          rintro e w' ⟨rfl, rfl⟩
          go_wp2_with fail
          refine Calls.mono HA.out ?_
          rintro e w' ⟨rfl, rfl⟩
          go_wp2
          go_roundg (4 - (g + 1))
          case measure => omega
          case rel => exact ⟨g + 1, by omega, rfl, by rw [HT.out]; simp, by go_num, rfl⟩
      · have e : g = 4 := by omega
        subst e
        have hN := HN.out f hf
        have hY := HY.out f hf1 hf
        cases ht : jFine c f 4 with
        | true =>
          have e := hY ht
          subst e
          go_wp2
          go_ret
          exact ⟨rfl, rfl⟩
        | false =>
          have e := hN ht
          go_wp2
          go_roundg (5 - (f + 1))
          case measure => omega
          case rel => exact ⟨f + 1, by omega, e, rfl, by go_num, rfl⟩
end Go.Proofs.Ytbcebkbjlfkfgaa
