/- The walks of class.is, Size, Left, wastesLess, Frames, Objects and Of. -/
import Derived.Test.YtbcebkbjlfkfgaaGKit
import Derived.Test.YtbcebkbjlfkfgaaJPlain
namespace Go.Proofs.Ytbcebkbjlfkfgaa
open Go.RowKit

theorem is_yes (c : Nat) (w : World) (h : c < 64) : Calls Try.prog 16 #[.int .i64 (c : Nat)] w fun e w' => e = .returned (.bool true) ∧ w = w' := by
  go_enter Try.func16, Try.ntmps16
  go_wp2
  go_ret
  exact ⟨retBool (decide_eq_true (by omega)), rfl⟩
theorem is_no (C : Int) (w : World) (h : C < 0 ∨ 64 ≤ C) : Calls Try.prog 16 #[.int .i64 C] w fun e w' => e = .returned (.bool false) ∧ w = w' := by
  go_enter Try.func16, Try.ntmps16
  by_cases h0 : C < 0
  · go_wp2
    go_ret
    exact ⟨rfl, rfl⟩
  · have h1 : 64 ≤ C := by omega
    go_wp2
    go_ret
    exact ⟨retBool (decide_eq_false (by omega)), rfl⟩

theorem size_yes (c : Nat) (w : World) (h : c < 64) : Calls Try.prog 9 #[.int .i64 (c : Nat)] w fun e w' => e = .returned (.int .i64 (jSz c : Nat)) ∧ w = w' := by
  go_enter Try.func9, Try.ntmps9
  go_wp2_with fail
  refine (is_yes c w h).mono ?_
  rintro e w' ⟨rfl, rfl⟩
  go_wp2
  go_ret
  exact ⟨retInt (by unfold jSz; omega), rfl⟩
theorem size_no (C : Int) (w : World) (h : C < 0 ∨ 64 ≤ C) : Calls Try.prog 9 #[.int .i64 C] w fun e w' => e = .returned (.int .i64 0) ∧ w = w' := by
  have H : Hid (C < 0 ∨ 64 ≤ C) := h
  clear h
  go_enter Try.func9, Try.ntmps9
  go_wp2_with fail
  refine (is_no C w H.out).mono ?_
  rintro e w' ⟨rfl, rfl⟩
  go_wp2
  go_ret
  exact ⟨rfl, rfl⟩

theorem left_yes (c f : Nat) (w : World) (h : c < 64) (h1 : 1 ≤ f) (h2 : f ≤ 4) : Calls Try.prog 12 #[.int .i64 (c : Nat), .int .i64 (f : Nat)] w fun e w' => e = .returned (.int .i64 (jLef c f : Nat)) ∧ w = w' := by
  have hs := jSz_le h
  have HL : Hid (((f : Int) * 4096) % (jSz c : Int) = (jLef c f : Nat)) := by
    show _ = _
    unfold jLef
    rw [Int.mul_comm, Int.natCast_emod, Int.natCast_mul]
    rfl
  have HC : Hid _ := size_yes c w h
  generalize jSz c = s at *
  go_enter Try.func12, Try.ntmps12
  go_wp2_with fail
  refine (is_yes c w h).mono ?_
  rintro e w' ⟨rfl, rfl⟩
  go_wp2_with fail
  refine Calls.mono HC.out ?_
  rintro e w' ⟨rfl, rfl⟩
  go_wp2
  go_ret
  exact ⟨retInt HL.out, rfl⟩
theorem left_no (C F : Int) (w : World) (h : C < 0 ∨ 64 ≤ C ∨ F < 1 ∨ 4 < F) : Calls Try.prog 12 #[.int .i64 C, .int .i64 F] w fun e w' => e = .returned (.int .i64 0) ∧ w = w' := by
  by_cases hc : C < 0 ∨ 64 ≤ C
  · have H : Hid _ := is_no C w hc
    clear h hc
    go_enter Try.func12, Try.ntmps12
    go_wp2_with fail
    refine Calls.mono H.out ?_
    rintro e w' ⟨rfl, rfl⟩
    go_wp2
    go_ret
    exact ⟨rfl, rfl⟩
  · obtain ⟨c, rfl⟩ : ∃ c : Nat, C = c := ⟨C.toNat, by omega⟩
    have H : Hid _ := is_yes c w (by omega)
    have hF : F < 1 ∨ 4 < F := by omega
    clear h hc
    by_cases h1 : F < 1
    · clear hF
      go_enter Try.func12, Try.ntmps12
      go_wp2_with fail
      refine Calls.mono H.out ?_
      rintro e w' ⟨rfl, rfl⟩
      go_wp2
      go_ret
      exact ⟨rfl, rfl⟩
    · have h4 : 4 < F := by omega
      clear hF
      go_enter Try.func12, Try.ntmps12
      go_wp2_with fail
      refine Calls.mono H.out ?_
      rintro e w' ⟨rfl, rfl⟩
      go_wp2
      go_ret
      exact ⟨rfl, rfl⟩

theorem jProd {x y : Nat} (hx : x ≤ 4096) (hy : y ≤ 4) : 0 ≤ (x : Int) * (y : Int) ∧ (x : Int) * (y : Int) ≤ 16384 := by
  have h : x * y ≤ 4096 * 4 := Nat.mul_le_mul hx hy
  rw [← Int.natCast_mul]
  omega
theorem jWl_is {c a b : Nat} : decide ((jLef c a : Int) * (b : Int) < (jLef c b : Int) * (a : Int)) = jWl c a b := by
  unfold jWl
  rw [← Int.natCast_mul, ← Int.natCast_mul, decide_eq_decide]
  exact Int.ofNat_lt
theorem wastes_any (c a b : Nat) (w : World) (h : c < 64) (a1 : 1 ≤ a) (a2 : a ≤ 4) (b1 : 1 ≤ b) (b2 : b ≤ 4) :
    Calls Try.prog 17 #[.int .i64 (c : Nat), .int .i64 (a : Nat), .int .i64 (b : Nat)] w fun e w' => e = .returned (.bool (jWl c a b)) ∧ w = w' := by
  have hx := jLef_lt c a
  have hy := jLef_lt c b
  have hs := jSz_le h
  have hp := jProd (x := jLef c a) (by omega) b2
  have hq := jProd (x := jLef c b) (by omega) a2
  have HA : Hid _ := left_yes c a w h a1 a2
  have HB : Hid _ := left_yes c b w h b1 b2
  have HW : Hid _ := @jWl_is c a b
  clear hx hy hs
  generalize jLef c a = x at *
  generalize jLef c b = y at *
  go_enter Try.func17, Try.ntmps17
  go_wp2_with fail
  refine Calls.mono HA.out ?_
  rintro e w' ⟨rfl, rfl⟩
  go_wp2_with fail
  refine Calls.mono HB.out ?_
  rintro e w' ⟨rfl, rfl⟩
  go_wp2
  go_ret
  exact ⟨retBool HW.out, rfl⟩

set_option maxHeartbeats 400000 in
theorem frames_yes (c : Nat) (w : World) (h : c < 64) : Calls Try.prog 10 #[.int .i64 (c : Nat)] w fun e w' => e = .returned (.int .i64 (jFr c : Nat)) ∧ w = w' := by
  go_enter Try.func10, Try.ntmps10
  go_wp2_with fail
  refine (is_yes c w h).mono ?_
  rintro e w' ⟨rfl, rfl⟩
  go_wp2
  go_loop [3, 9] (fun b i => ∃ k : Nat, k ≤ 4 ∧ i = .int .i64 k ∧ b = .int .i64 (jBest c k : Nat)) (fun _ i => 4 - (intOf i).toNat)
  case atStart => exact ⟨0, by omega, rfl, rfl⟩
  case round =>
    obtain ⟨k, hk, rfl, rfl⟩ := hrel
    have hb := jBest_le c k
    by_cases hlt : k < 4
    · have i1 : (k : Int) < 4 := by omega
      have HC : Hid _ := wastes_any c (k + 1) (jBest c k) w h (by omega) (by omega) hb.1 (by omega)
      have HN : Hid (jWl c (k + 1) (jBest c k) = false → jBest c (k + 1) = jBest c k) := jBest_no
      have HY : Hid (jWl c (k + 1) (jBest c k) = true → jBest c (k + 1) = k + 1) := jBest_yes
      generalize jBest c k = b at *
      cases hw : jWl c (k + 1) b with
      | true =>
        rw [hw] at HC HY HN
        clear hw
        go_wp2_with fail
        refine Calls.mono HC.out ?_
        rintro e w' ⟨rfl, rfl⟩
        go_wp2
        go_round
        case rel => exact ⟨k + 1, by omega, by go_num, by rw [HY.out (by simp)]; go_num⟩
        case measure => simp [intOf]; omega
      | false =>
        rw [hw] at HC HY HN
        clear hw
        go_wp2_with fail
        refine Calls.mono HC.out ?_
        rintro e w' ⟨rfl, rfl⟩
        go_wp2
        go_round
        case rel => exact ⟨k + 1, by omega, by go_num, by rw [HN.out (by simp)]⟩
        case measure => simp [intOf]; omega
    · have e : k = 4 := by omega
      subst e
      go_wp2
      go_ret
      exact ⟨rfl, rfl⟩
theorem frames_no (C : Int) (w : World) (h : C < 0 ∨ 64 ≤ C) : Calls Try.prog 10 #[.int .i64 C] w fun e w' => e = .returned (.int .i64 0) ∧ w = w' := by
  have H : Hid _ := is_no C w h
  clear h
  go_enter Try.func10, Try.ntmps10
  go_wp2_with fail
  refine Calls.mono H.out ?_
  rintro e w' ⟨rfl, rfl⟩
  go_wp2
  go_ret
  exact ⟨rfl, rfl⟩

theorem objects_yes (c : Nat) (w : World) (h : c < 64) : Calls Try.prog 11 #[.int .i64 (c : Nat)] w fun e w' => e = .returned (.int .i64 (jObj c (jFr c) : Nat)) ∧ w = w' := by
  have hs := jSz_le h
  have hf := jFr_le h
  have HL : Hid (((jFr c : Int) * 4096) / (jSz c : Int) = (jObj c (jFr c) : Nat)) := by
    show _ = _
    unfold jObj
    rw [Int.mul_comm, Int.natCast_ediv, Int.natCast_mul]
    rfl
  have HC : Hid _ := size_yes c w h
  have HF : Hid _ := frames_yes c w h
  generalize jObj c (jFr c) = o at *
  generalize jSz c = s at *
  generalize jFr c = f at *
  go_enter Try.func11, Try.ntmps11
  go_wp2_with fail
  refine (is_yes c w h).mono ?_
  rintro e w' ⟨rfl, rfl⟩
  go_wp2_with fail
  refine Calls.mono HF.out ?_
  rintro e w' ⟨rfl, rfl⟩
  go_wp2_with fail
  refine Calls.mono HC.out ?_
  rintro e w' ⟨rfl, rfl⟩
  go_wp2
  go_ret
  exact ⟨retInt HL.out, rfl⟩
theorem objects_no (C : Int) (w : World) (h : C < 0 ∨ 64 ≤ C) : Calls Try.prog 11 #[.int .i64 C] w fun e w' => e = .returned (.int .i64 0) ∧ w = w' := by
  have H : Hid _ := is_no C w h
  clear h
  go_enter Try.func11, Try.ntmps11
  go_wp2_with fail
  refine Calls.mono H.out ?_
  rintro e w' ⟨rfl, rfl⟩
  go_wp2
  go_ret
  exact ⟨rfl, rfl⟩

theorem of_yes (n : Nat) (w : World) (h1 : 1 ≤ n) (h2 : n ≤ 4096) : Calls Try.prog 6 #[.int .i64 (n : Nat)] w fun e w' => e = .returned (.tuple #[.int .i64 ((n - 1) / 64 : Nat), .bool true]) ∧ w = w' := by
  obtain ⟨q, hq⟩ : ∃ q : Nat, (n - 1) / 64 = q := ⟨_, rfl⟩
  have HQ : Hid (((n : Int) - 1) / 64 = (q : Nat)) := by show _ = _; omega
  rw [hq]
  clear hq
  go_enter Try.func6, Try.ntmps6
  go_wp2
  rw [HQ.out]
  go_ret2
  exact ⟨rfl, rfl⟩
theorem of_no (n : Int) (w : World) (h : n < 1 ∨ 4096 < n) : Calls Try.prog 6 #[.int .i64 n] w fun e w' => e = .returned (.tuple #[.int .i64 0, .bool false]) ∧ w = w' := by
  by_cases h0 : n < 1
  · clear h
    go_enter Try.func6, Try.ntmps6
    go_wp2
    go_ret2
    exact ⟨rfl, rfl⟩
  · have h1 : 4096 < n := by omega
    clear h
    go_enter Try.func6, Try.ntmps6
    go_wp2
    go_ret2
    exact ⟨rfl, rfl⟩
end Go.Proofs.Ytbcebkbjlfkfgaa
