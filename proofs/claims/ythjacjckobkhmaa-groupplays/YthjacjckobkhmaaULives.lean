/- The walks of the laws' lives, big and told. -/
import Derived.Test.YthjacjckobkhmaaUCount
import Derived.Test.YthjacjckobkhmaaUWorst
namespace Go.Proofs.Ythjacjckobkhmaa
open Go.RowKit

set_option maxHeartbeats 1000000 in
theorem lives_any (w : World) : Calls Try.prog 7 #[] w fun e w' => e = .returned (.bool true) ∧ Below w.heap.size w w' := by
  have HN : Hid _ := gNew_any w
  go_enter Try.func7, Try.ntmps7
  go_wp2_with fail
  refine Calls.mono HN.out ?_
  rintro e w1 ⟨rfl, h1, b1⟩
  obtain ⟨r, hr⟩ : ∃ r, w.heap.size + 1 = r := ⟨_, rfl⟩
  obtain ⟨q, hq⟩ : ∃ q, w.heap.size = q := ⟨_, rfl⟩
  rw [hr] at h1 ⊢
  rw [hq] at h1
  have hqr : q + 1 = r := by omega
  have HP1 := gPut_any 0 3 4 w1 h1 gok_nil (by omega) (by simp)
  have e1 : okG ⟨0, 3, 4⟩ = true ∧ putR [] ⟨0, 3, 4⟩ = [⟨0, 3, 4⟩] := ⟨rfl, rfl⟩
  rw [e1.1, e1.2] at HP1
  have HP1 : Hid _ := HP1
  have HB1 : Hid (Below q w w1) := hq ▸ b1
  clear h1 b1 HN
  go_wp2_with fail
  refine Calls.mono HP1.out ?_
  rintro e w2 ⟨rfl, h2, g2⟩
  have hG2 : Gok [⟨0, 3, 4⟩] := e1.2 ▸ gok_nil.putR (by show (4 : Int) ≤ _; omega)
  have HP2 := gPut_any 1 1 4 w2 h2 hG2 (by omega) (by simp)
  have e2 : okG ⟨1, 1, 4⟩ = true ∧ putR [⟨0, 3, 4⟩] ⟨1, 1, 4⟩ = [⟨0, 3, 4⟩, ⟨1, 1, 4⟩] := ⟨rfl, rfl⟩
  have hG3 : Gok [⟨0, 3, 4⟩, ⟨1, 1, 4⟩] := e2.2 ▸ hG2.putR (by show (4 : Int) ≤ _; omega)
  rw [e2.1, e2.2] at HP2
  have HP2 : Hid _ := HP2
  have HB2 : Hid (Below q w w2) := HB1.out.grown g2 (by have := HB1.out.size; omega) (fun i hi => by cases hi; omega)
  clear h2 g2 hG2 HP1 e1
  go_wp2_with fail
  refine Calls.mono HP2.out ?_
  rintro e w3 ⟨rfl, h3, g3⟩
  have HB3 : Hid (Below q w w3) := HB2.out.grown g3 (by have := HB2.out.size; omega) (fun i hi => by cases hi; omega)
  have hp3 : BookP w3 (.pointer (some ⟨r, 0, none⟩)) [⟨0, 3, 4⟩, ⟨1, 1, 4⟩] := h3.p
  have eb : bN (bestD (butG [⟨0, 3, 4⟩, ⟨1, 1, 4⟩] [])) = 0 ∧ bS (bestD (butG [⟨0, 3, 4⟩, ⟨1, 1, 4⟩] [])) = true := by decide
  have ew : bN (worstD [⟨0, 3, 4⟩, ⟨1, 1, 4⟩]) = 1 ∧ bS (worstD [⟨0, 3, 4⟩, ⟨1, 1, 4⟩]) = true := by decide
  have er : roomG (butG [⟨0, 3, 4⟩, ⟨1, 1, 4⟩] []) = 4 := by decide
  have HBe := gBest_any (bs := []) (a := none) (c := 0) w3 hp3 hG3 (.inl rfl) (fun _ h => (by cases h)) (by simp) (by simp)
  rw [eb.1, eb.2] at HBe
  have HBe : Hid _ := HBe
  have HP3 : Hid (BookP w3 (.pointer (some ⟨r, 0, none⟩)) [⟨0, 3, 4⟩, ⟨1, 1, 4⟩]) := hp3
  have HG3 : Hid (Gok [⟨0, 3, 4⟩, ⟨1, 1, 4⟩]) := hG3
  clear h3 g3 hp3 hG3 HP2 eb
  go_wp2_with fail
  refine Calls.mono HBe.out ?_
  rintro e w4 ⟨rfl, b4⟩
  have HP4 : Hid (BookP w4 (.pointer (some ⟨r, 0, none⟩)) [⟨0, 3, 4⟩, ⟨1, 1, 4⟩]) := BookP.below HP3.out b4
  have HW := gWorst_any w4 HP4.out HG3.out (by simp)
  rw [ew.1, ew.2] at HW
  have HW : Hid _ := HW
  have HB4 : Hid (Below q w w4) := HB3.out.trans (b4.mono (by have := HB3.out.size; omega))
  clear b4 HBe HP3
  go_wp2_with fail
  refine Calls.mono HW.out ?_
  rintro e w5 ⟨rfl, b5⟩
  have HR := gRoom_any (bs := []) (a := none) (c := 0) w5 (BookP.below HP4.out b5) HG3.out (.inl rfl) (fun _ h => (by cases h)) (by simp) (by simp)
  rw [er] at HR
  have HR : Hid _ := HR
  have HB5 : Hid (Below q w w5) := HB4.out.trans (b5.mono (by have := HB4.out.size; omega))
  clear b5 HW HP4 ew er
  go_wp2_with fail
  refine Calls.mono HR.out ?_
  rintro e w6 ⟨rfl, b6⟩
  have HB6 : Hid (Below q w w6) := HB5.out.trans (b6.mono (by have := HB5.out.size; omega))
  clear b6
  go_wp2
  go_ret
  exact ⟨rfl, hq ▸ HB6.out⟩

set_option maxHeartbeats 400000 in
theorem big_yes (n : Int) (w : World) (h : n < -100000000 ∨ 100000000 < n) : Calls Try.prog 6 #[.int .i64 n] w fun e w' => e = .returned (.bool true) ∧ w = w' := by
  by_cases h1 : 100000000 < n
  · go_enter Try.func6, Try.ntmps6
    go_wp2
    go_ret
    exact ⟨rfl, rfl⟩
  · have h2 : n < -100000000 := by omega
    go_enter Try.func6, Try.ntmps6
    go_wp2
    go_ret
    exact ⟨rfl, rfl⟩
set_option maxHeartbeats 400000 in
theorem big_no (n : Int) (w : World) (h : -100000000 ≤ n ∧ n ≤ 100000000) : Calls Try.prog 6 #[.int .i64 n] w fun e w' => e = .returned (.bool false) ∧ w = w' := by
  have h1 : ¬ 100000000 < n := by omega
  have h2 : ¬ n < -100000000 := by omega
  go_enter Try.func6, Try.ntmps6
  go_wp2
  go_ret
  exact ⟨rfl, rfl⟩
set_option maxHeartbeats 400000 in
theorem told_any (o : Option Gh) (w : World) (h : ∀ x, o = some x → 0 ≤ x.n) : Calls Try.prog 20 #[.int .i64 (bN o), .bool (bS o), .int .i64 (wantO o)] w fun e w' => e = .returned (.bool true) ∧ w = w' := by
  cases o with
  | none =>
    show Calls _ _ #[.int .i64 0, .bool false, .int .i64 (-1)] _ _
    go_enter Try.func20, Try.ntmps20
    go_wp2
    go_ret
    exact ⟨rfl, rfl⟩
  | some x =>
    show Calls _ _ #[.int .i64 x.n, .bool true, .int .i64 x.n] _ _
    have h1 := h x rfl
    generalize x.n = n at *
    have h2 : ¬ n < 0 := by omega
    clear h
    go_enter Try.func20, Try.ntmps20
    go_wp2
    go_ret
    exact ⟨rfl, rfl⟩
end Go.Proofs.Ythjacjckobkhmaa
