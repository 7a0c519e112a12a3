/- The walk of Find. -/
import Derived.Test.YtgninhecclinaaaASet
namespace Go.Proofs.Ytgninhecclinaaa
open Go.RowKit

set_option maxRecDepth 100000 in
set_option maxHeartbeats 1000000 in
theorem find_any {v : Value} {b : List Nat} {I : Int} (w : World) (h : FinP w v b) :
    Calls Try.prog 47 #[v, .int .i64 I] w fun e w' => e = .returned (.tuple #[.int .i64 ((findI b I).1 : Nat), .int .i64 ((findI b I).2 : Nat)]) ∧ ∃ m, w' = w.drewN m := by
  have H : Hid (HasB w v b) := h.has
  have hle := h.le
  by_cases h1 : I < 0
  · have HE : Hid (findI b I = (0, 0)) := find_no (.inl h1)
    clear h
    go_enter Try.func47, Try.ntmps47
    go_wp2
    go_ret2
    exact ⟨by rw [HE.out]; rfl, 0, rfl⟩
  have i1 : ¬ I < 0 := h1
  obtain ⟨n, hn⟩ : ∃ n, b.length - 2 = n := ⟨_, rfl⟩
  have HN : Hid (b.length - 2 = n) := hn
  by_cases h2 : (n : Int) ≤ I
  · have HE : Hid (findI b I = (0, 0)) := find_no (.inr (by omega))
    clear h hn
    go_enter Try.func47, Try.ntmps47
    go_wp2_with fail
    refine (starts_is _ H.out HN.out).mono ?_
    rintro e w' ⟨rfl, rfl⟩
    go_wp2
    go_ret2
    exact ⟨by rw [HE.out]; rfl, 0, rfl⟩
  have i2 : ¬ (n : Int) ≤ I := h2
  obtain ⟨a, rfl⟩ : ∃ a : Nat, I = a := ⟨I.toNat, by omega⟩
  have han : a < n := by omega
  have HL : Hid (a + 3 ≤ b.length) := by show _ ≤ _; omega
  have hn4 : n ≤ 4096 := by omega
  rcases h with ⟨_, rfl⟩ | ⟨fb, p, L, c, A, rfl, hF, hA⟩
  · simp at hn; omega
  have HA : Hid (Ahead b A n) := by
    have := hF.len
    show Ahead b A n
    rwa [← hn, this]
  have HF : Hid (FindAt w fb p L c A) := hF.at_
  have HX : Hid (findI b (a : Int) = look b a a 0 0 0) := find_yes HL.out
  have i3 : decide (n ≤ a) = false := decide_eq_false (by omega)
  clear hF hA hn
  go_enter Try.func47, Try.ntmps47
  go_wp2_with fail
  refine (starts_is _ H.out HN.out).mono ?_
  rintro e w' ⟨rfl, rfl⟩
  go_wp2_with fail
  go_loopg [6, 7, 8, 19] 32 (fun gk x y z i wr => ∃ (k best dist f m : Nat), k ≤ 32 ∧ gk = 32 - k ∧ x = .int .i64 best ∧ y = .int .i64 dist ∧ z = .int .i64 f ∧ i = .int .i64 k ∧ wr = w.drewN m ∧ f ≤ a ∧ cand b a f ∧ look b a f best dist k = findI b (a : Int))
  case atStart => exact ⟨0, 0, 0, a, 0, by omega, rfl, rfl, rfl, rfl, rfl, rfl, Nat.le_refl _, ⟨rfl, rfl, rfl⟩, HX.out.symm⟩
  case round =>
    obtain ⟨k, best, dist, f, m, hk, rfl, rfl, rfl, rfl, rfl, rfl, hf, hc, hlook⟩ := hrel
    have HLK : Hid (look b a f best dist k = findI b (a : Int)) := hlook
    have HC : Hid (cand b a f) := hc
    clear hlook hc
    by_cases hlt : k < 32
    · have i3 : (k : Int) < 32 := by omega
      have c1 := HF.out.cell (n := f) (by omega)
      obtain ⟨q, hq⟩ : ∃ q, A f = q := ⟨_, rfl⟩
      rw [hq] at c1
      cases q with
      | zero =>
        have HE : Hid (findI b (a : Int) = (best, dist)) := by
          show _ = _
          rw [← HLK.out]
          exact ahead_end HA.out (by omega) hf HL.out HC.out hq
        clear hq
        go_wp2
        go_ret2
        exact ⟨by rw [HE.out]; rfl, _, rfl⟩
      | succ q =>
        obtain ⟨n1, n2, n3, n4⟩ := ahead_next (best := best) (dist := dist) (seen := k) HA.out (by omega) hf HL.out HC.out hq
        have HN2 : Hid (cand b a q) := n2
        have HN3 : Hid (3 ≤ wN b a q) := n3
        have HN4 : Hid (look b a (q + 1) best dist k = findI b (a : Int)) := by show _ = _; rw [← n4]; exact HLK.out
        have HD : Hid (HasB (w.drewN m) (.pointer (some ⟨fb, 0, none⟩)) b) := H.out.later (drewN_below _ _ _)
        obtain ⟨s, hs⟩ : ∃ s, wN b a q = s := ⟨_, rfl⟩
        have HS : Hid (wN b a q = s) := hs
        have HW : Hid (withI b (a : Int) (q : Int) = s) := by show _ = _; rw [with_yes (by omega) (by have := HL.out; omega)]; exact hs
        have i4 : ((((q + 1 : Nat) : Int)) == 0) = false := by rw [beq_eq_false_iff_ne]; omega
        clear hq n2 n3 n4 hs
        go_wp2_with fail
        refine (with_is _ HD.out HW.out).mono ?_
        rintro e w' ⟨rfl, m2, rfl⟩
        have HF2 : Hid (f ≤ a ∧ q < f) := ⟨hf, n1⟩
        by_cases h5 : best < s
        · have i5 : (best : Int) < (s : Int) := by omega
          have HR : Hid (look b a q s (a - q) (k + 1) = findI b (a : Int)) := by
            show _ = _
            rw [← HN4.out, look_more hlt HN3.out (by rw [HS.out]; exact h5), HS.out]
          go_wp2
          go_roundg (32 - (k + 1))
          case measure => omega
          case rel => exact ⟨k + 1, s, a - q, q, m + m2, by omega, rfl, rfl, by go_num, rfl, by go_num, rfl, by omega, HN2.out, HR.out⟩
        · have i5 : ¬ (best : Int) < (s : Int) := by omega
          have HR : Hid (look b a q best dist (k + 1) = findI b (a : Int)) := by
            show _ = _
            rw [← HN4.out, look_less hlt HN3.out (by rw [HS.out]; exact h5)]
          go_wp2
          go_roundg (32 - (k + 1))
          case measure => omega
          case rel => exact ⟨k + 1, best, dist, q, m + m2, by omega, rfl, rfl, rfl, rfl, by go_num, rfl, by omega, HN2.out, HR.out⟩
    · obtain rfl : k = 32 := by omega
      have HE : Hid (findI b (a : Int) = (best, dist)) := by
        show _ = _
        rw [← HLK.out]
        exact look_full (Nat.le_refl _) _ _ _
      go_wp2
      go_ret2
      exact ⟨by rw [HE.out]; rfl, _, rfl⟩
theorem find_is {v : Value} {b : List Nat} {I : Int} {r d : Nat} (w : World) (h : FinP w v b) (hr : findI b I = (r, d)) :
    Calls Try.prog 47 #[v, .int .i64 I] w fun e w' => e = .returned (.tuple #[.int .i64 (r : Nat), .int .i64 (d : Nat)]) ∧ ∃ m, w' = w.drewN m := by
  have := find_any (I := I) w h
  rw [hr] at this
  exact this
theorem find_nil (I : Int) : findI [] I = (0, 0) := by
  unfold findI
  rw [if_neg (by simp; omega)]
end Go.Proofs.Ytgninhecclinaaa
