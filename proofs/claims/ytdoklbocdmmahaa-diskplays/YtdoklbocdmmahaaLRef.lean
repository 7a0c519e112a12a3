/- The walks of the document's Failed and Fails. -/
import Derived.Test.YtdoklbocdmmahaaLNew
namespace Go.Proofs.Ytdoklbocdmmahaa
open Go.RowKit

theorem ft_far {zs : List Bool} {k : Nat} (h : zs.length ≤ k) : ft zs k = ft zs zs.length := by
  unfold ft; rw [List.take_of_length_le h, List.take_length]

set_option maxHeartbeats 1000000 in
theorem refFailed_any {a : Option Addr} {n c : Nat} {zs : List Bool} (k : Nat) (w : World) (h : BoolsAt w a n c zs) (hn : n ≤ 8192) (hk : k ≤ 1000000000) :
    Calls Try.prog 20 #[.slice a n c, .int .i64 (k : Nat)] w fun e w' => e = .returned (.int .i64 (ft zs k : Nat)) ∧ w = w' := by
  have HL : Hid (zs.length = n) := h.1
  have H : Hid (BoolsAt w a n c zs) := h
  clear h
  go_enter Try.func20, Try.ntmps20
  go_wp2_with fail
  go_loopw [5, 6] (fun t i wr => ∃ j : Nat, j ≤ n ∧ j ≤ k ∧ i = .int .i64 j ∧ t = .int .i64 (ft zs j : Nat) ∧ w = wr) (fun _ i _ => n - (intOf i).toNat)
  case atStart => exact ⟨0, Nat.zero_le _, Nat.zero_le _, rfl, rfl, rfl⟩
  case round =>
    obtain ⟨j, hj, hjk, rfl, rfl, rfl⟩ := hrel
    have hfl := ft_le zs j
    by_cases h1 : j < n
    · by_cases h2 : j < k
      · obtain ⟨b, off, rfl, _, cz⟩ := H.out.later (Below.refl _ w) h1
        have HF : Hid (ft zs (j + 1) = inc (ft zs j) (fa zs j)) := ft_next zs j
        have i1 : (j : Int) < (n : Int) := by omega
        generalize ft zs j = t at *
        cases hy : fa zs j with
        | true =>
          rw [hy] at cz HF
          clear hy
          go_wp2
          go_roundw
          case rel => exact ⟨j + 1, by omega, by omega, by go_num, by rw [HF.out]; simp [inc], trivial⟩
          case measure => simp [intOf]; omega
        | false =>
          rw [hy] at cz HF
          clear hy
          go_wp2
          go_roundw
          case rel => exact ⟨j + 1, by omega, by omega, by go_num, by rw [HF.out]; rfl, trivial⟩
          case measure => simp [intOf]; omega
      · have e : j = k := by omega
        subst e
        go_wp2
        go_ret
        exact ⟨rfl, rfl⟩
    · have e : j = n := by omega
      subst e
      have HE : Hid (ft zs k = ft zs j) := by show _ = _; rw [ft_far (by rw [HL.out]; exact hjk), HL.out]
      go_wp2
      go_ret
      exact ⟨retInt (by rw [HE.out]), rfl⟩
theorem refFailed_is {a : Option Addr} {n c : Nat} {zs : List Bool} (k : Nat) (w : World) (h : BoolsAt w a n c zs) (hn : n ≤ 8192) (hk : k ≤ 1000000000) {q : Nat} (hq : ft zs k = q) :
    Calls Try.prog 20 #[.slice a n c, .int .i64 (k : Nat)] w fun e w' => e = .returned (.int .i64 (q : Nat)) ∧ w = w' := by
  rw [← hq]; exact refFailed_any k w h hn hk

set_option maxHeartbeats 1000000 in
theorem refFails_any {a : Option Addr} {n c : Nat} {zs : List Bool} (k : Nat) (w : World) (h : BoolsAt w a n c zs) :
    Calls Try.prog 27 #[.slice a n c, .int .i64 (k : Nat)] w fun e w' => e = .returned (.bool (fa zs k)) ∧ w = w' := by
  have i0 : (0 : Int) ≤ (k : Int) := by omega
  by_cases h1 : k < n
  · obtain ⟨b, off, rfl, _, cz⟩ := h.later (Below.refl _ w) h1
    have i1 : (k : Int) < (n : Int) := by omega
    generalize fa zs k = y at *
    clear h
    go_enter Try.func27, Try.ntmps27
    go_wp2
    go_ret
    exact ⟨rfl, rfl⟩
  · rw [fa_far (by rw [h.1]; omega)]
    clear h
    go_enter Try.func27, Try.ntmps27
    go_wp2
    go_ret
    exact ⟨rfl, rfl⟩
end Go.Proofs.Ytdoklbocdmmahaa
