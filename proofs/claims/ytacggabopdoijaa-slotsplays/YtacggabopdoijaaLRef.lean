/- The walks of the document's Failed and Fails. -/
import Derived.Test.YtacggabopdoijaaLNew
namespace Go.Proofs.Ytacggabopdoijaa
open Go.RowKit

theorem ft_far {zs : List Bool} {k : Nat} (h : zs.length ≤ k) : ft zs k = ft zs zs.length := by
  unfold ft; rw [List.take_of_length_le h, List.take_length]


set_option maxHeartbeats 1000000 in
theorem refFails_any {a : Option Addr} {n c : Nat} {zs : List Bool} (k : Nat) (w : World) (h : BoolsAt w a n c zs) :
    Calls Try.prog 52 #[.slice a n c, .int .i64 (k : Nat)] w fun e w' => e = .returned (.bool (fa zs k)) ∧ w = w' := by
  have i0 : (0 : Int) ≤ (k : Int) := by omega
  by_cases h1 : k < n
  · obtain ⟨b, off, rfl, _, cz⟩ := h.later (Below.refl _ w) h1
    have i1 : (k : Int) < (n : Int) := by omega
    generalize fa zs k = y at *
    clear h
    go_enter Try.func52, Try.ntmps52
    go_wp2
    go_ret
    exact ⟨rfl, rfl⟩
  · rw [fa_far (by rw [h.1]; omega)]
    clear h
    go_enter Try.func52, Try.ntmps52
    go_wp2
    go_ret
    exact ⟨rfl, rfl⟩
end Go.Proofs.Ytacggabopdoijaa
