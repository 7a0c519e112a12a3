/- The walk of the law's own 'great': what isn't great has at most 200 pieces, none of more than 5000 bytes. -/
import Derived.Test.YtgninhecclinaaaEOpen
namespace Go.Proofs.Ytgninhecclinaaa
open Go.RowKit

def IsGreat (v : Value) (L : Nat) (D : Nat → Pc) : Prop := ∃ b : Bool, v = .bool b ∧ (b = false → L ≤ 200 ∧ ∀ i, i < L → (D i).l ≤ 5000)
set_option maxHeartbeats 1000000 in
theorem great_any (a : Option Addr) (L c : Nat) (D : Nat → Pc) (w : World) (hL : L ≤ maxLen) (hd : PcsAt w a L D) :
    Calls Try.prog 6 #[.slice a L c] w fun e w' => ∃ v, e = .returned v ∧ w = w' ∧ IsGreat v L D := by
  unfold maxLen at hL
  have HD : Hid (PcsAt w a L D) := hd
  clear hd
  go_enter Try.func6, Try.ntmps6
  go_wp2_with fail
  go_loopw [3] (fun i wr => ∃ k : Nat, k ≤ L ∧ k ≤ 300 ∧ i = .int .i64 k ∧ w = wr ∧ ∀ i, i < k → (D i).l ≤ 5000) (fun i _ => 300 - (intOf i).toNat)
  case atStart => exact ⟨0, Nat.zero_le _, by omega, rfl, rfl, fun i hi => by omega⟩
  case round =>
    obtain ⟨k, hk, hk2, rfl, rfl, hall⟩ := hrel
    have HA : Hid (∀ i, i < k → (D i).l ≤ 5000) := hall
    clear hall
    by_cases hlt : k < L
    · have i1 : (k : Int) < (L : Int) := by omega
      by_cases hlt2 : k < 300
      · obtain ⟨b, off, rfl, hb, c0, _⟩ := HD.out.later (Below.refl _ w) hlt
        have hl := (HD.out.ok hlt).by_.short
        unfold maxLen at hl
        have i2 : (k : Int) < 300 := by omega
        by_cases h6 : 5000 < (D k).l
        · have i3 : (5000 : Int) < ((D k).l : Int) := by omega
          generalize (D k).p = p at *
          generalize (D k).l = l at *
          generalize (D k).c = cc at *
          go_wp2
          go_ret
          exact ⟨_, rfl, rfl, true, rfl, by simp⟩
        · have i3 : ¬ (5000 : Int) < ((D k).l : Int) := by omega
          have HA2 : Hid (∀ i, i < k + 1 → (D i).l ≤ 5000) := fun i hi => by
            by_cases e : i = k
            · subst e; omega
            · exact HA.out i (by omega)
          clear h6
          generalize (D k).p = p at *
          generalize (D k).l = l at *
          generalize (D k).c = cc at *
          go_wp2
          go_roundw
          case rel => exact ⟨k + 1, by omega, by omega, by go_num, trivial, HA2.out⟩
          case measure => simp [intOf]; omega
      · have e : k = 300 := by omega
        subst e
        have i4 : (200 : Int) < (L : Int) := by omega
        go_wp2
        go_ret
        exact ⟨_, rfl, rfl, true, rfl, by simp⟩
    · have e : k = L := by omega
      subst e
      by_cases h200 : 200 < k
      · have i4 : (200 : Int) < (k : Int) := by omega
        go_wp2
        go_ret
        exact ⟨_, rfl, rfl, true, rfl, by simp⟩
      · have i4 : ¬ (200 : Int) < (k : Int) := by omega
        go_wp2
        go_ret
        exact ⟨_, rfl, rfl, _, rfl, fun _ => ⟨by omega, HA.out⟩⟩
end Go.Proofs.Ytgninhecclinaaa
