/- The walk of the law's own 'great': what isn't great has at most 40 deeds. -/
import Derived.Test.YtacggabopdoijaaDOpen
namespace Go.Proofs.Ytacggabopdoijaa
open Go.RowKit

def IsGreat (v : Value) (L : Nat) : Prop := ∃ b : Bool, v = .bool b ∧ (b = false → L ≤ 40)
set_option maxHeartbeats 1000000 in
theorem great_any (a : Option Addr) (L c : Nat) (D : Nat → Dd) (w : World) (hL : L ≤ maxLen) (hd : DeedsAt w a L D) :
    Calls Try.prog 14 #[.slice a L c] w fun e w' => ∃ v, e = .returned v ∧ w = w' ∧ IsGreat v L := by
  unfold maxLen at hL
  have HD : Hid (DeedsAt w a L D) := hd
  clear hd
  go_enter Try.func14, Try.ntmps14
  go_wp2_with fail
  go_loopw [3] (fun i wr => ∃ k : Nat, k ≤ L ∧ k ≤ 100 ∧ i = .int .i64 k ∧ w = wr) (fun i _ => 100 - (intOf i).toNat)
  case atStart => exact ⟨0, Nat.zero_le _, by omega, rfl, rfl⟩
  case round =>
    obtain ⟨k, hk, hk2, rfl, rfl⟩ := hrel
    by_cases hlt : k < L
    · have i1 : (k : Int) < (L : Int) := by omega
      by_cases hlt2 : k < 100
      · obtain ⟨b, off, rfl, hb, _, _, _, c3⟩ := HD.out.later (Below.refl _ w) hlt
        have hl := (HD.out.ok hlt).l
        unfold maxLen at hl
        have i2 : (k : Int) < 100 := by omega
        generalize (D k).p = p at *
        generalize (D k).l = l at *
        generalize (D k).c = cc at *
        by_cases h6 : 5000 < l
        · have i3 : (5000 : Int) < (l : Int) := by omega
          go_wp2
          go_ret
          exact ⟨_, rfl, rfl, true, rfl, by simp⟩
        · have i3 : ¬ (5000 : Int) < (l : Int) := by omega
          go_wp2
          go_roundw
          case rel => exact ⟨k + 1, by omega, by omega, by go_num, trivial⟩
          case measure => simp [intOf]; omega
      · have e : k = 100 := by omega
        subst e
        have i4 : (40 : Int) < (L : Int) := by omega
        go_wp2
        go_ret
        exact ⟨_, rfl, rfl, true, rfl, by simp⟩
    · have e : k = L := by omega
      subst e
      by_cases h40 : 40 < k
      · have i4 : (40 : Int) < (k : Int) := by omega
        go_wp2
        go_ret
        exact ⟨_, rfl, rfl, true, rfl, by simp⟩
      · have i4 : ¬ (40 : Int) < (k : Int) := by omega
        go_wp2
        go_ret
        exact ⟨_, rfl, rfl, _, rfl, fun _ => by omega⟩
end Go.Proofs.Ytacggabopdoijaa
