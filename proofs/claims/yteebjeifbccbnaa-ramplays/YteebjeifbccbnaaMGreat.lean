/- The walk of the law's own 'great': what isn't great has at most 60 deeds. -/
import Derived.Test.YteebjeifbccbnaaMOpen
import Derived.Test.YteebjeifbccbnaaMLives
namespace Go.Proofs.Yteebjeifbccbnaa
open Go.RowKit

def IsGreat (v : Value) (L : Nat) : Prop := ∃ b : Bool, v = .bool b ∧ (b = false → L ≤ 60)
set_option maxHeartbeats 1000000 in
theorem great_any (a : Option Addr) (L c : Nat) (D : Nat → Dd) (w : World) (hL : L ≤ maxLen) (hd : DeedsAt w a L D) :
    Calls Try.prog 14 #[.slice a L c] w fun e w' => ∃ v, e = .returned v ∧ w = w' ∧ IsGreat v L := by
  unfold maxLen at hL
  have HD : Hid (DeedsAt w a L D) := hd
  clear hd
  go_enter Try.func14, Try.ntmps14
  go_wp2_with fail
  go_loopw [3, 4] (fun n i wr => ∃ k s : Nat, k ≤ L ∧ k ≤ 200 ∧ s ≤ k * 9000 ∧ i = .int .i64 k ∧ n = .int .i64 s ∧ w = wr) (fun _ i _ => 200 - (intOf i).toNat)
  case atStart => exact ⟨0, 0, Nat.zero_le _, by omega, by omega, rfl, rfl, rfl⟩
  case round =>
    obtain ⟨k, s, hk, hk2, hs, rfl, rfl, rfl⟩ := hrel
    by_cases hlt : k < L
    · have i1 : (k : Int) < (L : Int) := by omega
      by_cases hlt2 : k < 200
      · obtain ⟨b, off, rfl, hb, _, _, _, _, _, c5⟩ := HD.out.later (Below.refl _ w) hlt
        have hl := (HD.out.ok hlt).l
        unfold maxLen at hl
        have i2 : (k : Int) < 200 := by omega
        generalize (D k).p = p at *
        generalize (D k).l = l at *
        generalize (D k).c = cc at *
        obtain ⟨q, hq, hq9⟩ : ∃ q : Nat, (if (9000 : Int) < (l : Int) then (9000 : Int) else (l : Int)) = (q : Int) ∧ q ≤ 9000 := by
          by_cases h9 : 9000 < l
          · exact ⟨9000, by rw [if_pos (by omega)]; rfl, by omega⟩
          · exact ⟨l, by rw [if_neg (by omega)], by omega⟩
        have hmin : ∀ (ts : Array TypeId) (t : TypeId) (w : World), (Builtin.min_ ts t #[.int .i64 (l : Int), .int .i64 9000]).run Try.prog w = .ok (.int .i64 (q : Int)) w := by
          intro ts t w
          rw [run_min_int2, hq]
        clear hq
        go_wp2
        go_roundw
        case rel => exact ⟨k + 1, s + q, by omega, by omega, by omega, by go_num, by go_num, trivial⟩
        case measure => simp [intOf]; omega
      · have e : k = 200 := by omega
        subst e
        have i3 : 60 < L := by omega
        have i4 : (60 : Int) < (L : Int) := by omega
        go_wp2
        go_ret
        exact ⟨_, rfl, rfl, true, rfl, by simp⟩
    · have e : k = L := by omega
      subst e
      by_cases h60 : 60 < k
      · have i4 : (60 : Int) < (k : Int) := by omega
        go_wp2
        go_ret
        exact ⟨_, rfl, rfl, true, rfl, by simp⟩
      · have i4 : ¬ (60 : Int) < (k : Int) := by omega
        go_wp2
        go_ret
        exact ⟨_, rfl, rfl, _, rfl, fun _ => by omega⟩
end Go.Proofs.Yteebjeifbccbnaa
