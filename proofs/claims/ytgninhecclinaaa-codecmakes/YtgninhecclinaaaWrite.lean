/- The walk of num.write: size bytes of a row that the call owns are a number's lowest ones, and no other cell has turned. -/
import Derived.Test.YtgninhecclinaaaRows
import Derived.Test.YtgninhecclinaaaPlain
import Derived.WalkKit
import Derived.WalkSpells
import Derived.WalkLawsBesides
import Derived.Maps.AppendAt
namespace Go.Proofs.Ytgninhecclinaaa
open Go.RowKit

theorem own_cell {w : World} {B g L cap : Nat} {e : TypeId} {xs : List Value} (h : w.ownsRow B e 1 (.slice (some ⟨g, 0, none⟩) L cap) L xs) {j : Nat} (hj : j < L) : ∃ v, w.cell? ⟨g, j, none⟩ = some v := by
  have hl := h.1
  rw [h.cellAt j (by omega)]
  exact ⟨xs[j]'(by omega), List.getElem?_eq_getElem _⟩

set_option maxHeartbeats 400000 in
theorem write_any (B g L cap a s n : Nat) (A S N : Int) (hA : A = a) (hS : S = s) (hN : N = n) (b : List Nat) (w : World) (hL : L ≤ maxLen) (hs : s ≤ 8) (has : a + s ≤ L)
    (hown : w.ownsRow B 5 1 (.slice (some ⟨g, 0, none⟩) L cap) L (bv b)) :
    Calls Try.prog 38 #[.slice (some ⟨g, 0, none⟩) L cap, .int .i64 A, .int .i64 S, .int .u64 N] w fun e w' =>
      e = .returned (.tuple #[]) ∧ w'.ownsRow B 5 1 (.slice (some ⟨g, 0, none⟩) L cap) L (bv (layN b a s n)) ∧ w.grownBy w' (some g) := by
  subst hA hS hN
  unfold maxLen at hL
  have hbl : b.length = L := by have := hown.1; simpa using this
  have H0 : Hid (b.length = L) := hbl
  clear hbl
  go_enter Try.func38, Try.ntmps38
  go_wp2
  go_loopw [10] (fun i wr => ∃ k : Nat, k ≤ s ∧ i = .int .i64 k ∧ wr.ownsRow B 5 1 (.slice (some ⟨g, 0, none⟩) L cap) L (bv (layN b a k n)) ∧ w.grownBy wr (some g)) (fun i _ => s - (intOf i).toNat)
  case atStart => exact ⟨0, Nat.zero_le _, rfl, by rw [layN_zero]; exact hown, World.grownBy.refl _ _⟩
  case round =>
    obtain ⟨k, hk, rfl, hown', hg⟩ := hrel
    by_cases hlt : k < s
    · obtain ⟨v0, hcell⟩ := own_cell hown' (j := a + k) (by omega)
      have hfz := hown'.frozenAt (a + k)
      have hlay := layN_succ (b := b) (a := a) (k := k) (n := n) (by rw [H0.out]; omega)
      have HL : Hid _ := hlay
      clear hlay
      go_wp2
      go_roundw
      case rel =>
        refine ⟨k + 1, by omega, by go_num, ?_⟩
        rw [byteAt2]
        have R := hown'.stored (a + k) (.int .u8 ((n / 256 ^ k % 256 : Nat) : Int))
        rw [bv_set, HL.out] at R
        exact ⟨R.1, hg.trans R.2⟩
      case measure => simp [intOf]; omega
    · have e : k = s := by omega
      subst e
      go_wp2
      go_end0
      exact ⟨rfl, hown', hg⟩
end Go.Proofs.Ytgninhecclinaaa
