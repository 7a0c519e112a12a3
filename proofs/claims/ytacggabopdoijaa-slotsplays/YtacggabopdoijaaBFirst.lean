/- The walks of First and Take: the least number that isn't in it. -/
import Derived.Test.YtacggabopdoijaaBPut
namespace Go.Proofs.Ytacggabopdoijaa
open Go.RowKit

/-- The least number that isn't in it, the size where there is none. -/
def frst (x : List Bool) : Nat := x.findIdx (fun b => !b)
def frstN (x : List Bool) : Nat := if frst x < x.length then frst x else 0
def frstB (x : List Bool) : Bool := decide (frst x < x.length)
theorem frst_at {x : List Bool} {k : Nat} (hk : k < x.length) (h : x.getD k false = false) (hl : ∀ j, j < k → x.getD j false = true) : frst x = k := by
  unfold frst
  rw [List.findIdx_eq hk]
  refine ⟨by simpa [List.getD, hk] using h, ?_⟩
  intro j hj
  have := hl j hj
  have hj' : j < x.length := by omega
  simpa [List.getD, hj'] using this
theorem frst_none {x : List Bool} (hl : ∀ j, j < x.length → x.getD j false = true) : frst x = x.length := by
  unfold frst
  rw [List.findIdx_eq_length]
  intro b hb
  obtain ⟨j, hj, rfl⟩ := List.getElem_of_mem hb
  have := hl j hj
  simpa [List.getD, hj] using this
theorem frst_has {x : List Bool} (h : frst x < x.length) : hasB x (frst x) = false := by
  rw [hasB_nat]
  have h1 : (fun b : Bool => !b) (x[frst x]'h) = true := List.findIdx_getElem
  have h2 : (!(x[frst x]'h)) = true := h1
  rw [List.getD_eq_getElem?_getD, List.getElem?_eq_getElem h, Option.getD_some]
  cases hx : x[frst x]'h
  · rfl
  · rw [hx] at h2; cases h2
theorem frst_le (x : List Bool) : frst x ≤ x.length := List.findIdx_le_length

set_option maxHeartbeats 400000 in
theorem first_any {B : Nat} {p : Option Addr} {r : Option Nat} {x : List Bool} (w : World) (h : SetP B w p r x) :
    Calls Try.prog 23 #[.pointer p] w fun e w' => e = .returned (.tuple #[.int .i64 (frstN x : Nat), .bool (frstB x)]) ∧ ∃ m, w' = w.drewN m := by
  have hs := h.small
  go_enter Try.func23, Try.ntmps23
  go_wp2_with (go_at_call 31; refine (size_any _ h).mono ?_; rintro e w' ⟨rfl, rfl⟩)
  go_loopw [4, 7] (fun _ i wr => ∃ k m : Nat, k ≤ x.length ∧ i = .int .i64 k ∧ wr = w.drewN m ∧ ∀ j, j < k → x.getD j false = true) (fun _ i _ => x.length - (intOf i).toNat)
  case atStart => exact ⟨0, 0, Nat.zero_le _, rfl, rfl, by intro j hj; omega⟩
  case round =>
    obtain ⟨k, m, hk, rfl, rfl, hl⟩ := hrel
    have HL : Hid _ := hl
    clear hl
    by_cases hlt : k < x.length
    · cases hh : hasB x k
      · have HH : Hid (hasB x k = false) := hh
        clear hh
        go_wp2_with (go_at_call 30; refine (has_any _ _ (h.drewN m)).mono ?_; rw [HH.out]; rintro e w' ⟨rfl, m2, rfl⟩)
        go_ret2
        have e1 : frst x = k := frst_at hlt (by rw [← hasB_nat]; exact HH.out) HL.out
        exact ⟨by rw [frstN, frstB, e1, if_pos hlt, decide_eq_true hlt]; rfl, m + m2, rfl⟩
      · have HH : Hid (hasB x k = true) := hh
        clear hh
        go_wp2_with (go_at_call 30; refine (has_any _ _ (h.drewN m)).mono ?_; rw [HH.out]; rintro e w' ⟨rfl, m2, rfl⟩)
        go_roundw
        case rel =>
          refine ⟨k + 1, m + m2, by omega, by go_num, rfl, ?_⟩
          intro j hj
          by_cases e : j = k
          · subst e; rw [← hasB_nat]; exact HH.out
          · exact HL.out j (by omega)
        case measure => simp [intOf]; omega
    · have e : k = x.length := by omega
      subst e
      have e1 := frst_none HL.out
      go_wp2_with fail
      go_ret2
      exact ⟨by rw [frstN, frstB, e1, if_neg (by omega), decide_eq_false (by omega)]; rfl, m, rfl⟩

theorem takeL_no {x : List Bool} (h : frstB x = false) : putL x (frst x) true = x := by
  simp only [frstB, decide_eq_false_iff_not] at h
  exact putL_no (by simp [mayB]; omega)
theorem frstN_yes {x : List Bool} (h : frstB x = true) : frstN x = frst x ∧ frst x < x.length := by
  simp only [frstB, decide_eq_true_eq] at h
  exact ⟨by rw [frstN, if_pos h], h⟩
theorem frstN_no {x : List Bool} (h : frstB x = false) : frstN x = 0 := by
  simp only [frstB, decide_eq_false_iff_not] at h
  rw [frstN, if_neg h]

end Go.Proofs.Ytacggabopdoijaa
