/- The walk of the law's own 'same': a set and the document's list of bools tell the same. -/
import Derived.Test.YtnihgibgfnhbiaaBWith
namespace Go.Proofs.Ytnihgibgfnhbiaa
open Go.RowKit

theorem drewN_below (B : Nat) (w : World) (n : Nat) : Below B w (w.drewN n) := ⟨rfl, rfl, rfl, Nat.le_refl _, fun _ _ => rfl⟩
theorem upTo_neg (l : List Nat) : upTo (-1) l = l := rfl
theorem allL_len (x : List Bool) : (allL x).length ≤ x.length := allTo_len x _
theorem len_is {B : Nat} {p : Option Addr} {r : Option Nat} {x : List Bool} (w : World) (h : SetP B w p r x) {n : Nat} (hn : (allL x).length = n) :
    Calls Try.prog 11 #[.pointer p] w fun e w' => e = .returned (.int .i64 (n : Int)) ∧ w = w' := by
  rw [← hn]; exact len_any w h
theorem has_is {B : Nat} {p : Option Addr} {r : Option Nat} {x : List Bool} (n : Int) (w : World) (h : SetP B w p r x) {b : Bool} (hb : hasB x n = b) :
    Calls Try.prog 9 #[.pointer p, .int .i64 n] w fun e w' => e = .returned (.bool b) ∧ ∃ m, w' = w.drewN m := by
  rw [← hb]; exact has_any n w h



set_option maxHeartbeats 1000000 in
theorem same_any {B C : Nat} {p : Option Addr} {r : Option Nat} {v : Value} {x : List Bool} (n : Int) (w : World) (h : SetP B w p r x) (hx : w.ownsRow C 4 1 v x.length (bo x)) :
    Calls Try.prog 15 #[.pointer p, v, .int .i64 n] w fun e w' => e = .returned (.bool true) ∧ Below w.heap.size w w' := by
  have hs := h.small
  have hal := allL_len x
  obtain ⟨a, c, rfl⟩ := row_slice hx
  by_cases n1 : n < 0
  · have HN : Hid (hasB x n = false) := hasB_no (by simp [mayB]; omega)
    go_enter Try.func15, Try.ntmps15
    go_wp2_with fail
    refine (all_any (-1) _ h).mono ?_
    rw [upTo_neg]
    rintro e w1 ⟨v1, rfl, r1, b1⟩
    have h1 := h.below b1
    have x1 := row_below hx b1
    go_wp2_with fail
    refine (refAll_any _ x1 hs).mono ?_
    rintro e w2 ⟨v2, rfl, r2, b2⟩
    have h2 := h1.below b2
    have x2 := row_below x1 b2
    have r12 := row_below r1 b2
    go_wp2_with fail
    refine (first_any _ h2).mono ?_
    rintro e w3 ⟨rfl, m3, rfl⟩
    go_wp2_with fail
    refine (refFirst_any _ (row_below x2 (drewN_below _ _ m3)) hs).mono ?_
    rintro e w3 ⟨rfl, rfl⟩
    have b3 : Below w.heap.size w (w2.drewN m3) := (b1.trans (b2.mono b1.size)).trans (drewN_below _ _ m3)
    have h3 := h2.drewN m3
    have x3 := row_below x2 (drewN_below w2.heap.size w2 m3)
    have s1 := row_below r12 (drewN_below w2.heap.size w2 m3)
    have s2 := row_below r2 (drewN_below w2.heap.size w2 m3)
    obtain ⟨a2, c2, rfl⟩ := row_slice s2
    generalize w2.drewN m3 = w3 at *
    clear h1 x1 r1 h2 x2 r12 r2 b1 b2
    obtain ⟨fN, hfN⟩ : ∃ z, frstN x = z := ⟨_, rfl⟩
    obtain ⟨fB, hfB⟩ : ∃ z, frstB x = z := ⟨_, rfl⟩
    rw [hfN, hfB]
    have H3 : Hid (SetP B w3 p r x) := h3
    have S1 : Hid (w3.ownsRow w.heap.size 3 1 v1 (allL x).length (iv (allL x))) := s1
    have S2 : Hid (w3.ownsRow w1.heap.size 3 1 (.slice a2 (allL x).length c2) (allL x).length (iv (allL x))) := s2
    have X3 : Hid (w3.ownsRow C 4 1 (.slice a x.length c) x.length (bo x)) := x3
    clear hfN hfB h3 s1 s2 x3 h hx
    go_wp2_with (first | (go_at_call 26; refine (refInts_any _ S1.out S2.out (by omega)).mono ?_; rintro e w' ⟨rfl, m4, rfl⟩) | (go_at_call 11; refine (len_any _ (H3.out.drewN m4)).mono ?_; rintro e w' ⟨rfl, rfl⟩) | (go_at_call 10; refine (size_any _ (H3.out.drewN m4)).mono ?_; rintro e w' ⟨rfl, rfl⟩) | (go_at_call 9; refine (has_is _ _ (H3.out.drewN m4) HN.out).mono ?_; rintro e w' ⟨rfl, m5, rfl⟩))
    go_ret
    exact ⟨rfl, b3.trans (drewN_below _ _ _)⟩
  · by_cases n2 : n < x.length
    · obtain ⟨k, rfl⟩ := Int.eq_ofNat_of_zero_le (show 0 ≤ n by omega)
      have hk : k < x.length := by omega
      have HN : Hid (hasB x k = x.getD k false) := hasB_nat x k
      generalize hq : x.getD k false = q at *
      have HQ : Hid _ := hq
      clear n1 hq
      go_enter Try.func15, Try.ntmps15
      go_wp2_with fail
      refine (all_any (-1) _ h).mono ?_
      rw [upTo_neg]
      rintro e w1 ⟨v1, rfl, r1, b1⟩
      have h1 := h.below b1
      have x1 := row_below hx b1
      go_wp2_with fail
      refine (refAll_any _ x1 hs).mono ?_
      rintro e w2 ⟨v2, rfl, r2, b2⟩
      have h2 := h1.below b2
      have x2 := row_below x1 b2
      have r12 := row_below r1 b2
      go_wp2_with fail
      refine (first_any _ h2).mono ?_
      rintro e w3 ⟨rfl, m3, rfl⟩
      go_wp2_with fail
      refine (refFirst_any _ (row_below x2 (drewN_below _ _ m3)) hs).mono ?_
      rintro e w3 ⟨rfl, rfl⟩
      have b3 : Below w.heap.size w (w2.drewN m3) := (b1.trans (b2.mono b1.size)).trans (drewN_below _ _ m3)
      have h3 := h2.drewN m3
      have x3 := row_below x2 (drewN_below w2.heap.size w2 m3)
      have s1 := row_below r12 (drewN_below w2.heap.size w2 m3)
      have s2 := row_below r2 (drewN_below w2.heap.size w2 m3)
      obtain ⟨a2, c2, rfl⟩ := row_slice s2
      generalize w2.drewN m3 = w3 at *
      clear h1 x1 r1 h2 x2 r12 r2 b1 b2
      obtain ⟨fN, hfN⟩ : ∃ z, frstN x = z := ⟨_, rfl⟩
      obtain ⟨fB, hfB⟩ : ∃ z, frstB x = z := ⟨_, rfl⟩
      rw [hfN, hfB]
      have H3 : Hid (SetP B w3 p r x) := h3
      have S1 : Hid (w3.ownsRow w.heap.size 3 1 v1 (allL x).length (iv (allL x))) := s1
      have S2 : Hid (w3.ownsRow w1.heap.size 3 1 (.slice a2 (allL x).length c2) (allL x).length (iv (allL x))) := s2
      have X3 : Hid (w3.ownsRow C 4 1 (.slice a x.length c) x.length (bo x)) := x3
      clear hfN hfB h3 s1 s2 x3 h hx
      obtain ⟨g, rfl, hc, _⟩ := row_at X3.out hk
      rw [bo_at x k hk, HQ.out] at hc
      go_wp2_with (first | (go_at_call 26; refine (refInts_any _ S1.out S2.out (by omega)).mono ?_; rintro e w' ⟨rfl, m4, rfl⟩) | (go_at_call 11; refine (len_any _ (H3.out.drewN m4)).mono ?_; rintro e w' ⟨rfl, rfl⟩) | (go_at_call 10; refine (size_any _ (H3.out.drewN m4)).mono ?_; rintro e w' ⟨rfl, rfl⟩) | (go_at_call 9; refine (has_is _ _ (H3.out.drewN m4) HN.out).mono ?_; rintro e w' ⟨rfl, m5, rfl⟩))
      go_ret
      exact ⟨rfl, b3.trans (drewN_below _ _ _)⟩
    · have HN : Hid (hasB x n = false) := hasB_no (by simp [mayB]; omega)
      have n3 : 0 ≤ n := by omega
      go_enter Try.func15, Try.ntmps15
      go_wp2_with fail
      refine (all_any (-1) _ h).mono ?_
      rw [upTo_neg]
      rintro e w1 ⟨v1, rfl, r1, b1⟩
      have h1 := h.below b1
      have x1 := row_below hx b1
      go_wp2_with fail
      refine (refAll_any _ x1 hs).mono ?_
      rintro e w2 ⟨v2, rfl, r2, b2⟩
      have h2 := h1.below b2
      have x2 := row_below x1 b2
      have r12 := row_below r1 b2
      go_wp2_with fail
      refine (first_any _ h2).mono ?_
      rintro e w3 ⟨rfl, m3, rfl⟩
      go_wp2_with fail
      refine (refFirst_any _ (row_below x2 (drewN_below _ _ m3)) hs).mono ?_
      rintro e w3 ⟨rfl, rfl⟩
      have b3 : Below w.heap.size w (w2.drewN m3) := (b1.trans (b2.mono b1.size)).trans (drewN_below _ _ m3)
      have h3 := h2.drewN m3
      have x3 := row_below x2 (drewN_below w2.heap.size w2 m3)
      have s1 := row_below r12 (drewN_below w2.heap.size w2 m3)
      have s2 := row_below r2 (drewN_below w2.heap.size w2 m3)
      obtain ⟨a2, c2, rfl⟩ := row_slice s2
      generalize w2.drewN m3 = w3 at *
      clear h1 x1 r1 h2 x2 r12 r2 b1 b2
      obtain ⟨fN, hfN⟩ : ∃ z, frstN x = z := ⟨_, rfl⟩
      obtain ⟨fB, hfB⟩ : ∃ z, frstB x = z := ⟨_, rfl⟩
      rw [hfN, hfB]
      have H3 : Hid (SetP B w3 p r x) := h3
      have S1 : Hid (w3.ownsRow w.heap.size 3 1 v1 (allL x).length (iv (allL x))) := s1
      have S2 : Hid (w3.ownsRow w1.heap.size 3 1 (.slice a2 (allL x).length c2) (allL x).length (iv (allL x))) := s2
      have X3 : Hid (w3.ownsRow C 4 1 (.slice a x.length c) x.length (bo x)) := x3
      clear hfN hfB h3 s1 s2 x3 h hx
      go_wp2_with (first | (go_at_call 26; refine (refInts_any _ S1.out S2.out (by omega)).mono ?_; rintro e w' ⟨rfl, m4, rfl⟩) | (go_at_call 11; refine (len_any _ (H3.out.drewN m4)).mono ?_; rintro e w' ⟨rfl, rfl⟩) | (go_at_call 10; refine (size_any _ (H3.out.drewN m4)).mono ?_; rintro e w' ⟨rfl, rfl⟩) | (go_at_call 9; refine (has_is _ _ (H3.out.drewN m4) HN.out).mono ?_; rintro e w' ⟨rfl, m5, rfl⟩))
      go_ret
      exact ⟨rfl, b3.trans (drewN_below _ _ _)⟩
end Go.Proofs.Ytnihgibgfnhbiaa
