/- The walk of the law's own 'same': a chain and the document's list tell the same, also beside a number. -/
import Derived.Test.YtbdffiomciogiaaCRef
import Derived.Test.YtbdffiomciogiaaCSeq
namespace Go.Proofs.Ytbdffiomciogiaa
open Go.RowKit

theorem upTo_neg (l : List Nat) : upTo (-1) l = l := rfl
theorem refAt_is {C : Nat} {v : Value} {x : List Nat} (n : Nat) (w : World) (h : w.ownsRow C 3 1 v x.length (iv x)) (hs : x.length ≤ 4096) {i : Int} (hi : atI x n = i) :
    Calls Try.prog 22 #[v, .int .i64 n] w fun e w' => e = .returned (.int .i64 i) ∧ w = w' := by
  rw [← hi]; exact refAt_any n w h hs
theorem newer_is {B E m : Nat} {p : Option Addr} {l : List Nat} (n : Nat) (w : World) (h : ChainP B E w p m l) {q : Nat} {b : Bool} (h1 : nextN l n = q) (h2 : nextB l n = b) :
    Calls Try.prog 24 #[.pointer p, .int .i64 n] w fun e w' => e = .returned (.tuple #[.int .i64 q, .bool b]) ∧ ∃ k, w' = w.drewN k := by
  rw [← h1, ← h2]; exact newer_any n w h
theorem oldest_is {B E m : Nat} {p : Option Addr} {l : List Nat} (w : World) (h : ChainP B E w p m l) {q : Nat} {b : Bool} (h1 : oldN l = q) (h2 : oldB l = b) :
    Calls Try.prog 17 #[.pointer p] w fun e w' => e = .returned (.tuple #[.int .i64 q, .bool b]) ∧ ∃ k, w' = w.drewN k := by
  rw [← h1, ← h2]; exact oldest_any w h


set_option maxRecDepth 100000 in
set_option maxHeartbeats 1000000 in
theorem same_any {B E C m : Nat} {p : Option Addr} {v : Value} {x : List Nat} (n : Nat) (w : World) (h : ChainP B E w p m x) (hx : w.ownsRow C 3 1 v x.length (iv x)) :
    Calls Try.prog 16 #[.pointer p, v, .int .i64 n] w fun e w' => e = .returned (.bool true) ∧ Below w.heap.size w w' := by
  have hs : x.length ≤ 4096 := Nat.le_trans h.len h.small
  obtain ⟨a, c, rfl⟩ := row_slice hx
  by_cases hn : n ∈ x
  · have hi := at_idx hn
    have HA : Hid (atI x n = (x.idxOf n : Nat)) := by show _ = _; rw [atI, if_pos hn]
    have HH : Hid (decide (n ∈ x) = true) := decide_eq_true hn
    have HO1 : Hid (oldN x = x.getD 0 0) := (old_at x).1
    have HO2 : Hid (oldB x = true) := by show _ = _; rw [(old_at x).2]; exact decide_eq_true (by omega)
    have hlen : 0 < x.length := by omega
    by_cases hnext : x.idxOf n + 1 < x.length
    · have HN1 : Hid (nextN x n = x.getD (x.idxOf n + 1) 0) := by show _ = _; rw [nextN, if_pos hnext]
      have HN2 : Hid (nextB x n = true) := by show _ = _; rw [nextB]; exact decide_eq_true hnext
      generalize x.idxOf n = i at *
      obtain ⟨q1, hq1⟩ : ∃ q, x.getD (i + 1) 0 = q := ⟨_, rfl⟩
      obtain ⟨q0, hq0⟩ : ∃ q, x.getD 0 0 = q := ⟨_, rfl⟩
      rw [hq1] at HN1
      rw [hq0] at HO1
      have HQ1 : Hid _ := hq1
      have HQ0 : Hid _ := hq0
      clear hi hn hq1 hq0
      go_enter Try.func16, Try.ntmps16
      go_wp2_with fail
      refine (all_any (-1) _ h).mono ?_
      rw [upTo_neg]
      rintro e w1 ⟨v1, rfl, r1, b1⟩
      have h1 := h.below b1
      have x1 := row_below hx b1
      clear h hx
      go_wp2_with fail
      refine (refInts_any _ r1 x1 hs).mono ?_
      rintro e w2 ⟨rfl, m2, rfl⟩
      have h2 := h1.drewN m2
      have x2 := row_below x1 (drewN_below _ w1 m2)
      have b2 := b1.trans (drewN_below _ w1 m2)
      clear r1 h1 x1 b1
      generalize w1.drewN m2 = w2 at *
      go_wp2_with fail
      refine (len_any _ h2).mono ?_
      rintro e w' ⟨rfl, rfl⟩
      go_wp2_with fail
      refine (refAt_is n _ x2 hs HA.out).mono ?_
      rintro e w' ⟨rfl, rfl⟩
      go_wp2_with fail
      refine (newer_is n _ h2 HN1.out HN2.out).mono ?_
      rintro e w' ⟨rfl, m3, rfl⟩
      have h3 := h2.drewN m3
      have x3 := row_below x2 (drewN_below _ w2 m3)
      have b3 := b2.trans (drewN_below _ w2 m3)
      clear h2 x2 b2
      generalize w2.drewN m3 = w3 at *
      go_wp2_with fail
      refine (oldest_is _ h3 HO1.out HO2.out).mono ?_
      rintro e w' ⟨rfl, m4, rfl⟩
      have h4 := h3.drewN m4
      have x4 := row_below x3 (drewN_below _ w3 m4)
      have b4 := b3.trans (drewN_below _ w3 m4)
      clear h3 x3 b3
      generalize w3.drewN m4 = w4 at *
      have H4 : Hid (ChainP B E w4 p m x) := h4
      have X4 : Hid (w4.ownsRow C 3 1 (.slice a x.length c) x.length (iv x)) := x4
      clear h4 x4
      obtain ⟨g, rfl, hc0, _⟩ := row_at X4.out hlen
      obtain ⟨_, he, hc1, _⟩ := row_at X4.out hnext
      cases he
      rw [iv_at x _ hlen, HQ0.out] at hc0
      rw [iv_at x _ hnext, HQ1.out] at hc1
      have i1 : (0 : Int) < (x.length : Int) := by omega
      have i2 : 0 ≤ (i : Int) + 1 := by omega
      have i3 : (i : Int) + 1 < (x.length : Int) := by omega
      have i4 : ((i : Int) == (x.length : Int) - 1) = false := by rw [beq_eq_false_iff_ne]; omega
      have i5 : IntKind.i64.wrap ((i : Int) + 1) = ((i + 1 : Nat) : Int) := by rw [IntKind.wrap_i64]; omega
      go_wp2_with (go_at_call 9; refine (has_is _ _ H4.out HH.out).mono ?_; rintro e w' ⟨rfl, rfl⟩)
      go_ret
      exact ⟨rfl, b4⟩
    · have HN1 : Hid (nextN x n = 0) := by show _ = _; rw [nextN, if_neg hnext]
      have HN2 : Hid (nextB x n = false) := by show _ = _; rw [nextB]; exact decide_eq_false hnext
      have hix : x.idxOf n + 1 = x.length := by omega
      generalize x.idxOf n = i at *
      clear hi hn hnext
      go_enter Try.func16, Try.ntmps16
      go_wp2_with fail
      refine (all_any (-1) _ h).mono ?_
      rw [upTo_neg]
      rintro e w1 ⟨v1, rfl, r1, b1⟩
      have h1 := h.below b1
      have x1 := row_below hx b1
      clear h hx
      go_wp2_with fail
      refine (refInts_any _ r1 x1 hs).mono ?_
      rintro e w2 ⟨rfl, m2, rfl⟩
      have h2 := h1.drewN m2
      have x2 := row_below x1 (drewN_below _ w1 m2)
      have b2 := b1.trans (drewN_below _ w1 m2)
      clear r1 h1 x1 b1
      generalize w1.drewN m2 = w2 at *
      go_wp2_with fail
      refine (len_any _ h2).mono ?_
      rintro e w' ⟨rfl, rfl⟩
      go_wp2_with fail
      refine (refAt_is n _ x2 hs HA.out).mono ?_
      rintro e w' ⟨rfl, rfl⟩
      go_wp2_with fail
      refine (newer_is n _ h2 HN1.out HN2.out).mono ?_
      rintro e w' ⟨rfl, m3, rfl⟩
      have h3 := h2.drewN m3
      have x3 := row_below x2 (drewN_below _ w2 m3)
      have b3 := b2.trans (drewN_below _ w2 m3)
      clear h2 x2 b2
      generalize w2.drewN m3 = w3 at *
      go_wp2_with fail
      refine (oldest_is _ h3 HO1.out HO2.out).mono ?_
      rintro e w' ⟨rfl, m4, rfl⟩
      have h4 := h3.drewN m4
      have x4 := row_below x3 (drewN_below _ w3 m4)
      have b4 := b3.trans (drewN_below _ w3 m4)
      clear h3 x3 b3
      generalize w3.drewN m4 = w4 at *
      have H4 : Hid (ChainP B E w4 p m x) := h4
      have X4 : Hid (w4.ownsRow C 3 1 (.slice a x.length c) x.length (iv x)) := x4
      clear h4 x4
      obtain ⟨g, rfl, hc0, _⟩ := row_at X4.out hlen
      rw [iv_at x _ hlen] at hc0
      generalize x.getD 0 0 = q0 at *
      have i1 : (0 : Int) < (x.length : Int) := by omega
      have i4 : ((i : Int) == (x.length : Int) - 1) = true := by rw [beq_iff_eq]; omega
      go_wp2_with (go_at_call 9; refine (has_is _ _ H4.out HH.out).mono ?_; rintro e w' ⟨rfl, rfl⟩)
      go_ret
      exact ⟨rfl, b4⟩
  · have HA : Hid (atI x n = -1) := by show _ = _; rw [atI, if_neg hn]
    have HH : Hid (decide (n ∈ x) = false) := decide_eq_false hn
    have HN1 : Hid _ := (next_none hn).2
    have HN2 : Hid _ := (next_none hn).1
    have HO1 : Hid (oldN x = x.getD 0 0) := (old_at x).1
    clear hn
    by_cases hlen : 0 < x.length
    · have HO2 : Hid (oldB x = true) := by show _ = _; rw [(old_at x).2]; exact decide_eq_true hlen
      go_enter Try.func16, Try.ntmps16
      go_wp2_with fail
      refine (all_any (-1) _ h).mono ?_
      rw [upTo_neg]
      rintro e w1 ⟨v1, rfl, r1, b1⟩
      have h1 := h.below b1
      have x1 := row_below hx b1
      clear h hx
      go_wp2_with fail
      refine (refInts_any _ r1 x1 hs).mono ?_
      rintro e w2 ⟨rfl, m2, rfl⟩
      have h2 := h1.drewN m2
      have x2 := row_below x1 (drewN_below _ w1 m2)
      have b2 := b1.trans (drewN_below _ w1 m2)
      clear r1 h1 x1 b1
      generalize w1.drewN m2 = w2 at *
      go_wp2_with fail
      refine (len_any _ h2).mono ?_
      rintro e w' ⟨rfl, rfl⟩
      go_wp2_with fail
      refine (refAt_is n _ x2 hs HA.out).mono ?_
      rintro e w' ⟨rfl, rfl⟩
      go_wp2_with fail
      refine (newer_is n _ h2 HN1.out HN2.out).mono ?_
      rintro e w' ⟨rfl, m3, rfl⟩
      have h3 := h2.drewN m3
      have x3 := row_below x2 (drewN_below _ w2 m3)
      have b3 := b2.trans (drewN_below _ w2 m3)
      clear h2 x2 b2
      generalize w2.drewN m3 = w3 at *
      go_wp2_with fail
      refine (oldest_is _ h3 HO1.out HO2.out).mono ?_
      rintro e w' ⟨rfl, m4, rfl⟩
      have h4 := h3.drewN m4
      have x4 := row_below x3 (drewN_below _ w3 m4)
      have b4 := b3.trans (drewN_below _ w3 m4)
      clear h3 x3 b3
      generalize w3.drewN m4 = w4 at *
      have H4 : Hid (ChainP B E w4 p m x) := h4
      have X4 : Hid (w4.ownsRow C 3 1 (.slice a x.length c) x.length (iv x)) := x4
      clear h4 x4
      obtain ⟨g, rfl, hc0, _⟩ := row_at X4.out hlen
      rw [iv_at x _ hlen] at hc0
      generalize x.getD 0 0 = q0 at *
      have i1 : (0 : Int) < (x.length : Int) := by omega
      go_wp2_with (go_at_call 9; refine (has_is _ _ H4.out HH.out).mono ?_; rintro e w' ⟨rfl, rfl⟩)
      go_ret
      exact ⟨rfl, b4⟩
    · have hx0 : x = [] := List.eq_nil_of_length_eq_zero (by omega)
      have HO1 : Hid (oldN x = 0) := by rw [hx0]; rfl
      have HO2 : Hid (oldB x = false) := by rw [hx0]; rfl
      have HL0 : Hid (x.length = 0) := by show _ = _; omega
      clear hx0 hlen
      go_enter Try.func16, Try.ntmps16
      go_wp2_with fail
      refine (all_any (-1) _ h).mono ?_
      rw [upTo_neg]
      rintro e w1 ⟨v1, rfl, r1, b1⟩
      have h1 := h.below b1
      have x1 := row_below hx b1
      clear h hx
      go_wp2_with fail
      refine (refInts_any _ r1 x1 hs).mono ?_
      rintro e w2 ⟨rfl, m2, rfl⟩
      have h2 := h1.drewN m2
      have x2 := row_below x1 (drewN_below _ w1 m2)
      have b2 := b1.trans (drewN_below _ w1 m2)
      clear r1 h1 x1 b1
      generalize w1.drewN m2 = w2 at *
      go_wp2_with fail
      refine (len_any _ h2).mono ?_
      rintro e w' ⟨rfl, rfl⟩
      go_wp2_with fail
      refine (refAt_is n _ x2 hs HA.out).mono ?_
      rintro e w' ⟨rfl, rfl⟩
      go_wp2_with fail
      refine (newer_is n _ h2 HN1.out HN2.out).mono ?_
      rintro e w' ⟨rfl, m3, rfl⟩
      have h3 := h2.drewN m3
      have x3 := row_below x2 (drewN_below _ w2 m3)
      have b3 := b2.trans (drewN_below _ w2 m3)
      clear h2 x2 b2
      generalize w2.drewN m3 = w3 at *
      go_wp2_with fail
      refine (oldest_is _ h3 HO1.out HO2.out).mono ?_
      rintro e w' ⟨rfl, m4, rfl⟩
      have h4 := h3.drewN m4
      have x4 := row_below x3 (drewN_below _ w3 m4)
      have b4 := b3.trans (drewN_below _ w3 m4)
      clear h3 x3 b3
      generalize w3.drewN m4 = w4 at *
      have H4 : Hid (ChainP B E w4 p m x) := h4
      have X4 : Hid (w4.ownsRow C 3 1 (.slice a x.length c) x.length (iv x)) := x4
      clear h4 x4
      have hL1 : (x.length : Int) = 0 := by have := HL0.out; omega
      go_wp2_with (go_at_call 9; refine (has_is _ _ H4.out HH.out).mono ?_; rintro e w' ⟨rfl, rfl⟩)
      go_ret
      exact ⟨rfl, b4⟩
end Go.Proofs.Ytbdffiomciogiaa
