/- The walks of num.isThere, Get and Lay, and of the document's There and Get (layer 1). -/
import Derived.Test.YteebjeifbccbnaaPut
import Derived.Laws.CopyOwn
namespace Go.Proofs.Yteebjeifbccbnaa
open Go.RowKit

def thereB (L : Nat) (a s : Int) : Bool := decide (1 ≤ s ∧ s ≤ 8 ∧ 0 ≤ a ∧ a + s ≤ L)
theorem thereB_no {L : Nat} {a s : Int} (h : ¬ (1 ≤ s ∧ s ≤ 8 ∧ 0 ≤ a ∧ a + s ≤ L)) : thereB L a s = false := decide_eq_false h
theorem thereB_yes {L : Nat} {a s : Int} (h : 1 ≤ s ∧ s ≤ 8 ∧ 0 ≤ a ∧ a + s ≤ L) : thereB L a s = true := decide_eq_true h
theorem thereB_iff {L : Nat} {a s : Int} (h : thereB L a s = true) : 1 ≤ s ∧ s ≤ 8 ∧ 0 ≤ a ∧ a + s ≤ L := of_decide_eq_true h

set_option maxHeartbeats 400000 in
theorem isThere_any (p : Option Addr) (L c : Nat) (a s : Int) (w : World) (hL : L ≤ maxLen) (_ha : a ≤ 9223372036854775807) :
    Calls Try.prog 44 #[.slice p L c, .int .i64 a, .int .i64 s] w fun e w' => e = .returned (.bool (thereB L a s)) ∧ w = w' := by
  unfold maxLen at hL
  by_cases h1 : 1 ≤ s ∧ s ≤ 8
  · have H1 : Hid _ := decide_eq_true h1
    obtain ⟨g1, g2⟩ := h1
    by_cases h2 : 0 ≤ a
    · by_cases h3 : a ≤ L - s
      · have E : Hid _ := thereB_yes (L := L) (a := a) (s := s) (by omega)
        go_enter Try.func44, Try.ntmps44
        go_wp2_with (go_at_call 46; refine (sizeMayBe_any _ _).mono ?_; rintro e w' ⟨rfl, rfl⟩; rw [H1.out])
        go_ret
        exact ⟨retBool E.out.symm, rfl⟩
      · have E : Hid _ := thereB_no (L := L) (a := a) (s := s) (by omega)
        go_enter Try.func44, Try.ntmps44
        go_wp2_with (go_at_call 46; refine (sizeMayBe_any _ _).mono ?_; rintro e w' ⟨rfl, rfl⟩; rw [H1.out])
        go_ret
        exact ⟨retBool (by rw [E.out]; exact decide_eq_false (by omega)), rfl⟩
    · have E : Hid _ := thereB_no (L := L) (a := a) (s := s) (by omega)
      go_enter Try.func44, Try.ntmps44
      go_wp2_with (go_at_call 46; refine (sizeMayBe_any _ _).mono ?_; rintro e w' ⟨rfl, rfl⟩; rw [H1.out])
      go_ret
      exact ⟨retBool E.out.symm, rfl⟩
  · have H1 : Hid _ := decide_eq_false h1
    have E : Hid _ := thereB_no (L := L) (a := a) (s := s) (by omega)
    clear h1
    go_enter Try.func44, Try.ntmps44
    go_wp2_with (go_at_call 46; refine (sizeMayBe_any _ _).mono ?_; rintro e w' ⟨rfl, rfl⟩; rw [H1.out])
    go_ret
    exact ⟨retBool E.out.symm, rfl⟩

set_option maxHeartbeats 400000 in
theorem get_no (p : Option Addr) (L c : Nat) (a s : Int) (w : World) (hL : L ≤ maxLen) (ha : a ≤ 9223372036854775807) (hno : thereB L a s = false) :
    Calls Try.prog 28 #[.slice p L c, .int .i64 a, .int .i64 s] w fun e w' => e = .returned (.tuple #[.int .u64 0, .bool false]) ∧ w = w' := by
  have H : Hid _ := hno
  clear hno
  go_enter Try.func28, Try.ntmps28
  go_wp2_with (go_at_call 44; refine (isThere_any _ _ _ _ _ _ hL ha).mono ?_; rintro e w' ⟨rfl, rfl⟩; rw [H.out])
  go_ret2
  exact ⟨rfl, rfl⟩

set_option maxHeartbeats 400000 in
theorem get_yes (p : Option Addr) (L c a s : Nat) (A S : Int) (hA : A = a) (hS : S = s) (b : List Nat) (w : World) (hL : L ≤ maxLen) (hl : b.length = L) (hb : NumsAt .u8 w p b) (h8 : ∀ x ∈ b, x < 256) (hs : 1 ≤ s ∧ s ≤ 8) (has : a + s ≤ L) :
    Calls Try.prog 28 #[.slice p L c, .int .i64 A, .int .i64 S] w fun e w' => e = .returned (.tuple #[.int .u64 (getTo b a s : Nat), .bool true]) ∧ w = w' := by
  subst hA hS
  have hL' := hL
  unfold maxLen at hL'
  have H : Hid _ := thereB_yes (L := L) (a := a) (s := s) (by omega)
  rcases hb with rfl | ⟨bb, off, rfl, hbl, hcell⟩
  · simp at hl; omega
  have HL : Hid _ := hl
  have HC : Hid _ := hcell
  clear hl hcell
  go_enter Try.func28, Try.ntmps28
  go_wp2_with (go_at_call 44; refine (isThere_any _ _ _ _ _ _ hL (by omega)).mono ?_; rintro e w' ⟨rfl, rfl⟩; rw [H.out])
  go_loop [8, 16] (fun t i => ∃ k : Nat, k ≤ s ∧ i = .int .i64 k ∧ t = .int .u64 (getTo b a k : Nat)) (fun _ i => s - (intOf i).toNat)
  case atStart => exact ⟨0, Nat.zero_le _, rfl, by simp [getTo, getL]⟩
  case round =>
    obtain ⟨k, hk, rfl, rfl⟩ := hrel
    by_cases hlt : k < s
    · have hbk : a + k < b.length := by have := HL.out; omega
      have hc : w.cell? ⟨bb, off + (a + k), none⟩ = some (.int .u8 ((b[a + k] : Nat) : Int)) := by
        rw [HC.out (a + k) hbk]; simp [List.getD, hbk]
      have hx : b[a + k] < 256 := h8 _ (List.getElem_mem _)
      have HO : Hid _ := or_byte (getTo_lt (a := a) (k := k) h8) hx (show k < 8 by omega)
      have HT : Hid _ := getTo_succ hbk
      generalize b[a + k] = x at *
      generalize getTo b a k = q at *
      clear hbk
      go_wp2
      go_round
      case rel => exact ⟨k + 1, by omega, by go_num, by rw [HT.out, HO.out]⟩
      case measure => simp [intOf]; omega
    · have e : k = s := by omega
      subst e
      go_wp2
      go_ret2
      exact ⟨rfl, rfl⟩

set_option maxHeartbeats 400000 in
theorem refGet_any (p : Option Addr) (L c a s : Nat) (A S : Int) (hA : A = a) (hS : S = s) (b : List Nat) (w : World) (hL : L ≤ maxLen) (hl : b.length = L) (hb : NumsAt .u8 w p b) (h8 : ∀ x ∈ b, x < 256) (hs : 1 ≤ s ∧ s ≤ 8) (has : a + s ≤ L) :
    Calls Try.prog 38 #[.slice p L c, .int .i64 A, .int .i64 S] w fun e w' => e = .returned (.int .u64 (getTo b a s : Nat)) ∧ w = w' := by
  subst hA hS
  unfold maxLen at hL
  rcases hb with rfl | ⟨bb, off, rfl, hbl, hcell⟩
  · simp at hl; omega
  have HL : Hid _ := hl
  have HC : Hid _ := hcell
  clear hl hcell
  go_enter Try.func38, Try.ntmps38
  go_wp2
  go_loop [7, 8] (fun t i => ∃ k : Nat, k ≤ s ∧ i = .int .i64 ((s : Int) - 1 - k) ∧ t = .int .u64 (getTo b (a + (s - k)) k : Nat)) (fun _ i => (intOf i + 1).toNat)
  case atStart => exact ⟨0, Nat.zero_le _, by simp, by simp [getTo, getL]⟩
  case round =>
    obtain ⟨k, hk, rfl, rfl⟩ := hrel
    by_cases hlt : k < s
    · have hbk : a + (s - 1 - k) < b.length := by have := HL.out; omega
      have hc : w.cell? ⟨bb, off + (a + (s - 1 - k)), none⟩ = some (.int .u8 ((b[a + (s - 1 - k)] : Nat) : Int)) := by
        rw [HC.out (a + (s - 1 - k)) hbk]; simp [List.getD, hbk]
      have hx : b[a + (s - 1 - k)] < 256 := h8 _ (List.getElem_mem _)
      have ht := getTo_head (a := a + (s - (k + 1))) k hbk (by omega)
      rw [show a + (s - (k + 1)) + 1 = a + (s - k) by omega] at ht
      have hq := getTo_lt (a := a + (s - k)) (k := k) h8
      have hp := pow256_lt (show k < 8 by omega)
      have HT : Hid _ := ht
      clear ht
      generalize b[a + (s - 1 - k)] = x at *
      generalize getTo b (a + (s - k)) k = q at *
      have hq' : q < 72057594037927936 := by omega
      clear hbk hq hp
      go_wp2
      go_round
      case rel => exact ⟨k + 1, by omega, by go_num, by rw [HT.out]; go_num⟩
      case measure => simp [intOf]; omega
    · have e : k = s := by omega
      subst e
      go_wp2
      go_ret
      exact ⟨retInt (by simp), rfl⟩
end Go.Proofs.Yteebjeifbccbnaa
