/- The walks of Oldest and Newer: the list's first number, and the one behind a number. -/
import Derived.Test.YtbdffiomciogiaaCSet
namespace Go.Proofs.Ytbdffiomciogiaa
open Go.RowKit

theorem quietSame {P : Program} {f : FuncId} {args : Array Value} {w : World} {n : Nat} {v : Value}
    (h : Calls P f args (w.drewN n) fun e w' => e = .returned v ∧ w.drewN n = w') : Calls P f args (w.drewN n) fun e w'' => e = .returned v ∧ ∃ m, w'' = w.drewN m :=
  h.mono fun _ _ ⟨he, hm⟩ => ⟨he, n, hm.symm⟩

def oldN (l : List Nat) : Nat := l.headD 0
def oldB (l : List Nat) : Bool := decide (0 < l.length)
/-- The number behind n, 0 where there is none. -/
def nextB (l : List Nat) (n : Nat) : Bool := decide (l.idxOf n + 1 < l.length)
def nextN (l : List Nat) (n : Nat) : Nat := if l.idxOf n + 1 < l.length then l.getD (l.idxOf n + 1) 0 else 0
theorem at_idx {l : List Nat} {n : Nat} (h : n ∈ l) : l.idxOf n < l.length ∧ l.getD (l.idxOf n) 0 = n := by
  have h1 := List.idxOf_lt_length_iff.2 h
  refine ⟨h1, ?_⟩
  rw [List.getD_eq_getElem?_getD, List.getElem?_eq_getElem h1, Option.getD_some, List.getElem_idxOf h1]
theorem idx_none {l : List Nat} {n : Nat} (h : n ∉ l) : l.idxOf n = l.length := List.idxOf_eq_length h
theorem next_none {l : List Nat} {n : Nat} (h : n ∉ l) : nextB l n = false ∧ nextN l n = 0 := by
  rw [nextB, nextN, idx_none h, if_neg (by omega), decide_eq_false (by omega)]
  exact ⟨rfl, rfl⟩
theorem Ring.newer {m : Nat} {N O : List Int} {l : List Nat} (h : Ring m N O l) {n : Nat} (hn : n ∈ l) :
    (nextB l n = true ∧ N.getD n 0 = (nextN l n : Nat) ∧ nextN l n < m) ∨ (nextB l n = false ∧ nextN l n = 0 ∧ N.getD n 0 = (m : Nat)) := by
  obtain ⟨h1, h2⟩ := at_idx hn
  have h3 := h.next h1
  rw [h2] at h3
  by_cases hlt : l.idxOf n + 1 < l.length
  · left
    have e : nextN l n = l[l.idxOf n + 1] := by rw [nextN, if_pos hlt, List.getD_eq_getElem?_getD, List.getElem?_eq_getElem hlt, Option.getD_some]
    have e2 : (l.drop (l.idxOf n + 1)).headD m = nextN l n := by
      rw [e, List.drop_eq_getElem_cons hlt]; rfl
    rw [e2] at h3
    refine ⟨by rw [nextB, decide_eq_true hlt], h3, ?_⟩
    rw [e]
    exact h.lt _ (List.getElem_mem hlt)
  · right
    rw [List.drop_of_length_le (by omega)] at h3
    exact ⟨by rw [nextB, decide_eq_false hlt], by rw [nextN, if_neg hlt], h3⟩

set_option maxHeartbeats 400000 in
theorem oldest_any {B E m : Nat} {p : Option Addr} {l : List Nat} (w : World) (h : ChainP B E w p m l) :
    Calls Try.prog 17 #[.pointer p] w fun e w' => e = .returned (.tuple #[.int .i64 (oldN l : Nat), .bool (oldB l)]) ∧ ∃ q, w' = w.drewN q := by
  have hs := h.small
  by_cases hl : l.length = 0
  · have e := List.eq_nil_of_length_eq_zero hl
    subst e
    go_enter Try.func17, Try.ntmps17
    go_wp2_with (go_at_call 10; refine (len_any _ h).mono ?_; rintro e w' ⟨rfl, rfl⟩)
    go_ret2
    exact ⟨rfl, 0, rfl⟩
  · have h0 := h
    have hlen := h.len
    rcases h with ⟨rfl, rfl, rfl⟩ | ⟨b, g1, g2, rfl, N, O, hr, hp⟩
    · simp at hl
    have c0 := hp.cell0
    have cN := hp.cellN (Nat.le_refl m)
    have E1 : Hid (oldB l = true) := by simp only [Hid, oldB, decide_eq_true_eq]; omega
    have E2 : Hid (oldN l = l.headD m) := by cases l <;> simp_all [Hid, oldN]
    rw [hr.old] at cN
    have hne : ((l.length : Int) == 0) = false := by rw [beq_eq_false_iff_ne]; omega
    obtain ⟨L, hL⟩ : ∃ L, L = l.length := ⟨_, rfl⟩
    rw [← hL] at hne hl hlen
    have HL : Hid _ := hL
    obtain ⟨q, hq⟩ : ∃ q, q = l.headD m := ⟨_, rfl⟩
    rw [← hq] at cN
    rw [← hq] at E2
    clear hp hr hL hq
    go_enter Try.func17, Try.ntmps17
    go_wp2_with (go_at_call 10; refine (len_any _ h0).mono ?_; rw [← HL.out]; rintro e w' ⟨rfl, rfl⟩)
    go_quiet ((go_at_call 21; exact quietSame (end_any _ (h0.drewN _))))
    go_wp2
    go_ret2
    exact ⟨by rw [E1.out, E2.out]; rfl, _, rfl⟩

set_option maxHeartbeats 400000 in
theorem newer_any {B E m : Nat} {p : Option Addr} {l : List Nat} (n : Nat) (w : World) (h : ChainP B E w p m l) :
    Calls Try.prog 24 #[.pointer p, .int .i64 n] w fun e w' => e = .returned (.tuple #[.int .i64 (nextN l n : Nat), .bool (nextB l n)]) ∧ ∃ q, w' = w.drewN q := by
  have hs := h.small
  by_cases hn : n ∈ l
  · have HH : Hid (decide (n ∈ l) = true) := decide_eq_true hn
    have hlt := h.lt n hn
    have h0 := h
    rcases h with ⟨rfl, rfl, rfl⟩ | ⟨b, g1, g2, rfl, N, O, hr, hp⟩
    · simp at hn
    have c0 := hp.cell0
    have cN := hp.cellN (Nat.le_of_lt hlt)
    rcases hr.newer hn with ⟨e1, e2, e3⟩ | ⟨e1, e2, e3⟩
    · rw [e2] at cN
      have E1 : Hid _ := e1
      generalize nextN l n = q at *
      have hne : ((q : Int) == (m : Int)) = false := by simp; omega
      clear hp hr e1 e2 hn
      go_enter Try.func24, Try.ntmps24
      go_wp2_with fail
      go_quiet (first | (go_at_call 9; exact quietSame (has_is _ _ (h0.drewN _) HH.out)) | (go_at_call 21; exact quietSame (end_any _ (h0.drewN _))))
      go_wp2
      go_ret2
      exact ⟨by rw [E1.out]; rfl, _, rfl⟩
    · rw [e3] at cN
      have E1 : Hid _ := e1
      have E2 : Hid _ := e2
      have hne : ((m : Int) == (m : Int)) = true := by simp
      clear hp hr e1 e2 hn
      go_enter Try.func24, Try.ntmps24
      go_wp2_with fail
      go_quiet (first | (go_at_call 9; exact quietSame (has_is _ _ (h0.drewN _) HH.out)) | (go_at_call 21; exact quietSame (end_any _ (h0.drewN _))))
      go_wp2
      go_ret2
      exact ⟨by rw [E1.out, E2.out]; rfl, _, rfl⟩
  · have HH : Hid (decide (n ∈ l) = false) := decide_eq_false hn
    have E1 : Hid _ := (next_none hn).1
    have E2 : Hid _ := (next_none hn).2
    clear hn
    go_enter Try.func24, Try.ntmps24
    go_wp2_with fail
    go_quiet (first | (go_at_call 9; exact quietSame (has_is _ _ (h.drewN _) HH.out)) | (go_at_call 21; exact quietSame (end_any _ (h.drewN _))))
    go_wp2
    go_ret2
    exact ⟨by rw [E1.out, E2.out]; rfl, _, rfl⟩
end Go.Proofs.Ytbdffiomciogiaa
