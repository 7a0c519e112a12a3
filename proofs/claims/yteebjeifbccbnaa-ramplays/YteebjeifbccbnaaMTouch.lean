/- The walks of touch and touchWord: which part of memory a call may touch. -/
import Derived.Test.YteebjeifbccbnaaMSet
namespace Go.Proofs.Yteebjeifbccbnaa
open Go.RowKit

set_option maxHeartbeats 1000000 in
theorem touch_no {B F E r g m t x : Nat} {pf : Option Addr} {tg : TypeId} {vP : Value} {O : List Int} {S P : List Nat} (n a s : Int) (w : World) (h : CellsAt B F E w r g pf tg vP m t x O S P)
    (h1 : s ≤ 9223372036854775807) (h2 : -9223372036854775808 ≤ s) (hno : thB O n a s = false) :
    Calls Try.prog 25 #[.pointer (some ⟨r, 0, none⟩), .int .i64 n, .int .i64 a, .int .i64 s] w fun e w' => e = .returned (.tuple #[.slice none 0 0, .bool false]) ∧ w = w' := by
  have hn := th_not hno
  have c0 := h.c0
  have HF : Hid (FramesP B F w pf m t O S) := h.fr
  by_cases h0 : ownI O n = 0
  · have H0 : Hid (ownI O n = 0) := h0
    clear h hno hn h0
    go_enter Try.func25, Try.ntmps25
    go_wp2_with (go_at_call 40; refine (owner_is _ _ HF.out H0.out).mono ?_; rintro e w' ⟨rfl, rfl⟩)
    go_ret2
    exact ⟨rfl, rfl⟩
  · obtain ⟨q, hq⟩ : ∃ q, ownI O n = q := ⟨_, rfl⟩
    have HQ : Hid (ownI O n = q) := hq
    rw [hq] at h0
    have hq0 : (q == 0) = false := by rw [beq_eq_false_iff_ne]; exact h0
    have HI : Hid (inB a s = false) := decide_eq_false (by omega)
    clear h hno hn hq
    go_enter Try.func25, Try.ntmps25
    go_wp2_with (first | (go_at_call 40; refine (owner_is _ _ HF.out HQ.out).mono ?_; rintro e w' ⟨rfl, rfl⟩) | (go_at_call 43; refine (ramThere_is _ h1 h2 HI.out).mono ?_; rintro e w' ⟨rfl, rfl⟩))
    go_ret2
    exact ⟨rfl, rfl⟩

def offOf (a : Nat) : Nat := if a = 4096 then 0 else a
theorem Try.size70 : (Try.prog.info? 70).map (fun i => i.size) = some 4096 := by kernel_rfl
set_option maxHeartbeats 1000000 in
theorem touch_yes {B F E r g m t x : Nat} {pf : Option Addr} {tg : TypeId} {vP : Value} {O : List Int} {S P : List Nat} (n a s : Nat) (w : World) (h : CellsAt B F E w r g pf tg vP m t x O S P) (hx : x < 1000000)
    (hn : n < m) (h0 : O.getD n 0 ≠ 0) (has : a + s ≤ 4096) :
    Calls Try.prog 25 #[.pointer (some ⟨r, 0, none⟩), .int .i64 (n : Nat), .int .i64 (a : Nat), .int .i64 (s : Nat)] w fun e w' => e = .returned (.tuple #[.slice (some ⟨g, n * 4096 + offOf a, none⟩) s (4096 - a), .bool true]) ∧ w' = w.setCell ⟨r, 2, none⟩ (.int .i64 ((x + 1 : Nat) : Int)) := by
  have c0 := h.c0
  have c1 := h.c1
  have c2 := h.c2
  have f2 := h.f2
  have HF : Hid (FramesP B F w pf m t O S) := h.fr
  have hsm := h.fr.small
  obtain ⟨q, hq⟩ : ∃ q, ownI O (n : Int) = q := ⟨_, rfl⟩
  have HQ : Hid (ownI O (n : Int) = q) := hq
  rw [ownI_nat] at hq
  rw [hq] at h0
  have hq0 : (q == 0) = false := by rw [beq_eq_false_iff_ne]; exact h0
  have HI : Hid (inB (a : Int) (s : Int) = true) := decide_eq_true (by omega)
  rcases h.vp with h1 | ⟨rfl, h1⟩
  · omega
  clear h hq h1
  have hnm : (n : Int) < (m : Int) := by omega
  by_cases ha : a = 4096
  · obtain rfl : s = 0 := by omega
    subst ha
    have e0 : n * 4096 + offOf 4096 = n * 4096 := by simp [offOf]
    rw [e0]
    clear e0
    go_enter Try.func25, Try.ntmps25
    go_wp2_with (first | (go_at_call 40; refine (owner_is _ _ HF.out HQ.out).mono ?_; rintro e w' ⟨rfl, rfl⟩) | (go_at_call 43; refine (ramThere_is _ (by omega) (by omega) HI.out).mono ?_; rintro e w' ⟨rfl, rfl⟩))
    go_ret2
    exact ⟨rfl, rfl⟩
  · have e0 : offOf a = a := by simp [offOf, ha]
    rw [e0]
    have ha2 : (a : Int) ≤ (a : Int) + (s : Int) := by omega
    have ha3 : (a : Int) + (s : Int) ≤ 4096 := by omega
    go_enter Try.func25, Try.ntmps25
    go_wp2_with (first | (go_at_call 40; refine (owner_is _ _ HF.out HQ.out).mono ?_; rintro e w' ⟨rfl, rfl⟩) | (go_at_call 43; refine (ramThere_is _ (by omega) (by omega) HI.out).mono ?_; rintro e w' ⟨rfl, rfl⟩))
    go_ret2
    refine ⟨?_, ?_⟩
    · show Ending.returned (.tuple #[.slice (some ⟨g, n * 4096 + a, none⟩) (a + s - a) (4096 - a), .bool true]) = _
      rw [Nat.add_sub_cancel_left]
    · rw [Int.natCast_add]; rfl
end Go.Proofs.Yteebjeifbccbnaa
