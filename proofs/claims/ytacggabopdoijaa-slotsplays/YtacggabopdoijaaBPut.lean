/- The walks of Put and Drop: the set is the list with one bool set; no other block turns. -/
import Derived.Test.YtacggabopdoijaaBSet
import Derived.Deep.RegionWith
namespace Go.Proofs.Ytacggabopdoijaa
open Go.RowKit

theorem os_drewN (w : World) (n : Nat) : (w.drewN n).os = w.os := rfl
theorem output_drewN (w : World) (n : Nat) : (w.drewN n).output = w.output := rfl
theorem tape_drewN (w : World) (n : Nat) : (w.drewN n).tape = w.tape := rfl
theorem grownBy_drewN {w w' : World} {r : Option Nat} (h : w.grownBy w' r) (n : Nat) : w.grownBy (w'.drewN n) r :=
  ⟨(os_drewN w' n).trans h.os, (tape_drewN w' n).trans h.tape, (output_drewN w' n).trans h.output, by rw [heap_drewN]; exact h.size, fun k hk hne => by rw [heap_drewN]; exact h.block k hk hne⟩
theorem SetAt.stored {B b g : Nat} {w : World} {x : List Bool} (h : SetAt B w b g x) {ws : List Nat} (ho : w.ownsRow B 80 1 (.slice (some ⟨g, 0, none⟩) ((x.length + 63) / 64) ((x.length + 63) / 64)) ((x.length + 63) / 64) (wv ws)) {n : Nat} {bb : Bool} {j q : Nat}
    (hf : Fits (ws.set j q) (x.set n bb)) {w' : World} (hw : w'.heap = (w.setCell ⟨g, j, none⟩ (.int .u64 (q : Int))).heap) : SetAt B w' b g (x.set n bb) := by
  have hr := ho.stored j (.int .u64 (q : Int))
  refine ⟨by simpa using h.small, h.lo, h.ne, ?_, ⟨_, hf, ?_⟩⟩
  · rw [List.length_set, hw, hr.2.block b h.bltg.1 (fun e => h.ne (Option.some.inj e))]
    exact h.head
  · have e : wv (ws.set j q) = (wv ws).set j (.int .u64 (q : Int)) := by simp [wv, List.map_set]
    rw [List.length_set, e]
    have hr1 := hr.1
    refine ⟨hr1.1, ?_⟩
    rw [hw]
    exact hr1.2

theorem heap_set_drewN (w : World) (n : Nat) (a : Addr) (v : Value) : ((w.drewN n).setCell a v).heap = (w.setCell a v).heap := by simp [World.setCell]
theorem grownBy_set_drewN {w : World} {r : Option Nat} {a : Addr} {v : Value} (h : w.grownBy (w.setCell a v) r) (n : Nat) : w.grownBy ((w.drewN n).setCell a v) r :=
  ⟨os_drewN w n, tape_drewN w n, output_drewN w n, by rw [heap_set_drewN]; exact h.size, fun k hk hne => by rw [heap_set_drewN]; exact h.block k hk hne⟩

set_option maxHeartbeats 400000 in
theorem put_any {B : Nat} {p : Option Addr} {r : Option Nat} {x : List Bool} (n : Int) (w : World) (h : SetP B w p r x) :
    Calls Try.prog 26 #[.pointer p, .int .i64 n] w fun e w' => e = .returned (.bool (mayB x n && !hasB x n)) ∧ SetP B w' p r (putL x n true) ∧ w.grownBy w' r := by
  cases hm : mayB x n
  · have E : Hid (putL x n true = x) := putL_no hm
    have HM : Hid (mayB x n = false) := hm
    clear hm
    go_enter Try.func26, Try.ntmps26
    go_wp2_with (go_at_call 43; refine (mayHave_is _ _ h HM.out).mono ?_; rintro e w' ⟨rfl, rfl⟩)
    go_ret
    exact ⟨rfl, by rw [E.out]; exact h, World.grownBy.refl _ _⟩
  · cases hh : hasB x n
    · have HM : Hid (mayB x n = true) := hm
      have HH : Hid (hasB x n = false) := hh
      simp only [mayB, decide_eq_true_eq] at hm
      obtain ⟨k, rfl⟩ := Int.eq_ofNat_of_zero_le hm.1
      have hk : k < x.length := by omega
      have h0 := h
      rcases h with ⟨_, _, rfl⟩ | ⟨b, g, rfl, rfl, h⟩
      · simp at hk
      have hs := h.small
      have h1 := h.words0
      obtain ⟨ws, hf, ho⟩ := h.row
      have hwl := hf.word hk
      have hlen := hf.len
      have hc : w.cell? ⟨g, k / 64, none⟩ = some (.int .u64 ((ws.getD (k / 64) 0 : Nat) : Int)) := by
        rw [ho.cellAt (k / 64) (by omega)]
        simp [wv, List.getD, hwl]
      have hfz := ho.frozenAt (k / 64)
      have hq := hf.wlt (k / 64)
      have hp : (2 : Nat) ^ (k % 64) < 18446744073709551616 := Nat.pow_lt_pow_right (n := 64) (by omega) (by omega)
      have E : Hid (bits .or .u64 ((ws.getD (k / 64) 0 : Nat) : Int) ((2 ^ (k % 64) : Nat) : Int) = ((ws.getD (k / 64) 0 ||| 2 ^ (k % 64) : Nat) : Int)) := u64_or_nat _ _ hq hp
      have hS : ∀ w', w'.heap = (w.setCell ⟨g, k / 64, none⟩ (.int .u64 ((ws.getD (k / 64) 0 ||| 2 ^ (k % 64) : Nat) : Int))).heap → SetP B w' (some ⟨b, 0, none⟩) (some g) (putL x k true) := by
        intro w' hw'
        refine .inr ⟨b, g, rfl, rfl, ?_⟩
        have e : putL x k true = x.set k true := by simp [putL]
        rw [e]
        exact h.stored ho (hf.or hk) hw'
      have hG : w.grownBy (w.setCell ⟨g, k / 64, none⟩ (.int .u64 ((ws.getD (k / 64) 0 ||| 2 ^ (k % 64) : Nat) : Int))) (some g) := (ho.stored _ _).2
      have hw : k / 64 < (x.length + 63) / 64 := by omega
      have hi : IntKind.i64.wrap ((k : Int) / 64) = ((k / 64 : Nat) : Int) := by rw [IntKind.wrap_i64]; omega
      generalize hq1 : ws.getD (k / 64) 0 ||| 2 ^ (k % 64) = qo at *
      generalize hq0 : ws.getD (k / 64) 0 = q at *
      generalize hp0 : 2 ^ (k % 64) = pw at *
      generalize k / 64 = j at *
      generalize hW0 : (x.length + 63) / 64 = W at *
      have HP : Hid _ := hp0
      have HW : Hid _ := hW0
      have HS : Hid _ := hS
      have HG : Hid _ := hG
      clear hq0 hp0 ho hf hlen hwl hm hW0 hS hG hh hq1
      go_enter Try.func26, Try.ntmps26
      go_wp2_with (first | (go_at_call 43; refine (mayHave_is _ _ h0 HM.out).mono ?_; rintro e w' ⟨rfl, rfl⟩) | (go_at_call 30; refine (has_any _ _ h0).mono ?_; rw [HH.out]; rintro e w' ⟨rfl, m, rfl⟩))
      go_region_with (go_at_call 44; refine (bitOf_is k _ (by omega) HP.out).mono ?_; rintro e w' ⟨rfl, rfl⟩)
      all_goals
        go_wp2
        go_ret
        rw [E.out]
        exact ⟨rfl, HS.out _ (heap_set_drewN _ _ _ _), grownBy_set_drewN HG.out _⟩
    · have E : Hid (putL x n true = x) := putL_same hh
      have HM : Hid (mayB x n = true) := hm
      have HH : Hid (hasB x n = true) := hh
      clear hm hh
      go_enter Try.func26, Try.ntmps26
      go_wp2_with (first | (go_at_call 43; refine (mayHave_is _ _ h HM.out).mono ?_; rintro e w' ⟨rfl, rfl⟩) | (go_at_call 30; refine (has_any _ _ h).mono ?_; rw [HH.out]; rintro e w' ⟨rfl, m, rfl⟩))
      go_ret
      exact ⟨rfl, by rw [E.out]; exact h.drewN m, grownBy_drewN (World.grownBy.refl _ _) m⟩

set_option maxHeartbeats 400000 in
theorem drop_any {B : Nat} {p : Option Addr} {r : Option Nat} {x : List Bool} (n : Int) (w : World) (h : SetP B w p r x) :
    Calls Try.prog 29 #[.pointer p, .int .i64 n] w fun e w' => e = .returned (.bool (hasB x n)) ∧ SetP B w' p r (putL x n false) ∧ w.grownBy w' r := by
  cases hh : hasB x n
  · have E : Hid (putL x n false = x) := putL_same hh
    have HH : Hid (hasB x n = false) := hh
    clear hh
    go_enter Try.func29, Try.ntmps29
    go_wp2_with (go_at_call 30; refine (has_any _ _ h).mono ?_; rw [HH.out]; rintro e w' ⟨rfl, m, rfl⟩)
    go_ret
    exact ⟨rfl, by rw [E.out]; exact h.drewN m, grownBy_drewN (World.grownBy.refl _ _) m⟩
  · have hm := mayB_of_has hh
    have HH : Hid (hasB x n = true) := hh
    simp only [mayB, decide_eq_true_eq] at hm
    obtain ⟨k, rfl⟩ := Int.eq_ofNat_of_zero_le hm.1
    have hk : k < x.length := by omega
    have h0 := h
    rcases h with ⟨_, _, rfl⟩ | ⟨b, g, rfl, rfl, h⟩
    · simp at hk
    have hs := h.small
    have h1 := h.words0
    obtain ⟨ws, hf, ho⟩ := h.row
    have hwl := hf.word hk
    have hlen := hf.len
    have hc : w.cell? ⟨g, k / 64, none⟩ = some (.int .u64 ((ws.getD (k / 64) 0 : Nat) : Int)) := by
      rw [ho.cellAt (k / 64) (by omega)]
      simp [wv, List.getD, hwl]
    have hfz := ho.frozenAt (k / 64)
    have hq := hf.wlt (k / 64)
    have hp : (2 : Nat) ^ (k % 64) < 18446744073709551616 := Nat.pow_lt_pow_right (n := 64) (by omega) (by omega)
    have E : Hid (bits .andNot .u64 ((ws.getD (k / 64) 0 : Nat) : Int) ((2 ^ (k % 64) : Nat) : Int) = ((ws.getD (k / 64) 0 &&& (18446744073709551615 - 2 ^ (k % 64)) : Nat) : Int)) := u64_andNot_nat _ _ hq hp
    have hS : ∀ w', w'.heap = (w.setCell ⟨g, k / 64, none⟩ (.int .u64 ((ws.getD (k / 64) 0 &&& (18446744073709551615 - 2 ^ (k % 64)) : Nat) : Int))).heap → SetP B w' (some ⟨b, 0, none⟩) (some g) (putL x k false) := by
      intro w' hw'
      refine .inr ⟨b, g, rfl, rfl, ?_⟩
      have e : putL x k false = x.set k false := by simp [putL]
      rw [e]
      exact h.stored ho (hf.clear hk) hw'
    have hG : w.grownBy (w.setCell ⟨g, k / 64, none⟩ (.int .u64 ((ws.getD (k / 64) 0 &&& (18446744073709551615 - 2 ^ (k % 64)) : Nat) : Int))) (some g) := (ho.stored _ _).2
    have hw : k / 64 < (x.length + 63) / 64 := by omega
    have hi : IntKind.i64.wrap ((k : Int) / 64) = ((k / 64 : Nat) : Int) := by rw [IntKind.wrap_i64]; omega
    generalize hq1 : ws.getD (k / 64) 0 &&& (18446744073709551615 - 2 ^ (k % 64)) = qo at *
    generalize hq0 : ws.getD (k / 64) 0 = q at *
    generalize hp0 : 2 ^ (k % 64) = pw at *
    generalize k / 64 = j at *
    generalize hW0 : (x.length + 63) / 64 = W at *
    have HP : Hid _ := hp0
    have HW : Hid _ := hW0
    have HS : Hid _ := hS
    have HG : Hid _ := hG
    clear hq0 hp0 ho hf hlen hwl hm hW0 hS hG hh hq1
    go_enter Try.func29, Try.ntmps29
    go_wp2_with (go_at_call 30; refine (has_any _ _ h0).mono ?_; rw [HH.out]; rintro e w' ⟨rfl, m, rfl⟩)
    go_region_with (go_at_call 44; refine (bitOf_is k _ (by omega) HP.out).mono ?_; rintro e w' ⟨rfl, rfl⟩)
    all_goals
      go_wp2
      go_ret
      rw [E.out]
      exact ⟨rfl, HS.out _ (heap_set_drewN _ _ _ _), grownBy_set_drewN HG.out _⟩
end Go.Proofs.Ytacggabopdoijaa
