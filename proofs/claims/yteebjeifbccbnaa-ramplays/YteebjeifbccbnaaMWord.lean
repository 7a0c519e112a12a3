/- The walks of touchWord, Word and SetWord. -/
import Derived.Test.YteebjeifbccbnaaMWrite
namespace Go.Proofs.Yteebjeifbccbnaa
open Go.RowKit

set_option maxHeartbeats 1000000 in
theorem touchWord_no {B F E r g m t x : Nat} {pf : Option Addr} {tg : TypeId} {vP : Value} {O : List Int} {S P : List Nat} (n i : Int) (w : World) (h : CellsAt B F E w r g pf tg vP m t x O S P) (hno : wdB O n i = false) :
    Calls Try.prog 27 #[.pointer (some ⟨r, 0, none⟩), .int .i64 n, .int .i64 i] w fun e w' => e = .returned (.tuple #[.slice none 0 0, .bool false]) ∧ w = w' := by
  by_cases h0 : i < 0
  · clear hno h
    go_enter Try.func27, Try.ntmps27
    go_wp2
    go_ret2
    exact ⟨rfl, rfl⟩
  · by_cases h1 : 512 ≤ i
    · clear hno h
      go_enter Try.func27, Try.ntmps27
      go_wp2
      go_ret2
      exact ⟨rfl, rfl⟩
    · have HN : Hid (thB O n (i * 8) 8 = false) := wd_not hno (by omega) (by omega)
      have HH : Hid (CellsAt B F E w r g pf tg vP m t x O S P) := h
      clear hno h
      go_enter Try.func27, Try.ntmps27
      go_wp2_with fail
      refine (touch_no n (i * 8) 8 w HH.out (by omega) (by omega) HN.out).mono ?_
      rintro e w' ⟨rfl, rfl⟩
      go_wp2
      go_ret2
      exact ⟨rfl, rfl⟩
set_option maxHeartbeats 1000000 in
theorem touchWord_yes {B F E r g m t x : Nat} {pf : Option Addr} {tg : TypeId} {vP : Value} {O : List Int} {S P : List Nat} (n i : Nat) (w : World) (h : CellsAt B F E w r g pf tg vP m t x O S P) (hx : x < 1000000)
    (hn : n < m) (h0 : O.getD n 0 ≠ 0) (hi : i < 512) :
    Calls Try.prog 27 #[.pointer (some ⟨r, 0, none⟩), .int .i64 (n : Nat), .int .i64 (i : Nat)] w fun e w' => e = .returned (.tuple #[.slice (some ⟨g, n * 4096 + offOf (i * 8), none⟩) 8 (4096 - i * 8), .bool true]) ∧ w' = w.setCell ⟨r, 2, none⟩ (.int .i64 ((x + 1 : Nat) : Int)) := by
  have HH : Hid (CellsAt B F E w r g pf tg vP m t x O S P) := h
  clear h
  go_enter Try.func27, Try.ntmps27
  go_wp2_with fail
  have e1 : (i : Int) * 8 = ((i * 8 : Nat) : Int) := by omega
  rw [e1]
  refine (touch_yes n (i * 8) 8 w HH.out hx hn h0 (by omega)).mono ?_
  rintro e w1 ⟨rfl, he⟩
  have HE : Hid _ := he
  clear he e1
  go_wp2
  go_ret2
  exact ⟨rfl, HE.out⟩
theorem wdN_no {O : List Int} {P : List Nat} {n i : Int} (h : wdB O n i = false) : wdN O P n i = 0 := by simp [wdN, h]
theorem wdN_yes {O : List Int} {P : List Nat} {n i : Nat} (h : wdB O n i = true) : wdN O P n i = getTo P (n * 4096 + i * 8) 8 := by
  have e := plc_nat n (i * 8)
  have e1 : ((i * 8 : Nat) : Int) = (i : Int) * 8 := by omega
  rw [e1] at e
  rw [wdN, if_pos h, e]
theorem wdP_no {O : List Int} {P : List Nat} {n i : Int} {v : Nat} (h : wdB O n i = false) : wdP O P n i v = P := by simp [wdP, h]
theorem wdP_yes {O : List Int} {P : List Nat} {n i v : Nat} (h : wdB O n i = true) : wdP O P n i v = putAt P (n * 4096 + i * 8) (putN 8 v) := by
  have e := plc_nat n (i * 8)
  have e1 : ((i * 8 : Nat) : Int) = (i : Int) * 8 := by omega
  rw [e1] at e
  rw [wdP, if_pos h, e]
theorem wd_of' {O : List Int} {n i : Int} (h : wdB O n i = true) : ∃ n' i' : Nat, n = n' ∧ i = i' ∧ n' < O.length ∧ O.getD n' 0 ≠ 0 ∧ i' < 512 := by
  obtain ⟨h1, h2, h3⟩ := of_decide_eq_true h
  obtain ⟨k, rfl, hk, h0⟩ := own_yes h1
  obtain ⟨a', rfl⟩ := Int.eq_ofNat_of_zero_le h2
  exact ⟨k, a', rfl, rfl, hk, h0, by omega⟩

set_option maxHeartbeats 1000000 in
theorem ramWord_any {B E r m t x : Nat} {O : List Int} {S P : List Nat} (n i : Int) (w : World) (h : RamAt B E w r m t x O S P) (hx : x < 1000000) :
    Calls Try.prog 7 #[.pointer (some ⟨r, 0, none⟩), .int .i64 n, .int .i64 i] w fun e w' => e = .returned (.tuple #[.int .u64 (wdN O P n i : Nat), .bool (wdB O n i)]) ∧
      RamAt B E w' r m t (up x (wdB O n i)) O S P ∧ Turns B E w w' := by
  obtain ⟨F, g, pf, tg, vP, h⟩ := h
  cases hb : wdB O n i with
  | false =>
    rw [wdN_no hb]
    have HB : Hid (wdB O n i = false) := hb
    have HH : Hid (CellsAt B F E w r g pf tg vP m t x O S P) := h
    clear hb h
    go_enter Try.func7, Try.ntmps7
    go_wp2_with fail
    refine (own_some _ _).mono ?_
    rintro e w' ⟨rfl, rfl⟩
    go_wp2_with fail
    refine (touchWord_no n i w HH.out HB.out).mono ?_
    rintro e w' ⟨rfl, rfl⟩
    go_wp2
    go_ret2
    exact ⟨rfl, ⟨F, g, pf, tg, vP, HH.out⟩, Turns.refl _ _ _⟩
  | true =>
    obtain ⟨n, i, rfl, rfl, hn, h0, hi⟩ := wd_of' hb
    rw [wdN_yes hb]
    obtain ⟨q, hq⟩ : ∃ q, getTo P (n * 4096 + i * 8) 8 = q := ⟨_, rfl⟩
    have HGT : Hid (getTo (seg P (n * 4096 + i * 8) 8) 0 8 = q) := (seg_getTo _ _ _).trans hq
    rw [hq]
    rw [h.ol] at hn
    have hpl : n * 4096 + i * 8 + 8 ≤ m * 4096 := by have := plc_le (a := i * 8) (s := 8) hn (by omega); have e := plc_nat n (i * 8); omega
    have HPL : Hid (n * 4096 + i * 8 + 8 ≤ m * 4096) := hpl
    have HH : Hid (CellsAt B F E w r g pf tg vP m t x O S P) := h
    clear hb h hpl hq
    go_enter Try.func7, Try.ntmps7
    go_wp2_with fail
    refine (own_some _ _).mono ?_
    rintro e w' ⟨rfl, rfl⟩
    go_wp2_with fail
    refine (touchWord_yes n i w HH.out hx hn h0 hi).mono ?_
    rintro e w1 ⟨rfl, he⟩
    have hh1 : CellsAt B F E w1 r g pf tg vP m t (x + 1) O S P := by rw [he]; exact HH.out.setX (x + 1)
    have ht1 : Turns B E w w1 := by
      rw [he]; have := HH.out.lo
      exact (Turns.refl B E w).setCell (p := ⟨r, 2, none⟩) (by show B ≤ r; omega) (by show r < E; omega) _
    have hlen : (seg P (n * 4096 + i * 8) 8).length = 8 := length_seg (by have := HPL.out; have := hh1.len; omega)
    have hnu : NumsAt .u8 w1 (some ⟨g, n * 4096 + offOf (i * 8), none⟩) (seg P (n * 4096 + i * 8) 8) := by
      refine .inr ⟨g, _, rfl, by have := hh1.lo; have := hh1.hi; omega, fun j hj => ?_⟩
      rw [hlen] at hj
      have e0 : offOf (i * 8) = i * 8 := by unfold offOf; split <;> omega
      have := HPL.out
      rw [e0, hh1.cellP (by omega), seg_getD hj]
    have HH1 : Hid (CellsAt B F E w1 r g pf tg vP m t (x + 1) O S P) := hh1
    have HT1 : Hid (Turns B E w w1) := ht1
    have HLN : Hid ((seg P (n * 4096 + i * 8) 8).length = 8) := hlen
    have HNU : Hid (NumsAt .u8 w1 (some ⟨g, n * 4096 + offOf (i * 8), none⟩) (seg P (n * 4096 + i * 8) 8)) := hnu
    clear he hh1 ht1 hlen hnu
    go_wp2_with fail
    refine (get_yes _ 8 (4096 - i * 8) 0 8 0 8 rfl rfl (seg P (n * 4096 + i * 8) 8) w1 (by unfold maxLen; omega) HLN.out HNU.out (seg_byte HH1.out.byte) (by omega) (by omega)).mono ?_
    rintro e w' ⟨rfl, rfl⟩
    rw [HGT.out]
    go_wp2
    go_ret2
    exact ⟨rfl, ⟨F, g, pf, tg, vP, HH1.out⟩, HT1.out⟩

set_option maxHeartbeats 1000000 in
theorem ramSetWord_any {B E r m t x : Nat} {O : List Int} {S P : List Nat} (n i : Int) (v : Nat) (w : World) (h : RamAt B E w r m t x O S P) (hx : x < 1000000) :
    Calls Try.prog 10 #[.pointer (some ⟨r, 0, none⟩), .int .i64 n, .int .i64 i, .int .u64 (v : Nat)] w fun e w' => e = .returned (.bool (wdB O n i)) ∧
      RamAt B E w' r m t (up x (wdB O n i)) O S (wdP O P n i v) ∧ Turns B E w w' := by
  obtain ⟨F, g, pf, tg, vP, h⟩ := h
  cases hb : wdB O n i with
  | false =>
    rw [wdP_no hb]
    have HB : Hid (wdB O n i = false) := hb
    have HH : Hid (CellsAt B F E w r g pf tg vP m t x O S P) := h
    clear hb h
    have hcg := fun (w : World) (a : Option Addr) (L c : Nat) (ty : TypeId) => copy_gone (w := w) (a := a) (L := L) (c := c) ty
    go_enter Try.func10, Try.ntmps10
    go_wp2_with fail
    refine (own_some _ _).mono ?_
    rintro e w' ⟨rfl, rfl⟩
    go_wp2_with fail
    refine (touchWord_no n i w HH.out HB.out).mono ?_
    rintro e w' ⟨rfl, rfl⟩
    go_wp2_with fail
    refine (put_any 8 1 1 8 rfl _ [v] _ (by omega) (by omega) rfl ?_).mono ?_
    · refine .inr ⟨w.heap.size, 0, rfl, by simp, ?_⟩
      intro j hj
      match j, hj with
      | 0, _ => simp
    rintro e w2 ⟨rfl, own2, b2⟩
    have b3 : Below w.heap.size w w2 := ((Below.refl _ w).alloc (Nat.le_refl _) _).trans (b2.mono (by simp))
    clear own2 b2
    go_wp2
    go_ret
    exact ⟨rfl, ⟨F, g, pf, tg, vP, HH.out.below b3⟩, Turns.of_below b3⟩
  | true =>
    obtain ⟨n, i, rfl, rfl, hn, h0, hi⟩ := wd_of' hb
    rw [wdP_yes hb]
    rw [h.ol] at hn
    have HH : Hid (CellsAt B F E w r g pf tg vP m t x O S P) := h
    clear hb h
    go_enter Try.func10, Try.ntmps10
    go_wp2_with fail
    refine (own_some _ _).mono ?_
    rintro e w' ⟨rfl, rfl⟩
    go_wp2_with fail
    refine (touchWord_yes n i w HH.out hx hn h0 hi).mono ?_
    rintro e w1 ⟨rfl, he⟩
    have hh1 : CellsAt B F E w1 r g pf tg vP m t (x + 1) O S P := by rw [he]; exact HH.out.setX (x + 1)
    have ht1 : Turns B E w w1 := by
      rw [he]; have := HH.out.lo
      exact (Turns.refl B E w).setCell (p := ⟨r, 2, none⟩) (by show B ≤ r; omega) (by show r < E; omega) _
    have HH1 : Hid (CellsAt B F E w1 r g pf tg vP m t (x + 1) O S P) := hh1
    have HT1 : Hid (Turns B E w w1) := ht1
    clear he hh1 ht1
    go_wp2_with fail
    refine (put_any 8 1 1 8 rfl _ [v] _ (by omega) (by omega) rfl ?_).mono ?_
    · refine .inr ⟨w1.heap.size, 0, rfl, by simp, ?_⟩
      intro j hj
      match j, hj with
      | 0, _ => simp
    rintro e w2 ⟨rfl, own2, b2⟩
    have b3 : Below w1.heap.size w1 w2 := ((Below.refl _ w1).alloc (Nat.le_refl _) _).trans (b2.mono (by simp))
    have hh2 := HH1.out.below b3
    have hsz : (w1.alloc (.cells #[.int .u64 (v : Int)] 27)).heap.size = w1.heap.size + 1 := by simp
    rw [hsz] at own2 ⊢
    rw [putAll_one] at own2
    have hnu : NumsAt .u8 w2 (some ⟨w1.heap.size + 1, 0, none⟩) (putN 8 v) := by
      refine .inr ⟨_, 0, rfl, ?_, fun j hj => ?_⟩
      · obtain ⟨gx, ex, _, _, _, h5⟩ := row_at own2 (i := 0) (by omega)
        simp only [Option.some.injEq, Addr.mk.injEq] at ex
        omega
      · rw [Nat.zero_add, own2.cellAt j (by simpa using hj), bv_at _ _ hj]
    obtain ⟨w3, hrun, hp3, ht3⟩ := hh2.copied (a := i * 8) (L := 1 * 8) (c := 1 * 8) hn (by omega) (length_putN 8 v) hnu (putN_byte 8 v) rfl
    have HP3 : Hid (CellsAt B F E w3 r g pf tg vP m t (x + 1) O S (putAt P (n * 4096 + i * 8) (putN 8 v))) := hp3
    have HT3 : Hid (Turns B E w w3) := (HT1.out.trans (Turns.of_below b3)).trans ht3
    clear own2 b2 b3 hh2 hsz hnu hp3 ht3
    go_wp2
    go_ret
    exact ⟨rfl, ⟨F, g, pf, tg, vP, HP3.out⟩, HT3.out⟩
end Go.Proofs.Yteebjeifbccbnaa
