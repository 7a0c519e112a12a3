/- The walks of Drop and Push: the list without a number, and with it as the newest one. -/
import Derived.Test.YtbdffiomciogiaaCSet
import Derived.BigRegion
namespace Go.Proofs.Ytbdffiomciogiaa
open Go.RowKit

set_option maxHeartbeats 1000000 in
theorem drop_any {B E m : Nat} {p : Option Addr} {l : List Nat} (n : Nat) (w : World) (h : ChainP B E w p m l) :
    Calls Try.prog 8 #[.pointer p, .int .i64 n] w fun e w' => e = .returned (.bool (decide (n ∈ l))) ∧ ChainP B E w' p m (l.erase n) ∧ Turns B E w w' := by
  have hs := h.small
  by_cases hn : n ∈ l
  · have HH : Hid (decide (n ∈ l) = true) := decide_eq_true hn
    have hlt := h.lt n hn
    have h0 := h
    rcases h with ⟨rfl, rfl, rfl⟩ | ⟨b, g1, g2, rfl, N, O, hr, hp⟩
    · simp at hn
    have hlen := h0.len
    have hpos := List.length_pos_of_mem hn
    have hel : (l.erase n).length = l.length - 1 := by rw [List.length_erase, if_pos hn]
    obtain ⟨p, q, e1, e2, e3, e4, hr2⟩ := hr.drop hn
    have c0 := hp.cell0
    have c1 := hp.cell1
    have c2 := hp.cell2
    have cN := hp.cellN (Nat.le_of_lt hlt)
    have cO := hp.cellO (Nat.le_of_lt hlt)
    rw [e1] at cO
    rw [e2] at cN
    have cNp := hp.cellN e3
    have cOq := hp.cellO e4
    have fN1 := hp.frozenN p
    have fN2 := hp.frozenN n
    have fO1 := hp.frozenO q
    have fB := hp.frozenB 2
    have n1 := hp.ne1
    have n2 := hp.ne2
    have n3 := hp.ne3
    have hP := hp
    have HP : Hid (Parts B E w b g1 g2 m (l.length : Nat) N O) := hp
    have HR : Hid _ := hr2
    have HEL : Hid _ := hel
    have i1 : (p : Int) < ((m + 1 : Nat) : Int) := by omega
    have i2 : (q : Int) < ((m + 1 : Nat) : Int) := by omega
    have i3 : (n : Int) < ((m + 1 : Nat) : Int) := by omega
    obtain ⟨vN, hvN⟩ : ∃ z, N.getD p 0 = z := ⟨_, rfl⟩
    rw [hvN] at cNp
    obtain ⟨vO, hvO⟩ : ∃ z, O.getD q 0 = z := ⟨_, rfl⟩
    rw [hvO] at cOq
    obtain ⟨L, hL⟩ : ∃ L, l.length = L := ⟨_, rfl⟩
    rw [hL] at hpos hlen c2
    have HL : Hid _ := hL
    clear hp hr hr2 hP e1 e2 hel hvN hvO hL hn
    go_enter Try.func8, Try.ntmps8
    go_wp2_with (go_at_call 9; refine (has_is _ _ h0 HH.out).mono ?_; rintro e w' ⟨rfl, rfl⟩)
    go_quiet (fail)
    go_wp2_with fail
    clear c0 c1 cN cO fN1 fN2 fO1 fB cNp cOq
    have hp1 := HP.out.drewN nq
    have ht1 : Turns B E w (w.drewN nq) := (Turns.refl _ _ _).drewN _
    generalize w.drewN nq = w1 at *
    have c0 := hp1.cell0
    have c1 := hp1.cell1
    have cNp := hp1.cellN e3
    have cOq := hp1.cellO e4
    have fN1 := hp1.frozenN p
    have fO1 := hp1.frozenO q
    have HP1 : Hid (Parts B E w1 b g1 g2 m (l.length : Nat) N O) := hp1
    generalize N.getD p 0 = vN at *
    generalize O.getD q 0 = vO at *
    clear hp1
    go_region
    all_goals
      have hp2 := ((HP1.out.setN p q).setO q p).drew
      have ht2 := ((ht1.setCell (p := ⟨g1, p, none⟩) HP1.out.g1s.1 HP1.out.g1s.2 (.int .i64 q)).setCell (p := ⟨g2, q, none⟩) HP1.out.g2s.1 HP1.out.g2s.2 (.int .i64 p)).drew
      generalize ((w1.setCell ⟨g1, p, none⟩ (.int .i64 q)).setCell ⟨g2, q, none⟩ (.int .i64 p)).drew = w2 at *
      clear c0 c1 c2 cNp cOq fN1 fO1
      have c0 := hp2.cell0
      have c2 := hp2.cell2
      have cNn := hp2.cellN (Nat.le_of_lt hlt)
      have fN2 := hp2.frozenN n
      have fB := hp2.frozenB 2
      rw [HL.out] at c2
      have HP2 : Hid (Parts B E w2 b g1 g2 m (l.length : Nat) (N.set p q) (O.set q p)) := hp2
      generalize (N.set p (q : Int)).getD n 0 = vN at *
      clear hp2
      go_wp2
      go_ret
      refine ⟨retBool HH.out.symm, .inr ⟨b, g1, g2, rfl, _, _, HR.out, ?_⟩, (ht2.setCell HP2.out.g1s.1 HP2.out.g1s.2 _).setCell HP2.out.bs.1 HP2.out.bs.2 _⟩
      have e : (((l.erase n).length : Nat) : Int) = (L : Int) - 1 := by rw [HEL.out, HL.out]; omega
      rw [e]
      exact (HP2.out.setN n (-1)).setK _
  · have HH : Hid (decide (n ∈ l) = false) := decide_eq_false hn
    have E1 : Hid (l.erase n = l) := List.erase_of_not_mem hn
    clear hn
    go_enter Try.func8, Try.ntmps8
    go_wp2_with (go_at_call 9; refine (has_is _ _ h HH.out).mono ?_; rintro e w' ⟨rfl, rfl⟩)
    go_ret
    exact ⟨retBool HH.out.symm, by rw [E1.out]; exact h, Turns.refl _ _ _⟩

def pushL (m : Nat) (l : List Nat) (n : Int) : List Nat := if mayC m n then l.erase n.toNat ++ [n.toNat] else l
set_option maxHeartbeats 1000000 in
theorem push_any {B E m : Nat} {p : Option Addr} {l : List Nat} (n : Int) (w : World) (h : ChainP B E w p m l) :
    Calls Try.prog 7 #[.pointer p, .int .i64 n] w fun e w' => e = .returned (.bool (mayC m n)) ∧ ChainP B E w' p m (pushL m l n) ∧ Turns B E w w' := by
  have hs := h.small
  cases hm : mayC m n
  · have HM : Hid _ := hm
    have E1 : Hid (pushL m l n = l) := by show _ = _; rw [pushL, hm]; rfl
    clear hm
    go_enter Try.func7, Try.ntmps7
    go_wp2_with (go_at_call 20; refine (mayHave_is _ _ h HM.out).mono ?_; rintro e w' ⟨rfl, rfl⟩)
    go_ret
    exact ⟨rfl, by rw [E1.out]; exact h, Turns.refl _ _ _⟩
  · have HM : Hid _ := hm
    have E1 : Hid (pushL m l n = l.erase n.toNat ++ [n.toNat]) := by show _ = _; rw [pushL, hm]; rfl
    simp only [mayC, decide_eq_true_eq] at hm
    obtain ⟨n, rfl⟩ := Int.eq_ofNat_of_zero_le hm.1
    have hlt : n < m := by omega
    clear hm
    rw [Int.toNat_natCast] at E1
    have hnd := h.nd
    go_enter Try.func7, Try.ntmps7
    go_wp2_with (go_at_call 20; refine (mayHave_is _ _ h HM.out).mono ?_; rintro e w' ⟨rfl, rfl⟩)
    refine (drop_any _ _ h).mono ?_
    rintro e w1 ⟨rfl, h1, ht1⟩
    have hno : n ∉ l.erase n := hnd.not_mem_erase
    generalize decide (n ∈ l) = did
    generalize l.erase n = l1 at *
    have h01 := h1
    clear h hnd
    rcases h1 with ⟨_, rfl, _⟩ | ⟨b, g1, g2, rfl, N, O, hr, hp1⟩
    · omega
    obtain ⟨p, e1, e3, hr2⟩ := hr.push hlt hno
    have hlen := h01.len
    have c0 := hp1.cell0
    have c1 := hp1.cell1
    have cO := hp1.cellO (Nat.le_refl m)
    rw [e1] at cO
    have cNp := hp1.cellN e3
    have cOn := hp1.cellO (Nat.le_of_lt hlt)
    have fN1 := hp1.frozenN p
    have fO1 := hp1.frozenO n
    have n1 := hp1.ne1
    have n2 := hp1.ne2
    have n3 := hp1.ne3
    have HP1 : Hid (Parts B E w1 b g1 g2 m (l1.length : Nat) N O) := hp1
    have HR : Hid _ := hr2
    have i1 : (p : Int) < ((m + 1 : Nat) : Int) := by omega
    have i2 : (m : Int) < ((m + 1 : Nat) : Int) := by omega
    have i3 : (n : Int) < ((m + 1 : Nat) : Int) := by omega
    generalize N.getD p 0 = vN at *
    generalize O.getD n 0 = vO at *
    clear hp1 hr hr2 e1 hno
    go_wp2_with (go_at_call 21; refine (end_any _ h01).mono ?_; rintro e w2 ⟨rfl, rfl⟩)
    go_region
    all_goals
      have hp2 := ((HP1.out.setN p n).setO n p).drew
      have ht2 := ((ht1.setCell (p := ⟨g1, p, none⟩) HP1.out.g1s.1 HP1.out.g1s.2 (.int .i64 n)).setCell (p := ⟨g2, n, none⟩) HP1.out.g2s.1 HP1.out.g2s.2 (.int .i64 p)).drew
      generalize ((w1.setCell ⟨g1, p, none⟩ (.int .i64 n)).setCell ⟨g2, n, none⟩ (.int .i64 p)).drew = w2 at *
      clear c0 c1 cO cNp cOn fN1 fO1
      have c0 := hp2.cell0
      have c1 := hp2.cell1
      have cNn := hp2.cellN (Nat.le_of_lt hlt)
      have cOm := hp2.cellO (Nat.le_refl m)
      have fN2 := hp2.frozenN n
      have fO2 := hp2.frozenO m
      have HP2 : Hid (Parts B E w2 b g1 g2 m (l1.length : Nat) (N.set p n) (O.set n p)) := hp2
      generalize (N.set p (n : Int)).getD n 0 = vN at *
      generalize (O.set n (p : Int)).getD m 0 = vO at *
      clear hp2
      go_wp2_with fail
      go_region
    all_goals
      have hp3 := ((HP2.out.setN n m).setO m n).drew
      have ht3 := ((ht2.setCell (p := ⟨g1, n, none⟩) HP2.out.g1s.1 HP2.out.g1s.2 (.int .i64 m)).setCell (p := ⟨g2, m, none⟩) HP2.out.g2s.1 HP2.out.g2s.2 (.int .i64 n)).drew
      generalize ((w2.setCell ⟨g1, n, none⟩ (.int .i64 m)).setCell ⟨g2, m, none⟩ (.int .i64 n)).drew = w3 at *
      clear c0 c1 cNn cOm fN2 fO2
      have c2 := hp3.cell2
      have fB := hp3.frozenB 2
      have HP3 : Hid (Parts B E w3 b g1 g2 m (l1.length : Nat) ((N.set p n).set n m) ((O.set n p).set m n)) := hp3
      clear hp3
      go_wp2
      go_ret
      refine ⟨rfl, .inr ⟨b, g1, g2, rfl, _, _, by rw [E1.out]; exact HR.out, ?_⟩, ht3.setCell HP3.out.bs.1 HP3.out.bs.2 _⟩
      have e : (((pushL m l (n : Int)).length : Nat) : Int) = (l1.length : Int) + 1 := by rw [E1.out]; simp
      rw [e]
      exact HP3.out.setK _
end Go.Proofs.Ytbdffiomciogiaa
