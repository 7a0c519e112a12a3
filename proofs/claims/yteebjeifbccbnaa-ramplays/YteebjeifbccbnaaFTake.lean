/- The walks of Take and Give. -/
import Derived.Test.YteebjeifbccbnaaFSet
import Derived.BigRegion
import Derived.Deep.DeepCutAuto
namespace Go.Proofs.Yteebjeifbccbnaa
open Go.RowKit

theorem iv_take (S : List Nat) (k : Nat) : iv (S.take k) = (iv S).take k := by simp [iv, List.map_take]
theorem take_len {S : List Nat} {top : Nat} (h : top ≤ S.length) : (S.take top).length = top := by rw [List.length_take]; omega

set_option maxHeartbeats 1000000 in
theorem take_any {B E m t : Nat} {p : Option Addr} {O : List Int} {S : List Nat} (o : Int) (w : World) (h : FramesP B E w p m t O S) (ht : t < 1000) :
    Calls Try.prog 29 #[.pointer p, .int .i64 o] w fun e w' => e = .returned (.tuple #[.int .i64 (tkN S o : Nat), .bool (tkB S o)]) ∧
      FramesP B E w' p m (up t (tkB S o)) (tkO O S o) (tkS S o) ∧ Turns B E w w' := by
  have hsm := h.small
  cases hb : tkB S o with
  | false =>
    have e1 : tkN S o = 0 := by simp [tkN, hb]
    have e2 : tkO O S o = O := by simp [tkO, hb]
    have e3 : tkS S o = S := by simp [tkS, hb]
    rw [e1, e2, e3]
    have hno := tk_not hb
    have H : Hid (FramesP B E w p m t O S) := h
    rcases h.2 with ⟨rfl, rfl, rfl, rfl, rfl⟩ | ⟨b, g1, g2, rfl, hp⟩
    · clear e1 e2 e3 hb hno h
      go_enter Try.func29, Try.ntmps29
      go_wp2_with fail
      go_ret2
      exact ⟨rfl, H.out, Turns.refl _ _ _⟩
    · have c1 := hp.cell1
      have hsl := h.good.slen
      by_cases hs : S.length = 0
      · rw [hs] at c1
        clear e1 e2 e3 hb hno h hp hsl
        go_enter Try.func29, Try.ntmps29
        go_wp2_with fail
        go_ret2
        exact ⟨rfl, H.out, Turns.refl _ _ _⟩
      · have hT : isT o = false := decide_eq_false (by omega)
        have hne : ((S.length : Int) == 0) = false := by rw [beq_eq_false_iff_ne]; omega
        have HT : Hid _ := hT
        clear e1 e2 e3 hb hno h hp hT
        generalize S.length = L at *
        go_enter Try.func29, Try.ntmps29
        go_wp2_with (go_at_call 45; refine (mayTake_is _ _ HT.out).mono ?_; rintro e w' ⟨rfl, rfl⟩)
        go_ret2
        exact ⟨rfl, H.out, Turns.refl _ _ _⟩
  | true =>
    obtain ⟨hs, h1, h3⟩ := tk_of hb
    have e1 : tkN S o = S.getD (S.length - 1) 0 := by simp [tkN, hb]
    have e2 : tkO O S o = O.set (S.getD (S.length - 1) 0) o := by simp [tkO, hb]
    have e3 : tkS S o = S.take (S.length - 1) := by simp [tkS, hb]
    rw [e1, e2, e3]
    have HT : Hid (isT o = true) := decide_eq_true ⟨h1, h3⟩
    have hsl := h.good.slen
    have HG : Hid _ := h.good.take hs h1 h3
    have htop := (h.good.top hs).1
    rcases h.2 with ⟨_, _, _, _, rfl⟩ | ⟨b, g1, g2, rfl, hp⟩
    · simp at hs
    have c0 := hp.cell0
    have c1 := hp.cell1
    have c2 := hp.cell2
    have cS := hp.cellS (j := S.length - 1) (by omega)
    have cO := hp.cellO htop
    have fO := hp.frozenO (S.getD (S.length - 1) 0)
    have fB1 := hp.frozenB 1
    have fB2 := hp.frozenB 2
    have n1 := hp.ne1
    have n2 := hp.ne2
    have n3 := hp.ne3
    have HP : Hid (Parts B E w b g1 g2 m (t : Int) O S) := hp
    obtain ⟨top, htp⟩ : ∃ top, S.length = top + 1 := ⟨S.length - 1, by omega⟩
    have e4 : S.length - 1 = top := by omega
    have HL : Hid (S.length = top + 1) := htp
    rw [e4] at HG cS cO fO htop ⊢
    rw [htp] at c1 hsl
    generalize hn : S.getD top 0 = n at *
    generalize O.getD n 0 = q at *
    have hne : (((top + 1 : Nat) : Int) == 0) = false := by rw [beq_eq_false_iff_ne]; omega
    have i1 : (top : Int) < ((top + 1 : Nat) : Int) := by omega
    have i2 : (top : Int) ≤ (m : Int) := by omega
    clear e1 e2 e3 e4 hb hp h htp hs hn
    go_enter Try.func29, Try.ntmps29
    go_wp2_with (go_at_call 45; refine (mayTake_is _ _ HT.out).mono ?_; rintro e w' ⟨rfl, rfl⟩)
    go_ret2
    refine ⟨rfl, ⟨HG.out, .inr ⟨b, g1, g2, rfl, ?_⟩⟩, ?_⟩
    · have hr := row_cut HP.out.rowS (k := top) (by rw [HL.out]; omega)
      have hl : (S.take top).length = top := take_len (by rw [HL.out]; omega)
      have hF := HP.out.setF (S' := S.take top) (by rw [hl, iv_take]; exact hr)
      rw [hl] at hF
      have e : ((up t true : Nat) : Int) = (t : Int) + 1 := by simp [up]
      rw [e]
      exact (hF.setO n o).setT _
    · exact (((Turns.refl B E w).setCell (p := ⟨b, 1, none⟩) HP.out.bs.1 HP.out.bs.2 _).setCell (p := ⟨g1, n, none⟩) HP.out.g1s.1 HP.out.g1s.2 _).setCell (p := ⟨b, 2, none⟩) HP.out.bs.1 HP.out.bs.2 _

set_option maxHeartbeats 1000000 in
theorem give_any {B E m t : Nat} {p : Option Addr} {O : List Int} {S : List Nat} (n : Int) (w : World) (h : FramesP B E w p m t O S) (ht : t < 1000) :
    Calls Try.prog 41 #[.pointer p, .int .i64 n] w fun e w' => e = .returned (.bool (gvB O n)) ∧
      FramesP B E w' p m (up t (gvB O n)) (gvO O n) (gvS O S n) ∧ Turns B E w w' := by
  have hsm := h.small
  cases hb : gvB O n with
  | false =>
    have e2 : gvO O n = O := by simp [gvO, hb]
    have e3 : gvS O S n = S := by simp [gvS, hb]
    rw [e2, e3]
    have H0 : Hid _ := gv_not hb
    clear e2 e3 hb
    go_enter Try.func41, Try.ntmps41
    go_wp2_with (go_at_call 40; refine (owner_is _ _ h H0.out).mono ?_; rintro e w' ⟨rfl, rfl⟩)
    go_ret
    exact ⟨rfl, h, Turns.refl _ _ _⟩
  | true =>
    obtain ⟨i0, hi, hz0, hz1, hz2⟩ := info_parts Try.info3
    obtain ⟨n, rfl, hn, h0⟩ := gv_of hb
    have e2 : gvO O (n : Int) = O.set n 0 := by simp [gvO, hb]
    have e3 : gvS O S (n : Int) = S ++ [n] := by simp [gvS, hb]
    rw [e2, e3]
    rw [h.good.len] at hn
    obtain ⟨hg, hsl⟩ := h.good.give hn h0
    have HG : Hid _ := hg
    have H : Hid (FramesP B E w p m t O S) := h
    obtain ⟨q, hq⟩ : ∃ q, O.getD n 0 = q := ⟨_, rfl⟩
    have HQ : Hid (ownI O (n : Int) = q) := by show _ = _; rw [ownI_nat]; exact hq
    rw [hq] at h0
    have hq0 : (q == 0) = false := by rw [beq_eq_false_iff_ne]; exact h0
    rcases h.2 with ⟨_, rfl, _⟩ | ⟨b, g1, g2, rfl, hp⟩
    · omega
    have c0 := hp.cell0
    have cO := hp.cellO hn
    rw [hq] at cO
    have fO := hp.frozenO n
    have n1 := hp.ne1
    have n2 := hp.ne2
    have n3 := hp.ne3
    have HP : Hid (Parts B E w b g1 g2 m (t : Int) O S) := hp
    have hnm : (n : Int) < (m : Int) := by omega
    clear e2 e3 hb hp h hq hg
    go_enter Try.func41, Try.ntmps41
    go_wp2_with fail
    refine (owner_is _ _ H.out HQ.out).mono ?_
    rintro e w' ⟨rfl, rfl⟩
    go_upto_region 4 with (fail)
    have hp1 := HP.out.setO n 0
    have t1 := (Turns.refl B E w).setCell (p := ⟨g1, n, none⟩) HP.out.g1s.1 HP.out.g1s.2 (.int .i64 0)
    generalize w.setCell ⟨g1, n, none⟩ (.int .i64 0) = w1 at *
    clear c0 cO fO
    have c1 := hp1.cell1
    have HP1 : Hid (Parts B E w1 b g1 g2 m (t : Int) (O.set n 0) S) := hp1
    have hown := hp1.rowS
    clear hp1
    go_wp2_with (at_builtin; refine wpList_append_fits _ rfl _ _ 40 rfl B 3 i0 1 Try.underlying40 hi hz1 g2 S.length m (iv S) rfl (hown.alloc _) ⟨w1.heap.size, 0, none⟩ 1 1 [.int .i64 (n : Int)] rfl rfl (one_new w1 _) (one_one _) ?c3 ?_)
    case c3 => omega
    intro w2 hown2 gr2
    have b2 : Below w1.heap.size w1 (w1.alloc (.cells #[.int .i64 (n : Int)] 3)) := (Below.refl _ w1).alloc (Nat.le_refl _) _
    have t2 : Turns B E w w2 := ((t1.trans (Turns.of_below b2)).grown gr2 HP1.out.g2s.1 HP1.out.g2s.2)
    have hp2 : Parts B E w2 b g1 g2 m (t : Int) (O.set n 0) S := by
      have hp3 := HP1.out.below b2
      refine ⟨hp3.small, hp3.bs, hp3.g1s, hp3.g2s, Nat.le_trans hp3.hi gr2.size, hp3.ne1, hp3.ne2, hp3.ne3, ?_, ?_, ?_⟩
      · rw [gr2.block b (Nat.lt_of_lt_of_le hp3.bs.2 hp3.hi) (by intro e; exact hp3.ne2 (Option.some.inj e))]; exact hp3.head
      · exact row_of_block hp3.rowO (gr2.block g1 (Nat.lt_of_lt_of_le hp3.g1s.2 hp3.hi) (by intro e; exact hp3.ne3 (Option.some.inj e)))
      · have := row_cut hown2 (k := S.length) (by omega)
        rwa [show (iv S ++ [Value.int .i64 (n : Int)]).take S.length = iv S by rw [List.take_left' (by simp [iv])]] at this
    have HP2 : Hid (Parts B E w2 b g1 g2 m (t : Int) (O.set n 0) S) := hp2
    have HO2 : Hid (w2.ownsRow B 3 1 (.slice (some ⟨g2, 0, none⟩) (S.length + 1) m) (S.length + 1) (iv S ++ [.int .i64 (n : Int)])) := hown2
    have HT2 : Hid (Turns B E w w2) := t2
    have c1 := hp2.cell1
    have c2 := hp2.cell2
    have fB1 := hp2.frozenB 1
    have fB2 := hp2.frozenB 2
    clear hown hown2 gr2 b2 t2 hp2 t1
    go_wp2
    go_ret
    refine ⟨rfl, ⟨HG.out, .inr ⟨b, g1, g2, rfl, ?_⟩⟩, ?_⟩
    · have hF := HP2.out.setF (S' := S ++ [n]) (by
        have e1 : (S ++ [n]).length = S.length + 1 := by simp
        have e2 : iv (S ++ [n]) = iv S ++ [.int .i64 (n : Int)] := by simp [iv]
        rw [e1, e2]
        exact HO2.out)
      rw [show (S ++ [n]).length = S.length + 1 by simp] at hF
      have e : ((up t true : Nat) : Int) = (t : Int) + 1 := by simp [up]
      rw [e]
      exact hF.setT _
    · exact (HT2.out.setCell (p := ⟨b, 1, none⟩) HP2.out.bs.1 HP2.out.bs.2 _).setCell (p := ⟨b, 2, none⟩) HP2.out.bs.1 HP2.out.bs.2 _
end Go.Proofs.Yteebjeifbccbnaa
