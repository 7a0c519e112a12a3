/- The walk of the law's own 'same': frames and the document's tell the same. -/
import Derived.Test.YtngehhpaegljcaaFRefG
import Derived.Test.YtngehhpaegljcaaFRefN
import Derived.Test.YtngehhpaegljcaaFOf
import Derived.Test.YtngehhpaegljcaaFCount
import Derived.Deep.RegionWith
import Derived.Deep.DeepCutAuto
import Derived.Deep.LoopGhost
namespace Go.Proofs.Ytngehhpaegljcaa
open Go.RowKit

theorem refInts_some {B C : Nat} {v u : Value} {l : List Nat} (w : World) (h : w.ownsRow B 3 1 v l.length (iv l)) (h2 : w.ownsRow C 3 1 u l.length (iv l)) (hs : l.length ≤ 4096) :
    Calls Try.prog 21 #[v, u] w fun e w' => e = .returned (.bool true) ∧ Below w.heap.size w w' :=
  (refInts_any w h h2 hs).mono (by rintro e w' ⟨rfl, m, rfl⟩; exact ⟨rfl, drewN_below _ _ _⟩)

theorem of_is {B E m t : Nat} {p : Option Addr} {O : List Int} {S U : List Nat} (o : Int) (w : World) (h : FramesP B E w p m t O S) (hU : ofL O o = U) :
    Calls Try.prog 10 #[.pointer p, .int .i64 o] w fun e w' => ∃ v, e = .returned v ∧ w'.ownsRow w.heap.size 3 1 v U.length (iv U) ∧ Below w.heap.size w w' := by
  rw [← hU]; exact of_any o w h
theorem refOf_is {C m now : Nat} {vO vW : Value} {O W : List Int} {U : List Nat} (o : Int) (w : World) (h : DocAt C w vO vW m O W) (hm : m ≤ 96) (hU : ofL O o = U) :
    Calls Try.prog 22 #[.agg #[vO, vW, .int .i64 (now : Int)], .int .i64 o] w fun e w' => ∃ v, e = .returned v ∧ w'.ownsRow w.heap.size 3 1 v U.length (iv U) ∧ Below w.heap.size w w' := by
  rw [← hU]; exact refOf_any now o w h hm

section
variable {B E m t n : Nat} {p : Option Addr} {O : List Int} {S : List Nat}
theorem alloc_then {w w' : World} {o : Obj} (h : Below (w.alloc o).heap.size (w.alloc o) w') : Below w.heap.size w w' := ((Below.refl _ w).alloc (Nat.le_refl _) o).trans (h.mono (by simp))
theorem count_two (o : Int) (w : World) (h : FramesP B E w p m t O S) (hn : cnt O [o, o] = n) :
    Calls Try.prog 9 #[.pointer p, .slice (some ⟨w.heap.size, 0, none⟩) 2 2] (w.alloc (.cells #[.int .i64 o, .int .i64 o] 3)) fun e w' => e = .returned (.int .i64 (n : Nat)) ∧ Below w.heap.size w w' :=
  (count_is (zs := [o, o]) _ (h.below ((Below.refl _ w).alloc (Nat.le_refl _) _)) (IntsAt.made w [o, o] _ rfl) rfl (by simp) hn).mono (by rintro e w' ⟨rfl, hb⟩; exact ⟨rfl, alloc_then hb⟩)
theorem count_four (w : World) (h : FramesP B E w p m t O S) :
    Calls Try.prog 9 #[.pointer p, .slice (some ⟨w.heap.size, 0, none⟩) 4 4] (w.alloc (.cells #[.int .i64 0, .int .i64 1, .int .i64 2, .int .i64 3] 3)) fun e w' => e = .returned (.int .i64 (m : Nat)) ∧ Below w.heap.size w w' :=
  (count_is (zs := [0, 1, 2, 3]) _ (h.below ((Below.refl _ w).alloc (Nat.le_refl _) _)) (IntsAt.made w [0, 1, 2, 3] _ rfl) rfl (by decide) h.good.cnt_all).mono (by rintro e w' ⟨rfl, hb⟩; exact ⟨rfl, alloc_then hb⟩)
theorem count_zero (w : World) (h : FramesP B E w p m t O S) :
    Calls Try.prog 9 #[.pointer p, .slice none 0 0] w fun e w' => e = .returned (.int .i64 0) ∧ Below w.heap.size w w' :=
  count_is (zs := []) w h (.inl rfl) rfl (by decide) (cnt_none O)
end

/-- Both frames, the document's in fb. -/
structure SameAt (w wr : World) (B E C fb : Nat) (p : Option Addr) (vO vW : Value) (m t now : Nat) (O W : List Int) (S : List Nat) : Prop where
  fr : FramesP B E wr p m t O S
  doc : DocAt C wr vO vW m O W
  box : wr.heap[fb]? = some (.cells #[vO, vW, .int .i64 (now : Int)] 37 (0, 0))
  bel : Below w.heap.size w wr
section
variable {w wr w2 : World} {B E C fb m t now : Nat} {p : Option Addr} {vO vW : Value} {O W : List Int} {S : List Nat}
theorem SameAt.below (h : SameAt w wr B E C fb p vO vW m t now O W S) (hb : Below wr.heap.size wr w2) : SameAt w w2 B E C fb p vO vW m t now O W S :=
  ⟨h.fr.below hb, h.doc.below hb, (hb.block fb (Array.getElem?_eq_some_iff.1 h.box).1).trans h.box, h.bel.trans (hb.mono h.bel.size)⟩
theorem SameAt.c0 (h : SameAt w wr B E C fb p vO vW m t now O W S) : wr.cell? ⟨fb, 0, none⟩ = some vO := by rw [cell_of_row wr fb 0 _ _ _ h.box]; rfl
theorem SameAt.c1 (h : SameAt w wr B E C fb p vO vW m t now O W S) : wr.cell? ⟨fb, 1, none⟩ = some vW := by rw [cell_of_row wr fb 1 _ _ _ h.box]; rfl
theorem SameAt.c2 (h : SameAt w wr B E C fb p vO vW m t now O W S) : wr.cell? ⟨fb, 2, none⟩ = some (.int .i64 (now : Int)) := by rw [cell_of_row wr fb 2 _ _ _ h.box]; rfl
theorem SameAt.lt (h : SameAt w wr B E C fb p vO vW m t now O W S) : fb < wr.heap.size := (Array.getElem?_eq_some_iff.1 h.box).1
end

set_option maxRecDepth 100000 in
set_option maxHeartbeats 4000000 in
theorem same_any {B E C m t now : Nat} {p : Option Addr} {vO vW : Value} {O W : List Int} {S : List Nat} (w : World) (h : FramesP B E w p m t O S) (hd : DocAt C w vO vW m O W) :
    Calls Try.prog 16 #[.pointer p, .agg #[vO, vW, .int .i64 (now : Int)], .int .i64 (t : Int)] w fun e w' => e = .returned (.bool true) ∧ Below w.heap.size w w' := by
  have hm := h.small
  have HLO : Hid (O.length = m) := hd.lenO
  obtain ⟨aO, cO, rfl⟩ := row_slice hd.rO
  obtain ⟨aW, cW, rfl⟩ := row_slice hd.rW
  have b1 : Below w.heap.size w (w.alloc (.cells #[.slice aO m cO, .slice aW m cW, .int .i64 (now : Int)] 37)) := (Below.refl _ w).alloc (Nat.le_refl _) _
  have HS : Hid (SameAt w (w.alloc (.cells #[.slice aO m cO, .slice aW m cW, .int .i64 (now : Int)] 37)) B E C w.heap.size p (.slice aO m cO) (.slice aW m cW) m t now O W S) := ⟨h.below b1, hd.below b1, heap_alloc_new w _, b1⟩
  clear h hd b1
  go_enter Try.func16, Try.ntmps16
  go_wp2_with fail
  generalize w.alloc (.cells #[.slice aO m cO, .slice aW m cW, .int .i64 (now : Int)] 37) = w1 at *
  obtain ⟨fb, hfb⟩ : ∃ fb, w.heap.size = fb := ⟨_, rfl⟩
  have HSF : Hid (SameAt w w1 B E C fb p (.slice aO m cO) (.slice aW m cW) m t now O W S) := by rw [← hfb]; exact HS.out
  rw [hfb]
  clear hfb HS
  go_loopw [7] (fun i wr => ∃ k : Nat, k ≤ 6 ∧ i = .int .i64 ((k : Int) - 1) ∧ SameAt w wr B E C fb p (.slice aO m cO) (.slice aW m cW) m t now O W S) (fun i _ => 6 - (intOf i + 1).toNat)
  case atStart => exact ⟨0, by omega, rfl, HSF.out⟩
  case round =>
    obtain ⟨k, hk, rfl, hs⟩ := hrel
    have HS : Hid (SameAt w wr B E C fb p (.slice aO m cO) (.slice aW m cW) m t now O W S) := hs
    by_cases hlt : k < 6
    · obtain ⟨o, ho⟩ : ∃ o, (k : Int) - 1 = o := ⟨_, rfl⟩
      rw [ho]
      have i1 : o < 5 := by omega
      have i2 : -1 ≤ o := by omega
      have HO : Hid _ := ho
      have HS0 : Hid (SameAt w wr.drew B E C fb p (.slice aO m cO) (.slice aW m cW) m t now O W S) := hs.below (drew_below _ _)
      have HCT : Hid (cnt O [o, o] = (ofL O o).length) := cnt_two O o
      have HUL : Hid ((ofL O o).length ≤ 4096) := by
        show _ ≤ _
        have := ofTo_le O o O.length
        rw [HLO.out] at this
        unfold ofL
        rw [HLO.out]
        omega
      obtain ⟨U, hU⟩ : ∃ U, ofL O o = U := ⟨_, rfl⟩
      rw [hU] at HCT HUL
      have HU : Hid (ofL O o = U) := hU
      have k0 := hs.c0
      have k1 := hs.c1
      have k2 := hs.c2
      clear hs hU ho HSF
      go_upto_region 4 with (fail)
      go_cut [33] (fun c wx => c = .bool false ∧ SameAt w wx B E C fb p (.slice aO m cO) (.slice aW m cW) m t now O W S)
      case first =>
        (go_region_with (first
          | (go_at_call 10; refine (of_is o _ HS0.out.fr HU.out).mono ?_; rintro e w2 ⟨v2, rfl, r2, b2⟩; obtain ⟨a2, c2, rfl⟩ := row_slice r2; have HS2 : Hid _ := HS0.out.below b2; have R2 : Hid _ := r2; have q0 := HS2.out.c0; have q1 := HS2.out.c1; have q2 := HS2.out.c2; clear r2 b2)
          | (go_at_call 22; refine (refOf_is o _ HS5.out.doc hm HU.out).mono ?_; rintro e w6 ⟨v6, rfl, r6, b6⟩; obtain ⟨a6, c6, rfl⟩ := row_slice r6; have HS6 : Hid _ := HS5.out.below b6; clear r6 b6)
          | (go_at_call 22; refine (refOf_is o _ HS2.out.doc hm HU.out).mono ?_; rintro e w3 ⟨v3, rfl, r3, b3⟩; obtain ⟨a3, c3, rfl⟩ := row_slice r3; have HS3 : Hid _ := HS2.out.below b3; have R3 : Hid _ := r3; have S2 : Hid _ := row_below R2.out b3; clear r3 b3)
          | (go_at_call 21; refine (refInts_some _ S2.out R3.out HUL.out).mono ?_; rintro e w4 ⟨rfl, b4⟩; have HS4 : Hid _ := HS3.out.below b4; have t0 := HS4.out.c0; have t1 := HS4.out.c1; have t2 := HS4.out.c2; have n1 := HS4.out.lt; have n2 := Nat.ne_of_lt n1; have n3 := Nat.ne_of_gt n1; clear b4)
          | (go_at_call 9; refine (count_two o _ HS4.out.fr HCT.out).mono ?_; rintro e w5 ⟨rfl, b5⟩; have HS5 : Hid _ := HS4.out.below b5; have y0 := HS5.out.c0; have y1 := HS5.out.c1; have y2 := HS5.out.c2; clear b5)))
        all_goals
          go_wp2
          go_meet
          exact ⟨rfl, HS6.out⟩
      case rest =>
        obtain ⟨rfl, hs⟩ := hcut
        have HS7 : Hid (SameAt w wc B E C fb p (.slice aO m cO) (.slice aW m cW) m t now O W S) := hs
        clear hs k0 k1 k2
        go_wp2
        go_roundw
        case rel => exact ⟨k + 1, by omega, by have := HO.out; go_num, HS7.out⟩
        case measure => simp [intOf]; omega
    · have e : k = 6 := by omega
      subst e
      clear hs HSF
      go_wp2_with fail
      go_loopg [8, 9] (m + 2) (fun gk i _ wq => ∃ k : Nat, k ≤ m + 2 ∧ gk = m + 2 - k ∧ i = .int .i64 ((k : Int) - 1) ∧ SameAt w wq B E C fb p (.slice aO m cO) (.slice aW m cW) m t now O W S)
      case atStart => exact ⟨0, by omega, rfl, rfl, HS.out⟩
      case round =>
        obtain ⟨k, hk, rfl, rfl, hs⟩ := hrel
        have HT : Hid (SameAt w wr B E C fb p (.slice aO m cO) (.slice aW m cW) m t now O W S) := hs
        have k0 := hs.c0
        by_cases hlt : k < m + 2
        · obtain ⟨i, hi⟩ : ∃ i, (k : Int) - 1 = i := ⟨_, rfl⟩
          rw [hi]
          have HI : Hid _ := hi
          have i1 : i ≤ (m : Int) := by omega
          have i2 : -1 ≤ i := by omega
          clear hi
          by_cases i3 : i < 0
          · have HW : Hid (ownI O i = 0) := ownI_neg i3
            clear hs
            go_wp2_with fail
            refine (owner_is _ _ HT.out.fr HW.out).mono ?_
            rintro e w2 ⟨rfl, rfl⟩
            go_wp2
            go_roundg (m + 2 - (k + 1))
            case measure => omega
            case rel => exact ⟨k + 1, by omega, rfl, by have := HI.out; go_num, HT.out⟩
          · by_cases i4 : i < m
            · obtain ⟨j, rfl⟩ := Int.eq_ofNat_of_zero_le (show 0 ≤ i by omega)
              obtain ⟨g1, rfl, cK, _⟩ := row_at hs.doc.rO (i := j) (by omega)
              rw [zv_at O j (by rw [HLO.out]; omega)] at cK
              have HW : Hid (ownI O (j : Int) = O.getD j 0) := ownI_nat j
              generalize O.getD j 0 = q at *
              clear hs
              go_wp2_with fail
              refine (owner_is _ _ HT.out.fr HW.out).mono ?_
              rintro e w2 ⟨rfl, rfl⟩
              go_wp2
              go_roundg (m + 2 - (k + 1))
              case measure => omega
              case rel => exact ⟨k + 1, by omega, rfl, by have := HI.out; go_num, HT.out⟩
            · have HW : Hid (ownI O i = 0) := ownI_far (by rw [HLO.out]; omega)
              clear hs
              go_wp2_with fail
              refine (owner_is _ _ HT.out.fr HW.out).mono ?_
              rintro e w2 ⟨rfl, rfl⟩
              go_wp2
              go_roundg (m + 2 - (k + 1))
              case measure => omega
              case rel => exact ⟨k + 1, by omega, rfl, by have := HI.out; go_num, HT.out⟩
        · have e : k = m + 2 := by omega
          subst e
          have k1 := hs.c1
          have k2 := hs.c2
          have HS0 : Hid (SameAt w wr.drew B E C fb p (.slice aO m cO) (.slice aW m cW) m t now O W S) := hs.below (drew_below _ _)
          have i1 : ¬ ((m + 2 : Nat) : Int) - 1 ≤ (m : Int) := by omega
          clear hs
          go_wp2_with fail
          (go_region_with (first
            | (go_at_call 11; refine (many_any _ HS0.out.fr).mono ?_; rintro e w2 ⟨rfl, rfl⟩)
            | (go_at_call 9; refine (count_four _ HS3.out.fr).mono ?_; rintro e w4 ⟨rfl, b4⟩; have HS4 : Hid _ := HS3.out.below b4; have t0 := HS4.out.c0; clear b4)
            | (go_at_call 9; refine (count_zero _ HS0.out.fr).mono ?_; rintro e w3 ⟨rfl, b3⟩; have HS3 : Hid _ := HS0.out.below b3; have q0 := HS3.out.c0; have n1 := HS3.out.lt; have n2 := Nat.ne_of_lt n1; have n3 := Nat.ne_of_gt n1; clear b3)
            | (go_at_call 12; refine (turns_any _ HS4.out.fr).mono ?_; rintro e w5 ⟨rfl, rfl⟩)))
          all_goals
            go_wp2
            go_ret
            exact ⟨rfl, HS4.out.bel⟩
end Go.Proofs.Ytngehhpaegljcaa
