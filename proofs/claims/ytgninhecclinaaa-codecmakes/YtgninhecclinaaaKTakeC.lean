/- The walks of token.takeCopy and Take. -/
import Derived.Test.YtgninhecclinaaaKTake
namespace Go.Proofs.Ytgninhecclinaaa
open Go.RowKit

set_option maxHeartbeats 1000000 in
theorem takeCopy_any {g off L c a x : Nat} {b : List Nat} (I : Int) (hI : I = a) (w : World) (h : ByAt w (some ⟨g, off, none⟩) L c b) (ha : a < L) (hx : b.getD a 0 = x) (h1 : ¬ x < 128) (hL : L ≤ 100000) :
    Calls Try.prog 58 #[.slice (some ⟨g, off, none⟩) L c, .int .i64 I] w fun e w' => Told w w' e (takeA b (a : Int)) := by
  subst hI
  have hlen := h.len
  have hx8 : x < 256 := by rw [← hx]; exact getD_byte h.byte a
  obtain ⟨g', o', e, hg, hcell⟩ := h.at (by omega)
  cases e
  have hnew := ans_new (w := w) (t := 48) (Below.refl _ _)
  have HX : Hid _ := hnew.1
  have HB : Hid (Below w.heap.size w (w.alloc (.cells #[.slice none 0 0, .int .i64 0, .int .i64 0] 48))) := hnew.2
  have HY : Hid (ByAt (w.alloc (.cells #[.slice none 0 0, .int .i64 0, .int .i64 0] 48)) (some ⟨g, off, none⟩) L c b) := h.later hnew.2
  obtain ⟨r0, r1, r2⟩ := three_cells hnew.1
  have f0 := frozen_of_row _ _ 0 _ _ hnew.1
  have f1 := frozen_of_row _ _ 1 _ _ hnew.1
  have f2 := frozen_of_row _ _ 2 _ _ hnew.1
  have HSZ : Hid ((w.alloc (.cells #[.slice none 0 0, .int .i64 0, .int .i64 0] 48)).heap.size = w.heap.size + 1) := by show _ = _; simp
  have cA : (w.alloc (.cells #[.slice none 0 0, .int .i64 0, .int .i64 0] 48)).cell? ⟨g, off + a, none⟩ = some (.int .u8 (x : Nat)) := by
    rw [hnew.2.cell (p := ⟨g, off + a, none⟩) hg, hcell a ha, hx]
  clear hcell hnew
  have HM : Hid (L ≤ maxLen) := h.short
  by_cases h2 : a + 3 ≤ L
  · have HL : Hid (b.length = L) := hlen
    obtain ⟨D, hD⟩ : ∃ D, getTo b (a + 1) 2 = D := ⟨_, rfl⟩
    have hD2 : D < 65536 := by rw [← hD]; exact getTo_lt h.byte
    have HD : Hid (getTo b (a + 1) 2 = D) := hD
    have HG : Hid (∀ w, ByAt w (some ⟨g, off, none⟩) L c b → Calls Try.prog 39 #[.slice (some ⟨g, off, none⟩) L c, .int .i64 ((a : Int) + 1), .int .i64 2] w fun e w' => e = .returned (.tuple #[.int .u64 (D : Nat), .bool true]) ∧ w = w') := by
      intro w hw
      have := get_yes (some ⟨g, off, none⟩) L c (a + 1) 2 ((a : Int) + 1) 2 (by omega) rfl b w hw.short hw.len (nums_src hw.src) hw.byte (by omega) (by omega)
      rwa [hD] at this
    by_cases h3 : 1 ≤ D ∧ D ≤ 4095
    · have HE : Hid (takeA b (a : Int) = ⟨0, [], x - 125, D, a + 3⟩) := by show _ = _; rw [take_copy hx h1 (by omega) (by omega), hD]
      have HMY : Hid (mayT 0 ((x : Int) - 128 + 3) (D : Int) = true) := by show _ = _; rw [may_copy]; simp; omega
      rw [HE.out]
      clear hx h hD hlen
      go_enter Try.func58, Try.ntmps58
      go_upto_region 1 with (fail)
      generalize w.alloc (.cells #[.slice none 0 0, .int .i64 0, .int .i64 0] 48) = w1 at *
      generalize hrb : w.heap.size = rb at *
      have HRB : Hid (w.heap.size = rb) := hrb
      clear hrb
      go_wp2_with fail
      refine (HG.out _ HY.out).mono ?_
      rintro e w' ⟨rfl, rfl⟩
      go_wp2_with fail
      have hn2 := three_new (w := w1) (u0 := .slice none 0 0) (u1 := .int .i64 ((x : Int) - 128 + 3)) (u2 := .int .i64 (D : Int)) (t := 48) (Below.refl _ _)
      refine (may_is (l := 0) _ (by unfold maxLen; omega) HMY.out).mono ?_
      rintro e w2 ⟨rfl, b2⟩
      obtain ⟨hx2, hb2⟩ := three_new b2
      have hr2 := (hb2.block rb (by rw [HSZ.out]; omega)).trans HX.out
      have HX2 : Hid _ := hr2
      have HB2 : Hid (Below rb w w2) := HB.out.trans (hb2.mono (by rw [HSZ.out]; omega))
      clear r0 r1 r2 f0 f1 f2 hb2 b2
      obtain ⟨r0, r1, r2⟩ := three_cells hr2
      have f0 := frozen_of_row _ _ 0 _ _ hr2
      have f1 := frozen_of_row _ _ 1 _ _ hr2
      have f2 := frozen_of_row _ _ 2 _ _ hr2
      obtain ⟨d0, d1, d2⟩ := three_cells hx2
      clear hr2 hx2 cA hn2
      go_wp2
      refine bodyPost_ret (results_cell_tmp2 Try.results58 _ _ rb _ _ _ _ rfl (res3_kept HX2.out) Try.underlying48 rfl Try.sizeTok) rfl ⟨none, 0, 0, ?_, World.ownsRow_nil _ _ _ _, by simp, ?_⟩
      · have e1 : (((x - 125 : Nat)) : Int) = (x : Int) - 128 + 3 := by omega
        have e2 : ((a + 3 : Nat) : Int) = (a : Int) + 1 + 2 := by omega
        simp only [e1, e2]
        rfl
      · rw [HRB.out]
        exact res3_below HB2.out (Nat.le_refl _)
    · have HE : Hid (takeA b (a : Int) = noA 3) := take_form hx h1 (by omega) (by rw [hD]; exact h3)
      have HMY : Hid (mayT 0 ((x : Int) - 128 + 3) (D : Int) = false) := by show _ = _; rw [may_copy]; simp; omega
      rw [HE.out]
      clear hx h hD hlen h3
      go_enter Try.func58, Try.ntmps58
      go_upto_region 1 with (fail)
      generalize w.alloc (.cells #[.slice none 0 0, .int .i64 0, .int .i64 0] 48) = w1 at *
      generalize hrb : w.heap.size = rb at *
      have HRB : Hid (w.heap.size = rb) := hrb
      clear hrb
      go_wp2_with fail
      refine (HG.out _ HY.out).mono ?_
      rintro e w' ⟨rfl, rfl⟩
      go_wp2_with fail
      refine (may_is (l := 0) _ (by unfold maxLen; omega) HMY.out).mono ?_
      rintro e w2 ⟨rfl, b2⟩
      obtain ⟨hx2, hb2⟩ := three_new b2
      have hr2 := (hb2.block rb (by rw [HSZ.out]; omega)).trans HX.out
      have HX2 : Hid _ := hr2
      have HB2 : Hid (Below rb w w2) := HB.out.trans (hb2.mono (by rw [HSZ.out]; omega))
      clear r0 r1 r2 f0 f1 f2 hb2 b2 hx2 cA
      obtain ⟨r0, r1, r2⟩ := three_cells hr2
      have f0 := frozen_of_row _ _ 0 _ _ hr2
      have f1 := frozen_of_row _ _ 1 _ _ hr2
      have f2 := frozen_of_row _ _ 2 _ _ hr2
      clear hr2
      go_wp2
      refine bodyPost_ret (results_cell_tmp2 Try.results58 _ _ rb _ _ _ _ rfl (res3_kept HX2.out) Try.underlying48 rfl Try.sizeTok) rfl (told_no 3 ?_)
      rw [HRB.out]
      exact res3_below HB2.out (Nat.le_refl _)
  · have HE : Hid (takeA b (a : Int) = noA 4) := take_cut (by omega) hx h1 (by omega)
    have HN : Hid (thereB L ((a : Int) + 1) 2 = false) := thereB_no (by omega)
    rw [HE.out]
    clear hx h hlen cA
    go_enter Try.func58, Try.ntmps58
    go_upto_region 1 with (fail)
    generalize w.alloc (.cells #[.slice none 0 0, .int .i64 0, .int .i64 0] 48) = w1 at *
    generalize hrb : w.heap.size = rb at *
    have HRB : Hid (w.heap.size = rb) := hrb
    clear hrb
    go_wp2_with fail
    refine (get_no _ _ _ _ _ _ HM.out (by omega) HN.out).mono ?_
    rintro e w' ⟨rfl, rfl⟩
    go_wp2
    refine bodyPost_ret (results_cell_tmp2 Try.results58 _ _ rb _ _ _ _ rfl (res3_kept HX.out) Try.underlying48 rfl Try.sizeTok) rfl (told_no 4 ?_)
    rw [HRB.out]
    exact res3_below HB.out (Nat.le_refl _)
set_option maxRecDepth 100000 in
set_option maxHeartbeats 1000000 in
theorem take_is {p : Option Addr} {L c : Nat} {b : List Nat} {A : An} (I : Int) (w : World) (h : ByAt w p L c b) (hL : L ≤ 100000) (hA : takeA b I = A) :
    Calls Try.prog 54 #[.slice p L c, .int .i64 I] w fun e w' => Told w w' e A := by
  have hlen := h.len
  by_cases h0 : 0 ≤ I
  · by_cases h1 : I < (L : Int)
    · obtain ⟨a, rfl⟩ : ∃ a : Nat, I = a := ⟨I.toNat, by omega⟩
      have ha : a < L := by omega
      obtain ⟨g, off, rfl, hg, hcell⟩ := h.at (by omega)
      obtain ⟨x, hx⟩ : ∃ x, b.getD a 0 = x := ⟨_, rfl⟩
      have hnew := ans_new (w := w) (t := 48) (Below.refl _ _)
      have HX : Hid _ := hnew.1
      have HB : Hid (Below w.heap.size w (w.alloc (.cells #[.slice none 0 0, .int .i64 0, .int .i64 0] 48))) := hnew.2
      have HY : Hid (ByAt (w.alloc (.cells #[.slice none 0 0, .int .i64 0, .int .i64 0] 48)) (some ⟨g, off, none⟩) L c b) := h.later hnew.2
      obtain ⟨r0, r1, r2⟩ := three_cells hnew.1
      have f0 := frozen_of_row _ _ 0 _ _ hnew.1
      have f1 := frozen_of_row _ _ 1 _ _ hnew.1
      have f2 := frozen_of_row _ _ 2 _ _ hnew.1
      have HSZ : Hid ((w.alloc (.cells #[.slice none 0 0, .int .i64 0, .int .i64 0] 48)).heap.size = w.heap.size + 1) := by show _ = _; simp
      have cA : (w.alloc (.cells #[.slice none 0 0, .int .i64 0, .int .i64 0] 48)).cell? ⟨g, off + a, none⟩ = some (.int .u8 (x : Nat)) := by
        rw [hnew.2.cell (p := ⟨g, off + a, none⟩) hg, hcell a ha, hx]
      have H0 : Hid (b.getD a 0 = x) := hx
      have HA : Hid (takeA b (a : Int) = A) := hA
      clear hcell hnew hx h h0 hlen hA
      by_cases h2 : x < 128
      · have i2 : (x : Int) < 128 := by omega
        go_enter Try.func54, Try.ntmps54
        go_upto_region 1 with (fail)
        generalize w.alloc (.cells #[.slice none 0 0, .int .i64 0, .int .i64 0] 48) = w1 at *
        generalize hrb : w.heap.size = rb at *
        have HRB : Hid (w.heap.size = rb) := hrb
        clear hrb
        go_wp2_with fail
        have HT := takeLit_any (a := a) _ rfl w1 HY.out ha H0.out h2 hL
        rw [HA.out] at HT
        refine HT.mono ?_
        rintro e w2 ⟨p2, l2, c2, rfl, own2, h8, b2⟩
        have hr2 := (b2.block rb (by rw [HSZ.out]; omega)).trans HX.out
        have HX2 : Hid _ := hr2
        have HB2 : Hid (Below rb w w2) := HB.out.trans (b2.mono (by rw [HSZ.out]; omega))
        have HO2 : Hid (w2.ownsRow w1.heap.size 5 1 (.slice p2 l2 c2) l2 (bv A.b)) := own2
        have H8 : Hid (∀ y ∈ A.b, y < 256) := h8
        clear r0 r1 r2 f0 f1 f2 cA own2 h8 b2
        obtain ⟨r0, r1, r2⟩ := three_cells hr2
        have f0 := frozen_of_row _ _ 0 _ _ hr2
        have f1 := frozen_of_row _ _ 1 _ _ hr2
        have f2 := frozen_of_row _ _ 2 _ _ hr2
        clear hr2
        go_wp2
        refine bodyPost_ret (results_cell_tmp2 Try.results54 _ _ rb _ _ _ _ rfl (res3_kept HX2.out) Try.underlying48 rfl Try.sizeTok) rfl ⟨p2, l2, c2, rfl, ?_, H8.out, ?_⟩
        · rw [HRB.out]
          exact rowMono (row_apart HO2.out (fun g hg => res3_block hg) (by rw [HSZ.out]; omega)) (by rw [HSZ.out]; omega)
        · rw [HRB.out]
          exact res3_below HB2.out (Nat.le_refl _)
      · have i2 : ¬ (x : Int) < 128 := by omega
        go_enter Try.func54, Try.ntmps54
        go_upto_region 1 with (fail)
        generalize w.alloc (.cells #[.slice none 0 0, .int .i64 0, .int .i64 0] 48) = w1 at *
        generalize hrb : w.heap.size = rb at *
        have HRB : Hid (w.heap.size = rb) := hrb
        clear hrb
        go_wp2_with fail
        have HT := takeCopy_any (a := a) _ rfl w1 HY.out ha H0.out h2 hL
        rw [HA.out] at HT
        refine HT.mono ?_
        rintro e w2 ⟨p2, l2, c2, rfl, own2, h8, b2⟩
        have hr2 := (b2.block rb (by rw [HSZ.out]; omega)).trans HX.out
        have HX2 : Hid _ := hr2
        have HB2 : Hid (Below rb w w2) := HB.out.trans (b2.mono (by rw [HSZ.out]; omega))
        have HO2 : Hid (w2.ownsRow w1.heap.size 5 1 (.slice p2 l2 c2) l2 (bv A.b)) := own2
        have H8 : Hid (∀ y ∈ A.b, y < 256) := h8
        clear r0 r1 r2 f0 f1 f2 cA own2 h8 b2
        obtain ⟨r0, r1, r2⟩ := three_cells hr2
        have f0 := frozen_of_row _ _ 0 _ _ hr2
        have f1 := frozen_of_row _ _ 1 _ _ hr2
        have f2 := frozen_of_row _ _ 2 _ _ hr2
        clear hr2
        go_wp2
        refine bodyPost_ret (results_cell_tmp2 Try.results54 _ _ rb _ _ _ _ rfl (res3_kept HX2.out) Try.underlying48 rfl Try.sizeTok) rfl ⟨p2, l2, c2, rfl, ?_, H8.out, ?_⟩
        · rw [HRB.out]
          exact rowMono (row_apart HO2.out (fun g hg => res3_block hg) (by rw [HSZ.out]; omega)) (by rw [HSZ.out]; omega)
        · rw [HRB.out]
          exact res3_below HB2.out (Nat.le_refl _)
    · have i1 : (L : Int) ≤ I := by omega
      have HE : Hid (A = noA 4) := by show _ = _; rw [← hA]; exact take_out (by omega)
      have hnew := ans_new (w := w) (t := 48) (Below.refl _ _)
      have HX : Hid _ := hnew.1
      have HB : Hid (Below w.heap.size w (w.alloc (.cells #[.slice none 0 0, .int .i64 0, .int .i64 0] 48))) := hnew.2
      have HY : Hid (ByAt (w.alloc (.cells #[.slice none 0 0, .int .i64 0, .int .i64 0] 48)) p L c b) := h.later hnew.2
      obtain ⟨r0, r1, r2⟩ := three_cells hnew.1
      have f0 := frozen_of_row _ _ 0 _ _ hnew.1
      have f1 := frozen_of_row _ _ 1 _ _ hnew.1
      have f2 := frozen_of_row _ _ 2 _ _ hnew.1
      have HSZ : Hid ((w.alloc (.cells #[.slice none 0 0, .int .i64 0, .int .i64 0] 48)).heap.size = w.heap.size + 1) := by show _ = _; simp
      rw [HE.out]
      clear hnew h hlen hA
      go_enter Try.func54, Try.ntmps54
      go_upto_region 1 with (fail)
      generalize w.alloc (.cells #[.slice none 0 0, .int .i64 0, .int .i64 0] 48) = w1 at *
      generalize hrb : w.heap.size = rb at *
      have HRB : Hid (w.heap.size = rb) := hrb
      clear hrb
      go_wp2
      refine bodyPost_ret (results_cell_tmp2 Try.results54 _ _ rb _ _ _ _ rfl (res3_kept HX.out) Try.underlying48 rfl Try.sizeTok) rfl (told_no 4 ?_)
      rw [HRB.out]
      exact res3_below HB.out (Nat.le_refl _)
  · have HE : Hid (A = noA 4) := by show _ = _; rw [← hA]; exact take_out (by omega)
    have i0 : I < 0 := by omega
    have hnew := ans_new (w := w) (t := 48) (Below.refl _ _)
    have HX : Hid _ := hnew.1
    have HB : Hid (Below w.heap.size w (w.alloc (.cells #[.slice none 0 0, .int .i64 0, .int .i64 0] 48))) := hnew.2
    have HY : Hid (ByAt (w.alloc (.cells #[.slice none 0 0, .int .i64 0, .int .i64 0] 48)) p L c b) := h.later hnew.2
    obtain ⟨r0, r1, r2⟩ := three_cells hnew.1
    have f0 := frozen_of_row _ _ 0 _ _ hnew.1
    have f1 := frozen_of_row _ _ 1 _ _ hnew.1
    have f2 := frozen_of_row _ _ 2 _ _ hnew.1
    have HSZ : Hid ((w.alloc (.cells #[.slice none 0 0, .int .i64 0, .int .i64 0] 48)).heap.size = w.heap.size + 1) := by show _ = _; simp
    rw [HE.out]
    clear hnew h hlen hA
    go_enter Try.func54, Try.ntmps54
    go_upto_region 1 with (fail)
    generalize w.alloc (.cells #[.slice none 0 0, .int .i64 0, .int .i64 0] 48) = w1 at *
    generalize hrb : w.heap.size = rb at *
    have HRB : Hid (w.heap.size = rb) := hrb
    clear hrb
    go_wp2
    refine bodyPost_ret (results_cell_tmp2 Try.results54 _ _ rb _ _ _ _ rfl (res3_kept HX.out) Try.underlying48 rfl Try.sizeTok) rfl (told_no 4 ?_)
    rw [HRB.out]
    exact res3_below HB.out (Nat.le_refl _)
theorem take_any {p : Option Addr} {L c : Nat} {b : List Nat} (I : Int) (w : World) (h : ByAt w p L c b) (hL : L ≤ 100000) :
    Calls Try.prog 54 #[.slice p L c, .int .i64 I] w fun e w' => Told w w' e (takeA b I) := take_is I w h hL rfl
end Go.Proofs.Ytgninhecclinaaa
