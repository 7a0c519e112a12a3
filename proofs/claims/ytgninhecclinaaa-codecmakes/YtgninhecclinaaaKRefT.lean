/- The walk of the document's Take (layer 11). -/
import Derived.Test.YtgninhecclinaaaKTake
import Derived.Deep.RegionWith
import Derived.BigRegion
namespace Go.Proofs.Ytgninhecclinaaa
open Go.RowKit

theorem Try.sizeTok2 : (Try.prog.info? 80).map (fun i => i.size) = some 3 := by kernel_rfl
/-- What the document tells of a place: its bytes may be those that were handed in. -/
def Tells (w w' : World) (e : Ending) (A : An) : Prop :=
  ∃ p l c, e = .returned (.tuple #[.agg #[.slice p l c, .int .i64 (A.n : Nat), .int .i64 (A.d : Nat)], .int .i64 (A.z : Nat), .int .i64 (A.e : Nat)]) ∧ ByAt w' p l c A.b ∧ Below w.heap.size w w'
theorem tells_no {w w' : World} (k : Nat) (h : Below w.heap.size w w') : Tells w w' (.returned (.tuple #[.agg #[.slice none 0 0, .int .i64 0, .int .i64 0], .int .i64 0, .int .i64 (k : Nat)])) (noA k) :=
  ⟨none, 0, 0, rfl, by_nil _, h⟩

set_option maxRecDepth 100000 in
set_option maxHeartbeats 1000000 in
theorem refTake_any {p : Option Addr} {L c : Nat} {b : List Nat} (I : Int) (w : World) (h : ByAt w p L c b) (hL : L ≤ 100000) :
    Calls Try.prog 43 #[.slice p L c, .int .i64 I] w fun e w' => Tells w w' e (takeA b I) := by
  have hlen := h.len
  have hcap := h.cap
  by_cases h0 : 0 ≤ I
  · by_cases h1 : I < (L : Int)
    · obtain ⟨a, rfl⟩ : ∃ a : Nat, I = a := ⟨I.toNat, by omega⟩
      have ha : a < L := by omega
      obtain ⟨g, off, rfl, hg, hcell⟩ := h.at (by omega)
      obtain ⟨x, hx⟩ : ∃ x, b.getD a 0 = x := ⟨_, rfl⟩
      have hx8 : x < 256 := by rw [← hx]; exact getD_byte h.byte a
      have hnew := ans_new (w := w) (t := 80) (Below.refl _ _)
      have HX : Hid _ := hnew.1
      have HB : Hid (Below w.heap.size w (w.alloc (.cells #[.slice none 0 0, .int .i64 0, .int .i64 0] 80))) := hnew.2
      have HY : Hid (ByAt w (some ⟨g, off, none⟩) L c b) := h
      obtain ⟨r0, r1, r2⟩ := three_cells hnew.1
      have f0 := frozen_of_row _ _ 0 _ _ hnew.1
      have f1 := frozen_of_row _ _ 1 _ _ hnew.1
      have f2 := frozen_of_row _ _ 2 _ _ hnew.1
      have HCL : Hid (∀ i, i < L → (w.alloc (.cells #[.slice none 0 0, .int .i64 0, .int .i64 0] 80)).cell? ⟨g, off + i, none⟩ = some (.int .u8 (b.getD i 0 : Nat))) := by
        intro i hi
        rw [hnew.2.cell (p := ⟨g, off + i, none⟩) hg, hcell i hi]
      have cA := HCL.out a ha
      rw [hx] at cA
      clear hcell hnew h0
      by_cases h2 : x < 128
      · have i2 : (x : Int) < 128 := by omega
        by_cases h3 : a + x + 2 ≤ L
        · have HE : Hid (takeA b (a : Int) = ⟨0, seg b (a + 1) (x + 1), 0, 0, a + x + 2⟩) := take_lit hx h2 (by omega)
          have i3 : ¬ ((L : Int) - (a : Int) - 1 < (x : Int) + 1) := by omega
          have hsl := run_part (g := g) (o := off) (L := L) (c := c) (l := a + 1) (s := x + 1) (A := (a : Int) + 1) (H := (a : Int) + (x : Int) + 2) (by omega) (by omega) (by omega) (by omega)
          have HP : Hid (ByAt w (some ⟨g, off + (a + 1), none⟩) (x + 1) (c - (a + 1)) (seg b (a + 1) (x + 1))) := h.part (by omega) (by omega)
          rw [HE.out]
          clear hx h hlen
          go_enter Try.func43, Try.ntmps43
          go_upto_region 1 with (fail)
          generalize w.alloc (.cells #[.slice none 0 0, .int .i64 0, .int .i64 0] 80) = w1 at *
          generalize hrb : w.heap.size = rb at *
          have HRB : Hid (w.heap.size = rb) := hrb
          clear hrb
          go_wp2
          refine bodyPost_ret (results_cell_tmp2 Try.results43 _ _ rb _ _ _ _ rfl (res3_kept HX.out) Try.underlying80 rfl Try.sizeTok2) rfl ⟨some ⟨g, off + (a + 1), none⟩, x + 1, c - (a + 1), ?_, ?_, ?_⟩
          · congr 4
          · have hbb := res3_below (u0 := .slice (some ⟨g, off + (a + 1), none⟩) (x + 1) (c - (a + 1))) (u1 := .int .i64 0) (u2 := .int .i64 0) HB.out (Nat.le_refl _)
            rw [← HRB.out] at hbb ⊢
            exact HP.out.later hbb
          · rw [HRB.out]
            exact res3_below HB.out (Nat.le_refl _)
        · have HE : Hid (takeA b (a : Int) = noA 4) := take_short (by omega) hx h2 (by omega)
          have i3 : (L : Int) - (a : Int) - 1 < (x : Int) + 1 := by omega
          rw [HE.out]
          clear hx h hlen
          go_enter Try.func43, Try.ntmps43
          go_upto_region 1 with (fail)
          generalize w.alloc (.cells #[.slice none 0 0, .int .i64 0, .int .i64 0] 80) = w1 at *
          generalize hrb : w.heap.size = rb at *
          have HRB : Hid (w.heap.size = rb) := hrb
          clear hrb
          go_wp2
          refine bodyPost_ret (results_cell_tmp2 Try.results43 _ _ rb _ _ _ _ rfl (res3_kept HX.out) Try.underlying80 rfl Try.sizeTok2) rfl (tells_no 4 ?_)
          rw [HRB.out]
          exact res3_below HB.out (Nat.le_refl _)
      · have i2 : ¬ (x : Int) < 128 := by omega
        by_cases h3 : a + 3 ≤ L
        · have i3 : ¬ (L : Int) - (a : Int) - 1 < 2 := by omega
          obtain ⟨D, hD⟩ : ∃ D, getTo b (a + 1) 2 = D := ⟨_, rfl⟩
          obtain ⟨y, hy⟩ : ∃ y, b.getD (a + 1) 0 = y := ⟨_, rfl⟩
          obtain ⟨z, hz⟩ : ∃ z, b.getD (a + 2) 0 = z := ⟨_, rfl⟩
          have hy8 : y < 256 := by rw [← hy]; exact getD_byte h.byte _
          have hz8 : z < 256 := by rw [← hz]; exact getD_byte h.byte _
          have hDe : D = y + 256 * z := by rw [← hD, getTo_two (by omega), hy, hz]
          have cY := HCL.out (a + 1) (by omega)
          have cZ := HCL.out (a + 2) (by omega)
          rw [hy] at cY
          rw [hz] at cZ
          have hiY := index_at (g := g) (o := off) (L := L) (c := c) (q := off + (a + 1)) (I := (a : Int) + 1) (a + 1) (by omega) (by omega) rfl
          have hiZ := index_at (g := g) (o := off) (L := L) (c := c) (q := off + (a + 2)) (I := (a : Int) + 2) (a + 2) (by omega) (by omega) rfl
          have hw1 : IntKind.i64.wrap ((a : Int) + 1) = (a : Int) + 1 := IntWalk.i64_in _ (by omega)
          have hw2 : IntKind.i64.wrap ((a : Int) + 2) = (a : Int) + 2 := IntWalk.i64_in _ (by omega)
          have hw3 : IntKind.i64.wrap (256 * (z : Int)) = 256 * (z : Int) := IntWalk.i64_in _ (by omega)
          have hw4 : IntKind.i64.wrap ((y : Int) + 256 * (z : Int)) = (D : Int) := by rw [IntWalk.i64_in _ (by omega)]; omega
          have hw5 : IntKind.i64.wrap (y : Int) = (y : Int) := IntWalk.i64_in _ (by omega)
          have hw6 : IntKind.i64.wrap (z : Int) = (z : Int) := IntWalk.i64_in _ (by omega)
          have hDl : D < 65536 := by omega
          have HDE : Hid (D = y + 256 * z) := hDe
          clear hDe
          by_cases h4 : 1 ≤ D ∧ D ≤ 4095
          · obtain ⟨h5, h6⟩ := h4
            have HE : Hid (takeA b (a : Int) = ⟨0, [], x - 125, D, a + 3⟩) := by show _ = _; rw [take_copy hx h2 (by omega) (by omega), hD]
            have i5 : ¬ (D : Int) < 1 := by omega
            have i6 : ¬ (4095 : Int) < (D : Int) := by omega
            rw [HE.out]
            clear hx h hlen hD hy hz
            go_enter Try.func43, Try.ntmps43
            go_upto_region 1 with (fail)
            generalize w.alloc (.cells #[.slice none 0 0, .int .i64 0, .int .i64 0] 80) = w1 at *
            generalize hrb : w.heap.size = rb at *
            have HRB : Hid (w.heap.size = rb) := hrb
            clear hrb
            have HD : Hid (∀ m, (w1.drewN m).heap[rb]? = some (.cells #[.slice none 0 0, .int .i64 0, .int .i64 0] 80 (0, 0))) := fun m => by rw [heap_drewN]; exact HX.out
            have HDB : Hid (∀ m, Below rb w (w1.drewN m)) := fun m => HB.out.trans (drewN_below _ _ _)
            go_wp2_with fail
            go_quiet (fail)
            go_wp2
            refine bodyPost_ret (results_cell_tmp2 Try.results43 _ _ rb _ _ _ _ rfl (res3_kept (HD.out _)) Try.underlying80 rfl Try.sizeTok2) rfl ⟨none, 0, 0, ?_, by_nil _, ?_⟩
            · have e1 : (((x - 125 : Nat)) : Int) = (x : Int) - 125 := by omega
              have e2 : ((a + 3 : Nat) : Int) = (a : Int) + 3 := by omega
              simp only [e1, e2]
              rfl
            · rw [HRB.out]
              exact res3_below (HDB.out _) (Nat.le_refl _)
          · have HE : Hid (takeA b (a : Int) = noA 3) := take_form hx h2 (by omega) (by rw [hD]; exact h4)
            rw [HE.out]
            clear hx h hlen hD hy hz
            by_cases h5 : 1 ≤ D
            · have i5 : ¬ (D : Int) < 1 := by omega
              have i6 : (4095 : Int) < (D : Int) := by omega
              clear h4 h5
              go_enter Try.func43, Try.ntmps43
              go_upto_region 1 with (fail)
              generalize w.alloc (.cells #[.slice none 0 0, .int .i64 0, .int .i64 0] 80) = w1 at *
              generalize hrb : w.heap.size = rb at *
              have HRB : Hid (w.heap.size = rb) := hrb
              clear hrb
              have HD : Hid (∀ m, (w1.drewN m).heap[rb]? = some (.cells #[.slice none 0 0, .int .i64 0, .int .i64 0] 80 (0, 0))) := fun m => by rw [heap_drewN]; exact HX.out
              have HDB : Hid (∀ m, Below rb w (w1.drewN m)) := fun m => HB.out.trans (drewN_below _ _ _)
              go_wp2_with fail
              go_quiet (fail)
              go_wp2
              refine bodyPost_ret (results_cell_tmp2 Try.results43 _ _ rb _ _ _ _ rfl (res3_kept (HD.out _)) Try.underlying80 rfl Try.sizeTok2) rfl (tells_no 3 ?_)
              rw [HRB.out]
              exact res3_below (HDB.out _) (Nat.le_refl _)
            · have i5 : (D : Int) < 1 := by omega
              clear h4 h5
              go_enter Try.func43, Try.ntmps43
              go_upto_region 1 with (fail)
              generalize w.alloc (.cells #[.slice none 0 0, .int .i64 0, .int .i64 0] 80) = w1 at *
              generalize hrb : w.heap.size = rb at *
              have HRB : Hid (w.heap.size = rb) := hrb
              clear hrb
              have HD : Hid (∀ m, (w1.drewN m).heap[rb]? = some (.cells #[.slice none 0 0, .int .i64 0, .int .i64 0] 80 (0, 0))) := fun m => by rw [heap_drewN]; exact HX.out
              have HDB : Hid (∀ m, Below rb w (w1.drewN m)) := fun m => HB.out.trans (drewN_below _ _ _)
              go_wp2_with fail
              go_quiet (fail)
              go_wp2
              refine bodyPost_ret (results_cell_tmp2 Try.results43 _ _ rb _ _ _ _ rfl (res3_kept (HD.out _)) Try.underlying80 rfl Try.sizeTok2) rfl (tells_no 3 ?_)
              rw [HRB.out]
              exact res3_below (HDB.out _) (Nat.le_refl _)
        · have HE : Hid (takeA b (a : Int) = noA 4) := take_cut (by omega) hx h2 (by omega)
          have i3 : (L : Int) - (a : Int) - 1 < 2 := by omega
          rw [HE.out]
          clear hx h hlen
          go_enter Try.func43, Try.ntmps43
          go_upto_region 1 with (fail)
          generalize w.alloc (.cells #[.slice none 0 0, .int .i64 0, .int .i64 0] 80) = w1 at *
          generalize hrb : w.heap.size = rb at *
          have HRB : Hid (w.heap.size = rb) := hrb
          clear hrb
          go_wp2
          refine bodyPost_ret (results_cell_tmp2 Try.results43 _ _ rb _ _ _ _ rfl (res3_kept HX.out) Try.underlying80 rfl Try.sizeTok2) rfl (tells_no 4 ?_)
          rw [HRB.out]
          exact res3_below HB.out (Nat.le_refl _)
    · have i1 : (L : Int) ≤ I := by omega
      have HE : Hid (takeA b I = noA 4) := take_out (by omega)
      have hnew := ans_new (w := w) (t := 80) (Below.refl _ _)
      have HX : Hid _ := hnew.1
      have HB : Hid (Below w.heap.size w (w.alloc (.cells #[.slice none 0 0, .int .i64 0, .int .i64 0] 80))) := hnew.2
      have HY : Hid (ByAt w p L c b) := h
      obtain ⟨r0, r1, r2⟩ := three_cells hnew.1
      have f0 := frozen_of_row _ _ 0 _ _ hnew.1
      have f1 := frozen_of_row _ _ 1 _ _ hnew.1
      have f2 := frozen_of_row _ _ 2 _ _ hnew.1
      rw [HE.out]
      clear hnew h hlen
      go_enter Try.func43, Try.ntmps43
      go_upto_region 1 with (fail)
      generalize w.alloc (.cells #[.slice none 0 0, .int .i64 0, .int .i64 0] 80) = w1 at *
      generalize hrb : w.heap.size = rb at *
      have HRB : Hid (w.heap.size = rb) := hrb
      clear hrb
      go_wp2
      refine bodyPost_ret (results_cell_tmp2 Try.results43 _ _ rb _ _ _ _ rfl (res3_kept HX.out) Try.underlying80 rfl Try.sizeTok2) rfl (tells_no 4 ?_)
      rw [HRB.out]
      exact res3_below HB.out (Nat.le_refl _)
  · have HE : Hid (takeA b I = noA 4) := take_out (by omega)
    have i0 : I < 0 := by omega
    have hnew := ans_new (w := w) (t := 80) (Below.refl _ _)
    have HX : Hid _ := hnew.1
    have HB : Hid (Below w.heap.size w (w.alloc (.cells #[.slice none 0 0, .int .i64 0, .int .i64 0] 80))) := hnew.2
    have HY : Hid (ByAt w p L c b) := h
    obtain ⟨r0, r1, r2⟩ := three_cells hnew.1
    have f0 := frozen_of_row _ _ 0 _ _ hnew.1
    have f1 := frozen_of_row _ _ 1 _ _ hnew.1
    have f2 := frozen_of_row _ _ 2 _ _ hnew.1
    rw [HE.out]
    clear hnew h hlen
    go_enter Try.func43, Try.ntmps43
    go_upto_region 1 with (fail)
    generalize w.alloc (.cells #[.slice none 0 0, .int .i64 0, .int .i64 0] 80) = w1 at *
    generalize hrb : w.heap.size = rb at *
    have HRB : Hid (w.heap.size = rb) := hrb
    clear hrb
    go_wp2
    refine bodyPost_ret (results_cell_tmp2 Try.results43 _ _ rb _ _ _ _ rfl (res3_kept HX.out) Try.underlying80 rfl Try.sizeTok2) rfl (tells_no 4 ?_)
    rw [HRB.out]
    exact res3_below HB.out (Nat.le_refl _)
end Go.Proofs.Ytgninhecclinaaa
