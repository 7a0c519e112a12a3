/- The walks of bytes.Clone, token.takeLit, takeCopy and Take: the token at a place. -/
import Derived.Test.YtgninhecclinaaaKMay
import Derived.Test.YtgninhecclinaaaGClone
import Derived.Deep.LoopGhost
import Derived.Deep.DeepCutAuto
namespace Go.Proofs.Ytgninhecclinaaa
open Go.RowKit

theorem Try.sizeTok : (Try.prog.info? 48).map (fun i => i.size) = some 3 := by kernel_rfl
/-- What a call tells of a place. -/
def Told (w w' : World) (e : Ending) (A : An) : Prop :=
  ∃ p l c, e = .returned (.tuple #[.agg #[.slice p l c, .int .i64 (A.n : Nat), .int .i64 (A.d : Nat)], .int .i64 (A.z : Nat), .int .i64 (A.e : Nat)]) ∧ w'.ownsRow w.heap.size 5 1 (.slice p l c) l (bv A.b) ∧ (∀ x ∈ A.b, x < 256) ∧ Below w.heap.size w w'
theorem told_no {w w' : World} (k : Nat) (h : Below w.heap.size w w') : Told w w' (.returned (.tuple #[.agg #[.slice none 0 0, .int .i64 0, .int .i64 0], .int .i64 0, .int .i64 (k : Nat)])) (noA k) :=
  ⟨none, 0, 0, rfl, World.ownsRow_nil _ _ _ _, by simp [noA], h⟩
/-- The answer's place, newly made. -/
theorem ans_new {w w2 : World} {t : TypeId} (hb : Below (w.alloc (.cells #[.slice none 0 0, .int .i64 0, .int .i64 0] t)).heap.size (w.alloc (.cells #[.slice none 0 0, .int .i64 0, .int .i64 0] t)) w2) :
    w2.heap[w.heap.size]? = some (.cells #[.slice none 0 0, .int .i64 0, .int .i64 0] t (0, 0)) ∧ Below w.heap.size w w2 := three_new hb

set_option maxHeartbeats 1000000 in
theorem takeLit_any {g off L c a x : Nat} {b : List Nat} (I : Int) (hI : I = a) (w : World) (h : ByAt w (some ⟨g, off, none⟩) L c b) (ha : a < L) (hx : b.getD a 0 = x) (h1 : x < 128) (hL : L ≤ 100000) :
    Calls Try.prog 57 #[.slice (some ⟨g, off, none⟩) L c, .int .i64 I] w fun e w' => Told w w' e (takeA b (a : Int)) := by
  subst hI
  have hlen := h.len
  have hcap := h.cap
  obtain ⟨g', o', e, hg, hcell⟩ := h.at (by omega)
  cases e
  have hnew := ans_new (w := w) (t := 48) (Below.refl _ _)
  have HX : Hid _ := hnew.1
  have HB : Hid (Below w.heap.size w (w.alloc (.cells #[.slice none 0 0, .int .i64 0, .int .i64 0] 48))) := hnew.2
  have hw1 := h.later hnew.2
  obtain ⟨r0, r1, r2⟩ := three_cells hnew.1
  have f0 := frozen_of_row _ _ 0 _ _ hnew.1
  have f1 := frozen_of_row _ _ 1 _ _ hnew.1
  have f2 := frozen_of_row _ _ 2 _ _ hnew.1
  have cA : (w.alloc (.cells #[.slice none 0 0, .int .i64 0, .int .i64 0] 48)).cell? ⟨g, off + a, none⟩ = some (.int .u8 (x : Nat)) := by
    rw [hnew.2.cell (p := ⟨g, off + a, none⟩) hg, hcell a ha, hx]
  have HSZ : Hid ((w.alloc (.cells #[.slice none 0 0, .int .i64 0, .int .i64 0] 48)).heap.size = w.heap.size + 1) := by show _ = _; simp
  clear hcell hnew
  by_cases h2 : a + x + 2 ≤ L
  · have HE : Hid (takeA b (a : Int) = ⟨0, seg b (a + 1) (x + 1), 0, 0, a + x + 2⟩) := take_lit hx h1 (by omega)
    have i1 : ¬ ((L : Int) < (a : Int) + 1 + (x : Int) + 1) := by omega
    have hp := hw1.part (l := a + 1) (s := x + 1) (by omega) (by omega)
    have HP : Hid (ByAt _ (some ⟨g, off + (a + 1), none⟩) (x + 1) (c - (a + 1)) (seg b (a + 1) (x + 1))) := hp
    have hsl := run_part (g := g) (o := off) (L := L) (c := c) (l := a + 1) (s := x + 1) (A := (a : Int) + 1) (H := (a : Int) + 1 + (x : Int) + 1) (by omega) (by omega) (by omega) (by omega)
    rw [HE.out]
    clear hx h hw1 hp hlen
    go_enter Try.func57, Try.ntmps57
    go_upto_region 1 with (fail)
    generalize w.alloc (.cells #[.slice none 0 0, .int .i64 0, .int .i64 0] 48) = w1 at *
    generalize hrb : w.heap.size = rb at *
    have HRB : Hid (w.heap.size = rb) := hrb
    clear hrb
    go_wp2_with fail
    refine (bclone_any _ HP.out.src (by omega)).mono ?_
    rintro e w2 ⟨v2, rfl, own2, b2⟩
    obtain ⟨a2, c2, rfl⟩ := row_slice own2
    have hx2 := (b2.block rb (by rw [HSZ.out]; omega)).trans HX.out
    have HX2 : Hid _ := hx2
    have HO2 : Hid (w2.ownsRow w1.heap.size 5 1 (.slice a2 (x + 1) c2) (x + 1) (bv (seg b (a + 1) (x + 1)))) := own2
    have HB2 : Hid (Below rb w w2) := HB.out.trans (b2.mono (by rw [HSZ.out]; omega))
    have H8 : Hid (∀ y ∈ seg b (a + 1) (x + 1), y < 256) := HP.out.byte
    clear r0 r1 r2 f0 f1 f2 cA own2 b2 hsl
    obtain ⟨r0, r1, r2⟩ := three_cells hx2
    have f0 := frozen_of_row _ _ 0 _ _ hx2
    have f1 := frozen_of_row _ _ 1 _ _ hx2
    have f2 := frozen_of_row _ _ 2 _ _ hx2
    clear hx2
    go_wp2
    refine bodyPost_ret (results_cell_tmp2 Try.results57 _ _ rb _ _ _ _ rfl (res3_kept HX2.out) Try.underlying48 rfl Try.sizeTok) rfl ⟨a2, x + 1, c2, ?_, ?_, H8.out, ?_⟩
    · congr 4
      simp
      omega
    · rw [HRB.out]
      exact rowMono (row_apart HO2.out (fun g hg => res3_block hg) (by rw [HSZ.out]; omega)) (by rw [HSZ.out]; omega)
    · rw [HRB.out]
      exact res3_below HB2.out (Nat.le_refl _)
  · have HE : Hid (takeA b (a : Int) = noA 4) := take_short (by omega) hx h1 (by omega)
    have i1 : (L : Int) < (a : Int) + 1 + (x : Int) + 1 := by omega
    rw [HE.out]
    clear hx h hw1 hlen
    go_enter Try.func57, Try.ntmps57
    go_upto_region 1 with (fail)
    generalize w.alloc (.cells #[.slice none 0 0, .int .i64 0, .int .i64 0] 48) = w1 at *
    generalize hrb : w.heap.size = rb at *
    have HRB : Hid (w.heap.size = rb) := hrb
    clear hrb
    go_wp2
    refine bodyPost_ret (results_cell_tmp2 Try.results57 _ _ rb _ _ _ _ rfl (res3_kept HX.out) Try.underlying48 rfl Try.sizeTok) rfl (told_no 4 ?_)
    rw [HRB.out]
    exact res3_below HB.out (Nat.le_refl _)
end Go.Proofs.Ytgninhecclinaaa
