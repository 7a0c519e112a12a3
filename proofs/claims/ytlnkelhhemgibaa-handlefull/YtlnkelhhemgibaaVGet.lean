/- The walk of Get. -/
import Derived.Test.YtlnkelhhemgibaaVNew
namespace Go.Proofs.Ytlnkelhhemgibaa
open Go.RowKit

theorem Try.sizePl : (Try.prog.info? 28).map (fun i => i.size) = some 3 := by kernel_rfl
/-- What Get tells. -/
def gotV (x : Pl) : Value := .tuple #[.agg #[.int .i64 x.p, .int .i64 x.o, .int .i64 x.l], .bool (isU x)]
set_option maxRecDepth 100000 in
set_option maxHeartbeats 1000000 in
theorem get_any {v : Value} {T : Int → Pl} (h : Int) (w : World) (hT : TabP w v T) :
    Calls Try.prog 7 #[v, .int .i64 h] w fun e w' => e = .returned (gotV (T h)) ∧ Below w.heap.size w w' := by
  obtain ⟨W1, hW1⟩ : ∃ W1, W1 = w.alloc (.cells #[.int .i64 0, .int .i64 0, .int .i64 0] 28) := ⟨_, rfl⟩
  have hb1 : Below w.heap.size w W1 := by rw [hW1]; exact (Below.refl _ w).alloc (Nat.le_refl _) _
  have hx1 : W1.heap[w.heap.size]? = some (.cells #[.int .i64 0, .int .i64 0, .int .i64 0] 28 (0, 0)) := by rw [hW1]; exact heap_alloc_new w _
  have HB : Hid (Below w.heap.size w W1) := hb1
  have HX : Hid (W1.heap[w.heap.size]? = some (.cells #[.int .i64 0, .int .i64 0, .int .i64 0] 28 (0, 0))) := hx1
  rcases hT with ⟨rfl, rfl⟩ | ⟨t, rfl, hT⟩
  · have HT : Hid (noT h = zP) := rfl
    clear hb1 hx1
    go_enter Try.func7, Try.ntmps7
    go_wp2
    rw [← hW1]
    refine bodyPost_ret (results_cell_tmp Try.results7 _ _ w.heap.size _ _ _ _ rfl HX.out Try.underlying28 rfl Try.sizePl) rfl ?_
    exact ⟨by rw [HT.out]; rfl, HB.out⟩
  · by_cases h1 : h < 0
    · have HT : Hid (T h = zP) := hT.ok.out h (by omega)
      clear hb1 hx1 hT
      go_enter Try.func7, Try.ntmps7
      go_wp2
      rw [← hW1]
      refine bodyPost_ret (results_cell_tmp Try.results7 _ _ w.heap.size _ _ _ _ rfl HX.out Try.underlying28 rfl Try.sizePl) rfl ?_
      exact ⟨by rw [HT.out]; rfl, HB.out⟩
    · by_cases h2 : h < 513
      · obtain ⟨n, rfl⟩ : ∃ n : Nat, h = n := ⟨h.toNat, by omega⟩
        obtain ⟨c0, c1, c2⟩ := (hT.later hb1).cell (n := n) (by omega)
        obtain ⟨x, hx⟩ : ∃ x, T n = x := ⟨_, rfl⟩
        obtain ⟨z0, z1, z2⟩ := cells_three hx1
        have f0 := free_three (n := 0) hx1
        have f1 := free_three (n := 1) hx1
        have f2 := free_three (n := 2) hx1
        have hne : t < w.heap.size := hT.lt
        have hne2 : ¬ t = w.heap.size := by omega
        have hq := Try.neqP x.p x.o x.l 0 0 0
        have hqe : (!sameP ⟨x.p, x.o, x.l⟩ ⟨0, 0, 0⟩) = isU x := rfl
        obtain ⟨b, hb⟩ : ∃ b, isU x = b := ⟨_, rfl⟩
        rw [hqe, hb] at hq
        rw [hx] at c0 c1 c2
        have HF : Hid (gotV (T n) = .tuple #[.agg #[.int .i64 x.p, .int .i64 x.o, .int .i64 x.l], .bool b]) := by show _ = _; rw [hx, ← hb]; rfl
        obtain ⟨xp, xo, xl⟩ := x
        simp only at c0 c1 c2 hq HF
        clear hT hx hqe hb hb1 hx1
        go_enter Try.func7, Try.ntmps7
        go_wp2_with fail
        rw [← hW1]
        clear hW1
        go_region
        all_goals
          go_wp2
          refine bodyPost_ret (results_cell_tmp Try.results7 _ _ w.heap.size _ _ _ _ rfl (res3_kept HX.out) Try.underlying28 rfl Try.sizePl) rfl ?_
          exact ⟨by rw [HF.out]; rfl, res3_below (HB.out.trans (drewN_below _ _ _)) (Nat.le_refl _)⟩
      · have HT : Hid (T h = zP) := hT.ok.out h (by omega)
        clear hb1 hx1 hT
        go_enter Try.func7, Try.ntmps7
        go_wp2
        rw [← hW1]
        refine bodyPost_ret (results_cell_tmp Try.results7 _ _ w.heap.size _ _ _ _ rfl HX.out Try.underlying28 rfl Try.sizePl) rfl ?_
        exact ⟨by rw [HT.out]; rfl, HB.out⟩
theorem get_is {v : Value} {T : Int → Pl} {h : Int} {g : Value} (w : World) (hT : TabP w v T) (hg : gotV (T h) = g) :
    Calls Try.prog 7 #[v, .int .i64 h] w fun e w' => e = .returned g ∧ Below w.heap.size w w' := by subst hg; exact get_any h w hT
end Go.Proofs.Ytlnkelhhemgibaa
