/- The walk of squeeze.nextCopy. -/
import Derived.Test.YtgninhecclinaaaQPack
import Derived.Test.YtgninhecclinaaaANew
import Derived.Test.YtgninhecclinaaaKMay
import Derived.Test.YtgninhecclinaaaKTake
namespace Go.Proofs.Ytgninhecclinaaa
open Go.RowKit

theorem results_tmp_cell {P : Program} {fn : Func} {p b : Tmp} {ty : TypeId} (h : fn.results = #[.tmp b, .cell p ty]) (tmps : Array Value) (w : World) (g : Nat) (t : TypeId) (cs : Array Value) (fr : Nat × Nat) (d : TypeDesc)
    (hp : tmps.getD p undef = .pointer (some ⟨g, 0, none⟩)) (hg : w.heap[g]? = some (.cells cs t fr))
    (hu : P.underlying ty = some d) (hd : (match d with | .struct _ | .array _ _ => true | _ => false) = true) (hi : (P.info? ty).map (·.size) = some cs.size) :
    (results fn tmps).run P w = .ok (.tuple #[tmps.getD b undef, .agg cs]) w := by
  have hp' : tmps[p]?.getD undef = .pointer (some ⟨g, 0, none⟩) := by simpa using hp
  simp [results, h, hp', asAddr, run_loadVar_row w g t ty cs fr d hg hu hd hi]
set_option maxRecDepth 100000 in
set_option maxHeartbeats 1000000 in
theorem next_any {v : Value} {b : List Nat} {s : Nat} (w : World) (h : FinP w v b) (hs : s ≤ b.length) :
    Calls Try.prog 33 #[v, .int .i64 (s : Int)] w fun e w' => e = .returned (.tuple #[.int .i64 ((nextC b s).1 : Nat), .agg #[.slice none 0 0, .int .i64 ((nextC b s).2.1 : Nat), .int .i64 ((nextC b s).2.2 : Nat)]]) ∧ Below w.heap.size w w' := by
  have hN := h.le
  obtain ⟨N, hNe⟩ : ∃ N, b.length = N := ⟨_, rfl⟩
  obtain ⟨⟨ra, rl, rd⟩, hr⟩ : ∃ R, nextC b s = R := ⟨_, rfl⟩
  rw [hr]
  rw [hNe] at hs hN
  have HNE : Hid (b.length = N) := hNe
  have HR0 : Hid (nextF b (N - s) s 3 = (ra, rl, rd)) := by show _ = _; rw [← hNe]; exact hr
  have HFP : Hid (∀ w', Below w.heap.size w w' → FinP w' v b) := fun w' hb => h.later hb
  obtain ⟨hx1, hb1⟩ := three_new (w := w) (t := 48) (u0 := .slice none 0 0) (u1 := .int .i64 0) (u2 := .int .i64 0) (Below.refl _ _)
  have HX1 : Hid _ := hx1
  have HB1 : Hid (Below w.heap.size w (w.alloc (.cells #[.slice none 0 0, .int .i64 0, .int .i64 0] 48))) := hb1
  clear h hNe hr hx1 hb1
  go_enter Try.func33, Try.ntmps33
  go_wp2_with fail
  generalize (w.alloc (.cells #[.slice none 0 0, .int .i64 0, .int .i64 0] 48)) = w1 at *
  generalize hrb : w.heap.size = rb at *
  have HRB : Hid (w.heap.size = rb) := hrb
  clear hrb
  go_loopg [6, 7] (N - s) (fun gk x y wr => ∃ a least m : Nat, a ≤ N ∧ gk = N - a ∧ x = .int .i64 least ∧ y = .int .i64 a ∧ wr = w1.drewN m ∧ nextF b (N - a) a least = (ra, rl, rd))
  case atStart => exact ⟨s, 3, 0, hs, rfl, rfl, rfl, rfl, HR0.out⟩
  case round =>
    obtain ⟨a, least, m, ha, rfl, rfl, rfl, rfl, hnx⟩ := hrel
    have HNX : Hid (nextF b (N - a) a least = (ra, rl, rd)) := hnx
    have HP : Hid (FinP (w1.drewN m) v b) := HFP.out _ (HB1.out.trans (drewN_below _ _ _))
    clear hnx
    go_wp2_with fail
    refine (len_is _ HP.out.has HNE.out).mono ?_
    rintro e w' ⟨rfl, rfl⟩
    by_cases hlt : a < N
    · have i1 : (a : Int) < (N : Int) := by omega
      obtain ⟨⟨r, d⟩, hf⟩ : ∃ R, findI b (a : Int) = R := ⟨_, rfl⟩
      have HF : Hid (findI b (a : Int) = (r, d)) := hf
      clear hf
      go_wp2_with fail
      refine (find_is _ HP.out HF.out).mono ?_
      rintro e w' ⟨rfl, m2, rfl⟩
      by_cases hle : least ≤ r
      · have i2 : (least : Int) ≤ (r : Int) := by omega
        have HR : Hid ((ra, rl, rd) = (a, r, d)) := by
          show _ = _
          rw [← HNX.out]
          have := next_yes (b := b) (a := a) (least := least) (r := r) (d := d) (by rw [HNE.out]; exact hlt) HF.out hle
          rwa [HNE.out] at this
        have HX : Hid (((w1.drewN m).drewN m2).heap[rb]? = some (.cells #[.slice none 0 0, .int .i64 0, .int .i64 0] 48 (0, 0))) := by rw [heap_drewN, heap_drewN]; exact HX1.out
        have HB : Hid (Below rb w ((w1.drewN m).drewN m2)) := (HB1.out.trans (drewN_below _ _ _)).trans (drewN_below _ _ _)
        obtain ⟨r0, r1, r2⟩ := three_cells HX.out
        have f0 := frozen_of_row _ _ 0 _ _ HX.out
        have f1 := frozen_of_row _ _ 1 _ _ HX.out
        have f2 := frozen_of_row _ _ 2 _ _ HX.out
        generalize (w1.drewN m).drewN m2 = wz at *
        go_wp2
        refine bodyPost_ret (results_tmp_cell Try.results33 _ _ rb _ _ _ _ rfl (res3_kept HX.out) Try.underlying48 rfl Try.sizeTok) rfl ?_
        have hRR := HR.out
        simp only [Prod.mk.injEq] at hRR
        obtain ⟨e1, e2, e3⟩ := hRR
        rw [e1, e2, e3]
        refine ⟨rfl, ?_⟩
        rw [HRB.out]
        exact res3_below HB.out (Nat.le_refl _)
      · have i2 : ¬ (least : Int) ≤ (r : Int) := by omega
        have HNX2 : Hid (nextF b (N - (a + 1)) (a + 1) 4 = (ra, rl, rd)) := by
          show _ = _
          rw [← HNX.out]
          have := next_no (b := b) (a := a) (least := least) (r := r) (d := d) (by rw [HNE.out]; exact hlt) HF.out hle
          rw [HNE.out] at this
          exact this.symm
        go_wp2
        go_roundg (N - (a + 1))
        case measure => omega
        case rel => exact ⟨a + 1, 4, m + m2, by omega, rfl, rfl, by go_num, by simp, HNX2.out⟩
    · have i1 : ¬ (a : Int) < (N : Int) := by omega
      have HR : Hid ((ra, rl, rd) = (N, 0, 0)) := by
        show _ = _
        rw [← HNX.out]
        have := next_end (b := b) (a := a) (least := least) (by rw [HNE.out]; exact hlt)
        rwa [HNE.out] at this
      have HX : Hid ((w1.drewN m).heap[rb]? = some (.cells #[.slice none 0 0, .int .i64 0, .int .i64 0] 48 (0, 0))) := by rw [heap_drewN]; exact HX1.out
      have HB : Hid (Below rb w (w1.drewN m)) := HB1.out.trans (drewN_below _ _ _)
      obtain ⟨r0, r1, r2⟩ := three_cells HX.out
      have f0 := frozen_of_row _ _ 0 _ _ HX.out
      have f1 := frozen_of_row _ _ 1 _ _ HX.out
      have f2 := frozen_of_row _ _ 2 _ _ HX.out
      generalize w1.drewN m = wz at *
      go_wp2_with fail
      refine (len_is _ HP.out.has HNE.out).mono ?_
      rintro e w' ⟨rfl, rfl⟩
      go_wp2
      refine bodyPost_ret (results_tmp_cell Try.results33 _ _ rb _ _ _ _ rfl (res3_kept HX.out) Try.underlying48 rfl Try.sizeTok) rfl ?_
      have hRR := HR.out
      simp only [Prod.mk.injEq] at hRR
      obtain ⟨e1, e2, e3⟩ := hRR
      rw [e1, e2, e3]
      refine ⟨rfl, ?_⟩
      rw [HRB.out]
      exact res3_below HB.out (Nat.le_refl _)
theorem next_is {v : Value} {b : List Nat} {s a L d : Nat} (w : World) (h : FinP w v b) (hs : s ≤ b.length) (hr : nextC b s = (a, L, d)) :
    Calls Try.prog 33 #[v, .int .i64 (s : Int)] w fun e w' => e = .returned (.tuple #[.int .i64 (a : Int), .agg #[.slice none 0 0, .int .i64 (L : Int), .int .i64 (d : Int)]]) ∧ Below w.heap.size w w' := by
  have := next_any w h hs
  rwa [hr] at this
end Go.Proofs.Ytgninhecclinaaa
