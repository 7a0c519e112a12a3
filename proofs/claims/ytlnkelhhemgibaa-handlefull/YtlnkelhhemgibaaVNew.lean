/- The walks of New and of slices.Index at places. -/
import Derived.Test.YtlnkelhhemgibaaGCells
import Derived.Test.YtlnkelhhemgibaaVSet
namespace Go.Proofs.Ytlnkelhhemgibaa
open Go.RowKit

/-- The cells of a table none of whose handles is in use. -/
def tabZ : Array Value := Array.replicate 1539 (.int .i64 0)
theorem tabZ_ne : tabZ ≠ #[] := by
  intro h
  have := congrArg Array.size h
  simp [tabZ] at this
theorem cells_zero : CellsT tabZ noT := by
  refine ⟨by simp [tabZ], fun i hi => ?_⟩
  have h : ∀ k, k < 1539 → tabZ[k]? = some (.int .i64 0) := by
    intro k hk
    unfold tabZ
    rw [Array.getElem?_replicate, if_pos hk]
  exact ⟨h _ (by omega), h _ (by omega), h _ (by omega)⟩
theorem Try.zero55 : (Try.prog.info? 55).map (fun i => i.zero) = some (some (.agg (Array.replicate 1539 (.int .i64 0)))) := by kernel_rfl
theorem zero_tab (w : World) : (zeroValue 55).run Try.prog w = .ok (.agg tabZ) w := by
  obtain ⟨i, hi, hz⟩ := Option.map_eq_some_iff.1 Try.zero55
  have e : i.zero = some (.agg tabZ) := hz
  clear hz
  generalize tabZ = Z at *
  simp [zeroValue, typeInfo, hi, e, go_sem]
set_option maxHeartbeats 400000 in
theorem new_any (w : World) : Calls Try.prog 13 #[] w fun e w' => e = .returned (.pointer (some ⟨w.heap.size, 0, none⟩)) ∧ TabAt w' w.heap.size noT ∧ Below w.heap.size w w' ∧ w'.heap.size = w.heap.size + 1 := by
  have hzt := zero_tab
  have hzn := tabZ_ne
  have HF : Hid (TabAt (w.alloc (.cells tabZ 55)) w.heap.size noT ∧ Below w.heap.size w (w.alloc (.cells tabZ 55)) ∧ (w.alloc (.cells tabZ 55)).heap.size = w.heap.size + 1) :=
    ⟨⟨⟨_, heap_alloc_new w _, cells_zero⟩, noT_ok⟩, (Below.refl _ w).alloc (Nat.le_refl _) _, by simp⟩
  go_enter Try.func13, Try.ntmps13
  go_wp2
  go_ret
  exact ⟨rfl, HF.out⟩

set_option maxRecDepth 100000 in
set_option maxHeartbeats 1000000 in
theorem index_any {t : Nat} {T : Int → Pl} (w : World) (h : TabAt w t T) :
    Calls Try.prog 19 #[.slice (some ⟨t, 3, none⟩) 512 512, .agg #[.int .i64 0, .int .i64 0, .int .i64 0]] w fun e w' =>
      ∃ x : Int, e = .returned (.int .i64 x) ∧ Below w.heap.size w w' ∧ ((x = -1 ∧ Full T) ∨ ∃ n : Nat, x = (n : Int) ∧ IsFree T (n + 1)) := by
  obtain ⟨W1, hW1⟩ : ∃ W1, W1 = w.alloc (.cells #[.int .i64 0, .int .i64 0, .int .i64 0] 28) := ⟨_, rfl⟩
  have hb1 : Below w.heap.size w W1 := by rw [hW1]; exact (Below.refl _ w).alloc (Nat.le_refl _) _
  have hx1 : W1.heap[w.heap.size]? = some (.cells #[.int .i64 0, .int .i64 0, .int .i64 0] 28 (0, 0)) := by rw [hW1]; exact heap_alloc_new w _
  have HT : Hid (TabAt W1 t T) := h.later hb1
  have HB : Hid (Below w.heap.size w W1) := hb1
  have HX : Hid (W1.heap[w.heap.size]? = some (.cells #[.int .i64 0, .int .i64 0, .int .i64 0] 28 (0, 0))) := hx1
  clear h hb1 hx1
  go_enter Try.func19, Try.ntmps19
  go_wp2_with fail
  rw [← hW1]
  clear hW1
  go_loopg [8] 512 (fun gk i wr => ∃ k : Nat, k ≤ 512 ∧ gk = 512 - k ∧ i = .int .i64 k ∧ (∃ m, wr = W1.drewN m) ∧ ∀ j : Nat, 1 ≤ j → j < k + 1 → T j ≠ zP)
  case atStart => exact ⟨0, by omega, rfl, rfl, ⟨0, rfl⟩, fun j _ _ => by omega⟩
  case round =>
    obtain ⟨k, hk, rfl, rfl, hwm, hno⟩ := hrel
    have HNO : Hid (∀ j : Nat, 1 ≤ j → j < k + 1 → T j ≠ zP) := hno
    have HM : Hid (∃ m, wr = W1.drewN m) := hwm
    have hb : Below W1.heap.size W1 wr := by obtain ⟨m, rfl⟩ := hwm; exact drewN_below _ _ _
    have hx : wr.heap[w.heap.size]? = some (.cells #[.int .i64 0, .int .i64 0, .int .i64 0] 28 (0, 0)) := (hb.block _ (Array.getElem?_eq_some_iff.1 HX.out).1).trans HX.out
    obtain ⟨z0, z1, z2⟩ : wr.cell? ⟨w.heap.size, 0, none⟩ = some (.int .i64 0) ∧ wr.cell? ⟨w.heap.size, 1, none⟩ = some (.int .i64 0) ∧ wr.cell? ⟨w.heap.size, 2, none⟩ = some (.int .i64 0) := by
      refine ⟨?_, ?_, ?_⟩ <;> simp [World.cell?, hx]
    have HBW : Hid (Below w.heap.size w wr) := HB.out.trans (hb.mono HB.out.size)
    clear hno hwm
    by_cases hlt : k < 512
    · have i1 : (k : Int) < 512 := by omega
      obtain ⟨c0, c1, c2⟩ := (HT.out.later hb).cell (n := k + 1) (by omega)
      obtain ⟨x, hx⟩ : ∃ x, T ((k + 1 : Nat) : Int) = x := ⟨_, rfl⟩
      have HX2 : Hid (T ((k + 1 : Nat) : Int) = x) := hx
      rw [hx, show (k + 1) * 3 = 3 + k * 3 by omega] at c0 c1 c2
      clear hx
      obtain ⟨xp, xo, xl⟩ := x
      simp only at c0 c1 c2
      by_cases hz : (⟨xp, xo, xl⟩ : Pl) = zP
      · have hq := Try.eqlP 0 0 0 xp xo xl
        have e1 : sameP ⟨0, 0, 0⟩ ⟨xp, xo, xl⟩ = true := sameP_iff.2 hz.symm
        rw [e1] at hq
        have HF : Hid (IsFree T (k + 1)) := ⟨by omega, by omega, by rw [HX2.out]; exact hz, fun j h1 h2 => HNO.out j h1 h2⟩
        clear hz e1
        go_wp2_with fail
        go_quiet (fail)
        go_wp2
        go_ret
        exact ⟨_, rfl, HBW.out.trans (drewN_below _ _ _), .inr ⟨k, rfl, HF.out⟩⟩
      · have hq := Try.eqlP 0 0 0 xp xo xl
        have e1 : sameP ⟨0, 0, 0⟩ ⟨xp, xo, xl⟩ = false := sameP_not fun e => hz e.symm
        rw [e1] at hq
        have HF : Hid (∀ j : Nat, 1 ≤ j → j < k + 1 + 1 → T j ≠ zP) := by
          intro j h1 h2
          by_cases hj : j = k + 1
          · rw [hj, HX2.out]; exact hz
          · exact HNO.out j h1 (by omega)
        clear hz e1
        go_wp2_with fail
        go_quiet (fail)
        go_wp2
        go_roundg (512 - (k + 1))
        case measure => omega
        case rel => exact ⟨k + 1, by omega, rfl, by go_num, quiet_more HM.out _, HF.out⟩
    · obtain rfl : k = 512 := by omega
      clear z0 z1 z2
      go_wp2
      go_ret
      exact ⟨_, rfl, HBW.out, .inl ⟨rfl, fun j h1 h2 => HNO.out j h1 (by omega)⟩⟩
end Go.Proofs.Ytlnkelhhemgibaa
