/- The walk of New: frames that are all Free, and all their bytes 0. -/
import Derived.Test.YteebjeifbccbnaaMTake
namespace Go.Proofs.Yteebjeifbccbnaa
open Go.RowKit

theorem Try.info70 : (Try.prog.info? 70).map (fun i => (i.zero.map Value.cells, i.size, i.bytes)) = some (some (Array.replicate 4096 (.int .u8 0)), 4096, 4096) := by kernel_rfl
theorem made_pages (n : Nat) : madeCells (Array.replicate 4096 (Value.int .u8 0)) n = (bv (List.replicate n 0)).toArray := by
  apply Array.ext
  · simp [madeCells]
  · intro i h1 h2
    simp only [madeCells, bv, Array.getElem_map, Array.getElem_range, List.getElem_toArray, List.getElem_map, List.getElem_replicate, Array.size_replicate]
    have : i % 4096 < 4096 := Nat.mod_lt _ (by omega)
    rw [getElem!_pos _ _ (by simpa using this)]
    simp
theorem run_make_pages (m : Nat) (hm : m ≤ 96) (w : World) :
    (Instr.makeSlice 67 (.int .i64 (m : Int)) (.int .i64 (m : Int))).run Try.prog w = .ok (.slice (some ⟨w.heap.size, 0, none⟩) m m) (w.alloc (.cells (bv (List.replicate (m * 4096) 0)).toArray 70)) := by
  obtain ⟨i, hi, hq⟩ := Option.map_eq_some_iff.1 Try.info70
  simp only [Prod.mk.injEq] at hq
  obtain ⟨hz, hs, hb⟩ := hq
  obtain ⟨z, hz0, hz1⟩ := Option.map_eq_some_iff.1 hz
  have hr := run_make (P := Try.prog) w 67 70 i z Try.underlying67 hi hz0 .i64 .i64 m m (by omega) (Int.le_refl _) (by rw [hb]; omega) (by omega)
  rw [hz1, hs, made_pages] at hr
  simp only [Int.toNat_natCast] at hr
  exact hr

set_option maxHeartbeats 1000000 in
theorem ramNew_any (m : Nat) (h8 : 8 ≤ m) (hm : m ≤ 96) (w : World) :
    Calls Try.prog 12 #[.int .i64 (m : Nat)] w fun e w' => ∃ r, e = .returned (.tuple #[.pointer (some ⟨r, 0, none⟩), .int .i64 0]) ∧
      RamAt w.heap.size w'.heap.size w' r m 0 0 (List.replicate m 0) (down m) (List.replicate (m * 4096) 0) ∧ Below w.heap.size w w' := by
  have hmk := run_make_pages m hm
  go_enter Try.func12, Try.ntmps12
  go_wp2_with fail
  refine (new_any m h8 hm w).mono ?_
  rintro e w1 ⟨p, rfl, h1, b1⟩
  have HF : Hid (FramesP w.heap.size w1.heap.size w1 p m 0 (List.replicate m 0) (down m)) := h1
  have HB : Hid (Below w.heap.size w w1) := b1
  clear h1 b1
  go_wp2
  go_ret2
  refine ⟨_, rfl, ⟨w1.heap.size, w1.heap.size, p, 75, .slice (some ⟨w1.heap.size, 0, none⟩) m m, ?_⟩, (HB.out.alloc HB.out.size _).alloc (by have := HB.out.size; simp; omega) _⟩
  have bb : Below w1.heap.size w1 ((w1.alloc (.cells (bv (List.replicate (m * 4096) 0)).toArray 70)).alloc (.cells #[.pointer p, .slice (some ⟨w1.heap.size, 0, none⟩) m m, .int .i64 0] 75)) := ((Below.refl _ w1).alloc (Nat.le_refl _) _).alloc (by simp) _
  have hh := heap_alloc_new (w1.alloc (.cells (bv (List.replicate (m * 4096) 0)).toArray 70)) (.cells #[.pointer p, .slice (some ⟨w1.heap.size, 0, none⟩) m m, .int .i64 0] 75)
  rw [World.size_alloc] at hh
  refine ⟨HF.out.below bb, hh, .inr ⟨rfl, ?_⟩, by simp, rep_byte _, ?_, Nat.le_refl _⟩
  · rw [Below.heap_alloc _ _ _ (by simp)]
    exact heap_alloc_new w1 _
  · have := HB.out.size
    simp
    omega
theorem ramNew_bad (n : Int) (h : n < 8 ∨ 96 < n) (w : World) :
    Calls Try.prog 12 #[.int .i64 n] w fun e w' => e = .returned (.tuple #[.pointer none, .int .i64 1]) ∧ w = w' := by
  go_enter Try.func12, Try.ntmps12
  go_wp2_with fail
  refine (new_bad n h w).mono ?_
  rintro e w1 ⟨rfl, rfl⟩
  go_wp2
  go_ret2
  exact ⟨rfl, rfl⟩
end Go.Proofs.Yteebjeifbccbnaa
