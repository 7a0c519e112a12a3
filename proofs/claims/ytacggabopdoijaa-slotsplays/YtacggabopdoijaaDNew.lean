/- The walk of New: a disk all of whose bytes are 0, with luck of the choices. -/
import Derived.Test.YtacggabopdoijaaDOps
import Derived.Deep.RegionWith
import Derived.BigRegion
namespace Go.Proofs.Ytacggabopdoijaa
open Go.RowKit

theorem Try.info93 : (Try.prog.info? 93).map (fun i => (i.zero.map Value.cells, i.size, i.bytes)) = some (some (Array.replicate 512 (.int .u8 0)), 512, 512) := by kernel_rfl
theorem made_secs (n : Nat) : madeCells (Array.replicate 512 (Value.int .u8 0)) n = (bv (List.replicate n 0)).toArray := by
  apply Array.ext
  · simp [madeCells]
  · intro i h1 h2
    simp only [madeCells, bv, Array.getElem_map, Array.getElem_range, List.getElem_toArray, List.getElem_map, List.getElem_replicate, Array.size_replicate]
    have : i % 512 < 512 := Nat.mod_lt _ (by omega)
    rw [getElem!_pos _ _ (by simpa using this)]
    simp
theorem run_make_secs (m : Nat) (hm : m ≤ 1024) (w : World) :
    (Instr.makeSlice 76 (.int .i64 (m : Int)) (.int .i64 (m : Int))).run Try.prog w = .ok (.slice (some ⟨w.heap.size, 0, none⟩) m m) (w.alloc (.cells (bv (List.replicate (m * 512) 0)).toArray 93)) := by
  obtain ⟨i, hi, hq⟩ := Option.map_eq_some_iff.1 Try.info93
  simp only [Prod.mk.injEq] at hq
  obtain ⟨hz, hs, hb⟩ := hq
  obtain ⟨z, hz0, hz1⟩ := Option.map_eq_some_iff.1 hz
  have hr := run_make (P := Try.prog) w 76 93 i z Try.underlying76 hi hz0 .i64 .i64 m m (by omega) (Int.le_refl _) (by rw [hb]; omega) (by omega)
  rw [hz1, hs, made_secs] at hr
  simp only [Int.toNat_natCast] at hr
  exact hr

/-- The bytes of a new disk. -/
def zeros (m : Nat) : List Nat := List.replicate (m * 512) 0
/-- A disk that was just made: luck from A to less than C, the sectors in g, the disk in the newest block. -/
theorem new_disk {w w1 : World} {b g A C m : Nat} {zs : List Bool} (hm : m ≤ 1024) (hl : LuckAt A C w1 b zs 0) (hr : w1.heap[g]? = some (.cells (bv (zeros m)).toArray 93 (0, 0))) (hb : Below w.heap.size w w1)
    (hA : w.heap.size ≤ A) (hg : w.heap.size ≤ g) (hgl : g < A ∨ C ≤ g) :
    DiskAt w.heap.size (w1.alloc (.cells #[.pointer (some ⟨b, 0, none⟩), .slice (some ⟨g, 0, none⟩) m m] 89)).heap.size (w1.alloc (.cells #[.pointer (some ⟨b, 0, none⟩), .slice (some ⟨g, 0, none⟩) m m] 89)) w1.heap.size m zs 0 (zeros m) ∧
      Below w.heap.size w (w1.alloc (.cells #[.pointer (some ⟨b, 0, none⟩), .slice (some ⟨g, 0, none⟩) m m] 89)) := by
  have hgs : g < w1.heap.size := (Array.getElem?_eq_some_iff.1 hr).1
  have hi := hl.hi
  have hs := hb.size
  refine ⟨⟨b, g, A, C, hl.below ((Below.refl _ w1).alloc (Nat.le_refl _) _), heap_alloc_new w1 _, ?_, by simp [zeros], hm, rep_byte (by omega), ?_, Nat.le_refl _⟩, hb.alloc hs _⟩
  · rw [Below.heap_alloc _ _ _ hgs]; exact hr
  · simp; omega

set_option maxHeartbeats 2000000 in
theorem dNew_any {a : Option Addr} {n c : Nat} {zs : List Bool} (m : Nat) (w : World) (hm : m ≤ 1024) (h : BoolsAt w a n c zs) (hn : n ≤ 8192) :
    Calls Try.prog 33 #[.int .i64 (m : Nat), .slice a n c] w fun e w' => ∃ r, e = .returned (.tuple #[.pointer (some ⟨r, 0, none⟩), .int .i64 0]) ∧ DiskAt w.heap.size w'.heap.size w' r m zs 0 (zeros m) ∧ Below w.heap.size w w' := by
  have hmk := run_make_secs m hm
  have HZ : Hid (BoolsAt w.drew a n c zs) := h.below (drew_below _ _)
  have HZ2 : Hid (BoolsAt (w.drew.alloc (.cells (bv (List.replicate (m * 512) 0)).toArray 93)) a n c zs) := (h.below (drew_below _ _)).below ((Below.refl _ w.drew).alloc (Nat.le_refl _) _)
  have h0 : (0 : Int) ≤ m := by omega
  have h1 : (m : Int) ≤ 1024 := by omega
  clear h
  go_enter Try.func33, Try.ntmps33
  go_wp2_with fail
  go_region_with (first | (go_at_call 48; refine (new_any _ HZ.out hn).mono ?_; rintro e w1 ⟨b, rfl, h1, b1⟩; have H1 : Hid _ := h1; have B1 : Hid _ := b1; clear h1 b1) | (go_at_call 48; refine (new_any _ HZ2.out hn).mono ?_; rintro e w1 ⟨b, rfl, h1, b1⟩; have H1 : Hid _ := h1; have B1 : Hid _ := b1; clear h1 b1))
  · clear h0 h1 hmk
    go_wp2
    go_ret2
    have hs : w.heap.size ≤ w1.heap.size := B1.out.size
    have hw : Below w.heap.size w w1 := (drew_below _ w).trans B1.out
    have hd := new_disk (w := w) (w1 := w1.alloc (.cells (bv (zeros m)).toArray 93)) (g := w1.heap.size) hm (H1.out.below ((Below.refl _ w1).alloc (Nat.le_refl _) _)) (heap_alloc_new w1 _) (hw.alloc hs _) (Nat.le_refl _) hs (.inr (Nat.le_refl _))
    simp only [World.size_alloc] at hd
    exact ⟨_, rfl, by simp only [World.size_alloc]; exact hd.1, hd.2⟩
  · clear h0 h1 hmk
    go_wp2
    go_ret2
    have ba : Below w.heap.size w (w.drew.alloc (.cells (bv (zeros m)).toArray 93)) := (drew_below _ w).alloc (Nat.le_refl _) _
    have hw : Below w.heap.size w w1 := ba.trans (B1.out.mono ba.size)
    have hsz : (w.drew.alloc (.cells (bv (List.replicate (m * 512) 0)).toArray 93)).heap.size = w.heap.size + 1 := by simp
    have hr : w1.heap[w.heap.size]? = some (.cells (bv (zeros m)).toArray 93 (0, 0)) := by
      rw [B1.out.block w.heap.size (by rw [hsz]; omega)]
      exact heap_alloc_new w.drew _
    have hl := H1.out
    rw [hsz] at hl
    have hd := new_disk (w := w) hm hl hr hw (by omega) (Nat.le_refl _) (.inl (by omega))
    exact ⟨_, rfl, hd.1, hd.2⟩
theorem dNew_bad {v : Value} (n : Int) (h : n < 0 ∨ 1024 < n) (w : World) :
    Calls Try.prog 33 #[.int .i64 n, v] w fun e w' => e = .returned (.tuple #[.pointer none, .int .i64 1]) ∧ w = w' := by
  by_cases h0 : n < 0
  · clear h
    go_enter Try.func33, Try.ntmps33
    go_wp2
    go_ret2
    exact ⟨rfl, rfl⟩
  · have h2 : 1024 < n := by omega
    clear h
    go_enter Try.func33, Try.ntmps33
    go_wp2
    go_ret2
    exact ⟨rfl, rfl⟩
end Go.Proofs.Ytacggabopdoijaa
