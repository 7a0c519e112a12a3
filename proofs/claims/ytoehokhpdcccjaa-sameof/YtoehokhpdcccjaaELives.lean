/- The walk of the law's own 'lives' (layer 10). -/
import Derived.Test.YtoehokhpdcccjaaEPage
namespace Go.Proofs.Ytoehokhpdcccjaa
open Go.RowKit

theorem by_row {w : World} {base g L c : Nat} {b : List Nat} (h : w.ownsRow base 5 1 (.slice (some ⟨g, 0, none⟩) L c) L (bv b)) (h8 : ∀ x ∈ b, x < 256) : ByAt w (some ⟨g, 0, none⟩) L c b := ⟨src_row h, (row_cap h).2, (row_cap h).1, h8⟩
/-- Of, its answer under letters. -/
theorem of_is {p : Option Addr} {L c n : Nat} {b : List Nat} {t : Bool} (w : World) (h : ByAt w p L c b) (hn : ofN b = n) (ht : oneB b = t) :
    Calls Try.prog 9 #[.slice p L c] w fun e w' => e = .returned (.tuple #[.int .u64 (n : Nat), .bool t]) ∧ w = w' := by
  subst hn ht
  exact of_any w h

set_option maxRecDepth 100000 in
set_option maxHeartbeats 400000 in
theorem lives_any (w : World) : Calls Try.prog 7 #[] w fun e w' => e = .returned (.bool true) ∧ Below w.heap.size w w' := by
  obtain ⟨Z, hZ⟩ : ∃ Z : List Nat, Z = List.replicate 4096 0 := ⟨_, rfl⟩
  have hmk : ∀ w : World, (Instr.makeSlice 22 (.int .i64 4096) (.int .i64 4096)).run Try.prog w = .ok (.slice (some ⟨w.heap.size, 0, none⟩) 4096 4096) (w.alloc (.cells (bv Z).toArray 5)) := by
    intro w
    rw [hZ]
    exact run_make_bytes 4096 (by omega) w
  have own := made_own w 4096 (by unfold maxLen; omega)
  rw [← hZ] at own
  have hz : Z = pageN 0 := hZ.trans pageN_zero
  have HY : Hid (ByAt (w.alloc (.cells (bv Z).toArray 5)) (some ⟨w.heap.size, 0, none⟩) 4096 4096 Z) := by_row own (by rw [hz]; exact pageN_byte 0)
  have HB : Hid (Below w.heap.size w (w.alloc (.cells (bv Z).toArray 5))) := (Below.refl _ w).alloc (Nat.le_refl _) _
  have HO : Hid (ofN Z = 0) := by show _ = _; rw [hz]; exact pageN_of (by omega)
  have HI : Hid (oneB Z = true) := by show _ = _; rw [hz]; exact pageN_one 0
  clear own hz hZ
  go_enter Try.func7, Try.ntmps7
  go_wp2_with fail
  refine (of_is _ HY.out HO.out HI.out).mono ?_
  rintro e w1 ⟨rfl, rfl⟩
  clear hmk
  generalize w.alloc (.cells (bv Z).toArray 5) = w1 at *
  go_wp2_with fail
  refine (page_any 258 _ rfl _).mono ?_
  rintro e w2 ⟨g, rfl, own2, b2⟩
  have HY2 : Hid (ByAt w2 (some ⟨g, 0, none⟩) 4096 4096 (pageN 258)) := by_row own2 (pageN_byte _)
  have HB2 : Hid (Below w.heap.size w w2) := HB.out.trans (b2.mono HB.out.size)
  clear own2 b2
  go_wp2_with fail
  refine (of_is _ HY2.out (pageN_of (by omega)) (pageN_one _)).mono ?_
  rintro e w3 ⟨rfl, rfl⟩
  go_wp2
  go_ret
  exact ⟨rfl, HB2.out⟩
end Go.Proofs.Ytoehokhpdcccjaa
