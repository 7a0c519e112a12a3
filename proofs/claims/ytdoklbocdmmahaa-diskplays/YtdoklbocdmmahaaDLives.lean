/- The walk of the law's own 'filled' and 'lives'. -/
import Derived.Test.YtdoklbocdmmahaaDNew
namespace Go.Proofs.Ytdoklbocdmmahaa
open Go.RowKit

/-- 512 bytes, the first k of them v. -/
def fillTo (v k : Nat) : List Nat := List.replicate k v ++ List.replicate (512 - k) 0
theorem fillTo_len (v k : Nat) (h : k ≤ 512) : (fillTo v k).length = 512 := by simp [fillTo]; omega
theorem fillTo_set (v k : Nat) (h : k < 512) : (fillTo v k).set k v = fillTo v (k + 1) := by
  unfold fillTo
  rw [List.set_append_right _ _ (by simp), List.length_replicate, Nat.sub_self, show 512 - k = (512 - (k + 1)) + 1 by omega, List.replicate_succ, List.set_cons_zero, List.replicate_succ' (n := k)]
  simp
theorem fillTo_all (v : Nat) : fillTo v 512 = List.replicate 512 v := by unfold fillTo; rw [Nat.sub_self, List.replicate_zero, List.append_nil]
set_option maxHeartbeats 1000000 in
theorem filled_any (v : Nat) (w : World) :
    Calls Try.prog 8 #[.int .u8 (v : Nat)] w fun e w' => e = .returned (.slice (some ⟨w.heap.size, 0, none⟩) 512 512) ∧
      w'.ownsRow w.heap.size 5 1 (.slice (some ⟨w.heap.size, 0, none⟩) 512 512) 512 (bv (List.replicate 512 v)) ∧ Below w.heap.size w w' := by
  obtain ⟨Z, hZ⟩ : ∃ Z, Z = (bv (List.replicate 512 0)).toArray := ⟨_, rfl⟩
  have hmk : ∀ w : World, (Instr.makeSlice 25 (.int .i64 512) (.int .i64 512)).run Try.prog w = .ok (.slice (some ⟨w.heap.size, 0, none⟩) 512 512) (w.alloc (.cells Z 5)) := fun w => by rw [hZ]; exact run_make_bytes 512 (by omega) w
  have HO : Hid ((w.alloc (.cells Z 5)).ownsRow w.heap.size 5 1 (.slice (some ⟨w.heap.size, 0, none⟩) 512 512) 512 (bv (fillTo v 0))) := by
    rw [hZ]; exact made_own w 512 (by unfold maxLen; omega)
  have HB : Hid (Below w.heap.size w (w.alloc (.cells Z 5))) := (Below.refl _ w).alloc (Nat.le_refl _) _
  clear hZ
  go_enter Try.func8, Try.ntmps8
  go_wp2_with fail
  generalize w.alloc (.cells Z 5) = w1 at *
  obtain ⟨g, hg⟩ : ∃ g, w.heap.size = g := ⟨_, rfl⟩
  have HG : Hid (w.heap.size = g) := hg
  rw [hg] at HO HB
  rw [hg]
  clear hg hmk
  go_loopw [4] (fun i wr => ∃ k : Nat, k ≤ 512 ∧ i = .int .i64 k ∧ wr.ownsRow g 5 1 (.slice (some ⟨g, 0, none⟩) 512 512) 512 (bv (fillTo v k)) ∧ Below g w wr) (fun i _ => 512 - (intOf i).toNat)
  case atStart => exact ⟨0, Nat.zero_le _, rfl, HO.out, HB.out⟩
  case round =>
    obtain ⟨k, hk, rfl, hown, hb⟩ := hrel
    by_cases hlt : k < 512
    · obtain ⟨g', e, ck, fk, _, _⟩ := row_at hown hlt
      obtain rfl : g = g' := by simpa using e
      rw [bv_at _ _ (by rw [fillTo_len _ _ hk]; exact hlt)] at ck
      have HO2 : Hid _ := (hown.stored k (.int .u8 (v : Nat))).1
      rw [bv_set, fillTo_set _ _ hlt] at HO2
      have HB2 : Hid (Below g w _) := hb.setCell (p := ⟨g, k, none⟩) (Nat.le_refl _) (.int .u8 (v : Nat))
      have i1 : (k : Int) < 512 := by omega
      generalize (fillTo v k).getD k 0 = y at *
      clear hown hb e HO HB
      go_wp2
      go_roundw
      case rel => exact ⟨k + 1, by omega, by go_num, HO2.out, HB2.out⟩
      case measure => simp [intOf]; omega
    · have e : k = 512 := by omega
      subst e
      rw [fillTo_all] at hown
      have HO2 : Hid _ := hown
      have HB2 : Hid _ := hb
      clear hown hb HO HB
      go_wp2
      go_ret
      rw [HG.out]
      exact ⟨rfl, HO2.out, HB2.out⟩

theorem BoolsAt.one (w : World) (x : Bool) : BoolsAt (w.alloc (.cells #[.bool x] 4)) (some ⟨w.heap.size, 0, none⟩) 1 1 [x] := by
  refine ⟨rfl, .inr ⟨_, rfl, fun i hi => ?_⟩⟩
  rw [add_lit', Nat.zero_add, cell_of_row _ w.heap.size i _ _ _ (heap_alloc_new w _)]
  match i, hi with
  | 0, _ => rfl

set_option maxHeartbeats 1000000 in
theorem lives_any (w : World) :
    Calls Try.prog 12 #[] w fun e w' => e = .returned (.bool true) ∧ Below w.heap.size w w' := by
  have hb0 : Hid (Below w.heap.size w (w.alloc (.cells #[.bool true] 4))) := (Below.refl _ w).alloc (Nat.le_refl _) _
  have hz0 : Hid _ := BoolsAt.one w true
  obtain ⟨Z, hZ⟩ : ∃ Z, Z = (bv (List.replicate 512 0)).toArray := ⟨_, rfl⟩
  have hmk : ∀ w : World, (Instr.makeSlice 25 (.int .i64 512) (.int .i64 512)).run Try.prog w = .ok (.slice (some ⟨w.heap.size, 0, none⟩) 512 512) (w.alloc (.cells Z 5)) := fun w => by rw [hZ]; exact run_make_bytes 512 (by omega) w
  have HO : Hid (∀ w : World, (w.alloc (.cells Z 5)).ownsRow w.heap.size 5 1 (.slice (some ⟨w.heap.size, 0, none⟩) 512 512) 512 (bv (List.replicate 512 0))) := by
    intro w; rw [hZ]; exact made_own w 512 (by unfold maxLen; omega)
  clear hZ
  go_enter Try.func12, Try.ntmps12
  go_wp2_with fail
  refine (dNew_any 1 _ (by omega) hz0.out (by omega)).mono ?_
  rintro e w1 ⟨r, rfl, h1, b1⟩
  have B1 : Hid (Below w.heap.size w w1) := hb0.out.trans (b1.mono hb0.out.size)
  have H1 : Hid (DiskAt (w.alloc (.cells #[.bool true] 4)).heap.size w1.heap.size w1 r 1 [true] 0 (zeros 1)) := h1
  have hq := hb0.out.size
  generalize hE : w1.heap.size = E at *
  generalize hQ : (w.alloc (.cells #[.bool true] 4)).heap.size = Q at *
  have HQ : Hid (w.heap.size ≤ Q) := hq
  clear hz0 b1 hb0 hQ hq h1
  go_wp2_with fail
  have hE2 := hE
  obtain ⟨w2, hw2⟩ : ∃ w2, w2 = w1.alloc (.cells Z 5) := ⟨_, rfl⟩
  have HO2 : Hid (w2.ownsRow E 5 1 (.slice (some ⟨E, 0, none⟩) 512 512) 512 (bv (List.replicate 512 0))) := by rw [hw2, ← hE]; exact HO.out w1
  have H2 : Hid (DiskAt Q E w2 r 1 [true] 0 (zeros 1)) := by rw [hw2]; exact H1.out.below ((Below.refl _ w1).alloc (Nat.le_refl _) _)
  have B2 : Hid (Below w.heap.size w w2) := by rw [hw2]; exact B1.out.alloc B1.out.size _
  rw [← hw2]
  try rw [hE]
  clear hw2 hE hE2 H1 B1 HO hmk
  have hrl : (List.replicate 512 (0 : Nat)).length = 512 := List.length_replicate
  have hr8 : ∀ x ∈ List.replicate 512 (0 : Nat), x < 256 := rep_byte (by omega)
  generalize List.replicate 512 (0 : Nat) = Y at *
  have HY : Hid (Y.length = 512) := hrl
  have H8 : Hid (∀ x ∈ Y, x < 256) := hr8
  have hml : 512 ≤ maxLen := by unfold maxLen; omega
  clear hrl hr8
  refine (dWrite_any (b := Y) 0 w2 H2.out (by omega) (by rw [HY.out]; exact src_row HO2.out) (apart_row HO2.out (Nat.le_refl _)) H8.out (by rw [HY.out]; exact hml)).mono ?_
  rintro e w3 ⟨rfl, h3, t3⟩
  rw [HY.out, show acK 1 0 0 512 = 1 by decide] at h3
  rw [HY.out, show acE 1 [true] 0 0 512 = 12 by decide]
  generalize wrD 1 [true] 0 (zeros 1) 0 Y = P3 at *
  have hsz := HQ.out
  have hqe : Q ≤ E := by have := H2.out.hi; omega
  have hes := H2.out.hi.1
  have HO3 : Hid (w3.ownsRow E 5 1 (.slice (some ⟨E, 0, none⟩) 512 512) 512 (bv Y)) := t3.row HO2.out (Nat.le_refl _)
  have H3 : Hid (DiskAt Q E w3 r 1 [true] 1 P3) := h3
  have B3 : Hid (Below w.heap.size w w3) := B2.out.trans ((t3.below (by omega)).mono hsz)
  clear h3 t3 HO2 H2 B2
  go_wp2_with fail
  refine (dWrite_any (b := Y) 0 w3 H3.out (by omega) (by rw [HY.out]; exact src_row HO3.out) (apart_row HO3.out (Nat.le_refl _)) H8.out (by rw [HY.out]; exact hml)).mono ?_
  rintro e w4 ⟨rfl, h4, t4⟩
  rw [HY.out, show acE 1 [true] 1 0 512 = 0 by decide]
  have hes3 := H3.out.hi.1
  have B4 : Hid (Below w.heap.size w w4) := B3.out.trans ((t4.below (by omega)).mono hsz)
  clear h4 t4
  go_wp2
  go_ret
  exact ⟨rfl, B4.out⟩
end Go.Proofs.Ytdoklbocdmmahaa
