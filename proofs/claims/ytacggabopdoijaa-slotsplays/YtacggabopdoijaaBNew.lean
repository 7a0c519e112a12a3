/- The walk of New: a set without numbers, in new memory. -/
import Derived.Test.YtacggabopdoijaaBSet
namespace Go.Proofs.Ytacggabopdoijaa
open Go.RowKit

def szN (n : Int) : Nat := if n < 0 then 0 else if 4096 < n then 4096 else n.toNat
theorem Try.info80 : (Try.prog.info? 80).map (fun i => (i.zero, i.size, i.bytes)) = some (some (.int .u64 0), 1, 8) := by kernel_rfl

theorem SetAt.made {B : Nat} {w w1 : World} {g m k : Nat} (hm : m ≤ 4096) (hk : k = (m + 63) / 64) (hB : B ≤ w.heap.size) (ho : w1.ownsRow B 80 1 (.slice (some ⟨g, 0, none⟩) k k) k (madeCells #[Value.int .u64 0] k).toList) (hw : w.heap.size ≤ w1.heap.size) {M : Int} (hM : M = m) :
    SetAt B (w1.alloc (.cells #[.int .i64 M, .slice (some ⟨g, 0, none⟩) k k] 83)) w1.heap.size g (List.replicate m false) := by
  subst hk hM
  have hlt := ho.lt g rfl
  refine ⟨by simpa using hm, by omega, by omega, ?_, ?_⟩
  · rw [List.length_replicate]
    exact heap_alloc_new w1 _
  · refine ⟨_, Fits.new m, ?_⟩
    rw [List.length_replicate]
    have e : wv (List.replicate ((m + 63) / 64) 0) = (madeCells #[Value.int .u64 0] ((m + 63) / 64)).toList := by
      rw [toList_madeCells_one]
      simp [wv]
    rw [e]
    exact ho.alloc _

set_option maxHeartbeats 400000 in
theorem setNew_any (n : Int) (w : World) :
    Calls Try.prog 34 #[.int .i64 n] w fun e w' => ∃ b g, e = .returned (.pointer (some ⟨b, 0, none⟩)) ∧ SetAt w.heap.size w' b g (List.replicate (szN n) false) ∧ Below w.heap.size w w' := by
  obtain ⟨i0, hi, hz0, hz1, hz2⟩ := info_parts Try.info80
  by_cases h1 : n < 0
  · have E : Hid (szN n = 0) := by simp [Hid, szN, h1]
    go_enter Try.func34, Try.ntmps34
    go_wp2_with (at_make; refine wpList_make_full _ rfl _ _ 81 rfl w.heap.size 80 i0 (.int .u64 0) 1 Try.underlying81 hi hz0 hz1 .i64 .i64 _ _ 0 rfl rfl rfl rfl (by rw [hz2]; omega) (by unfold maxLen; omega) (Nat.le_refl _) ?_)
    intro w1 hown hgr
    go_wp2
    go_ret
    refine ⟨_, w.heap.size, rfl, ?_, ?_⟩
    · rw [E.out]
      exact SetAt.made (w := w) (by omega) (by omega) (Nat.le_refl _) hown hgr.size rfl
    · exact ((Below.refl _ _).grown hgr (Nat.le_refl _) (by intro k hk; simp at hk)).alloc hgr.size _
  · by_cases h2 : 4096 < n
    · have E : Hid (szN n = 4096) := by simp [Hid, szN, h1, h2]
      have h3 : 0 ≤ n := by omega
      have h4 : 0 < n := by omega
      go_enter Try.func34, Try.ntmps34
      go_wp2_with (at_make; refine wpList_make_full _ rfl _ _ 81 rfl w.heap.size 80 i0 (.int .u64 0) 1 Try.underlying81 hi hz0 hz1 .i64 .i64 _ _ 64 rfl rfl rfl rfl (by rw [hz2]; omega) (by unfold maxLen; omega) (Nat.le_refl _) ?_)
      intro w1 hown hgr
      go_wp2
      go_ret
      refine ⟨_, w.heap.size, rfl, ?_, ?_⟩
      · rw [E.out]
        exact SetAt.made (w := w) (by omega) (by omega) (Nat.le_refl _) hown hgr.size rfl
      · exact ((Below.refl _ _).grown hgr (Nat.le_refl _) (by intro k hk; simp at hk)).alloc hgr.size _
    · obtain ⟨m, rfl⟩ := Int.eq_ofNat_of_zero_le (show 0 ≤ n by omega)
      have hm : m ≤ 4096 := by omega
      have E : Hid (szN m = m) := by simp [Hid, szN, h1, h2]
      have e2 : ((m : Int) + 64 - 1) / 64 = (((m + 63) / 64 : Nat) : Int) := by omega
      have E2 : Hid _ := e2
      clear h1 h2 e2
      go_enter Try.func34, Try.ntmps34
      go_wp2_with (at_make; refine wpList_make_full _ rfl _ _ 81 rfl w.heap.size 80 i0 (.int .u64 0) 1 Try.underlying81 hi hz0 hz1 .i64 .i64 _ _ ((m + 63) / 64) rfl rfl E2.out E2.out (by rw [hz2]; omega) (by unfold maxLen; omega) (Nat.le_refl _) ?_)
      intro w1 hown hgr
      go_wp2
      go_ret
      refine ⟨_, w.heap.size, rfl, ?_, ?_⟩
      · rw [E.out]
        exact SetAt.made (w := w) (by omega) rfl (Nat.le_refl _) hown hgr.size rfl
      · exact ((Below.refl _ _).grown hgr (Nat.le_refl _) (by intro k hk; simp at hk)).alloc hgr.size _
end Go.Proofs.Ytacggabopdoijaa
