/- The walks of zspage.isObject, isPart and pieceAt. -/
import Derived.Test.YtepbfedmnibifaaZPlain
namespace Go.Proofs.Ytepbfedmnibifaa
open Go.RowKit

theorem obj_yes (S N : Int) (w : World) (h : ObjZ S N) : Calls Try.prog 12 #[.int .i64 S, .int .i64 N] w fun e w' => e = .returned (.bool true) ∧ w = w' := by
  obtain ⟨h1, h2, h3, h4, h5⟩ := h
  go_enter Try.func12, Try.ntmps12
  go_wp2
  go_ret
  exact ⟨rfl, rfl⟩
theorem obj_no (S N : Int) (w : World) (h : ¬ ObjZ S N) : Calls Try.prog 12 #[.int .i64 S, .int .i64 N] w fun e w' => e = .returned (.bool false) ∧ w = w' := by
  unfold ObjZ at h
  by_cases h1 : 64 ≤ S
  · by_cases h2 : S ≤ 4096
    · by_cases h3 : S % 64 = 0
      · by_cases h4 : 0 ≤ N
        · have h5 : ¬ N ≤ 255 := by omega
          clear h
          go_enter Try.func12, Try.ntmps12
          go_wp2
          go_ret
          exact ⟨rfl, rfl⟩
        · clear h
          go_enter Try.func12, Try.ntmps12
          go_wp2
          go_ret
          exact ⟨rfl, rfl⟩
      · clear h
        go_enter Try.func12, Try.ntmps12
        go_wp2
        go_ret
        exact ⟨rfl, rfl⟩
    · clear h
      go_enter Try.func12, Try.ntmps12
      go_wp2
      go_ret
      exact ⟨rfl, rfl⟩
  · clear h
    go_enter Try.func12, Try.ntmps12
    go_wp2
    go_ret
    exact ⟨rfl, rfl⟩
theorem part_yes (S F M : Int) (w : World) (hS : 64 ≤ S) (hS2 : S ≤ 4096) (h1 : 0 ≤ F) (h2 : 0 ≤ M) (h3 : F + M ≤ S) : Calls Try.prog 13 #[.int .i64 S, .int .i64 F, .int .i64 M] w fun e w' => e = .returned (.bool true) ∧ w = w' := by
  go_enter Try.func13, Try.ntmps13
  go_wp2
  go_ret
  exact ⟨retBool (decide_eq_true (by omega)), rfl⟩
theorem part_no (S F M : Int) (w : World) (hS : 64 ≤ S) (hS2 : S ≤ 4096) (hF : F < 9223372036854775808) (h : ¬ (0 ≤ F ∧ 0 ≤ M ∧ F + M ≤ S)) : Calls Try.prog 13 #[.int .i64 S, .int .i64 F, .int .i64 M] w fun e w' => e = .returned (.bool false) ∧ w = w' := by
  by_cases h1 : 0 ≤ F
  · by_cases h2 : 0 ≤ M
    · have h3 : ¬ M ≤ S - F := by omega
      clear h
      go_enter Try.func13, Try.ntmps13
      go_wp2
      go_ret
      exact ⟨rfl, rfl⟩
    · clear h
      go_enter Try.func13, Try.ntmps13
      go_wp2
      go_ret
      exact ⟨rfl, rfl⟩
  · clear h
    go_enter Try.func13, Try.ntmps13
    go_wp2
    go_ret
    exact ⟨rfl, rfl⟩
theorem Try.sizePz : (Try.prog.info? 29).map (·.size) = some 3 := by kernel_rfl
theorem Try.undPz : (match Try.prog.underlying 29 with | some (.struct _) => true | _ => false) = true := by kernel_rfl
theorem pieceAt_any (s e : Nat) (w : World) (h : s < e) (he : e ≤ 1048576) : Calls Try.prog 14 #[.int .i64 (s : Nat), .int .i64 (e : Nat)] w fun e' w' =>
    e' = .returned (.agg (pzC (pzAt s e)).toArray) ∧ w' = w.alloc (.cells (pzC (pzAt s e)).toArray 29) := by
  have hmin : ∀ (ts : Array TypeId) (t : TypeId) (w : World), (Builtin.min_ ts t #[.int .i64 ((e : Int) - (s : Int)), .int .i64 (4096 - (s : Int) % 4096)]).run Try.prog w = .ok (.int .i64 (pzL s e : Nat)) w := by
    intro ts t w
    rw [run_min_int2]
    congr 2
    unfold pzL
    split <;> omega
  have H : Hid (pzC (pzAt s e) = [.int .i64 ((s : Int) / 4096), .int .i64 ((s : Int) % 4096), .int .i64 (pzL s e : Nat)]) := by
    show [Value.int .i64 ((s / 4096 : Nat) : Int), .int .i64 ((s % 4096 : Nat) : Int), .int .i64 (pzL s e : Nat)] = _
    rw [Int.natCast_ediv, Int.natCast_emod]
    rfl
  rw [H.out]
  clear H
  go_enter Try.func14, Try.ntmps14
  go_wp2
  exact bodyPost_ret (results_cell_row Try.results14 _ _ w.heap.size _ _ _ _ rfl (heap_alloc_new _ _) Try.underlying29 rfl Try.sizePz) rfl ⟨rfl, rfl⟩
end Go.Proofs.Ytepbfedmnibifaa
