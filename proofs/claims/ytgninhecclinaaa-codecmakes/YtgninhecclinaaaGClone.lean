/- The walk of bytes.Clone over bytes that a slice value reads: general. -/
import Derived.Test.YtgninhecclinaaaGBytes
namespace Go.Proofs.Ytgninhecclinaaa
open Go.RowKit

set_option maxHeartbeats 400000 in
theorem bclone_any {s : Nat} {v : Value} {b : List Nat} (w : World) (h : SrcAt w v s 1 (bv b)) (hs : s ≤ 8192) :
    Calls Try.prog 21 #[v] w fun e w' => ∃ v', e = .returned v' ∧ w'.ownsRow w.heap.size 5 1 v' s (bv b) ∧ Below w.heap.size w w' := by
  have hl := src_len h
  rcases h with ⟨rfl, rfl, h⟩ | ⟨ad, c, rfl, h2, h3⟩
  · obtain rfl : b = [] := List.eq_nil_of_length_eq_zero hl
    have heq := fun w => Go.Lib.run_eql_slice_nil (P := Try.prog) w 23 5 none 0 0 0 0 Try.underlying23
    go_enter Try.func21, Try.ntmps21
    go_wp2
    go_ret
    exact ⟨_, rfl, World.ownsRow_nil _ _ _ _, Below.refl _ _⟩
  · obtain ⟨i0, hi, hz0, hz1, hz2⟩ := info_parts Try.info5
    have HZL : Hid ((bv b).length = s * 1) := h2
    have HC : Hid (∀ j u, (bv b)[j]? = some u → ad.block < w.heap.size ∧ w.cell? (ad.add j) = some u) := h3
    have heq := fun w => Go.Lib.run_eql_slice_nil (P := Try.prog) w 23 5 (some ad) s c 0 0 Try.underlying23
    clear h2 h3 hl
    go_enter Try.func21, Try.ntmps21
    go_wp2_with (at_builtin; refine wpList_append_own _ rfl _ _ 23 rfl w.heap.size 5 i0 (.int .u8 0) 1 1 Try.underlying23 hi hz0 hz1 hz2 rfl (by decide) _ _ _ rfl (World.ownsRow_made w #[] 0 (Nat.le_refl _) (by unfold maxLen; omega) rfl) ad s c (bv b) rfl HZL.out ?c1 (bv_one _) ?c3 ?c4 ?c5 ?_)
    case c1 =>
      intro j u hj
      obtain ⟨h1, h2⟩ := HC.out j u hj
      rw [← h2]
      exact World.cell?_of_block (by rw [block_add]; exact Below.heap_alloc w _ _ h1)
    case c3 => unfold maxLen; omega
    case c4 => omega
    case c5 => simp
    intro v2 w2 own2 gr2 _
    have b2 : Below w.heap.size w w2 := ((Below.refl _ w).alloc (Nat.le_refl _) _).grown gr2 (by simp) (fun i hi => by simp [Value.ownBlock] at hi; omega)
    have own2' : w2.ownsRow w.heap.size 5 1 v2 s (bv b) := by simpa using own2
    clear own2 gr2
    go_wp2
    go_ret
    exact ⟨_, rfl, own2', b2⟩
end Go.Proofs.Ytgninhecclinaaa
