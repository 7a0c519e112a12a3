/- The walks of From and of the law's own 'from'. -/
import Derived.Test.YtkghedllkigecaaRSeq
namespace Go.Proofs.Ytkghedllkigecaa
open Go.RowKit

theorem Try.eqSeq (c d : Value) (w : World) : (binOp .eql 50 (.func (.func 26) #[] #[c, d]) .nilFunc).run Try.prog w = .ok (.bool false) w := by rfl
set_option maxHeartbeats 400000 in
theorem seqOf_any (p : Option Addr) (z : Int) (w : World) :
    Calls Try.prog 19 #[.pointer p, .int .i64 z] w fun e w' => e = .returned (.func (.func 26) #[] #[.pointer (some ⟨w.heap.size, 0, none⟩), .pointer (some ⟨w.heap.size + 1, 0, none⟩)]) ∧
      (w.alloc (.cells #[.pointer p] 23)).alloc (.cells #[.int .i64 z] 3) = w' := by
  have hmf : ∀ (fn : Fn) (first cap : Array Value) (w : World), (Instr.makeFunc fn first cap).run Try.prog w = .ok (.func fn first cap) w := fun _ _ _ _ => rfl
  go_enter Try.func19, Try.ntmps19
  go_wp2
  go_ret
  exact ⟨rfl, rfl⟩
set_option maxHeartbeats 400000 in
theorem from_any {B : Nat} {p : Option Addr} {l : List KV} (z : Int) (hz : z ≤ 9223372036854775807) (most : Int) (w : World) (h : TreeP B w p l) :
    Calls Try.prog 6 #[.pointer p, .int .i64 z, .int .i64 most] w fun e w' => ∃ v, e = .returned (.tuple #[v, .bool true]) ∧
      w'.ownsRow w.heap.size 47 2 v (upTo most (frm l z)).length (kvv (upTo most (frm l z))) ∧ Below w.heap.size w w' := by
  have hmf : ∀ (fn : Fn) (first cap : Array Value) (w : World), (Instr.makeFunc fn first cap).run Try.prog w = .ok (.func fn first cap) w := fun _ _ _ _ => rfl
  have heq := Try.eqSeq
  go_enter Try.func6, Try.ntmps6
  go_wp2_with (first | (go_at_call 19; refine (seqOf_any _ _ _).mono ?_; rintro e w' ⟨rfl, rfl⟩) | fail)
  have hb3 : Below w.heap.size w ((((w.alloc (.cells #[.int .i64 most] 3)).alloc (.cells #[.pointer p] 23)).alloc (.cells #[.int .i64 z] 3)).alloc (.cells #[.slice none 0 0] 24)) :=
    ((((Below.refl _ w).alloc (Nat.le_refl _) _).alloc (by simp) _).alloc (by simp <;> omega) _).alloc (by simp <;> omega) _
  have hla : ((((w.alloc (.cells #[.int .i64 most] 3)).alloc (.cells #[.pointer p] 23)).alloc (.cells #[.int .i64 z] 3)).alloc (.cells #[.slice none 0 0] 24)).heap[w.heap.size + 1 + 1 + 1]? = some (.cells #[.slice none 0 0] 24 (0, 0)) := by
    have := heap_alloc_new (((w.alloc (.cells #[.int .i64 most] 3)).alloc (.cells #[.pointer p] 23)).alloc (.cells #[.int .i64 z] 3)) (.cells #[.slice none 0 0] 24)
    simpa using this
  refine (seq_any (B := B) (c := w.heap.size + 1 + 1 + 1) (cm := w.heap.size) (ct := w.heap.size + 1) (ck := w.heap.size + 1 + 1) (p := p) (l := l) z hz most _ (fun w' hw' => h.below (hb3.trans (hw'.mono (by omega)))) hla ?_ ?_ ?_ (by omega) (by omega)).mono ?_
  · refine cell_of_one (t := 3) ?_
    rw [Below.heap_alloc _ _ _ (by simp <;> omega), Below.heap_alloc _ _ _ (by simp <;> omega), Below.heap_alloc _ _ _ (by simp)]
    exact heap_alloc_new w _
  · refine cell_of_one (t := 23) ?_
    rw [Below.heap_alloc _ _ _ (by simp <;> omega), Below.heap_alloc _ _ _ (by simp)]
    have := heap_alloc_new (w.alloc (.cells #[.int .i64 most] 3)) (.cells #[.pointer p] 23)
    simpa using this
  · refine cell_of_one (t := 3) ?_
    rw [Below.heap_alloc _ _ _ (by simp)]
    have := heap_alloc_new ((w.alloc (.cells #[.int .i64 most] 3)).alloc (.cells #[.pointer p] 23)) (.cells #[.int .i64 z] 3)
    simpa using this
  rintro e w4 ⟨rfl, ⟨v, hv, hown⟩, hb4⟩
  have cV := cell_of_one hv
  go_wp2
  go_ret2
  exact ⟨v, rfl, rowMono hown (by omega), hb3.trans (hb4.mono (by omega))⟩
end Go.Proofs.Ytkghedllkigecaa
