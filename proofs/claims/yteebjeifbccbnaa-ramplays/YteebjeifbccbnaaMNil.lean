/- A RAM that isn't there: the walks of its calls; and a step of RamPlays, whatever its kind. -/
import Derived.Test.YteebjeifbccbnaaMStepP
namespace Go.Proofs.Yteebjeifbccbnaa
open Go.RowKit

theorem ownI_nil (n : Int) : ownI [] n = 0 := by unfold ownI; split <;> simp
theorem touch_nil (r : Nat) (n a s : Int) (w : World) (c0 : w.cell? ⟨r, 0, none⟩ = some (.pointer none)) :
    Calls Try.prog 25 #[.pointer (some ⟨r, 0, none⟩), .int .i64 n, .int .i64 a, .int .i64 s] w fun e w' => e = .returned (.tuple #[.slice none 0 0, .bool false]) ∧ w = w' := by
  go_enter Try.func25, Try.ntmps25
  go_wp2_with (go_at_call 40; refine (owner_is _ _ (FramesP.nil 0 0 w) (ownI_nil n)).mono ?_; rintro e w' ⟨rfl, rfl⟩)
  go_ret2
  exact ⟨rfl, rfl⟩
theorem nil_c0 (w : World) : (w.alloc (.cells #[.pointer none, .slice none 0 0, .int .i64 0] 69)).cell? ⟨w.heap.size, 0, none⟩ = some (.pointer none) := by
  rw [cell_of_row _ w.heap.size 0 _ _ _ (heap_alloc_new w _)]; rfl
theorem nil_c2 (w : World) : (w.alloc (.cells #[.pointer none, .slice none 0 0, .int .i64 0] 69)).cell? ⟨w.heap.size, 2, none⟩ = some (.int .i64 0) := by
  rw [cell_of_row _ w.heap.size 2 _ _ _ (heap_alloc_new w _)]; rfl
theorem nil_below (w : World) : Below w.heap.size w (w.alloc (.cells #[.pointer none, .slice none 0 0, .int .i64 0] 69)) := (Below.refl _ w).alloc (Nat.le_refl _) _
theorem touchWord_nil (r : Nat) (n : Int) (w : World) (c0 : w.cell? ⟨r, 0, none⟩ = some (.pointer none)) :
    Calls Try.prog 27 #[.pointer (some ⟨r, 0, none⟩), .int .i64 n, .int .i64 0] w fun e w' => e = .returned (.tuple #[.slice none 0 0, .bool false]) ∧ w = w' := by
  have HC : Hid (w.cell? ⟨r, 0, none⟩ = some (.pointer none)) := c0
  clear c0
  go_enter Try.func27, Try.ntmps27
  go_wp2_with fail
  refine (touch_nil r n 0 8 w HC.out).mono ?_
  rintro e w' ⟨rfl, rfl⟩
  go_wp2
  go_ret2
  exact ⟨rfl, rfl⟩
set_option maxHeartbeats 400000 in
theorem nilRead (w : World) : Calls Try.prog 6 #[.pointer none, .int .i64 0, .int .i64 0, .int .i64 1] w fun e w' => e = .returned (.tuple #[.slice none 0 0, .bool false]) ∧ Below w.heap.size w w' := by
  go_enter Try.func6, Try.ntmps6
  go_wp2_with fail
  refine (own_nil _).mono ?_
  rintro e w1 ⟨rfl, he⟩
  have HC0 : Hid (w1.cell? ⟨w.heap.size, 0, none⟩ = some (.pointer none)) := by show _ = _; rw [he]; exact nil_c0 w
  have HC2 : Hid (w1.cell? ⟨w.heap.size, 2, none⟩ = some (.int .i64 0)) := by show _ = _; rw [he]; exact nil_c2 w
  have HB1 : Hid (Below w.heap.size w w1) := by rw [he]; exact nil_below w
  clear he
  go_wp2_with fail
  refine (touch_nil _ _ _ _ _ HC0.out).mono ?_
  rintro e w' ⟨rfl, rfl⟩
  go_wp2_with fail
  refine (clone_nil _).mono ?_
  rintro e w' ⟨rfl, rfl⟩
  go_wp2
  go_ret2
  exact ⟨rfl, HB1.out⟩
set_option maxHeartbeats 400000 in
theorem nilWord (w : World) : Calls Try.prog 7 #[.pointer none, .int .i64 0, .int .i64 0] w fun e w' => e = .returned (.tuple #[.int .u64 0, .bool false]) ∧ Below w.heap.size w w' := by
  go_enter Try.func7, Try.ntmps7
  go_wp2_with fail
  refine (own_nil _).mono ?_
  rintro e w1 ⟨rfl, he⟩
  have HC0 : Hid (w1.cell? ⟨w.heap.size, 0, none⟩ = some (.pointer none)) := by show _ = _; rw [he]; exact nil_c0 w
  have HC2 : Hid (w1.cell? ⟨w.heap.size, 2, none⟩ = some (.int .i64 0)) := by show _ = _; rw [he]; exact nil_c2 w
  have HB1 : Hid (Below w.heap.size w w1) := by rw [he]; exact nil_below w
  clear he
  go_wp2_with fail
  refine (touchWord_nil _ _ _ HC0.out).mono ?_
  rintro e w' ⟨rfl, rfl⟩
  go_wp2
  go_ret2
  exact ⟨rfl, HB1.out⟩
set_option maxHeartbeats 400000 in
theorem nilTake (w : World) : Calls Try.prog 8 #[.pointer none, .int .i64 1] w fun e w' => e = .returned (.tuple #[.int .i64 0, .bool false]) ∧ Below w.heap.size w w' := by
  go_enter Try.func8, Try.ntmps8
  go_wp2_with fail
  refine (own_nil _).mono ?_
  rintro e w1 ⟨rfl, he⟩
  have HC0 : Hid (w1.cell? ⟨w.heap.size, 0, none⟩ = some (.pointer none)) := by show _ = _; rw [he]; exact nil_c0 w
  have HC2 : Hid (w1.cell? ⟨w.heap.size, 2, none⟩ = some (.int .i64 0)) := by show _ = _; rw [he]; exact nil_c2 w
  have HB1 : Hid (Below w.heap.size w w1) := by rw [he]; exact nil_below w
  clear he
  have c0 := HC0.out
  go_wp2_with fail
  refine (take_any 1 _ (FramesP.nil 0 0 w1) (by omega)).mono ?_
  rintro e w2 ⟨rfl, _, t2⟩
  rw [show tkB [] 1 = false by decide, show tkN [] 1 = 0 by decide]
  have HB2 : Hid (Below w.heap.size w w2) := HB1.out.trans ⟨t2.os, t2.tape, t2.output, t2.size, fun k hk => t2.block k (Nat.lt_of_lt_of_le hk HB1.out.size) (.inr (Nat.zero_le _))⟩
  clear t2 c0
  go_wp2
  go_ret2
  exact ⟨rfl, HB2.out⟩
set_option maxHeartbeats 400000 in
theorem nilWrite (w : World) : Calls Try.prog 9 #[.pointer none, .int .i64 0, .int .i64 0, .slice none 0 0] w fun e w' => e = .returned (.bool false) ∧ Below w.heap.size w w' := by
  have hcg := fun (w : World) (ty : TypeId) => copy_gone (w := w) (a := none) (L := 0) (c := 0) ty
  go_enter Try.func9, Try.ntmps9
  go_wp2_with fail
  refine (own_nil _).mono ?_
  rintro e w1 ⟨rfl, he⟩
  have HC0 : Hid (w1.cell? ⟨w.heap.size, 0, none⟩ = some (.pointer none)) := by show _ = _; rw [he]; exact nil_c0 w
  have HC2 : Hid (w1.cell? ⟨w.heap.size, 2, none⟩ = some (.int .i64 0)) := by show _ = _; rw [he]; exact nil_c2 w
  have HB1 : Hid (Below w.heap.size w w1) := by rw [he]; exact nil_below w
  clear he
  go_wp2_with fail
  refine (touch_nil _ _ _ _ _ HC0.out).mono ?_
  rintro e w' ⟨rfl, rfl⟩
  go_wp2
  go_ret
  exact ⟨rfl, HB1.out⟩
set_option maxHeartbeats 400000 in
theorem nilSet (w : World) : Calls Try.prog 10 #[.pointer none, .int .i64 0, .int .i64 0, .int .u64 1] w fun e w' => e = .returned (.bool false) ∧ Below w.heap.size w w' := by
  have hcg := fun (w : World) (a : Option Addr) (L c : Nat) (ty : TypeId) => copy_gone (w := w) (a := a) (L := L) (c := c) ty
  go_enter Try.func10, Try.ntmps10
  go_wp2_with fail
  refine (own_nil _).mono ?_
  rintro e w1 ⟨rfl, he⟩
  have HC0 : Hid (w1.cell? ⟨w.heap.size, 0, none⟩ = some (.pointer none)) := by show _ = _; rw [he]; exact nil_c0 w
  have HC2 : Hid (w1.cell? ⟨w.heap.size, 2, none⟩ = some (.int .i64 0)) := by show _ = _; rw [he]; exact nil_c2 w
  have HB1 : Hid (Below w.heap.size w w1) := by rw [he]; exact nil_below w
  clear he
  go_wp2_with fail
  refine (touchWord_nil _ _ _ HC0.out).mono ?_
  rintro e w' ⟨rfl, rfl⟩
  go_wp2_with fail
  refine (put_any 8 1 1 8 rfl _ [1] _ (by omega) (by omega) rfl ?_).mono ?_
  · refine .inr ⟨w1.heap.size, 0, rfl, by simp, ?_⟩
    intro j hj
    match j, hj with
    | 0, _ => simp
  rintro e w2 ⟨rfl, own2, b2⟩
  have HB3 : Hid (Below w.heap.size w w2) := HB1.out.trans ((((Below.refl _ w1).alloc (Nat.le_refl _) _).trans (b2.mono (by simp))).mono HB1.out.size)
  clear own2 b2
  go_wp2
  go_ret
  exact ⟨rfl, HB3.out⟩
theorem nilTouches (w : World) : Calls Try.prog 11 #[.pointer none] w fun e w' => e = .returned (.int .i64 0) ∧ Below w.heap.size w w' := by
  go_enter Try.func11, Try.ntmps11
  go_wp2_with fail
  refine (own_nil _).mono ?_
  rintro e w1 ⟨rfl, he⟩
  have HC0 : Hid (w1.cell? ⟨w.heap.size, 0, none⟩ = some (.pointer none)) := by show _ = _; rw [he]; exact nil_c0 w
  have HC2 : Hid (w1.cell? ⟨w.heap.size, 2, none⟩ = some (.int .i64 0)) := by show _ = _; rw [he]; exact nil_c2 w
  have HB1 : Hid (Below w.heap.size w w1) := by rw [he]; exact nil_below w
  clear he
  have c2 := HC2.out
  go_wp2
  go_ret
  exact ⟨rfl, HB1.out⟩

theorem step_any {B E C r now m t x : Nat} {vO vW vL : Value} {O W : List Int} {S P : List Nat} {L : List Wt} (d : Dd) (w0 w : World) (h : Both B E C w r vO vW vL now m t x O S P W L) (hd : DeedOk w0 d) (hw0 : Below w0.heap.size w0 w) (hB : w0.heap.size ≤ B) (ht : t < 1000) (hx : x < 1000000) (hnow : now < 1000) (hL : L.length ≤ 1000) :
    Calls Try.prog 16 #[.pointer (some ⟨r, 0, none⟩), .agg #[vO, vW, .int .i64 (now : Int), vL], .agg #[.int .i64 d.K, .int .i64 d.N, .int .i64 d.A, .int .i64 d.Z, .int .u64 (d.V : Int), .slice d.p d.l d.c]] w (Stepped B E C w r m t x now L.length) := by
  by_cases h0 : d.K = 0
  · exact step_take d w h h0 ht hL
  by_cases h1 : d.K = 1
  · exact step_give d w h h1 ht hnow
  by_cases h2 : d.K = 2
  · exact step_write d w0 w h hd hw0 hB h2 hx hL
  by_cases h3 : d.K = 3
  · exact step_read d w h hd.z.2 hd.z.1 h3 hx hL
  by_cases h4 : d.K = 4
  · exact step_set d w h hd.v h4 hx hL
  exact step_word d w h (by omega) hx hL
end Go.Proofs.Yteebjeifbccbnaa
