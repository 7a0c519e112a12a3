/- The walk of the law's lives. -/
import Derived.Test.YtlnkelhhemgibaaVDeeds
namespace Go.Proofs.Ytlnkelhhemgibaa
open Go.RowKit

theorem free_no : IsFree noT 1 := ⟨by omega, by omega, rfl, fun j h1 h2 => by omega⟩
theorem free_two {x : Pl} (hx : mayP x = true) : IsFree (putT noT ((1 : Nat) : Int) x) 2 := by
  refine ⟨by omega, by omega, putT_other x (by omega), fun j h1 h2 => ?_⟩
  obtain rfl : j = 1 := by omega
  rw [putT_same]
  exact may_used hx
theorem free_back {T : Int → Pl} : IsFree (putT T 1 zP) 1 := ⟨by omega, by omega, putT_same T 1 zP, fun j h1 h2 => by omega⟩
set_option maxHeartbeats 1000000 in
theorem lives_any (w : World) : Calls Try.prog 12 #[] w fun e w' => e = .returned (.bool true) ∧ Below w.heap.size w w' := by
  have HN : Hid _ := new_any w
  go_enter Try.func12, Try.ntmps12
  go_wp2_with fail
  refine Calls.mono HN.out ?_
  rintro e w1 ⟨rfl, h1, b1, hs1⟩
  obtain ⟨t, ht⟩ : ∃ t, w.heap.size = t := ⟨_, rfl⟩
  have HTW : Hid (w.heap.size = t) := ht
  rw [ht] at h1 hs1 b1 ⊢
  obtain ⟨W2, hW2⟩ : ∃ W2, W2 = w1.alloc (.cells #[.int .i64 0, .int .i64 0, .int .i64 1] 28) := ⟨_, rfl⟩
  have hx2 : W2.heap[w1.heap.size]? = some (.cells #[.int .i64 0, .int .i64 0, .int .i64 1] 28 (0, 0)) := by rw [hW2]; exact heap_alloc_new w1 _
  have hb2 : Below w1.heap.size w1 W2 := by rw [hW2]; exact (Below.refl _ w1).alloc (Nat.le_refl _) _
  have hs2 : W2.heap.size = w1.heap.size + 1 := by rw [hW2]; simp
  have hT2 : TabAt W2 t noT := h1.later hb2
  rw [hs1] at hx2
  obtain ⟨z0, z1, z2⟩ := cells_three hx2
  have HM : Hid _ := make_free 0 0 1 W2 hT2 (by decide) free_no
  have HX : Hid (W2.heap[t + 1]? = some (.cells #[.int .i64 0, .int .i64 0, .int .i64 1] 28 (0, 0))) := hx2
  have HB : Hid (Below t w W2) := b1.trans (hb2.mono (by omega))
  have HMA : Hid (mayP ⟨0, 0, 1⟩ = true) := by show _ = _; decide
  clear hx2 hb2 hT2 h1 b1 HN hs2
  go_upto_region 3 with (fail)
  rw [← hW2]
  clear hW2
  go_wp2_with fail
  refine Calls.mono HM.out ?_
  rintro e W3 ⟨he, hT, ht⟩
  have hx := (ht.block _ (by have := (Array.getElem?_eq_some_iff.1 HX.out).1; omega) (.inr (by omega))).trans HX.out
  have hb := HB.out.trans (ht.below (by have := HB.out.size; have := (Array.getElem?_eq_some_iff.1 HX.out).1; omega))
  obtain ⟨z0, z1, z2⟩ := cells_three hx
  have HX : Hid (W3.heap[t + 1]? = some (.cells #[.int .i64 0, .int .i64 0, .int .i64 1] 28 (0, 0))) := hx
  have HB : Hid (Below t w W3) := hb
  rw [show ((1 : Nat) : Int) = 1 from rfl] at he
  subst he
  clear hx hb ht
  have HM2 : Hid _ := make_free 0 0 1 W3 hT HMA.out (free_two HMA.out)
  clear hT HM
  go_wp2_with fail
  have HM : Hid _ := HM2.out
  clear HM2
  refine Calls.mono HM.out ?_
  rintro e W4 ⟨he, hT, ht⟩
  have hx := (ht.block _ (by have := (Array.getElem?_eq_some_iff.1 HX.out).1; omega) (.inr (by omega))).trans HX.out
  have hb := HB.out.trans (ht.below (by have := HB.out.size; have := (Array.getElem?_eq_some_iff.1 HX.out).1; omega))
  obtain ⟨z0, z1, z2⟩ := cells_three hx
  have HX : Hid (W4.heap[t + 1]? = some (.cells #[.int .i64 0, .int .i64 0, .int .i64 1] 28 (0, 0))) := hx
  have HB : Hid (Below t w W4) := hb
  rw [show ((2 : Nat) : Int) = 2 from rfl] at he
  subst he
  clear hx hb ht
  have HD : Hid _ := drop_any 1 W4 hT.p
  clear hT HM
  go_wp2_with fail
  refine Calls.mono HD.out ?_
  rintro e W5 ⟨rfl, hT, hw⟩
  have ht : Turns t (t + 1) W4 W5 := by
    rcases hw with ⟨_, hb⟩ | ⟨t2, e2, _, h⟩
    · exact Turns.of_below hb
    · cases e2
      exact h
  rcases hT with ⟨e2, _⟩ | ⟨t2, e2, hT⟩
  · cases e2
  · cases e2
    have hx := (ht.block _ (by have := (Array.getElem?_eq_some_iff.1 HX.out).1; omega) (.inr (by omega))).trans HX.out
    have hb := HB.out.trans (ht.below (by have := HB.out.size; have := (Array.getElem?_eq_some_iff.1 HX.out).1; omega))
    have HM : Hid _ := make_free 0 0 1 W5 hT HMA.out free_back
    obtain ⟨z0, z1, z2⟩ := cells_three hx
    have HX : Hid (W5.heap[t + 1]? = some (.cells #[.int .i64 0, .int .i64 0, .int .i64 1] 28 (0, 0))) := hx
    have HB : Hid (Below t w W5) := hb
    clear hx hb hT hw ht HD
    generalize gotV _ = g
    go_wp2_with fail
    refine Calls.mono HM.out ?_
    rintro e W6 ⟨he, hT, ht⟩
    have hx := (ht.block _ (by have := (Array.getElem?_eq_some_iff.1 HX.out).1; omega) (.inr (by omega))).trans HX.out
    have hb := HB.out.trans (ht.below (by have := HB.out.size; have := (Array.getElem?_eq_some_iff.1 HX.out).1; omega))
    obtain ⟨z0, z1, z2⟩ := cells_three hx
    have HX : Hid (W6.heap[t + 1]? = some (.cells #[.int .i64 0, .int .i64 0, .int .i64 1] 28 (0, 0))) := hx
    have HB : Hid (Below t w W6) := hb
    rw [show ((1 : Nat) : Int) = 1 from rfl] at he
    subst he
    clear hx hb ht
    clear hT HM
    go_wp2
    go_ret
    exact ⟨rfl, by rw [HTW.out]; exact HB.out⟩
end Go.Proofs.Ytlnkelhhemgibaa
