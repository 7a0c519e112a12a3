/- The walks of token.put and of the document's Put: a token's bytes. -/
import Derived.Test.YtgninhecclinaaaKMay
namespace Go.Proofs.Ytgninhecclinaaa
open Go.RowKit

/-- One byte that was just laid. -/
theorem src_one (w : World) (g x : Nat) (X : Int) (hg : g = w.heap.size) (hX : X = x) (t : TypeId) : SrcAt (w.alloc (.cells #[.int .u8 X] t)) (.slice (some ⟨g, 0, none⟩) 1 1) 1 1 (bv [x]) := by
  subst hg hX
  refine .inr ⟨_, _, rfl, rfl, fun j u hj => ⟨by simp, ?_⟩⟩
  rw [add_lit', Nat.zero_add, cell_of_row _ w.heap.size j _ _ _ (heap_alloc_new w _)]
  simpa [bv] using hj
/-- num.Put(2, n), its one number in a new block. -/
theorem put_two (n : Nat) (w : World) :
    Calls Try.prog 20 #[.int .i64 2, .slice (some ⟨w.heap.size, 0, none⟩) 1 1] (w.alloc (.cells #[.int .u64 (n : Int)] 52)) fun e w' => e = .returned (.slice (some ⟨w.heap.size + 1, 0, none⟩) 2 2) ∧
      w'.ownsRow (w.heap.size + 1) 5 1 (.slice (some ⟨w.heap.size + 1, 0, none⟩) 2 2) 2 (bv (putN 2 n)) ∧ Below w.heap.size w w' := by
  refine (put_any 2 1 1 _ rfl _ [n] _ (by omega) (by omega) rfl ?_).mono ?_
  · refine .inr ⟨w.heap.size, 0, rfl, by simp, fun i hi => ?_⟩
    obtain rfl : i = 0 := by simpa using hi
    rw [cell_of_row _ w.heap.size 0 _ _ _ (heap_alloc_new w _)]
    rfl
  have e1 : (w.alloc (.cells #[.int .u64 (n : Int)] 52)).heap.size = w.heap.size + 1 := by simp
  have e2 : putAll 2 [n] = putN 2 n := by simp [putAll]
  rw [e1, e2]
  rintro e w1 ⟨rfl, own1, b1⟩
  exact ⟨rfl, own1, ((Below.refl _ w).alloc (Nat.le_refl _) _).trans (b1.mono (by omega))⟩
theorem putN_two {n : Nat} (h : n ≤ 4095) : putN 2 n = [n % 256, n / 256] := by
  simp [putN, List.range_succ]
  omega

set_option maxHeartbeats 1000000 in
theorem tput_any {B m : Nat} {v : Value} {xs : List Nat} {p : Option Addr} {l c : Nat} {b : List Nat} {n d : Int} (w : World) (hown : w.ownsRow B 5 1 v m (bv xs)) (hB : B ≤ w.heap.size) (hm : m ≤ 100000)
    (hs : ∀ w', Below B w w' → ByAt w' p l c b) (hmay : mayT l n d = true) :
    Calls Try.prog 29 #[v, .agg #[.slice p l c, .int .i64 n, .int .i64 d]] w fun e w' => ∃ v', e = .returned v' ∧ w'.ownsRow B 5 1 v' (m + (tokB b n d).length) (bv (xs ++ tokB b n d)) ∧ Below B w w' := by
  obtain ⟨i0, hi, hz0, hz1, hz2⟩ := info_parts Try.info5
  have hbl : b.length = l := (hs w (Below.refl _ _)).len
  obtain ⟨av, cv, rfl⟩ := row_slice hown
  have HS : Hid (∀ w', Below B w w' → ByAt w' p l c b) := hs
  have HO : Hid (w.ownsRow B 5 1 (.slice av m cv) m (bv xs)) := hown
  have hlt := hown.lt
  have HW : Hid (B ≤ w.heap.size) := hB
  rcases may_ways hmay with ⟨h0, h1, rfl, rfl⟩ | ⟨rfl, N, D, rfl, rfl, h1, h2, h3, h4⟩
  · have i0' : (0 : Int) < (l : Int) := by omega
    have HE : Hid (tokB b 0 0 = (l - 1) :: b) := by show _ = _; rw [tok_lit (by omega), hbl]
    have HL : Hid (b.length = l) := hbl
    clear hs hmay hown hbl
    go_enter Try.func29, Try.ntmps29
    go_wp2_with (at_builtin; refine wpList_append_src rfl _ _ 23 rfl B 5 i0 (.int .u8 0) 1 1 Try.underlying23 hi hz0 hz1 hz2 rfl (by decide) _ m (bv xs) rfl ((HO.out.alloc _).alloc _) _ 1 (bv [l - 1]) rfl (src_one _ _ (l - 1) _ (by simp) (by omega) _) (bv_one _) ?x1 ?x2 ?x3 ?_)
    case x1 => unfold maxLen; omega
    case x2 => omega
    case x3 => simp; omega
    intro v2 w2 own2 gr2
    have hb2 : Below B w w2 := (((Below.refl _ w).mono HW.out |>.alloc HW.out _).alloc (by simp; omega) _).grown gr2 (by simp; omega) (fun i hi => (hlt i hi).1)
    have c0 : w2.cell? ⟨w.heap.size, 0, none⟩ = some (.slice p l c) := by
      refine gr2.cell ?_ ?_
      · rw [World.cell?_of_block (Below.heap_alloc _ _ _ (by simp)), cell_of_row _ w.heap.size 0 _ _ _ (heap_alloc_new w _)]
        rfl
      · intro e
        have := (hlt _ e.symm).2
        simp at this
    have HO2 : Hid (w2.ownsRow B 5 1 v2 (m + 1) (bv (xs ++ [l - 1]))) := by show World.ownsRow _ _ _ _ _ _ _; rw [bv_append]; exact own2
    have HB2 : Hid (Below B w w2) := hb2
    have HS2 : Hid (ByAt w2 p l c b) := HS.out _ hb2
    have HH : Hid (B ≤ w2.heap.size) := Nat.le_trans HW.out hb2.size
    obtain ⟨a2, cv2, rfl⟩ := row_slice own2
    clear own2 gr2 hb2 HS HO hlt
    go_wp2_with (at_builtin; refine wpList_append_src rfl _ _ 23 rfl B 5 i0 (.int .u8 0) 1 1 Try.underlying23 hi hz0 hz1 hz2 rfl (by decide) _ (m + 1) (bv (xs ++ [l - 1])) rfl HO2.out _ l (bv b) rfl HS2.out.src (bv_one _) ?y1 ?y2 HH.out ?_)
    case y1 => unfold maxLen; omega
    case y2 => omega
    intro v3 w3 own3 gr3
    have hb3 : Below B w w3 := HB2.out.grown gr3 HH.out (fun i hi => (HO2.out.lt i hi).1)
    have HO3 : Hid (w3.ownsRow B 5 1 v3 (m + (tokB b 0 0).length) (bv (xs ++ tokB b 0 0))) := by
      rw [← bv_append] at own3
      rw [HE.out, List.length_cons, HL.out]
      have e : xs ++ (l - 1) :: b = xs ++ [l - 1] ++ b := by simp
      rw [e, show m + (l + 1) = m + 1 + l by omega]
      exact own3
    have HB3 : Hid (Below B w w3) := hb3
    clear own3 gr3 hb3
    go_wp2
    go_ret
    exact ⟨_, rfl, HO3.out, HB3.out⟩
  · have HE : Hid (tokB b (N : Int) (D : Int) = [125 + N] ++ putN 2 D) := by
      show _ = _
      obtain rfl : b = [] := List.eq_nil_of_length_eq_zero hbl
      rw [tok_copy, putN_two h4]
      rfl
    have hw8 : IntKind.u8.wrap (125 + (N : Int)) = 125 + (N : Int) := by rw [IntKind.wrap_u8']; omega
    clear hs hmay hown hbl HS
    go_enter Try.func29, Try.ntmps29
    go_wp2_with (at_builtin; refine wpList_append_src rfl _ _ 23 rfl B 5 i0 (.int .u8 0) 1 1 Try.underlying23 hi hz0 hz1 hz2 rfl (by decide) _ m (bv xs) rfl ((HO.out.alloc _).alloc _) _ 1 (bv [125 + N]) rfl (src_one _ _ (125 + N) _ (by simp) (by omega) _) (bv_one _) ?x1 ?x2 ?x3 ?_)
    case x1 => unfold maxLen; omega
    case x2 => omega
    case x3 => simp; omega
    intro v2 w2 own2 gr2
    have hb2 : Below B w w2 := (((Below.refl _ w).mono HW.out |>.alloc HW.out _).alloc (by simp; omega) _).grown gr2 (by simp; omega) (fun i hi => (hlt i hi).1)
    have c2 : w2.cell? ⟨w.heap.size, 2, none⟩ = some (.int .i64 (D : Int)) := by
      refine gr2.cell ?_ ?_
      · rw [World.cell?_of_block (Below.heap_alloc _ _ _ (by simp)), cell_of_row _ w.heap.size 2 _ _ _ (heap_alloc_new w _)]
        rfl
      · intro e
        have := (hlt _ e.symm).2
        simp at this
    have HO2 : Hid (w2.ownsRow B 5 1 v2 (m + 1) (bv (xs ++ [125 + N]))) := by show World.ownsRow _ _ _ _ _ _ _; rw [bv_append]; exact own2
    have HB2 : Hid (Below B w w2) := hb2
    have HH : Hid (B ≤ w2.heap.size) := Nat.le_trans HW.out hb2.size
    obtain ⟨a2, cv2, rfl⟩ := row_slice own2
    clear own2 gr2 hb2 HO
    go_wp2_with fail
    refine (put_two D w2).mono ?_
    rintro e w3 ⟨rfl, own3, b3⟩
    have HO3 : Hid (w3.ownsRow B 5 1 (.slice a2 (m + 1) cv2) (m + 1) (bv (xs ++ [125 + N]))) := row_below HO2.out b3
    have HX3 : Hid (SrcAt w3 (.slice (some ⟨w2.heap.size + 1, 0, none⟩) 2 2) 2 1 (bv (putN 2 D))) := src_row own3
    have HB3 : Hid (Below B w w3) := HB2.out.trans (b3.mono HH.out)
    have HH3 : Hid (B ≤ w3.heap.size) := Nat.le_trans HH.out b3.size
    clear own3 b3 HO2 HB2
    go_wp2_with (at_builtin; refine wpList_append_src rfl _ _ 23 rfl B 5 i0 (.int .u8 0) 1 1 Try.underlying23 hi hz0 hz1 hz2 rfl (by decide) _ (m + 1) (bv (xs ++ [125 + N])) rfl HO3.out _ 2 (bv (putN 2 D)) rfl HX3.out (bv_one _) ?y1 ?y2 HH3.out ?_)
    case y1 => unfold maxLen; omega
    case y2 => omega
    intro v4 w4 own4 gr4
    have hb4 : Below B w w4 := HB3.out.grown gr4 HH3.out (fun i hi => (HO3.out.lt i hi).1)
    have HO4 : Hid (w4.ownsRow B 5 1 v4 (m + (tokB b (N : Int) (D : Int)).length) (bv (xs ++ tokB b (N : Int) (D : Int)))) := by
      rw [← bv_append] at own4
      rw [HE.out, List.length_append, length_putN, ← List.append_assoc]
      exact own4
    have HB4 : Hid (Below B w w4) := hb4
    clear own4 gr4 hb4
    go_wp2
    go_ret
    exact ⟨_, rfl, HO4.out, HB4.out⟩
end Go.Proofs.Ytgninhecclinaaa
