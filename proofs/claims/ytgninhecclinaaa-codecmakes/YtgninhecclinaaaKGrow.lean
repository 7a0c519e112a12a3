/- The walks of token.Grow and of the document's Grow. -/
import Derived.Test.YtgninhecclinaaaKPut
import Derived.Deep.LoopGhost
namespace Go.Proofs.Ytgninhecclinaaa
open Go.RowKit

/-- Bytes under way, beside the token that was handed in. -/
structure Grows (w wr : World) (fb : Nat) (X : Array Value) (t : TypeId) (v : Value) (m : Nat) (q : List Nat) : Prop where
  own : wr.ownsRow (fb + 1) 5 1 v m (bv q)
  box : wr.heap[fb]? = some (.cells X t (0, 0))
  bel : Below fb w wr
theorem Grows.step {w wr wa w2 : World} {fb m k : Nat} {X : Array Value} {t : TypeId} {v v2 : Value} {q x : List Nat} (h : Grows w wr fb X t v m q) (ha : Below wr.heap.size wr wa) (hg : wa.grownBy w2 v.ownBlock) (hq : w2.ownsRow (fb + 1) 5 1 v2 k (bv q ++ bv x)) : Grows w w2 fb X t v2 k (q ++ x) := by
  have hlt : fb < wr.heap.size := (Array.getElem?_eq_some_iff.1 h.box).1
  refine ⟨by rw [bv_append]; exact hq, ?_, ?_⟩
  · have e := (ha.block fb hlt).trans h.box
    rw [← e]
    refine hg.block fb (Nat.lt_of_lt_of_le hlt ha.size) fun e2 => ?_
    have := (h.own.lt _ e2.symm).1
    omega
  · exact (h.bel.trans (ha.mono (Nat.le_of_lt hlt))).grown hg (by have := ha.size; omega) (fun i hi => by have := (h.own.lt i hi).1; omega)
theorem reach_step {s : List Nat} {d k m : Nat} (hm : m = s.length + k) : reach s d (k + 1) = reach s d k ++ [(reach s d k).getD (m - d) 0] := by rw [reach, hm]

set_option maxRecDepth 100000 in
set_option maxHeartbeats 1000000 in
theorem grow_any {p1 p : Option Addr} {L c1 l c : Nat} {s b : List Nat} {n d : Int} (w : World) (h1 : ByAt w p1 L c1 s) (h2 : ByAt w p l c b) (hL : L ≤ 100000) :
    Calls Try.prog 56 #[.slice p1 L c1, .agg #[.slice p l c, .int .i64 n, .int .i64 d]] w fun e w' => ∃ v, e = .returned (.tuple #[v, .int .i64 (growE s b n d : Nat)]) ∧ w'.ownsRow w.heap.size 5 1 v (growA s b n d).length (bv (growA s b n d)) ∧ Below w.heap.size w w' := by
  obtain ⟨i0, hi, hz0, hz1, hz2⟩ := info_parts Try.info5
  have hsl := h1.len
  have hbl := h2.len
  have hl := h2.short
  cases hm : mayT l n d with
  | false =>
    obtain ⟨e1, e2⟩ := grow_arg (s := s) (b := b) (n := n) (d := d) (by rw [hbl]; exact hm)
    rw [e1, e2]
    have HM : Hid (mayT l n d = false) := hm
    clear e1 e2 hm h1 h2 hsl hbl
    go_enter Try.func56, Try.ntmps56
    go_wp2_with fail
    refine (may_is _ hl HM.out).mono ?_
    rintro e w2 ⟨rfl, b2⟩
    have HB2 : Hid (Below w.heap.size w w2) := (three_new b2).2
    clear b2
    go_wp2
    go_ret2
    exact ⟨_, rfl, World.ownsRow_nil _ _ _ _, HB2.out⟩
  | true =>
    have HM : Hid (mayT l n d = true) := hm
    by_cases hd : d ≤ (L : Int)
    · obtain ⟨e1, e2⟩ := grow_fine (s := s) (b := b) (n := n) (d := d) (by rw [hbl]; exact hm) (by rw [hsl]; exact hd)
      rw [e1, e2]
      obtain ⟨N, D, rfl, rfl, hw⟩ : ∃ N D : Nat, n = N ∧ d = D ∧ ((N = 0 ∧ l ≤ 128) ∨ (l = 0 ∧ N ≤ 130 ∧ 1 ≤ D)) := by
        rcases may_ways hm with ⟨_, h3, rfl, rfl⟩ | ⟨h3, N, D, rfl, rfl, h4⟩
        · exact ⟨0, 0, rfl, rfl, .inl ⟨rfl, h3⟩⟩
        · exact ⟨N, D, rfl, rfl, .inr (by omega)⟩
      have HE : Hid (growB s b (N : Int) (D : Int) = reach (s ++ b) D N) := rfl
      have HSI : Hid (sizeT l (N : Int) (D : Int) = l + N) := sizeT_yes hm
      have HS : Hid (∀ wr, Below w.heap.size w wr → SrcAt wr (.slice p1 L c1) L 1 (bv s)) := fun wr hb => (h1.later hb).src
      have HT : Hid (∀ wr, Below w.heap.size w wr → SrcAt wr (.slice p l c) l 1 (bv b)) := fun wr hb => (h2.later hb).src
      have HL : Hid (s.length = L ∧ b.length = l) := ⟨hsl, hbl⟩
      have hdL : (D : Int) ≤ (L : Int) := hd
      have hlN : l + N ≤ 258 := by omega
      clear e1 e2 hm h1 h2 hsl hbl hd
      go_enter Try.func56, Try.ntmps56
      go_wp2_with fail
      refine (may_is _ hl HM.out).mono ?_
      rintro e w2 ⟨rfl, b2⟩
      obtain ⟨hx2, hb2⟩ := three_new b2
      have HX2 : Hid _ := hx2
      have HB2 : Hid (Below w.heap.size w w2) := hb2
      obtain ⟨d0, d1, d2⟩ := three_cells hx2
      clear b2 hb2 hx2
      generalize hfb : w.heap.size = fb at *
      have HFB : Hid (w.heap.size = fb) := hfb
      clear hfb
      go_wp2_with fail
      refine (size_is _ hl HSI.out).mono ?_
      rintro e w3 ⟨rfl, b3⟩
      have hx3 := (b3.block fb (Array.getElem?_eq_some_iff.1 HX2.out).1).trans HX2.out
      have HX3 : Hid _ := hx3
      have HB3 : Hid (Below fb w w3) := HB2.out.trans (b3.mono (Nat.le_of_lt (Array.getElem?_eq_some_iff.1 HX2.out).1))
      clear d0 d1 d2 b3 HX2 HB2
      have hw3 : fb + 1 ≤ w3.heap.size := (Array.getElem?_eq_some_iff.1 hx3).1
      have HW3 : Hid (fb + 1 ≤ w3.heap.size) := hw3
      clear hx3 hw3
      go_wp2_with (at_make; refine wpList_make_own _ rfl _ _ 23 rfl (fb + 1) 5 i0 (.int .u8 0) 1 Try.underlying23 hi hz0 hz1 .i64 .i64 _ (L + (l + N)) rfl rfl ?m0 ?m1 ?m2 HW3.out ?_)
      case m0 => omega
      case m1 => rw [hz2]; omega
      case m2 => unfold maxLen; omega
      intro w4 own4 gr4
      have hb4 : Below w3.heap.size w3 w4 := (Below.refl _ _).grown gr4 (Nat.le_refl _) (fun i hi => by simp at hi)
      have HG4 : Hid (Grows w w4 fb #[.slice p l c, .int .i64 (N : Int), .int .i64 (D : Int)] 48 (.slice (some ⟨w3.heap.size, 0, none⟩) 0 (L + (l + N))) 0 []) :=
        ⟨own4, (hb4.block fb HW3.out).trans HX3.out, HB3.out.trans (hb4.mono (Nat.le_of_lt HW3.out))⟩
      clear own4 gr4 hb4 HX3 HB3 HW3
      go_wp2_with (at_builtin; refine wpList_append_src rfl _ _ 23 rfl (fb + 1) 5 i0 (.int .u8 0) 1 1 Try.underlying23 hi hz0 hz1 hz2 rfl (by decide) _ 0 (bv []) rfl HG4.out.own _ L (bv s) rfl (HS.out _ HG4.out.bel) (bv_one _) ?y1 ?y2 (Array.getElem?_eq_some_iff.1 HG4.out.box).1 ?_)
      case y1 => unfold maxLen; omega
      case y2 => omega
      intro v5 w5 own5 gr5
      have HG5 : Hid (Grows w w5 fb #[.slice p l c, .int .i64 (N : Int), .int .i64 (D : Int)] 48 v5 L s) := by
        have := HG4.out.step (Below.refl _ _) gr5 (x := s) own5
        rwa [List.nil_append] at this
      obtain ⟨a5, c5, rfl⟩ := row_slice HG5.out.own
      obtain ⟨d0, d1, d2⟩ := three_cells HG5.out.box
      clear own5 gr5 HG4
      go_wp2_with (at_builtin; refine wpList_append_src rfl _ _ 23 rfl (fb + 1) 5 i0 (.int .u8 0) 1 1 Try.underlying23 hi hz0 hz1 hz2 rfl (by decide) _ L (bv s) rfl HG5.out.own _ l (bv b) rfl (HT.out _ HG5.out.bel) (bv_one _) ?z1 ?z2 (Array.getElem?_eq_some_iff.1 HG5.out.box).1 ?_)
      case z1 => unfold maxLen; omega
      case z2 => omega
      intro v6 w6 own6 gr6
      have HG6 : Hid (Grows w w6 fb #[.slice p l c, .int .i64 (N : Int), .int .i64 (D : Int)] 48 v6 (L + l) (s ++ b)) := HG5.out.step (Below.refl _ _) gr6 own6
      clear own6 gr6 HG5 d0 d1 d2
      obtain ⟨d0, d1, d2⟩ := three_cells HG6.out.box
      go_wp2
      go_loopg [6, 30] N (fun gk v i wr => ∃ (k : Nat), k ≤ N ∧ gk = N - k ∧ i = .int .i64 k ∧ Grows w wr fb #[.slice p l c, .int .i64 (N : Int), .int .i64 (D : Int)] 48 v (L + l + k) (reach (s ++ b) D k))
      case atStart => exact ⟨0, Nat.zero_le _, rfl, rfl, HG6.out⟩
      case round =>
        obtain ⟨k, hk, rfl, rfl, hG⟩ := hrel
        obtain ⟨av, cv, rfl⟩ := row_slice hG.own
        have HG : Hid (Grows w wr fb #[.slice p l c, .int .i64 (N : Int), .int .i64 (D : Int)] 48 (.slice av (L + l + k) cv) (L + l + k) (reach (s ++ b) D k)) := hG
        clear hG HG6 d0 d1 d2
        by_cases hlt : k < N
        · have i1 : (k : Int) < (N : Int) := by omega
          obtain ⟨d0, d1, d2⟩ := three_cells HG.out.box
          have hD1 : 1 ≤ D := by omega
          obtain ⟨g, rfl, hc, _, _, _⟩ := row_at HG.out.own (i := L + l + k - D) (by omega)
          have hrl : (reach (s ++ b) D k).length = L + l + k := by rw [reach_len, List.length_append, HL.out.1, HL.out.2]
          rw [bv_at _ _ (by rw [hrl]; omega)] at hc
          have HR : Hid (reach (s ++ b) D (k + 1) = reach (s ++ b) D k ++ [(reach (s ++ b) D k).getD (L + l + k - D) 0]) := reach_step (by rw [List.length_append, HL.out.1, HL.out.2])
          obtain ⟨y, hy⟩ : ∃ y, (reach (s ++ b) D k).getD (L + l + k - D) 0 = y := ⟨_, rfl⟩
          rw [hy] at hc HR
          clear hrl hy
          generalize reach (s ++ b) D k = q at *
          obtain ⟨m, hm⟩ : ∃ m, L + l + k = m := ⟨_, rfl⟩
          have HMM : Hid (L + l + (k + 1) = m + 1) := by show _ = _; omega
          have hmD : D ≤ m ∧ m ≤ 101000 := by omega
          rw [hm] at HG hc
          rw [hm]
          have HM2 : Hid (L + l + k = m) := hm
          clear hm hw hdL
          have hix := index_at (g := g) (o := 0) (L := m) (c := cv) (q := m - D) (I := (m : Int) - (D : Int)) (m - D) (by omega) (by omega) (by omega)
          go_wp2_with (at_builtin; refine wpList_append_src rfl _ _ 23 rfl (fb + 1) 5 i0 (.int .u8 0) 1 1 Try.underlying23 hi hz0 hz1 hz2 rfl (by decide) _ m (bv q) rfl (HG.out.own.alloc _) _ 1 (bv [y]) rfl (src_one _ _ y _ rfl rfl _) (bv_one _) ?q1 ?q2 ?q3 ?_)
          case q1 => unfold maxLen; omega
          case q2 => omega
          case q3 => have := (Array.getElem?_eq_some_iff.1 HG.out.box).1; simp; omega
          intro v7 w7 own7 gr7
          have HG7 : Hid (Grows w w7 fb #[.slice p l c, .int .i64 (N : Int), .int .i64 (D : Int)] 48 v7 (L + l + (k + 1)) (reach (s ++ b) D (k + 1))) := by
            show Grows _ _ _ _ _ _ _ _
            rw [HMM.out, HR.out]
            exact HG.out.step ((Below.refl _ _).alloc (Nat.le_refl _) _) gr7 own7
          clear own7 gr7
          go_wp2
          go_roundg (N - (k + 1))
          case measure => omega
          case rel => exact ⟨k + 1, by omega, rfl, by go_num, HG7.out⟩
        · obtain rfl : k = N := by omega
          have HO : Hid (wr.ownsRow w.heap.size 5 1 (.slice av (L + l + k) cv) (growB s b (k : Int) (D : Int)).length (bv (growB s b (k : Int) (D : Int)))) := by
            have e : (growB s b (k : Int) (D : Int)).length = L + l + k := by rw [HE.out, reach_len, List.length_append, HL.out.1, HL.out.2]
            show World.ownsRow _ _ _ _ _ _ _
            rw [e, HE.out]
            exact rowMono HG.out.own (by rw [HFB.out]; omega)
          have HBB : Hid (Below w.heap.size w wr) := by
            show Below _ _ _
            rw [HFB.out]
            exact HG.out.bel
          go_wp2
          go_ret2
          exact ⟨_, rfl, HO.out, HBB.out⟩
    · obtain ⟨e1, e2⟩ := grow_form (s := s) (b := b) (n := n) (d := d) (by rw [hbl]; exact hm) (by rw [hsl]; exact hd)
      rw [e1, e2]
      have hd' : (L : Int) < d := by omega
      clear e1 e2 hm h1 h2 hsl hbl hd
      go_enter Try.func56, Try.ntmps56
      go_wp2_with fail
      refine (may_is _ hl HM.out).mono ?_
      rintro e w2 ⟨rfl, b2⟩
      obtain ⟨hx2, hb2⟩ := three_new b2
      have HB2 : Hid (Below w.heap.size w w2) := hb2
      obtain ⟨d0, d1, d2⟩ := three_cells hx2
      clear b2 hb2 hx2
      go_wp2
      go_ret2
      exact ⟨_, rfl, World.ownsRow_nil _ _ _ _, HB2.out⟩
end Go.Proofs.Ytgninhecclinaaa
