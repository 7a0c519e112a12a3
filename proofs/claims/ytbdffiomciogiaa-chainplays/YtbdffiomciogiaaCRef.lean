/- The walks of the document's own Size, At, Drop, Push (layer 3) and Ints (layer 2), over lists in rows of one's own. -/
import Derived.Test.YtbdffiomciogiaaCAll
import Derived.Test.YtbdffiomciogiaaCPut
import Derived.Laws.AppendOwnNone
namespace Go.Proofs.Ytbdffiomciogiaa
open Go.RowKit

set_option maxHeartbeats 400000 in
theorem refSize_any (n : Int) (w : World) : Calls Try.prog 15 #[.int .i64 n] w fun e w' => e = .returned (.int .i64 (szN n : Nat)) ∧ w = w' := by
  by_cases h1 : n < 0
  · have E : Hid (szN n = 0) := by simp [Hid, szN, h1]
    go_enter Try.func15, Try.ntmps15
    go_wp2
    go_ret
    exact ⟨retInt (by rw [E.out]; rfl), rfl⟩
  · by_cases h2 : 4096 < n
    · have E : Hid (szN n = 4096) := by simp [Hid, szN, h1, h2]
      go_enter Try.func15, Try.ntmps15
      go_wp2
      go_ret
      exact ⟨retInt (by rw [E.out]; rfl), rfl⟩
    · have E : Hid ((szN n : Int) = n) := by simp [Hid, szN, h1, h2]; omega
      go_enter Try.func15, Try.ntmps15
      go_wp2
      go_ret
      exact ⟨retInt (by rw [E.out]), rfl⟩

/-- The place of n, -1 where it isn't there. -/
def atI (x : List Nat) (n : Nat) : Int := if n ∈ x then (x.idxOf n : Int) else -1
theorem at_found {x : List Nat} {n k : Nat} (hk : k < x.length) (h : x.getD k 0 = n) (hl : ∀ j, j < k → x.getD j 0 ≠ n) : atI x n = k := by
  have e1 : x[k] = n := by simpa [List.getD, hk] using h
  have hm : n ∈ x := by rw [← e1]; exact List.getElem_mem hk
  rw [atI, if_pos hm]
  have : x.idxOf n = k := by
    unfold List.idxOf
    rw [List.findIdx_eq hk]
    refine ⟨by simp [e1], ?_⟩
    intro j hj
    have h2 := hl j hj
    have hj' : j < x.length := by omega
    simpa [List.getD, hj'] using h2
  rw [this]
theorem at_none {x : List Nat} {n : Nat} (hl : ∀ j, j < x.length → x.getD j 0 ≠ n) : atI x n = -1 := by
  rw [atI, if_neg]
  intro hm
  obtain ⟨j, hj, e⟩ := List.getElem_of_mem hm
  exact hl j hj (by simp [List.getD, hj, e])

set_option maxHeartbeats 400000 in
theorem refAt_any {C : Nat} {v : Value} {x : List Nat} (n : Nat) (w : World) (h : w.ownsRow C 3 1 v x.length (iv x)) (hs : x.length ≤ 4096) :
    Calls Try.prog 22 #[v, .int .i64 n] w fun e w' => e = .returned (.int .i64 (atI x n)) ∧ w = w' := by
  obtain ⟨a, c, rfl⟩ := row_slice h
  have H : Hid (w.ownsRow C 3 1 (.slice a x.length c) x.length (iv x)) := h
  clear h
  go_enter Try.func22, Try.ntmps22
  go_wp2
  go_loop [5] (fun i => ∃ k : Nat, k ≤ x.length ∧ i = .int .i64 k ∧ ∀ j, j < k → x.getD j 0 ≠ n) (fun i => x.length - (intOf i).toNat)
  case atStart => exact ⟨0, Nat.zero_le _, rfl, by intro j hj; omega⟩
  case round =>
    obtain ⟨k, hk, rfl, hl⟩ := hrel
    have HL : Hid _ := hl
    clear hl
    by_cases hlt : k < x.length
    · obtain ⟨g, rfl, hc, _⟩ := row_at H.out hlt
      rw [iv_at x k hlt] at hc
      obtain ⟨q, hq⟩ : ∃ q, x.getD k 0 = q := ⟨_, rfl⟩
      rw [hq] at hc
      have HQ : Hid _ := hq
      clear hq
      by_cases e : q = n
      · subst e
        go_wp2
        go_ret
        exact ⟨retInt (at_found hlt HQ.out HL.out).symm, rfl⟩
      · have hne : ((q : Int) == (n : Int)) = false := by rw [beq_eq_false_iff_ne]; omega
        go_wp2
        go_round
        case rel =>
          refine ⟨k + 1, by omega, by go_num, ?_⟩
          intro j hj
          by_cases e2 : j = k
          · subst e2; rw [HQ.out]; exact e
          · exact HL.out j (by omega)
        case measure => simp [intOf]; omega
    · have e : k = x.length := by omega
      subst e
      go_wp2
      go_ret
      exact ⟨retInt (at_none HL.out).symm, rfl⟩

theorem erase_at (x : List Nat) (n : Nat) : x.erase n = x.take (x.idxOf n) ++ x.drop (x.idxOf n + 1) := by
  rw [List.erase_eq_eraseIdx_of_idxOf rfl, List.eraseIdx_eq_take_drop_succ]
theorem row_cap {w : World} {base n c : Nat} {e : TypeId} {size : Nat} {a : Addr} {xs : List Value} (h : w.ownsRow base e size (.slice (some a) n c) n xs) : n ≤ c ∧ c ≤ maxLen := by
  rcases h.2 with ⟨h1, _⟩ | ⟨g, cap, cur, h1, _, _, h4, h5, _⟩
  · simp at h1
  · simp only [Value.slice.injEq, true_and] at h1
    obtain ⟨_, rfl⟩ := h1
    exact ⟨h4, h5⟩
theorem head_at {w : World} {B g n c : Nat} {os : List Nat} (h : w.ownsRow B 3 1 (.slice (some ⟨g, 0, none⟩) n c) n (iv os)) {j : Nat} (hj : j < n) : ∀ i u, (iv (os.take j))[i]? = some u → w.cell? ⟨g, 0 + i, none⟩ = some u := by
  intro i u hu
  have hl : os.length = n := by have := h.1; simpa [iv] using this
  have hi : i < j := by have := (List.getElem?_eq_some_iff.1 hu).1; simp [iv] at this; omega
  rw [Nat.zero_add, h.cellAt i (by omega)]
  have e : (iv (os.take j))[i]? = (iv os)[i]? := by simp [iv, hi]
  rw [← e]; exact hu
theorem tail_at {w : World} {B g n c : Nat} {os : List Nat} (h : w.ownsRow B 3 1 (.slice (some ⟨g, 0, none⟩) n c) n (iv os)) {j : Nat} (hj : j < n) :
    ∃ A : Addr, (if c = j + 1 then some (⟨g, 0, none⟩ : Addr) else some ⟨g, j + 1, none⟩) = some A ∧ ∀ i u, (iv (os.drop (j + 1)))[i]? = some u → w.cell? (A.add i) = some u := by
  have hl : os.length = n := by have := h.1; simpa [iv] using this
  have hc := (row_cap h).1
  by_cases e : c = j + 1
  · refine ⟨⟨g, 0, none⟩, by rw [if_pos e], ?_⟩
    intro i u hu
    have := (List.getElem?_eq_some_iff.1 hu).1
    simp [iv] at this
    omega
  · refine ⟨⟨g, j + 1, none⟩, by rw [if_neg e], ?_⟩
    intro i u hu
    have hi := (List.getElem?_eq_some_iff.1 hu).1
    simp [iv] at hi
    rw [Addr.add_lit, h.cellAt (j + 1 + i) (by omega)]
    have e : (iv (os.drop (j + 1)))[i]? = (iv os)[j + 1 + i]? := by simp [iv]
    rw [← e]; exact hu
theorem iv_one (l : List Nat) : ∀ u ∈ iv l, u.oneCell' = true := by
  intro u hu
  obtain ⟨_, _, rfl⟩ := List.mem_map.1 hu
  rfl

set_option maxHeartbeats 1000000 in
theorem refDrop_any {C : Nat} {v : Value} {x : List Nat} (n : Nat) (w : World) (h : w.ownsRow C 3 1 v x.length (iv x)) (hs : x.length ≤ 4096) (hC : C ≤ w.heap.size) :
    Calls Try.prog 13 #[v, .int .i64 n] w fun e w' => ∃ v', e = .returned (.tuple #[v', .bool (decide (n ∈ x))]) ∧
      w'.ownsRow C 3 1 v' (x.erase n).length (iv (x.erase n)) ∧ Below w.heap.size w w' := by
  obtain ⟨i0, hi, hz0, hz1, hz2⟩ := info_parts Try.info3
  obtain ⟨a, c, rfl⟩ := row_slice h
  by_cases hn : n ∈ x
  · have HA : Hid (atI x n = (x.idxOf n : Nat)) := by show _ = _; rw [atI, if_pos hn]
    have HE : Hid _ := erase_at x n
    have HD : Hid (decide (n ∈ x) = true) := decide_eq_true hn
    have hlt := (at_idx hn).1
    generalize x.idxOf n = j at *
    obtain ⟨g, rfl, _, _, hg1, hg2⟩ := row_at h hlt
    obtain ⟨A, hA, hAc⟩ := tail_at h hlt
    have HAC : Hid _ := hAc
    have HC1 : Hid _ := head_at h hlt
    obtain ⟨hcap, hcm⟩ : x.length ≤ c ∧ c ≤ maxLen := row_cap h
    unfold maxLen at hcm
    have HX : Hid (w.ownsRow C 3 1 (.slice (some ⟨g, 0, none⟩) x.length c) x.length (iv x)) := h
    have hj1 : (j : Int) ≤ (c : Int) := by omega
    have hj3 : 0 ≤ (j : Int) + 1 := by omega
    have hj4 : (j : Int) + 1 ≤ (x.length : Int) := by omega
    have LN1 : Hid ((iv (x.take j)).length = j * 1) := by simp [Hid, iv]; omega
    have LN2 : Hid ((iv (x.drop (j + 1))).length = (x.length - (j + 1)) * 1) := by simp [Hid, iv]
    clear hn h hAc
    go_enter Try.func13, Try.ntmps13
    go_wp2_with (first | (go_at_call 22; refine (refAt_any n _ HX.out hs).mono ?_; rw [HA.out]; rintro e w' ⟨rfl, rfl⟩) | (at_builtin; refine wpList_append_own _ rfl _ _ 22 rfl w.heap.size 3 i0 (.int .i64 0) 1 8 Try.underlying22 hi hz0 hz1 hz2 rfl (by decide) _ _ _ rfl (World.ownsRow_made w #[] 0 (Nat.le_refl _) (by unfold maxLen; omega) rfl) ⟨g, 0, none⟩ j c (iv (x.take j)) rfl LN1.out ?c1 (iv_one _) ?c3 ?c4 ?c5 ?_))
    case c1 =>
      intro i u hu
      have h1 := HC1.out i u hu
      rw [← h1, Addr.add_lit]
      exact World.cell?_of_block (Below.heap_alloc w _ g hg2)
    case c3 => unfold maxLen; omega
    case c4 => omega
    case c5 => simp
    intro v1 w1 own1 gr1 _
    have b1 : Below w.heap.size w w1 := ((Below.refl _ w).alloc (Nat.le_refl _) _).grown gr1 (by simp) (fun i hi => by simp [Value.ownBlock] at hi; omega)
    have HB1 : Hid _ := b1
    have HAC1 : Hid (∀ i u, (iv (x.drop (j + 1)))[i]? = some u → w1.cell? (A.add i) = some u) := by
      intro i u hu
      have h1 := HAC.out i u hu
      rw [← h1]
      exact b1.cell (p := A.add i) (World.block_lt_of_cell? w _ h1)
    obtain ⟨a1, c1, rfl⟩ := row_slice own1
    clear gr1
    go_wp2_with (at_builtin; refine wpList_append_own _ rfl _ _ 22 rfl w.heap.size 3 i0 (.int .i64 0) 1 8 Try.underlying22 hi hz0 hz1 hz2 rfl (by decide) _ _ _ rfl own1 A (x.length - (j + 1)) (c - (j + 1)) (iv (x.drop (j + 1))) rfl LN2.out HAC1.out (iv_one _) ?d3 ?d4 ?d5 ?_)
    case d3 => unfold maxLen; omega
    case d4 => omega
    case d5 => exact HB1.out.size
    intro v2 w2 own2 gr2 _
    have b2 : Below w.heap.size w w2 := HB1.out.grown gr2 HB1.out.size (fun i hi => (own1.lt i hi).1)
    have HO2 : Hid (w2.ownsRow C 3 1 v2 (x.erase n).length (iv (x.erase n))) := by
      have e1 : iv (x.erase n) = iv (x.take j) ++ iv (x.drop (j + 1)) := by rw [HE.out]; simp [iv]
      have e2 : (x.erase n).length = j + (x.length - (j + 1)) := by rw [HE.out]; simp; omega
      rw [e1, e2]
      exact rowMono own2 hC
    have HB2 : Hid _ := b2
    clear own2 gr2 own1 b2 b1
    go_wp2
    go_ret2
    exact ⟨_, by rw [HD.out]; rfl, HO2.out, HB2.out⟩
  · have HA : Hid (atI x n = -1) := by show _ = _; rw [atI, if_neg hn]
    have HE : Hid (x.erase n = x) := List.erase_of_not_mem hn
    have HD : Hid (decide (n ∈ x) = false) := decide_eq_false hn
    clear hn
    go_enter Try.func13, Try.ntmps13
    go_wp2_with (go_at_call 22; refine (refAt_any n _ h hs).mono ?_; rw [HA.out]; rintro e w' ⟨rfl, rfl⟩)
    go_ret2
    exact ⟨_, by rw [HD.out]; rfl, by rw [HE.out]; exact h, Below.refl _ _⟩

set_option maxHeartbeats 1000000 in
theorem refPush_any {C : Nat} {v : Value} {x : List Nat} (m n : Nat) (w : World) (h : w.ownsRow C 3 1 v x.length (iv x)) (hs : x.length ≤ 4096) (hC : C ≤ w.heap.size) :
    Calls Try.prog 14 #[v, .int .i64 m, .int .i64 n] w fun e w' => ∃ v', e = .returned (.tuple #[v', .bool (mayC m n)]) ∧
      w'.ownsRow C 3 1 v' (pushL m x n).length (iv (pushL m x n)) ∧ Below w.heap.size w w' := by
  obtain ⟨i0, hi, hz0, hz1, hz2⟩ := info_parts Try.info3
  by_cases hn : n < m
  · have HM : Hid (mayC m n = true) := mayC_nat hn
    have HE : Hid (pushL m x n = x.erase n ++ [n]) := by show _ = _; rw [pushL, mayC_nat hn]; simp
    have hel : (x.erase n).length ≤ x.length := List.length_erase_le
    go_enter Try.func14, Try.ntmps14
    go_wp2_with fail
    refine (refDrop_any n _ h hs hC).mono ?_
    rintro e w1 ⟨v1, rfl, own1, b1⟩
    have hC1 : C ≤ w1.heap.size := Nat.le_trans hC b1.size
    have HB1 : Hid _ := b1
    generalize decide (n ∈ x) = did at *
    generalize hy : x.erase n = y at *
    clear hy h
    have HB : Hid (∀ (v2 : Value) (w2 : World), w2.ownsRow w1.heap.size 3 1 v2 (y.length + 1) (iv y ++ [.int .i64 (n : Int)]) → w2.ownsRow C 3 1 v2 (pushL m x n).length (iv (pushL m x n))) := by
      intro v2 w2 h2
      have e1 : iv (pushL m x n) = iv y ++ [.int .i64 (n : Int)] := by rw [HE.out]; simp [iv]
      have e2 : (pushL m x n).length = y.length + 1 := by rw [HE.out]; simp
      rw [e1, e2]
      exact rowMono h2 hC1
    by_cases hv : v1 = .slice none 0 0
    · subst hv
      have hy : y = [] := by
        rcases own1.2 with ⟨_, h2⟩ | ⟨g, cap, cur, h1, _⟩
        · exact List.eq_nil_of_length_eq_zero h2
        · simp at h1
      subst hy
      go_wp2_with (first | (at_builtin; refine wpList_append_own_none rfl _ _ 22 rfl w1.heap.size 3 i0 1 Try.underlying22 hi _ 0 [] rfl (World.ownsRow_made w1 #[] 0 (Nat.le_refl _) (by unfold maxLen; omega) rfl) rfl ?_) | (at_builtin; refine wpList_append_own _ rfl _ _ 22 rfl w1.heap.size 3 i0 (.int .i64 0) 1 8 Try.underlying22 hi hz0 hz1 hz2 rfl (by decide) _ _ _ rfl ((World.ownsRow_made w1 #[] 0 (Nat.le_refl _) (by unfold maxLen; omega) rfl).alloc _) ⟨w1.heap.size + 1, 0, none⟩ 1 1 [.int .i64 (n : Int)] rfl rfl ?c1 (one_one _) ?c3 ?c4 ?c5 ?_))
      case c1 =>
        intro j u hj
        match j, hj with
        | 0, hj => simp at hj; subst hj; simp [Addr.add]
      case c3 => unfold maxLen; omega
      case c4 => omega
      case c5 => simp; omega
      intro v2 w2 own2 gr2 _
      have b2 : Below w.heap.size w w2 := by
        refine ((HB1.out.alloc HB1.out.size _).alloc (by have := HB1.out.size; simp; omega) _).grown gr2 (by have := HB1.out.size; simp; omega) (fun i hi => ?_)
        have := HB1.out.size
        simp [Value.ownBlock] at hi
        omega
      have HO2 : Hid _ := HB.out v2 w2 own2
      have HB2 : Hid _ := b2
      clear own2 gr2 b2
      go_wp2
      go_ret2
      exact ⟨_, by rw [HM.out]; rfl, HO2.out, HB2.out⟩
    · obtain ⟨g, cap, rfl⟩ := row_form own1 hv
      obtain ⟨hg1, hg2⟩ := own1.lt g rfl
      have hcs : Hid (∀ j u, (iv y)[j]? = some u → w1.cell? ((⟨g, 0, none⟩ : Addr).add j) = some u) := own1.cells rfl
      have hyl : Hid ((iv y).length = y.length * 1) := by simp [Hid, iv]
      clear own1
      go_wp2_with (at_builtin; refine wpList_append_own _ rfl _ _ 22 rfl w1.heap.size 3 i0 (.int .i64 0) 1 8 Try.underlying22 hi hz0 hz1 hz2 rfl (by decide) _ _ _ rfl (World.ownsRow_made w1 #[] 0 (Nat.le_refl _) (by unfold maxLen; omega) rfl) ⟨g, 0, none⟩ y.length cap (iv y) rfl hyl.out ?c1 (iv_one _) ?c3 ?c4 ?c5 ?_)
      case c1 =>
        intro j u hj
        have h1 := hcs.out j u hj
        rw [Addr.add_lit] at h1 ⊢
        rw [← h1]
        exact World.cell?_of_block (Below.heap_alloc w1 _ g hg2)
      case c3 => unfold maxLen; omega
      case c4 => omega
      case c5 => simp
      intro v2 w2 own2 gr2 _
      have b2 : Below w1.heap.size w1 w2 := ((Below.refl _ w1).alloc (Nat.le_refl _) _).grown gr2 (by simp) (fun i hi => by simp [Value.ownBlock] at hi; omega)
      have hs2 := b2.size
      have bw2 : Below w.heap.size w w2 := HB1.out.trans (b2.mono HB1.out.size)
      have own2' : w2.ownsRow w1.heap.size 3 1 v2 y.length (iv y) := by simpa using own2
      obtain ⟨a2, c2, rfl⟩ := row_slice own2'
      clear gr2 own2 b2
      go_wp2_with (at_builtin; refine wpList_append_own _ rfl _ _ 22 rfl w1.heap.size 3 i0 (.int .i64 0) 1 8 Try.underlying22 hi hz0 hz1 hz2 rfl (by decide) _ _ _ rfl (own2'.alloc _) ⟨w2.heap.size, 0, none⟩ 1 1 [.int .i64 (n : Int)] rfl rfl (one_new w2 _) (one_one _) ?d3 ?d4 ?d5 ?_)
      case d3 => unfold maxLen; omega
      case d4 => omega
      case d5 => simp; omega
      intro v3 w3 own3 gr3 _
      have b3 : Below w.heap.size w w3 := (bw2.alloc bw2.size _).grown gr3 (by have := bw2.size; simp; omega) (fun i hi => by
        have h1 := own2'.lt i hi
        have h2 := HB1.out.size
        omega)
      have HO2 : Hid _ := HB.out v3 w3 own3
      have HB2 : Hid _ := b3
      clear own3 gr3 b3 own2'
      go_wp2
      go_ret2
      exact ⟨_, by rw [HM.out]; rfl, HO2.out, HB2.out⟩
  · have HM : Hid (mayC m n = false) := mayC_not hn
    have HE : Hid (pushL m x n = x) := by show _ = _; rw [pushL, mayC_not hn]; rfl
    obtain ⟨a, c, rfl⟩ := row_slice h
    have hge : (m : Int) ≤ (n : Int) := by omega
    go_enter Try.func14, Try.ntmps14
    go_wp2
    go_ret2
    exact ⟨_, by rw [HM.out]; rfl, by rw [HE.out]; exact h, Below.refl _ _⟩

set_option maxHeartbeats 400000 in
theorem refInts_any {B C : Nat} {v u : Value} {l : List Nat} (w : World) (h : w.ownsRow B 3 1 v l.length (iv l)) (h2 : w.ownsRow C 3 1 u l.length (iv l)) (hs : l.length ≤ 4096) :
    Calls Try.prog 23 #[v, u] w fun e w' => e = .returned (.bool true) ∧ ∃ m, w' = w.drewN m := by
  obtain ⟨a, c, rfl⟩ := row_slice h
  obtain ⟨a2, c2, rfl⟩ := row_slice h2
  have H : Hid (w.ownsRow B 3 1 (.slice a l.length c) l.length (iv l)) := h
  have H2 : Hid (w.ownsRow C 3 1 (.slice a2 l.length c2) l.length (iv l)) := h2
  clear h h2
  go_enter Try.func23, Try.ntmps23
  go_wp2
  go_loopw [5] (fun i wr => ∃ k m : Nat, k ≤ l.length ∧ i = .int .i64 k ∧ wr = w.drewN m) (fun i _ => l.length - (intOf i).toNat)
  case atStart => exact ⟨0, 0, Nat.zero_le _, rfl, rfl⟩
  case round =>
    obtain ⟨k, m, hk, rfl, rfl⟩ := hrel
    by_cases hlt : k < l.length
    · obtain ⟨g, rfl, hc, _⟩ := row_at H.out hlt
      obtain ⟨g2, rfl, hc2, _⟩ := row_at H2.out hlt
      rw [iv_at l k hlt] at hc hc2
      generalize l.getD k 0 = q at *
      have hlt' : (k : Int) < (l.length : Int) := by omega
      go_wp2_with fail
      go_quiet (fail)
      go_wp2
      go_roundw
      case rel => exact ⟨k + 1, _, by omega, by go_num, rfl⟩
      case measure => simp [intOf]; omega
    · have e : k = l.length := by omega
      go_wp2
      go_ret
      exact ⟨rfl, m, rfl⟩
end Go.Proofs.Ytbdffiomciogiaa
