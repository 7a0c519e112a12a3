/- The walks of the document's Drop and Put. -/
import Derived.Test.YthjacjckobkhmaaURef
namespace Go.Proofs.Ythjacjckobkhmaa
open Go.RowKit

theorem Try.infoH : (Try.prog.info? 37).map (fun i => (i.zero, i.size, i.bytes)) = some (some (.agg #[.int .i64 0, .int .i64 0, .int .i64 0]), 3, 24) := by kernel_rfl
theorem headH_at {w : World} {B g c : Nat} {L : List Gh} (h : HsAt w B (.slice (some ⟨g, 0, none⟩) L.length c) L) (j : Nat) : ∀ i u, (rowH (L.take j))[i]? = some u → w.cell? ((⟨g, 0, none⟩ : Addr).add i) = some u := by
  intro i u hu
  refine World.ownsRow.cells h rfl i u ?_
  rw [rowH_split L j, List.getElem?_append_left (List.getElem?_eq_some_iff.1 hu).1]
  exact hu
theorem tailH_at {w : World} {B g c : Nat} {L : List Gh} (h : HsAt w B (.slice (some ⟨g, 0, none⟩) L.length c) L) {j : Nat} (hj : j ≤ L.length) :
    ∃ A : Addr, (if c = j then some (⟨g, 0, none⟩ : Addr) else some ⟨g, j * 3, none⟩) = some A ∧ ∀ i u, (rowH (L.drop j))[i]? = some u → w.cell? (A.add i) = some u := by
  have hc := (row_cap h).1
  by_cases e : c = j
  · refine ⟨⟨g, 0, none⟩, by rw [if_pos e], ?_⟩
    intro i u hu
    have := (List.getElem?_eq_some_iff.1 hu).1
    rw [rowH_len, List.length_drop] at this
    omega
  · refine ⟨⟨g, j * 3, none⟩, by rw [if_neg e], ?_⟩
    intro i u hu
    have h1 := World.ownsRow.cells h rfl (j * 3 + i) u (by
      have e2 : (rowH (L.take j)).length = j * 3 := by rw [rowH_len, List.length_take]; omega
      rw [rowH_split L j, List.getElem?_append_right (by omega), e2, show j * 3 + i - j * 3 = i by omega]
      exact hu)
    rw [Addr.add_lit] at h1 ⊢
    simpa using h1
theorem delG_at {L : List Gh} (hG : Gok L) {k : Nat} {x : Gh} (h : L[k]? = some x) : delG L x.n = L.take k ++ L.drop (k + 1) := by
  obtain ⟨hk, hx⟩ := List.getElem?_eq_some_iff.1 h
  have e : L = L.take k ++ x :: L.drop (k + 1) := by
    rw [← hx, ← List.drop_eq_getElem_cons hk, List.take_append_drop]
  have hn := hG.nd
  rw [e, List.map_append, List.map_cons, List.nodup_append] at hn
  obtain ⟨_, h2, h3⟩ := hn
  rw [List.nodup_cons] at h2
  have e1 : (L.take k).filter (fun y => !decide (y.n = x.n)) = L.take k := by
    rw [List.filter_eq_self]
    intro y hy
    have := h3 y.n (List.mem_map.2 ⟨y, hy, rfl⟩) x.n (by simp)
    simp [this]
  have e2 : (L.drop (k + 1)).filter (fun y => !decide (y.n = x.n)) = L.drop (k + 1) := by
    rw [List.filter_eq_self]
    intro y hy
    have : y.n ≠ x.n := fun e => h2.1 (e ▸ List.mem_map.2 ⟨y, hy, rfl⟩)
    simp [this]
  unfold delG
  conv => lhs; rw [e]
  rw [List.filter_append, List.filter_cons, e1, e2]
  simp
set_option maxHeartbeats 1000000 in
theorem refDrop_any {base : Nat} {v : Value} {L : List Gh} (n : Int) (w : World) (h : HsAt w base v L) (hG : Gok L) (hL : L.length ≤ 1000) (hbase : base ≤ w.heap.size) :
    Calls Try.prog 17 #[v, .int .i64 n] w fun e w' => ∃ v', e = .returned (.tuple #[v', .bool (hasG L n)]) ∧ HsAt w' base v' (delG L n) ∧ Below w.heap.size w w' := by
  obtain ⟨i0, hi0, hz0, hz1, hz2⟩ := info_parts Try.infoH
  obtain ⟨a, c, rfl⟩ := row_slice h
  have H : Hid (HsAt w base (.slice a L.length c) L) := h
  have HAT : Hid _ := refAt_any n w h hL
  have HG : Hid (Gok L) := hG
  clear h hG
  go_enter Try.func17, Try.ntmps17
  go_wp2_with fail
  refine Calls.mono HAT.out ?_
  rintro e w1 ⟨x, rfl, rfl, hp⟩
  have HH : Hid (hasG L n = decide (0 ≤ x)) := hp.has
  by_cases hx : 0 ≤ x
  · obtain ⟨k, y, rfl, hy, hyn⟩ := hp.yes hx
    obtain ⟨g, rfl, _, hg, _, _, _⟩ := H.out.at hy
    have hkl := (List.getElem?_eq_some_iff.1 hy).1
    obtain ⟨hcap, hcm⟩ := row_cap H.out
    unfold maxLen at hcm
    have HDG : Hid (delG L n = L.take k ++ L.drop (k + 1)) := hyn ▸ delG_at HG.out hy
    have HC1 : Hid _ := headH_at H.out k
    have LN1 : Hid ((rowH (L.take k)).length = k * 3) := by show _ = _; rw [rowH_len, List.length_take]; omega
    have hic : (k : Int) ≤ (c : Int) := by omega
    have HT : Hid (hasG L n = true) := by rw [HH.out]; exact decide_eq_true hx
    have hnx : ¬ (k : Int) < 0 := by omega
    clear hp HH HAT hy hx hyn
    go_wp2_with (at_builtin; refine wpList_append_own _ rfl _ _ 26 rfl w.heap.size 37 i0 _ 3 24 Try.underlying26 hi0 hz0 hz1 hz2 rfl (by decide) _ _ _ rfl (World.ownsRow_made w #[] 0 (Nat.le_refl _) (by unfold maxLen; omega) rfl) ⟨g, 0, none⟩ k c (rowH (L.take k)) rfl LN1.out ?c1 (rowH_one _) ?c3 ?c4 ?c5 ?_)
    case c1 =>
      intro j u hu
      have h3 := HC1.out j u hu
      rw [Addr.add_lit] at h3 ⊢
      rw [← h3]
      exact World.cell?_of_block (Below.heap_alloc w _ g hg)
    case c3 => unfold maxLen; omega
    case c4 => omega
    case c5 => simp
    intro v2 w2 own2 gr2 _
    have b2 : Below w.heap.size w w2 := ((Below.refl _ w).alloc (Nat.le_refl _) _).grown gr2 (by simp) (fun j hj => by simp [Value.ownBlock] at hj; omega)
    have own2' : w2.ownsRow w.heap.size 37 3 v2 k (rowH (L.take k)) := by simpa using own2
    obtain ⟨a2, c2, rfl⟩ := row_slice own2'
    have h2r := H.out.below b2
    obtain ⟨A, hA, hAc⟩ := tailH_at h2r (j := k + 1) (by omega)
    have HAC : Hid (∀ j u, (rowH (L.drop (k + 1)))[j]? = some u → w2.cell? (A.add j) = some u) := hAc
    have LN2 : Hid ((rowH (L.drop (k + 1))).length = (L.length - (k + 1)) * 3) := by show _ = _; rw [rowH_len, List.length_drop]
    have OWN2 : Hid (w2.ownsRow w.heap.size 37 3 (.slice a2 k c2) k (rowH (L.take k))) := own2'
    have B2 : Hid (Below w.heap.size w w2) := b2
    have hj3 : 0 ≤ (k : Int) + 1 := by omega
    have hj4 : (k : Int) + 1 ≤ (L.length : Int) := by omega
    have hj5 : (k : Int) < (L.length : Int) := by omega
    have hwr : IntKind.i64.wrap ((k : Int) + 1) = (k : Int) + 1 := IntWalk.i64_in _ (by omega)
    have htn : ((k : Int) + 1).toNat = k + 1 := by omega
    clear gr2 own2 b2 own2' h2r hAc HC1
    go_wp2_with (at_builtin; refine wpList_append_own _ rfl _ _ 26 rfl w.heap.size 37 i0 _ 3 24 Try.underlying26 hi0 hz0 hz1 hz2 rfl (by decide) (.slice a2 k c2) k (rowH (L.take k)) rfl OWN2.out A (L.length - (k + 1)) (c - (k + 1)) (rowH (L.drop (k + 1))) (by simp [Act.eval]) LN2.out HAC.out (rowH_one _) ?e3 ?e4 ?e5 ?_)
    case e3 => unfold maxLen; omega
    case e4 => omega
    case e5 => exact B2.out.size
    intro v3 w3 own3 gr3 _
    obtain ⟨a3, c3, rfl⟩ := row_slice own3
    have HF : Hid (HsAt w3 base (.slice a3 (k + (L.length - (k + 1))) c3) (delG L n) ∧ Below w.heap.size w w3) := by
      have b3 : Below w.heap.size w w3 := B2.out.grown gr3 B2.out.size (fun j hj => (OWN2.out.lt j hj).1)
      have e2 : (delG L n).length = k + (L.length - (k + 1)) := by rw [HDG.out, List.length_append, List.length_take, List.length_drop]; omega
      refine ⟨?_, b3⟩
      unfold HsAt
      rw [e2, HDG.out, rowH_app]
      exact rowMono own3 hbase
    clear own3 gr3
    go_wp2
    go_ret2
    exact ⟨_, by rw [HT.out]; rfl, HF.out⟩
  · have hno := hp.no (by omega)
    obtain rfl : x = -1 := hno.1
    have HD : Hid (delG L n = L ∧ hasG L n = false) := ⟨delG_none hno.2, hno.2⟩
    clear hp HH HAT hno hx
    go_wp2
    go_ret2
    exact ⟨_, by rw [HD.out.2]; rfl, by rw [HD.out.1]; exact H.out, Below.refl _ _⟩

theorem run_append_H (ty : TypeId) (w : World) (base : Nat) {v : Value} {n : Nat} {xs : List Value} (hown : w.ownsRow base 37 3 v n xs) {vx : Value} {m : Nat} {news : List Value} (hsrc : SrcAt w vx m 3 news) (h1 : ∀ u ∈ news, u.oneCell' = true) (hb : n + m ≤ 10000) (hbase : base ≤ w.heap.size) :
    ∃ v' w', (Builtin.append_ #[26, 26] ty #[v, vx]).run Try.prog w = .ok v' w' ∧ w'.ownsRow base 37 3 v' (n + m) (xs ++ news) ∧ w.grownBy w' v.ownBlock := by
  obtain ⟨i0, hi, hz0, hz1, hz2⟩ := info_parts Try.infoH
  rcases hsrc with ⟨rfl, rfl, rfl⟩ | ⟨ad, c, rfl, h2, h3⟩
  · exact ⟨v, w, run_append_owned_none (P := Try.prog) (w := w) base 26 ty 37 i0 3 Try.underlying26 hi v n xs hown, by simpa using hown, World.grownBy.refl _ _⟩
  · obtain ⟨v', w', hrun, r1, r2, _⟩ := run_append_own (P := Try.prog) w base 26 ty 37 i0 _ 3 24 Try.underlying26 hi hz0 hz1 hz2 rfl (by decide) v n xs hown ad m c news h2 (fun j u hj => (h3 j u hj).2) h1 (by unfold maxLen; omega) (by omega) hbase
    exact ⟨v', w', hrun, r1, r2⟩
theorem step_append_H {ops : Array Oper} {o : Oper} {a : Act} {w : World} {K : Act → World → Prop} {Q : Exit → Act → World → Prop} {E : Prop}
    (hg : o.guard = none) (s x : Operand) (hop : o.op = Op.call { callee := Callee.builtin Builtin.append, args := #[s, x], argTypes := #[26, 26] }) (base : Nat) {v : Value} {n : Nat} {xs : List Value} (hs : a.eval s = v) (hown : w.ownsRow base 37 3 v n xs)
    {vx : Value} {m : Nat} {news : List Value} (hx : a.eval x = vx) (hsrc : SrcAt w vx m 3 news) (h1 : ∀ u ∈ news, u.oneCell' = true) (hb : n + m ≤ 10000) (hbase : base ≤ w.heap.size)
    (hK : ∀ v' w', w'.ownsRow base 37 3 v' (n + m) (xs ++ news) → w.grownBy w' v.ownBlock → K (a.put o.dst v') w') :
    if Region.wanted o (yielded ops a.tmps) = true then Oper.wp Try.prog o a w K Q else E := by
  have hw : Region.wanted o (yielded ops a.tmps) = true := by simp [Region.wanted, hg]
  rw [if_pos hw]
  obtain ⟨v', w', hrun, r1, r2⟩ := run_append_H o.type w base hown hsrc h1 hb hbase
  unfold Oper.wp
  simp [execOp, hop, resolve, invoke, builtin, hs, hx, hrun, Result.andThen]
  exact hK v' w' r1 r2
theorem hk_one (w : World) (x : Gh) : SrcAt (w.alloc (.cells x.cells.toArray 37)) (.slice (some ⟨w.heap.size, 0, none⟩) 1 1) 1 3 x.cells := by
  refine .inr ⟨⟨w.heap.size, 0, none⟩, 1, rfl, rfl, fun j u hj => ⟨by simp, ?_⟩⟩
  exact World.news_of_block (heap_alloc_new _ _) j u hj
theorem cells_one (x : Gh) : ∀ u ∈ x.cells, u.oneCell' = true := by
  intro u hu
  simp only [Gh.cells, List.mem_cons, List.not_mem_nil, or_false] at hu
  rcases hu with rfl | rfl | rfl <;> rfl
end Go.Proofs.Ythjacjckobkhmaa
