/- The walk of the document's own Drop. -/
import Derived.Test.YtkghedllkigecaaRRef
import Derived.Deep.RegionLaw
namespace Go.Proofs.Ytkghedllkigecaa
open Go.RowKit

theorem step_append_own {P : Program} {ops : Array Oper} {o : Oper} {a : Act} {w : World} {K : Act → World → Prop} {Q : Exit → Act → World → Prop} {E : Prop}
    (hg : o.guard = none) (s x : Operand) (t : TypeId) (hop : o.op = Op.call { callee := Callee.builtin Builtin.append, args := #[s, x], argTypes := #[t, t] })
    (base : Nat) (e : TypeId) (i : TypeInfo) (z : Value) (size bytes : Nat) (h1 : P.underlying t = some (.slice e)) (h2 : P.info? e = some i) (h3 : i.zero = some z) (h4 : i.size = size) (h5 : i.bytes = bytes) (h6 : z.cells.size = size) (h7 : 0 < size)
    (v : Value) (n : Nat) (xs : List Value) (hs : a.eval s = v) (hown : w.ownsRow base e size v n xs) (ad : Addr) (m c : Nat) (news : List Value) (hx : a.eval x = .slice (some ad) m c) (hn : news.length = m * size)
    (hc : ∀ j u, news[j]? = some u → w.cell? (ad.add j) = some u) (h1c : ∀ u ∈ news, u.oneCell' = true) (b1 : n + m ≤ maxLen) (b2 : (n + m) * bytes ≤ 140737488355328) (b3 : base ≤ w.heap.size)
    (hK : ∀ v' w', w'.ownsRow base e size v' (n + m) (xs ++ news) → w.grownBy w' v.ownBlock → (v' = .slice none 0 0 ↔ v = .slice none 0 0 ∧ m = 0) → K (a.put o.dst v') w') :
    if Region.wanted o (yielded ops a.tmps) = true then Oper.wp P o a w K Q else E := by
  have hw : Region.wanted o (yielded ops a.tmps) = true := by simp [Region.wanted, hg]
  rw [if_pos hw]
  obtain ⟨v', w', hrun, r1, r2, r3⟩ := run_append_own (P := P) w base t o.type e i z size bytes h1 h2 h3 h4 h5 h6 h7 v n xs hown ad m c news hn hc h1c b1 b2 b3
  unfold Oper.wp
  simp [execOp, hop, resolve, invoke, builtin, hs, hx, hrun, Result.andThen]
  exact hK v' w' r1 r2 r3

theorem del_split {l : List KV} (h : Fine l) {k : Nat} {v : Int} (hm : (k, v) ∈ l) : del l k = l.take (idx l (k : Nat)) ++ l.drop (idx l (k : Nat) + 1) ∧ ∃ hj : idx l (k : Nat) < l.length, l[idx l (k : Nat)] = (k, v) := by
  have hf : foundB l (k : Nat) = true := List.any_eq_true.2 ⟨_, hm, by simp⟩
  obtain ⟨h1, h2, h3⟩ := set_split h k
  rw [hf, if_pos rfl] at h2 h3
  refine ⟨by rw [h1, h2, lo_hi h], by omega, ?_⟩
  have := frm_here h hm
  rw [← (split_idx h (k : Nat)).2, List.head?_drop, List.getElem?_eq_getElem (by omega)] at this
  exact Option.some.inj this
set_option maxHeartbeats 2000000 in
theorem refDrop_any {C : Nat} {x : Value} {l : List KV} (z : Int) (w : World) (h : w.ownsRow C 47 2 x l.length (kvv l)) (hf : Fine l) (hC : C ≤ w.heap.size) :
    Calls Try.prog 14 #[x, .int .i64 z] w fun e w' => ∃ x', e = .returned (.tuple #[x', .int .u64 ((got l z).getD 0), .bool (got l z).isSome]) ∧
      w'.ownsRow C 47 2 x' (dropL l z).length (kvv (dropL l z)) ∧ Below w.heap.size w w' := by
  obtain ⟨i0, hi, hz0, hz1, hz2⟩ := info_parts Try.infoK
  have hlen := hf.len
  obtain ⟨a, c, rfl⟩ := row_slice h
  have HX : Hid (w.ownsRow C 47 2 (.slice a l.length c) l.length (kvv l)) := h
  have HF : Hid (Fine l) := hf
  have HFG : Hid _ := found_got hf z
  cases hg : got l z with
  | none =>
    have HDL : Hid _ := dropL_none hg
    rw [hg] at HFG
    clear hg h
    go_enter Try.func14, Try.ntmps14
    go_wp2_with fail
    refine (refAt_any z w HX.out HF.out).mono ?_
    rw [HFG.out]
    rintro e w1 ⟨rfl, q, rfl⟩
    go_wp2
    go_ret3
    exact ⟨_, rfl, by rw [HDL.out]; exact row_below HX.out (drewN_below _ _ _), drewN_below _ _ _⟩
  | some v =>
    have hz : isK z = true := by
      unfold got at hg
      split at hg
      · assumption
      · cases hg
    obtain ⟨k, rfl, hk⟩ := isK_of hz
    rw [hg] at HFG
    have hm : (k, v) ∈ l := by rw [got_nat hk] at hg; exact val_mem hg
    obtain ⟨hdel, hlt, hat⟩ := del_split hf hm
    have HE : Hid (dropL l (k : Nat) = l.take (idx l (k : Nat)) ++ l.drop (idx l (k : Nat) + 1)) := by show _ = _; rw [dropL_nat hk]; exact hdel
    have HV : Hid (l.getD (idx l (k : Nat)) (0, 0) = (k, v)) := by show _ = _; simp [List.getD, hlt, hat]
    clear hg hz hm hdel hat hf
    go_enter Try.func14, Try.ntmps14
    go_wp2_with fail
    refine (refAt_any (k : Nat) w HX.out HF.out).mono ?_
    rw [HFG.out]
    rintro e w1 ⟨rfl, q, rfl⟩
    generalize idx l (k : Nat) = j at *
    have h1 : (w.drewN q).ownsRow C 47 2 (.slice a l.length c) l.length (kvv l) := row_below HX.out (drewN_below _ _ _)
    have hbw : Below w.heap.size w (w.drewN q) := drewN_below _ _ _
    have hsz : (w.drewN q).heap.size = w.heap.size := by rw [heap_drewN]
    generalize w.drewN q = w1 at *
    have HSZ : Hid (w1.heap.size = w.heap.size) := hsz
    have HBW : Hid (Below w.heap.size w w1) := hbw
    clear hsz hbw HX h
    obtain ⟨g, rfl, _, cV, hg1, hg2⟩ := row_at2 h1 hlt
    rw [(kvv_at l j hlt).2, HV.out] at cV
    obtain ⟨hcap, hcm⟩ := row_cap h1
    unfold maxLen at hcm
    have HC1 : Hid _ := head_at h1 j
    have LN1 : Hid ((kvv (l.take j)).length = j * 2) := by show _ = _; rw [kvv_len, List.length_take]; omega
    have hjc : (j : Int) ≤ (c : Int) := by omega
    go_wp2_with (at_builtin; refine wpList_append_own _ rfl _ _ 24 rfl w1.heap.size 47 i0 _ 2 16 Try.underlying24 hi hz0 hz1 hz2 rfl (by decide) _ _ _ rfl (World.ownsRow_made w1 #[] 0 (Nat.le_refl _) (by unfold maxLen; omega) rfl) ⟨g, 0, none⟩ j c (kvv (l.take j)) rfl LN1.out ?c1 (kvv_one _) ?c3 ?c4 ?c5 ?_)
    case c1 =>
      intro i u hu
      have h3 := HC1.out i u hu
      rw [Addr.add_lit] at h3 ⊢
      rw [← h3]
      exact World.cell?_of_block (Below.heap_alloc w1 _ g hg2)
    case c3 => unfold maxLen; omega
    case c4 => omega
    case c5 => simp
    intro v2 w2 own2 gr2 _
    have b2 : Below w1.heap.size w1 w2 := ((Below.refl _ w1).alloc (Nat.le_refl _) _).grown gr2 (by simp) (fun i hi => by simp [Value.ownBlock] at hi; omega)
    have own2' : w2.ownsRow w1.heap.size 47 2 v2 j (kvv (l.take j)) := by simpa using own2
    obtain ⟨a2, c2, rfl⟩ := row_slice own2'
    have h2r : w2.ownsRow C 47 2 (.slice (some ⟨g, 0, none⟩) l.length c) l.length (kvv l) := row_below h1 b2
    have hs2 := b2.size
    have B2 : Hid (Below w1.heap.size w1 w2) := b2
    have cV2 : w2.cell? ⟨g, j * 2 + 1, none⟩ = some (.int .u64 v) := by rw [b2.cell (p := ⟨g, j * 2 + 1, none⟩) hg2]; exact cV
    obtain ⟨A, hA, hAc⟩ := tail_at h2r (j := j + 1) (by omega)
    have HAC : Hid (∀ i u, (kvv (l.drop (j + 1)))[i]? = some u → w2.drew.cell? (A.add i) = some u) := hAc
    have LN2 : Hid ((kvv (l.drop (j + 1))).length = (l.length - (j + 1)) * 2) := by show _ = _; rw [kvv_len, List.length_drop]
    have OWN2 : Hid (w2.drew.ownsRow w1.heap.size 47 2 (.slice a2 j c2) j (kvv (l.take j))) := own2'
    have E1 : Hid (j + (l.length - (j + 1)) ≤ maxLen) := by show _ ≤ _; unfold maxLen; omega
    have E2 : Hid ((j + (l.length - (j + 1))) * 16 ≤ 140737488355328) := by show _ ≤ _; omega
    have E3 : Hid (w1.heap.size ≤ w2.drew.heap.size) := hs2
    have AFT : Hid (∀ w3, w2.drew.grownBy w3 (Value.slice a2 j c2).ownBlock → w3.cell? ⟨g, j * 2 + 1, none⟩ = some (.int .u64 v) ∧ Below w1.heap.size w1 w3) := by
      intro w3 gr3
      have b3 : Below w1.heap.size w1 w3 := B2.out.drew.grown gr3 hs2 (fun i hi => (own2'.lt i hi).1)
      exact ⟨by rw [b3.cell (p := ⟨g, j * 2 + 1, none⟩) hg2]; exact cV, b3⟩
    have hj3 : 0 ≤ (j : Int) + 1 := by omega
    have hj4 : (j : Int) + 1 ≤ (l.length : Int) := by omega
    have hj5 : (j : Int) < (l.length : Int) := by omega
    have hwr : IntKind.i64.wrap ((j : Int) + 1) = (j : Int) + 1 := IntWalk.i64_in _ (by omega)
    have htn : ((j : Int) + 1).toNat = j + 1 := by omega
    clear gr2 own2 b2 HC1 h1 own2' h2r hAc cV
    go_wp2_with fail
    go_region_law (first
      | (refine step_append_own rfl (.tmp 24) (.tmp 28) 24 rfl w1.heap.size 47 i0 _ 2 16 Try.underlying24 hi hz0 hz1 hz2 rfl (by decide) (.slice a2 j c2) j (kvv (l.take j)) (by simp [Act.eval, Act.put]) OWN2.out A (l.length - (j + 1)) (c - (j + 1)) (kvv (l.drop (j + 1))) (by simp [Act.eval, Act.put]) LN2.out HAC.out (kvv_one _) E1.out E2.out E3.out ?_; intro v3 w3 own3 gr3 hn3; obtain ⟨cV3, b3⟩ := AFT.out w3 gr3))
    all_goals
      have HO3 : Hid (w3.ownsRow C 47 2 v3 (dropL l (k : Nat)).length (kvv (dropL l (k : Nat)))) := by
        show World.ownsRow _ _ _ _ _ _ _
        have e1 : (dropL l (k : Nat)).length = j + (l.length - (j + 1)) := by rw [HE.out, List.length_append, List.length_take, List.length_drop]; omega
        rw [e1, HE.out, kvv_app]
        exact rowMono own3 (by rw [HSZ.out]; exact hC)
      have HB3 : Hid (Below w.heap.size w w3) := HBW.out.trans (b3.mono (by rw [HSZ.out]; exact Nat.le_refl _))
      clear own3 gr3 hn3 b3
      go_wp2
      go_ret3
      exact ⟨_, rfl, HO3.out, HB3.out⟩
end Go.Proofs.Ytkghedllkigecaa
