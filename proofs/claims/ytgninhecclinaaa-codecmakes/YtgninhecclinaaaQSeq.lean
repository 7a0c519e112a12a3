/- The walks of squeeze.parts, slices.AppendSeq and slices.Collect at tokens. -/
import Derived.Test.YtgninhecclinaaaQParts
import Derived.Test.YtgninhecclinaaaKTk
import Derived.Deep.AppendLies
namespace Go.Proofs.Ytgninhecclinaaa
open Go.RowKit
attribute [local go_sem] Oper.semAt_some

theorem wpListIn_append_lies {F : Fence} {n : Nat} {P : Program} (w : World) {ops : Array Oper} {rest : List Oper} {o : Oper} {a : Act} {Q : Exit → Act → World → Prop} (hgd : o.guard = none) (s x : Operand) (t : TypeId)
    (ho : o.op = .call { callee := .builtin .append, args := #[s, x], argTypes := #[t, t] })
    (base : Nat) (e : TypeId) (i : TypeInfo) (z : Value) (size bytes : Nat) (ht : P.underlying t = some (.slice e)) (hi : P.info? e = some i) (hz : i.zero = some z)
    (hsize : i.size = size) (hby : i.bytes = bytes) (hzs : z.cells.size = size) (hsz : 0 < size)
    (v : Value) (k : Nat) (xs : List Value) (hs : a.eval s = v) (hown : w.ownsRow base e size v k xs)
    (ad : Addr) (m c : Nat) (news : List Value) (hx : a.eval x = .slice (some ad) m c) (hl : news.length = m * size) (hnews : ∀ j u, news[j]? = some u → w.cell? (ad.add j) = some u) (h1 : ∀ u ∈ news, u.oneCell' = true)
    (hm : 0 < m) (h63 : k + m ≤ maxLen) (hbytes : (k + m) * bytes ≤ 140737488355328) (hbase : base ≤ w.heap.size)
    (h : ∀ g cap w', w'.ownsRow base e size (.slice (some ⟨g, 0, none⟩) (k + m) cap) (k + m) (xs ++ news) → w.grownBy w' v.ownBlock → (v.ownBlock = some g ∨ g = w.heap.size) → wpListIn F n P ops Q rest (a.put o.dst (.slice (some ⟨g, 0, none⟩) (k + m) cap)) w') : wpListIn F n P ops Q (o :: rest) a w := by
  refine wpListIn_plain hgd fun K hK' => ?_
  obtain ⟨g, cap, w', hrun, r1, r2, r3, _⟩ := run_append_lies (P := P) w t o.type base e i z size bytes ht hi hz hsize hby hzs hsz v k xs hown ad m c news hl hnews h1 hm h63 hbytes hbase _ rfl
  unfold Oper.wpIn
  refine ⟨?_, ?_⟩
  · simp [Oper.about, ho, resolve, Target.leads, Sem.run_pure]
  · rw [Oper.semAt_plain F _ _ (by rw [ho]; intro c hc'; cases hc')]
    simp [execOp, ho, resolve, invoke, builtin, hs, hx, hrun, Result.andThen]
    exact hK' _ _ (h g cap w' r1 r2 r3)

set_option maxHeartbeats 1000000 in
theorem parts_any {p : Option Addr} {L c : Nat} (w : World) :
    Calls Try.prog 18 #[.slice p L c] w fun e w' => e = .returned (.func (.func 31) #[] #[.pointer (some ⟨w.heap.size, 0, none⟩)]) ∧ w' = w.alloc (.cells #[.slice p L c] 23) := by
  go_enter Try.func18, Try.ntmps18
  go_wp2
  go_ret
  exact ⟨rfl, rfl⟩

theorem Try.infoTok : (Try.prog.info? 48).map (fun i => (i.zero, i.size, i.bytes)) = some (some (.agg #[.slice none 0 0, .int .i64 0, .int .i64 0]), 3, 40) := by kernel_rfl
/-- A token's cells. -/
def tokC (g o : Nat) (x : Tz) : List Value := [if x.n = 0 then .slice (some ⟨g, o + x.o, none⟩) x.l x.l else .slice none 0 0, .int .i64 (x.n : Nat), .int .i64 (x.d : Nat)]
theorem tokV_eq (g o : Nat) (x : Tz) : tokV g o x = #[.agg (tokC g o x).toArray] := rfl
theorem tokC_is (g o : Nat) (x : Tz) : ∃ qp ql qc, tokC g o x = [.slice qp ql qc, .int .i64 (x.n : Nat), .int .i64 (x.d : Nat)] := by
  unfold tokC
  split
  · exact ⟨_, _, _, rfl⟩
  · exact ⟨_, _, _, rfl⟩
theorem tokC_one (g o : Nat) (x : Tz) : ∀ u ∈ tokC g o x, u.oneCell' = true := by
  intro u hu
  unfold tokC at hu
  simp only [List.mem_cons, List.not_mem_nil, or_false] at hu
  rcases hu with rfl | rfl | rfl
  · split <;> rfl
  · rfl
  · rfl
def rowC (g o : Nat) (T : List Tz) : List Value := T.flatMap (tokC g o)
theorem rowC_len (g o : Nat) : ∀ T : List Tz, (rowC g o T).length = T.length * 3
  | [] => rfl
  | x :: T => by
    have := rowC_len g o T
    unfold rowC at this ⊢
    rw [List.flatMap_cons, List.length_append, this]
    simp [tokC]
    omega
theorem rowC_snoc (g o : Nat) (T : List Tz) (x : Tz) : rowC g o (T ++ [x]) = rowC g o T ++ tokC g o x := by simp [rowC]

/-- Tokens under way: k of T. -/
structure Seqs (w : World) (g o : Nat) (T : List Tz) (k : Nat) (M : Nat → Prop) (W : World) (v : Value) : Prop where
  bx : W.heap[w.heap.size]? = some (.cells #[v] 45 (0, 0))
  own : W.ownsRow (w.heap.size + 1) 48 3 v k (rowC g o (T.take k))
  bel : Below w.heap.size w W
  siz : w.heap.size + 1 ≤ W.heap.size
  out : ∀ i, M i → w.heap.size + 1 ≤ i ∧ v.ownBlock ≠ some i
  le : k ≤ T.length
def SeqsI (w : World) (g o : Nat) (T : List Tz) (k : Nat) (M : Nat → Prop) (W : World) : Prop := ∃ v, Seqs w g o T k M W v
theorem Seqs.kept {w W W' : World} {g o k : Nat} {T : List Tz} {M M' : Nat → Prop} {v : Value} (h : Seqs w g o T k M W v) (hk : Keeps (fun k => ¬ M k) W W') (hM : ∀ k, M' k → M k ∨ (W.heap.size ≤ k ∧ k < W'.heap.size)) : Seqs w g o T k M' W' v := by
  have no : ∀ k, k < w.heap.size + 1 → ¬ M k := fun k h1 h2 => by have := (h.out k h2).1; omega
  have hsz := h.siz
  refine ⟨hk.at h.bx (no _ (by omega)), hk.row h.own fun g hg h1 => (h.out g h1).2 hg, h.bel.trans (hk.below (fun k hk2 => no k (by omega)) (by omega)), Nat.le_trans hsz hk.size, fun k h1 => ?_, h.le⟩
  rcases hM k h1 with h2 | h2
  · exact h.out k h2
  · refine ⟨by omega, fun h3 => ?_⟩
    have := h.own.lt k h3
    omega
theorem seqs_abides (w : World) (g o : Nat) (T : List Tz) : Abides (SeqsI w g o T) := by
  rintro k M M' W W' ⟨v, h⟩ hk hM
  exact ⟨v, h.kept hk hM⟩

set_option maxRecDepth 100000 in
set_option maxHeartbeats 1000000 in
theorem seq_any {g o c bp : Nat} {b : List Nat} (w : World) (hs : w.cell? ⟨bp, 0, none⟩ = some (.slice (some ⟨g, o, none⟩) 4096 c)) (hb : ByAt w (some ⟨g, o, none⟩) 4096 c b) (h2 : bp < w.heap.size) (hT : (packL b).length ≤ 8192) :
    Calls Try.prog 30 #[.slice none 0 0, .func (.func 31) #[] #[.pointer (some ⟨bp, 0, none⟩)]] w fun e w' => ∃ v, e = .returned v ∧ w'.ownsRow w.heap.size 48 3 v (packL b).length (rowC g o (packL b)) ∧ Below w.heap.size w w' := by
  obtain ⟨i0, hi, hz0, hz1, hz2⟩ := info_parts Try.infoTok
  refine (callsIn_wide (n := 3)).1 ?_
  refine callsIn_of_wp_marks Try.func30 rfl trivial ?_ rfl
  simp only [Try.ntmps30, List.size_toArray, List.length_cons, List.length_nil, Nat.reduceAdd, Nat.reduceSub, Array.replicate_succ, Array.replicate_zero, List.push_toArray, List.append_toArray, List.nil_append, List.cons_append]
  gi_wp2_with fail
  obtain ⟨W0, hW0⟩ : ∃ W0, W0 = w.alloc (.cells #[.slice none 0 0] 45) := ⟨_, rfl⟩
  have hbx : W0.heap[w.heap.size]? = some (.cells #[.slice none 0 0] 45 (0, 0)) := by rw [hW0]; exact heap_alloc_new _ _
  have hb0 : Below w.heap.size w W0 := by rw [hW0]; exact (Below.refl _ w).alloc (Nat.le_refl _) _
  have hsz0 : W0.heap.size = w.heap.size + 1 := by rw [hW0]; simp
  rw [← hW0]
  have hgl : g < w.heap.size := by
    obtain ⟨g', o', e, hg, _⟩ := hb.at (by omega)
    cases e
    exact hg
  have hs0 := (hb0.cell (p := ⟨bp, 0, none⟩) h2).trans hs
  have hby0 := hb.later hb0
  clear hW0 hs hb
  refine range_wp (gf := 31) (lb := #[.pointer (some ⟨bp, 0, none⟩)]) rfl (enters_of Try.func31 (by kernel_rfl) rfl)
    (parts_iter (K0 := fun i => i < w.heap.size) W0 hs0 hby0 h2 (by omega) (fun i hi => by omega)) (fun i hi => by omega) (fun _ => rfl) (SeqsI w g o (packL b)) (fun _ _ _ => False) (seqs_abides w g o (packL b)) (fun _ _ _ _ _ h _ _ => h)
    ⟨.slice none 0 0, hbx, World.ownsRow_nil _ _ _ _, hb0, by omega, fun _ h => h.elim, Nat.zero_le _⟩
    (fun x W a1 W1 => W1 = W.alloc (.cells (tokC g o x).toArray 48) ∧ a1 = { tmps := #[.slice none 0 0, .func (.func 31) #[] #[.pointer (some ⟨bp, 0, none⟩)], .pointer (some ⟨w.heap.size, 0, none⟩), undef, .slice none 0 0, .pointer (some ⟨W.heap.size, 0, none⟩), .func (.func 31) #[] #[.pointer (some ⟨bp, 0, none⟩)], .agg (tokC g o x).toArray, undef, undef, undef, undef, undef], defers := [] }) ?assign ?body ?done ?stop
  case assign =>
    intro m l x W K hK
    rw [tokV_eq]
    obtain ⟨qp, ql, qc, hq⟩ := tokC_is g o x
    rw [hq] at hK ⊢
    clear hq
    gi_wp2
    exact hK _ _ ((Below.refl _ W).alloc (Nat.le_refl _) _) ⟨rfl, rfl⟩
  case body =>
    rintro m l k M x W a1 W1 W2 ⟨v, hv⟩ hT2 hMl hl hM hbW ⟨rfl, rfl⟩ hlp hk hsz
    have hv2 := (hv.kept (keeps_all hbW) (fun _ h => .inl h)).kept (hk.mono fun k _ h1 h2 => h1 (h2 ▸ hMl)) (fun _ h => .inl h)
    have hlW := hM l hMl
    obtain ⟨qp, ql, qc, hq⟩ := tokC_is g o x
    have hx := hk.at (heap_alloc_new W (.cells (tokC g o x).toArray 48)) (by omega : W.heap.size ≠ l)
    rw [hq] at hx hsz ⊢
    have hkl : k < (packL b).length := (List.getElem?_eq_some_iff.1 hT2).1
    have HTK : Hid ((packL b).take (k + 1) = (packL b).take k ++ [x]) := by
      show _ = _
      rw [List.take_add_one, hT2]
      rfl
    obtain ⟨av, cv, rfl⟩ := row_slice hv2.own
    have c0 := cell_of_one hv2.bx
    obtain ⟨d0, d1, d2⟩ := three_cells hx
    have HV : Hid (Seqs w g o (packL b) k M W2 (.slice av k cv)) := hv2
    have HQ : Hid (tokC g o x = [.slice qp ql qc, .int .i64 (x.n : Nat), .int .i64 (x.d : Nat)]) := hq
    have HM : Hid (∀ k, M k → k < W2.heap.size) := fun k h => by
      have := hM k h
      rw [hsz]
      simp
      omega
    clear hv hv2 hx hk hbW hlp hq hM hsz
    gi_wp2_with (gi_at_builtin; refine wpListIn_append_lies _ rfl _ _ 45 rfl (w.heap.size + 1) 48 i0 (.agg #[.slice none 0 0, .int .i64 0, .int .i64 0]) 3 40 Try.underlying45 hi hz0 hz1 hz2 rfl (by decide) _ k (rowC g o ((packL b).take k)) rfl (HV.out.own.alloc _) ⟨W2.heap.size, 0, none⟩ 1 1 [.slice qp ql qc, .int .i64 (x.n : Nat), .int .i64 (x.d : Nat)] rfl rfl (World.news_of_block (heap_alloc_new _ _)) ?c2 (by decide) ?c3 ?c4 ?c5 ?_)
    case c2 => rw [← HQ.out]; exact tokC_one g o x
    case c3 => unfold maxLen; omega
    case c4 => omega
    case c5 => have := HV.out.siz; simp; omega
    intro g3 cap3 w3 own3 gr3 hat3
    have hsz3 := gr3.size
    have hw2s := HV.out.siz
    have hne : ∀ i, i < w.heap.size + 1 → (Value.slice av k cv).ownBlock ≠ some i := fun i h5 h6 => by have := (HV.out.own.lt i h6).1; omega
    have k3 : Keeps (fun i => (Value.slice av k cv).ownBlock ≠ some i) W2 w3 := (keeps_all ((Below.refl _ W2).alloc (Nat.le_refl _) _)).trans (keeps_grown gr3 fun i h5 h6 => h6 h5)
    have hb3 : w3.heap[w.heap.size]? = some (.cells #[.slice av k cv] 45 (0, 0)) := k3.at HV.out.bx (hne _ (by omega))
    have c3 := cell_of_one hb3
    have f3 := free_of_one hb3
    have k4 : Keeps (fun i => i ≠ w.heap.size) w3 (w3.setCell ⟨w.heap.size, 0, none⟩ (.slice (some ⟨g3, 0, none⟩) (k + 1) cap3)) := ⟨rfl, rfl, rfl, by simp, fun i _ h5 => Below.heap_setCell _ _ _ _ h5⟩
    have HE : Hid (roundEnd (fun i => i < w.heap.size) (SeqsI w g o (packL b)) (fun _ _ _ => False) (k + 1) M W2 .normal { tmps := #[], defers := [] } (w3.setCell ⟨w.heap.size, 0, none⟩ (.slice (some ⟨g3, 0, none⟩) (k + 1) cap3))) := by
      refine ⟨(k3.mono fun i _ h5 => ?_).trans (k4.mono fun i _ h5 => ?_), _, one_setCell hb3, k4.row ?_ fun gg h5 => ?_, HV.out.bel.trans ((k3.below (fun i h5 => hne i (by omega)) (by omega)).trans (k4.below (fun i h5 => by omega) (by have := k3.size; omega))), ?_, fun i h5 => ?_, by omega⟩
      · rcases h5 with h5 | h5
        · exact hne i (by omega)
        · exact (HV.out.out i h5).2
      · rcases h5 with h5 | h5
        · omega
        · have := (HV.out.out i h5).1
          omega
      · rw [HTK.out, rowC_snoc, HQ.out]
        exact own3
      · have := (own3.lt gg h5).1
        omega
      · have := k3.size
        have := k4.size
        omega
      · refine ⟨(HV.out.out i h5).1, fun h6 => ?_⟩
        have h7 : g3 = i := by simpa [Value.ownBlock] using h6
        rcases hat3 with h8 | h8
        · rw [h7] at h8
          exact (HV.out.out i h5).2 h8
        · have := HM.out i h5
          omega
    clear own3 gr3 hat3 hb3 k3 k4 hne
    gi_wp2
    exact HE.out
  case done =>
    rintro D k M W hD hdone hMD ⟨v, hv⟩ hK
    obtain ⟨av, cv, rfl⟩ := row_slice hv.own
    have c0 := cell_of_one hv.bx
    have hd : k = (packL b).length := hdone
    have hrow : W.ownsRow (w.heap.size + 1) 48 3 (.slice av k cv) (packL b).length (rowC g o (packL b)) := by
      have := hv.own
      rw [hd, List.take_length] at this
      rw [hd]
      exact this
    have hout := hv.out D hMD
    have hbel := hv.bel
    have hsiz := hv.siz
    clear hv hd hdone
    gi_wp2
    refine ⟨by simp, .inl ⟨D, _, rfl, run_takeDeferred hK, ?_⟩⟩
    have hp := keeps_put W D (.deferred none)
    exact ⟨_, results_tmp rfl _ _ _, _, rfl, rowMono (hp.row hrow fun gg h5 h6 => hout.2 (h6 ▸ h5)) (by omega), hbel.trans (hp.below (fun i h5 => by omega) (by omega))⟩
  case stop =>
    rintro D k M W _ _ _ h _
    exact h.elim
set_option maxHeartbeats 1000000 in
theorem collect_any {g o c bp : Nat} {b : List Nat} (w : World) (hs : w.cell? ⟨bp, 0, none⟩ = some (.slice (some ⟨g, o, none⟩) 4096 c)) (hb : ByAt w (some ⟨g, o, none⟩) 4096 c b) (h2 : bp < w.heap.size) (hT : (packL b).length ≤ 8192) :
    Calls Try.prog 17 #[.func (.func 31) #[] #[.pointer (some ⟨bp, 0, none⟩)]] w fun e w' => ∃ v, e = .returned v ∧ w'.ownsRow w.heap.size 48 3 v (packL b).length (rowC g o (packL b)) ∧ Below w.heap.size w w' := by
  have HC : Hid (Calls Try.prog 30 #[.slice none 0 0, .func (.func 31) #[] #[.pointer (some ⟨bp, 0, none⟩)]] w fun e w' => ∃ v, e = .returned v ∧ w'.ownsRow w.heap.size 48 3 v (packL b).length (rowC g o (packL b)) ∧ Below w.heap.size w w') := seq_any w hs hb h2 hT
  clear hs hb
  go_enter Try.func17, Try.ntmps17
  go_wp2_with fail
  refine Calls.mono HC.out ?_
  rintro e w' ⟨v, rfl, own, bel⟩
  have HO : Hid (w'.ownsRow w.heap.size 48 3 v (packL b).length (rowC g o (packL b))) := own
  have HB : Hid (Below w.heap.size w w') := bel
  clear own bel
  go_wp2
  go_ret
  exact ⟨_, rfl, HO.out, HB.out⟩
end Go.Proofs.Ytgninhecclinaaa
