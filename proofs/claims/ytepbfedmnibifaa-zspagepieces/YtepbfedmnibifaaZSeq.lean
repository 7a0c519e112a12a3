/- The walks of zspage.pieces, slices.AppendSeq and slices.Collect at pieces, zspage.Pieces. -/
import Derived.Test.YtepbfedmnibifaaZIter
import Derived.Test.YtepbfedmnibifaaGSeq
namespace Go.Proofs.Ytepbfedmnibifaa
open Go.RowKit
attribute [local go_sem] Oper.semAt_some

theorem Try.infoPz : (Try.prog.info? 29).map (fun i => (i.zero, i.size, i.bytes)) = some (some (.agg #[.int .i64 0, .int .i64 0, .int .i64 0]), 3, 24) := by kernel_rfl
theorem pieces_any (S N F M : Int) (w : World) :
    Calls Try.prog 8 #[.int .i64 S, .int .i64 N, .int .i64 F, .int .i64 M] w fun e w' => e = .returned (.func (.func 11) #[] (zLb w.heap.size)) ∧ CapZ w' w.heap.size S N F M ∧ Below w.heap.size w w' := by
  have hmf : ∀ (fn : Fn) (first cap : Array Value) (w : World), (Instr.makeFunc fn first cap).run Try.prog w = .ok (.func fn first cap) w := fun _ _ _ _ => rfl
  obtain ⟨W4, hW4⟩ : ∃ W4, (((w.alloc (.cells #[.int .i64 S] 3)).alloc (.cells #[.int .i64 N] 3)).alloc (.cells #[.int .i64 F] 3)).alloc (.cells #[.int .i64 M] 3) = W4 := ⟨_, rfl⟩
  have HC : Hid (CapZ W4 w.heap.size S N F M ∧ Below w.heap.size w W4) := by
    refine ⟨⟨?_, ?_, ?_, ?_, ?_⟩, ?_⟩
    · refine cell_of_one (t := 3) ?_
      rw [← hW4, Below.heap_alloc _ _ _ (by simp <;> omega), Below.heap_alloc _ _ _ (by simp <;> omega), Below.heap_alloc _ _ _ (by simp)]
      exact heap_alloc_new w _
    · refine cell_of_one (t := 3) ?_
      rw [← hW4, Below.heap_alloc _ _ _ (by simp <;> omega), Below.heap_alloc _ _ _ (by simp)]
      have := heap_alloc_new (w.alloc (.cells #[.int .i64 S] 3)) (.cells #[.int .i64 N] 3)
      simpa using this
    · refine cell_of_one (t := 3) ?_
      rw [← hW4, Below.heap_alloc _ _ _ (by simp)]
      have := heap_alloc_new ((w.alloc (.cells #[.int .i64 S] 3)).alloc (.cells #[.int .i64 N] 3)) (.cells #[.int .i64 F] 3)
      simpa using this
    · refine cell_of_one (t := 3) ?_
      have := heap_alloc_new (((w.alloc (.cells #[.int .i64 S] 3)).alloc (.cells #[.int .i64 N] 3)).alloc (.cells #[.int .i64 F] 3)) (.cells #[.int .i64 M] 3)
      rw [← hW4]
      simpa using this
    · rw [← hW4]; simp
    · rw [← hW4]
      exact ((((Below.refl _ w).alloc (Nat.le_refl _) _).alloc (by simp) _).alloc (by simp <;> omega) _).alloc (by simp <;> omega) _
  go_enter Try.func8, Try.ntmps8
  go_wp2
  go_ret
  exact ⟨rfl, HC.out⟩

/-- Pieces under way: those of the bytes from a to s. -/
structure SeqZ (w : World) (a e s : Nat) (M : Nat → Prop) (W : World) (v : Value) : Prop where
  bx : W.heap[w.heap.size]? = some (.cells #[v] 23 (0, 0))
  own : W.ownsRow (w.heap.size + 1) 29 3 v (pcsZ a s).length (rowZ (pcsZ a s))
  bel : Below w.heap.size w W
  siz : w.heap.size + 1 ≤ W.heap.size
  out : ∀ i, M i → w.heap.size + 1 ≤ i ∧ v.ownBlock ≠ some i
  lo : a ≤ s
  hi : s ≤ e
  st : s = a ∨ s % 4096 = 0 ∨ s = e
def SeqZI (w : World) (a e s : Nat) (M : Nat → Prop) (W : World) : Prop := ∃ v, SeqZ w a e s M W v
theorem SeqZ.kept {w W W' : World} {a e s : Nat} {M M' : Nat → Prop} {v : Value} (h : SeqZ w a e s M W v) (hk : Keeps (fun k => ¬ M k) W W') (hM : ∀ k, M' k → M k ∨ (W.heap.size ≤ k ∧ k < W'.heap.size)) : SeqZ w a e s M' W' v := by
  have no : ∀ k, k < w.heap.size + 1 → ¬ M k := fun k h1 h2 => by have := (h.out k h2).1; omega
  have hsz := h.siz
  refine ⟨hk.at h.bx (no _ (by omega)), hk.row h.own fun g hg h1 => (h.out g h1).2 hg, h.bel.trans (hk.below (fun k hk2 => no k (by omega)) (by omega)), Nat.le_trans hsz hk.size, fun k h1 => ?_, h.lo, h.hi, h.st⟩
  rcases hM k h1 with h2 | h2
  · exact h.out k h2
  · refine ⟨by omega, fun h3 => ?_⟩
    have := h.own.lt k h3
    omega
theorem seqZ_abides (w : World) (a e : Nat) : Abides (SeqZI w a e) := by
  rintro k M M' W W' ⟨v, h⟩ hk hM
  exact ⟨v, h.kept hk hM⟩

set_option maxRecDepth 100000 in
set_option maxHeartbeats 1000000 in
theorem seqZ_any {S N F M : Int} {b a e : Nat} (w : World) (hc : CapZ w b S N F M) (hF : F < 9223372036854775808) (hae : Zae S N F M a e) :
    Calls Try.prog 10 #[.slice none 0 0, .func (.func 11) #[] (zLb b)] w fun r w' => ∃ v, r = .returned v ∧ w'.ownsRow w.heap.size 29 3 v (pcsZ a e).length (rowZ (pcsZ a e)) ∧ Below w.heap.size w w' := by
  obtain ⟨i0, hi, hz0, hz1, hz2⟩ := info_parts Try.infoPz
  have hle := hae.le
  refine (callsIn_wide (n := 3)).1 ?_
  refine callsIn_of_wp_marks Try.func10 rfl trivial ?_ rfl
  simp only [Try.ntmps10, List.size_toArray, List.length_cons, List.length_nil, Nat.reduceAdd, Nat.reduceSub, Array.replicate_succ, Array.replicate_zero, List.push_toArray, List.append_toArray, List.nil_append, List.cons_append]
  gi_wp2_with fail
  obtain ⟨W0, hW0⟩ : ∃ W0, W0 = w.alloc (.cells #[.slice none 0 0] 23) := ⟨_, rfl⟩
  have hbx : W0.heap[w.heap.size]? = some (.cells #[.slice none 0 0] 23 (0, 0)) := by rw [hW0]; exact heap_alloc_new _ _
  have hb0 : Below w.heap.size w W0 := by rw [hW0]; exact (Below.refl _ w).alloc (Nat.le_refl _) _
  have hsz0 : W0.heap.size = w.heap.size + 1 := by rw [hW0]; simp
  rw [← hW0]
  have hc0 := hc.below hb0
  clear hW0 hc
  refine range_wp (gf := 11) (lb := zLb b) rfl (enters_of Try.func11 (by kernel_rfl) rfl)
    (pieces_iter (K0 := fun i => i < w.heap.size) W0 hc0 hF hae) (fun i hi => by omega) (fun _ => rfl) (SeqZI w a e) (fun _ _ _ => False) (seqZ_abides w a e) (fun _ _ _ _ _ h _ _ => h)
    ⟨.slice none 0 0, hbx, by rw [pcs_none (Nat.le_refl _)]; exact World.ownsRow_nil _ _ _ _, hb0, by omega, fun _ h => h.elim, Nat.le_refl _, hle.1, .inl rfl⟩
    (fun x W a1 W1 => W1 = W.alloc (.cells (pzC (pzAt x e)).toArray 29) ∧ a1 = { tmps := #[.slice none 0 0, .func (.func 11) #[] (zLb b), .pointer (some ⟨w.heap.size, 0, none⟩), undef, .slice none 0 0, .pointer (some ⟨W.heap.size, 0, none⟩), .func (.func 11) #[] (zLb b), .agg (pzC (pzAt x e)).toArray, undef, undef, undef, undef, undef], defers := [] }) ?assign ?body ?done ?stop
  case assign =>
    intro m l x W K hK
    obtain ⟨x0, x1, x2, hx⟩ : ∃ x0 x1 x2 : Int, pzC (pzAt x e) = [.int .i64 x0, .int .i64 x1, .int .i64 x2] := ⟨_, _, _, rfl⟩
    unfold pcV
    rw [hx] at hK ⊢
    clear hx
    gi_wp2
    exact hK _ _ ((Below.refl _ W).alloc (Nat.le_refl _) _) ⟨rfl, rfl⟩
  case body =>
    rintro m l s M x W a1 W1 W2 ⟨v, hv⟩ ⟨rfl, hse⟩ hMl hl hM hbW ⟨rfl, rfl⟩ hlp hk hsz
    have hv2 := (hv.kept (keeps_all hbW) (fun _ h => .inl h)).kept (hk.mono fun k _ h1 h2 => h1 (h2 ▸ hMl)) (fun _ h => .inl h)
    have hlW := hM l hMl
    obtain ⟨x0, x1, x2, hx⟩ : ∃ x0 x1 x2 : Int, pzC (pzAt x e) = [.int .i64 x0, .int .i64 x1, .int .i64 x2] := ⟨_, _, _, rfl⟩
    have hxc := hk.at (heap_alloc_new W (.cells (pzC (pzAt x e)).toArray 29)) (by omega : W.heap.size ≠ l)
    rw [hx] at hxc hsz ⊢
    have hst : x = a ∨ x % 4096 = 0 := by
      rcases hv.st with h | h | h
      · exact .inl h
      · exact .inr h
      · omega
    have HTK : Hid (pcsZ a (x + pzL x e) = pcsZ a x ++ [pzAt x e]) := pcs_told hle.2.1 hv.lo hse hst
    have hlen := pcs_len a x
    have hl := pzL_pos hse
    have hlo := hv.lo
    obtain ⟨k, hkl⟩ : ∃ k, (pcsZ a x).length = k := ⟨_, rfl⟩
    have hlen2 : (pcsZ a (x + pzL x e)).length = k + 1 := by rw [HTK.out, List.length_append, hkl]; rfl
    obtain ⟨av, cv, rfl⟩ := row_slice hv2.own
    rw [hkl] at hlen
    have HX1 : Hid (SeqZ w a e x M W2 (.slice av (pcsZ a x).length cv)) := hv2
    have c0 := cell_of_one hv2.bx
    rw [hkl] at c0
    obtain ⟨d0, d1, d2⟩ := cells_three hxc
    have HV : Hid (SeqZ w a e x M W2 (.slice av k cv)) := by have := hv2; rw [hkl] at this; exact this
    have hown : W2.ownsRow (w.heap.size + 1) 29 3 (.slice av k cv) k (rowZ (pcsZ a x)) := by have := HV.out.own; rwa [hkl] at this
    have HOW : Hid (W2.ownsRow (w.heap.size + 1) 29 3 (.slice av k cv) k (rowZ (pcsZ a x))) := hown
    have HQ : Hid (pzC (pzAt x e) = [.int .i64 x0, .int .i64 x1, .int .i64 x2]) := hx
    have HM : Hid (∀ k, M k → k < W2.heap.size) := fun k h => by
      have := hM k h
      rw [hsz]
      simp
      omega
    have HLN : Hid _ := hlen2
    clear hv hv2 hxc hk hbW hlp hx hM hsz hown HX1 hlen2 hkl
    gi_wp2_with (gi_at_builtin; refine wpListIn_append_lies _ rfl _ _ 23 rfl (w.heap.size + 1) 29 i0 (.agg #[.int .i64 0, .int .i64 0, .int .i64 0]) 3 24 Try.underlying23 hi hz0 hz1 hz2 rfl (by decide) _ k (rowZ (pcsZ a x)) rfl (HOW.out.alloc _) ⟨W2.heap.size, 0, none⟩ 1 1 [.int .i64 x0, .int .i64 x1, .int .i64 x2] rfl rfl (World.news_of_block (heap_alloc_new _ _)) ?c2 (by decide) ?c3 ?c4 ?c5 ?_)
    case c2 => rw [← HQ.out]; exact pzC_one _
    case c3 => unfold maxLen; omega
    case c4 => omega
    case c5 => have := HV.out.siz; simp; omega
    intro g3 cap3 w3 own3 gr3 hat3
    have hsz3 := gr3.size
    have hw2s := HV.out.siz
    have hne : ∀ i, i < w.heap.size + 1 → (Value.slice av k cv).ownBlock ≠ some i := fun i h5 h6 => by have := (HOW.out.lt i h6).1; omega
    have k3 : Keeps (fun i => (Value.slice av k cv).ownBlock ≠ some i) W2 w3 := (keeps_all ((Below.refl _ W2).alloc (Nat.le_refl _) _)).trans (keeps_grown gr3 fun i h5 h6 => h6 h5)
    have hb3 : w3.heap[w.heap.size]? = some (.cells #[.slice av k cv] 23 (0, 0)) := k3.at HV.out.bx (hne _ (by omega))
    have c3 := cell_of_one hb3
    have f3 := free_of_one hb3
    have k4 : Keeps (fun i => i ≠ w.heap.size) w3 (w3.setCell ⟨w.heap.size, 0, none⟩ (.slice (some ⟨g3, 0, none⟩) (k + 1) cap3)) := ⟨rfl, rfl, rfl, by simp, fun i _ h5 => Below.heap_setCell _ _ _ _ h5⟩
    have HE : Hid (roundEnd (fun i => i < w.heap.size) (SeqZI w a e) (fun _ _ _ => False) (x + pzL x e) M W2 .normal { tmps := #[], defers := [] } (w3.setCell ⟨w.heap.size, 0, none⟩ (.slice (some ⟨g3, 0, none⟩) (k + 1) cap3))) := by
      refine ⟨(k3.mono fun i _ h5 => ?_).trans (k4.mono fun i _ h5 => ?_), _, one_setCell hb3, k4.row ?_ fun gg h5 => ?_, HV.out.bel.trans ((k3.below (fun i h5 => hne i (by omega)) (by omega)).trans (k4.below (fun i h5 => by omega) (by have := k3.size; omega))), ?_, fun i h5 => ?_, by omega, by omega, by omega⟩
      · rcases h5 with h5 | h5
        · exact hne i (by omega)
        · exact (HV.out.out i h5).2
      · rcases h5 with h5 | h5
        · omega
        · have := (HV.out.out i h5).1
          omega
      · rw [HLN.out, HTK.out, rowZ_snoc, HQ.out]
        exact own3
      · have := (own3.lt gg h5).1
        omega
      · have := k3.size
        have := k4.size
        omega
      · refine ⟨(HV.out.out i h5).1, fun h6 => ?_⟩
        have h7 : g3 = i := by simpa [Value.ownBlock] using h6
        rcases hat3 with h8 | h8
        · rw [h7] at h8
          exact (HV.out.out i h5).2 h8
        · have := HM.out i h5
          omega
    clear own3 gr3 hat3 hb3 k3 k4 hne
    gi_wp2
    exact HE.out
  case done =>
    rintro D s M W hD hdone hMD ⟨v, hv⟩ hK
    obtain ⟨av, cv, rfl⟩ := row_slice hv.own
    have c0 := cell_of_one hv.bx
    have hd : s = e := Nat.le_antisymm hv.hi hdone
    have hrow := hv.own
    have hout := hv.out D hMD
    have hbel := hv.bel
    have hsiz := hv.siz
    rw [hd] at hrow hout c0
    clear hv hd hdone
    gi_wp2
    refine ⟨by simp, .inl ⟨D, _, rfl, run_takeDeferred hK, ?_⟩⟩
    have hp := keeps_put W D (.deferred none)
    exact ⟨_, results_tmp rfl _ _ _, _, rfl, rowMono (hp.row hrow fun gg h5 h6 => hout.2 (h6 ▸ h5)) (by omega), hbel.trans (hp.below (fun i h5 => by omega) (by omega))⟩
  case stop =>
    rintro D k M W _ _ _ h _
    exact h.elim
set_option maxHeartbeats 1000000 in
theorem collectZ_any {S N F M : Int} {b a e : Nat} (w : World) (hc : CapZ w b S N F M) (hF : F < 9223372036854775808) (hae : Zae S N F M a e) :
    Calls Try.prog 7 #[.func (.func 11) #[] (zLb b)] w fun r w' => ∃ v, r = .returned v ∧ w'.ownsRow w.heap.size 29 3 v (pcsZ a e).length (rowZ (pcsZ a e)) ∧ Below w.heap.size w w' := by
  have HC : Hid _ := seqZ_any w hc hF hae
  clear hc
  go_enter Try.func7, Try.ntmps7
  go_wp2_with fail
  refine Calls.mono HC.out ?_
  rintro r w' ⟨v, rfl, own, bel⟩
  have HO : Hid _ := own
  have HB : Hid (Below w.heap.size w w') := bel
  clear own bel
  go_wp2
  go_ret
  exact ⟨_, rfl, HO.out, HB.out⟩
set_option maxHeartbeats 1000000 in
theorem Pieces_any {S N F M : Int} {a e : Nat} (w : World) (hF : F < 9223372036854775808) (hae : Zae S N F M a e) :
    Calls Try.prog 4 #[.int .i64 S, .int .i64 N, .int .i64 F, .int .i64 M] w fun r w' => ∃ v, r = .returned v ∧ w'.ownsRow w.heap.size 29 3 v (pcsZ a e).length (rowZ (pcsZ a e)) ∧ Below w.heap.size w w' := by
  have HA : Hid (Zae S N F M a e) := hae
  clear hae
  go_enter Try.func4, Try.ntmps4
  go_wp2_with fail
  refine (pieces_any S N F M w).mono ?_
  rintro r w1 ⟨rfl, hc, hb⟩
  have HC : Hid _ := collectZ_any w1 hc hF HA.out
  have HB : Hid (Below w.heap.size w w1) := hb
  clear hc hb
  go_wp2_with fail
  refine Calls.mono HC.out ?_
  rintro r w' ⟨v, rfl, own, bel⟩
  have HO : Hid _ := own
  have HB2 : Hid (Below w1.heap.size w1 w') := bel
  clear own bel
  go_wp2
  go_ret
  exact ⟨_, rfl, rowMono HO.out HB.out.size, HB.out.trans (HB2.out.mono HB.out.size)⟩
end Go.Proofs.Ytepbfedmnibifaa
