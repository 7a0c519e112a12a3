/- The walk of Of. -/
import Derived.Test.YtlnkelhhemgibaaVLen
namespace Go.Proofs.Ytlnkelhhemgibaa
open Go.RowKit
attribute [local go_sem] Oper.semAt_some

theorem Try.infoIn : (Try.prog.info? 3).map (fun i => (i.zero, i.size, i.bytes)) = some (some (.int .i64 0), 1, 8) := by kernel_rfl
/-- Numbers in a row. -/
def vI (l : List Nat) : List Value := l.map fun n => .int .i64 (n : Nat)
theorem vI_one (l : List Nat) : ∀ u ∈ vI l, u.oneCell' = true := by
  intro u hu
  obtain ⟨x, _, rfl⟩ := List.mem_map.1 hu
  rfl
theorem vI_snoc (l : List Nat) (x : Nat) : vI (l ++ [x]) = vI l ++ [.int .i64 (x : Nat)] := by simp [vI]
theorem vI_at (l : List Nat) (i : Nat) (hi : i < l.length) : (vI l)[i]? = some (.int .i64 (l.getD i 0 : Nat)) := by simp [vI, List.getD, hi]
/-- Handles under way. -/
structure OfS (w : World) (q : Nat) (pg : Int) (T : Int → Pl) (s : Nat) (M : Nat → Prop) (W : World) (v : Value) : Prop where
  loc : Loc w q 2 M W
  gx : W.heap[q]? = some (.cells #[.int .i64 pg] 3 (0, 0))
  bx : W.heap[q + 1]? = some (.cells #[v] 33 (0, 0))
  own : W.ownsRow (q + 2) 3 1 v (ofT T pg s).length (vI (ofT T pg s))
  out : ∀ i, M i → v.ownBlock ≠ some i
  le : s ≤ 513
def OfI (w : World) (q : Nat) (pg : Int) (T : Int → Pl) (s : Nat) (M : Nat → Prop) (W : World) : Prop := ∃ v, OfS w q pg T s M W v
theorem OfS.kept {w W W' : World} {q s : Nat} {pg : Int} {T : Int → Pl} {M M' : Nat → Prop} {v : Value} (h : OfS w q pg T s M W v) (hk : Keeps (fun k => ¬ M k) W W') (hM : ∀ k, M' k → M k ∨ (W.heap.size ≤ k ∧ k < W'.heap.size)) : OfS w q pg T s M' W' v := by
  refine ⟨h.loc.kept hk hM, hk.at h.gx (h.loc.no (by omega)), hk.at h.bx (h.loc.no (by omega)), hk.row h.own fun g hg h1 => h.out g h1 hg, fun k h1 h3 => ?_, h.le⟩
  rcases hM k h1 with h2 | h2
  · exact h.out k h2 h3
  · have := h.own.lt k h3
    omega
theorem of_abides (w : World) (q : Nat) (pg : Int) (T : Int → Pl) : Abides (OfI w q pg T) := by
  rintro s M M' W W' ⟨v, h⟩ hk hM
  exact ⟨v, h.kept hk hM⟩
set_option maxRecDepth 100000 in
set_option maxHeartbeats 1000000 in
theorem of_any {v : Value} {T : Int → Pl} (pg : Int) (w : World) (hT : TabP w v T) :
    Calls Try.prog 11 #[v, .int .i64 pg] w fun e w' => ∃ u, e = .returned u ∧ w'.ownsRow w.heap.size 3 1 u (ofT T pg 513).length (vI (ofT T pg 513)) ∧ Below w.heap.size w w' := by
  obtain ⟨i0, hi, hz0, hz1, hz2⟩ := info_parts Try.infoIn
  have hv := hT.v
  obtain ⟨W1, hW1⟩ : ∃ W1, W1 = (w.alloc (.cells #[.int .i64 pg] 3)).alloc (.cells #[.slice none 0 0] 33) := ⟨_, rfl⟩
  have hb1 : Below w.heap.size w W1 := by rw [hW1]; exact ((Below.refl _ w).alloc (Nat.le_refl _) _).alloc (by simp) _
  have hs1 : W1.heap.size = w.heap.size + 2 := by rw [hW1]; simp
  have r1 : W1.heap[w.heap.size]? = some (.cells #[.int .i64 pg] 3 (0, 0)) := by rw [hW1, Below.heap_alloc _ _ _ (by simp)]; exact heap_alloc_new w _
  have r2 : W1.heap[w.heap.size + 1]? = some (.cells #[.slice none 0 0] 33 (0, 0)) := by
    have := heap_alloc_new (w.alloc (.cells #[.int .i64 pg] 3)) (.cells #[.slice none 0 0] 33)
    rw [World.size_alloc] at this
    rw [hW1]; exact this
  have HO : Hid _ := used_any v W1 hv
  refine (callsIn_wide (n := 3)).1 ?_
  refine callsIn_of_wp_marks Try.func11 rfl trivial ?_ rfl
  simp only [Try.ntmps11, List.size_toArray, List.length_cons, List.length_nil, Nat.reduceAdd, Nat.reduceSub, Array.replicate_succ, Array.replicate_zero, List.push_toArray, List.append_toArray, List.nil_append, List.cons_append]
  gi_wp2_with fail
  rw [← hW1]
  clear hW1
  refine ⟨trivial, CallsIn.mono (callsIn_wide.2 HO.out) ?_⟩
  rintro e W0 ⟨rfl, hc, hb0, hs0⟩
  rw [hs1] at hc hb0 hs0 ⊢
  have hbw : Below w.heap.size w W0 := hb1.trans (hb0.mono (by omega))
  have hT0 := hT.later hbw
  have r10 := (hb0.block _ (by omega)).trans r1
  have r20 := (hb0.block _ (by omega)).trans r2
  have hit := used_iter (K0 := fun _ => False) W0 hc (by omega) hT0
  clear hc hT hT0 HO hb1 hb0 r1 r2 hv
  gi_wp2_with fail
  refine range_wp (gf := 24) (lb := vLb (w.heap.size + 2)) rfl (enters_of Try.func24 (by kernel_rfl) rfl)
    hit (fun i hi => hi.elim) (fun _ => rfl) (OfI w w.heap.size pg T) (fun _ _ _ => False) (of_abides w w.heap.size pg T) (fun _ _ _ _ _ h _ _ => h)
    ⟨.slice none 0 0, ⟨hbw, by omega, fun _ h => h.elim⟩, r10, r20, World.ownsRow_nil _ _ _ _, fun _ h => h.elim, by omega⟩
    (fun x W a1 W1 => W1 = W.alloc (.cells #[.int .i64 (T x).p, .int .i64 (T x).o, .int .i64 (T x).l] 28) ∧ a1 = { tmps := #[v, .int .i64 pg, undef, .pointer (some ⟨w.heap.size, 0, none⟩), .slice none 0 0, .pointer (some ⟨w.heap.size + 1, 0, none⟩), .int .i64 (x : Nat), .pointer (some ⟨W.heap.size, 0, none⟩), v, .func (.func 24) #[] (vLb (w.heap.size + 2)), .int .i64 (x : Nat), .agg #[.int .i64 (T x).p, .int .i64 (T x).o, .int .i64 (T x).l], undef, undef, undef, undef, undef, undef, undef, undef, undef], defers := [] }) ?assign ?body ?done ?stop
  case assign =>
    intro m l x W K hK
    unfold hV
    generalize T x = y at *
    obtain ⟨yp, yo, yl⟩ := y
    simp only at hK ⊢
    gi_wp2
    exact hK _ _ ((Below.refl _ W).alloc (Nat.le_refl _) _) ⟨rfl, rfl⟩
  case body =>
    rintro m l s M x W a1 W1 Wr ⟨u, hS⟩ ⟨hsx, hx, hu, hg⟩ hMl hl2 hM hbW ⟨rfl, rfl⟩ hlp hk hsz
    have hS2 := (hS.kept (keeps_all hbW) (fun _ h => .inl h)).kept (hk.mono fun k _ h1 h2 => h1 (h2 ▸ hMl)) (fun _ h => .inl h)
    have hlW := hM l hMl
    have hp := hk.at (heap_alloc_new W (.cells #[.int .i64 (T x).p, .int .i64 (T x).o, .int .i64 (T x).l] 28)) (by omega : W.heap.size ≠ l)
    have HM : Hid (∀ k, M k → k < Wr.heap.size) := fun k h => by
      have := hM k h
      rw [hsz]
      simp
      omega
    have HOUT : Hid ((T x).p ≠ pg → ofT T pg (x + 1) = ofT T pg s) := fun h => of_out hg hsx h
    have HIN : Hid ((T x).p = pg → ofT T pg (x + 1) = ofT T pg s ++ [x]) := fun h => of_in hg hsx hu h
    have hxs : x + 1 ≤ 513 := by omega
    have hpr : W.heap.size < Wr.heap.size := by rw [hsz]; simp
    obtain ⟨pb, hpb⟩ : ∃ pb, W.heap.size = pb := ⟨_, rfl⟩
    generalize T x = y at *
    obtain ⟨yp, yo, yl⟩ := y
    simp only at hp HOUT HIN
    obtain ⟨L, hL⟩ : ∃ L, ofT T pg s = L := ⟨_, rfl⟩
    have hLl := of_le T pg s
    have hsl := hS2.le
    have HL : Hid (ofT T pg s = L) := hL
    obtain ⟨n, hn⟩ : ∃ n, L.length = n := ⟨_, rfl⟩
    have HN : Hid (L.length = n) := hn
    rw [hpb] at hp hpr ⊢
    rw [hL, hn] at hLl
    have hn5 : n ≤ 513 := by omega
    have hown := hS2.own
    rw [hL, hn] at hown
    obtain ⟨av, cv, rfl⟩ := row_slice hown
    have HOWN : Hid (Wr.ownsRow (w.heap.size + 2) 3 1 (.slice av n cv) n (vI L)) := hown
    have HS : Hid (OfS w w.heap.size pg T s M Wr (.slice av n cv)) := hS2
    have d0 := cell_of_one hS2.gx
    have d1 := cell_of_one hS2.bx
    have f1 := free_of_one hS2.bx
    obtain ⟨x0, x1, x2⟩ := cells_three hp
    have hsiz := hS2.loc.siz
    clear hS hS2 hp hk hbW hlp hsz hit hu hg hsx hMl hl2 hM hL hn hown hlW hpb hLl
    by_cases he : yp = pg
    · have e1 : (yp == pg) = true := by rw [beq_iff_eq]; exact he
      have HO2 : Hid (ofT T pg (x + 1) = L ++ [x]) := by show _ = _; rw [HIN.out he, HL.out]
      clear he HIN HOUT
      gi_wp2_with (gi_at_builtin; refine wpListIn_append_lies _ rfl _ _ 33 rfl (w.heap.size + 2) 3 i0 (.int .i64 0) 1 8 Try.underlying33 hi hz0 hz1 hz2 rfl (by decide) _ n (vI L) rfl (HOWN.out.alloc _) ⟨Wr.heap.size, 0, none⟩ 1 1 [.int .i64 (x : Nat)] rfl rfl (World.news_of_block (heap_alloc_new _ _)) ?c2 (by decide) ?c3 ?c4 ?c5 ?_)
      case c2 => intro u hu; simp only [List.mem_singleton] at hu; rw [hu]; rfl
      case c3 => unfold maxLen; omega
      case c4 => omega
      case c5 => simp; omega
      intro g3 cap3 w3 own3 gr3 hat3
      have hsz3 := gr3.size
      have hne : ∀ i, i < w.heap.size + 2 → (Value.slice av n cv).ownBlock ≠ some i := fun i h5 h6 => by have := (HOWN.out.lt i h6).1; omega
      have k3 : Keeps (fun i => (Value.slice av n cv).ownBlock ≠ some i) Wr w3 := (keeps_all ((Below.refl _ Wr).alloc (Nat.le_refl _) _)).trans (keeps_grown gr3 fun i h5 h6 => h6 h5)
      have hg3 := k3.at HS.out.gx (hne _ (by omega))
      have hb3 := k3.at HS.out.bx (hne _ (by omega))
      have c3 := cell_of_one hb3
      have f3 := free_of_one hb3
      have k4 := setCell_keeps w3 (w.heap.size + 1) (.slice (some ⟨g3, 0, none⟩) (n + 1) cap3)
      have k34 : Keeps (fun i => (Value.slice av n cv).ownBlock ≠ some i ∧ i ≠ w.heap.size + 1) Wr (w3.setCell ⟨w.heap.size + 1, 0, none⟩ (.slice (some ⟨g3, 0, none⟩) (n + 1) cap3)) := (k3.mono fun i _ h5 => h5.1).trans (k4.mono fun i _ h5 => h5.2)
      have HE : Hid (roundEnd (fun _ => False) (OfI w w.heap.size pg T) (fun _ _ _ => False) (x + 1) M Wr .normal { tmps := #[], defers := [] } (w3.setCell ⟨w.heap.size + 1, 0, none⟩ (.slice (some ⟨g3, 0, none⟩) (n + 1) cap3))) := by
        refine ⟨k34.mono fun i _ h5 => ?_, _, HS.out.loc.own (k34.mono fun i _ h5 => ⟨hne i (by omega), by omega⟩), k4.at hg3 (by omega), one_setCell hb3, ?_, fun i h5 h6 => ?_, hxs⟩
        · rcases h5 with h5 | h5
          · exact h5.elim
          · exact ⟨HS.out.out i h5, by have := HS.out.loc.out i h5; omega⟩
        · rw [HO2.out, vI_snoc, List.length_append, HN.out]
          refine k4.row own3 fun gg h5 => ?_
          have := (own3.lt gg h5).1
          omega
        · have h7 : g3 = i := by simpa [Value.ownBlock] using h6
          rcases hat3 with h8 | h8
          · rw [h7] at h8
            exact HS.out.out i h5 h8
          · have := HM.out i h5
            omega
      clear own3 gr3 hat3 hb3 hg3 k3 k4 k34 hne
      gi_wp2
      exact HE.out
    · have e1 : (yp == pg) = false := by rw [beq_eq_false_iff_ne]; exact he
      have HO2 : Hid (ofT T pg (x + 1) = L) := by show _ = _; rw [HOUT.out he, HL.out]
      have HE : Hid (roundEnd (fun _ => False) (OfI w w.heap.size pg T) (fun _ _ _ => False) (x + 1) M Wr .normal { tmps := #[], defers := [] } Wr) :=
        ⟨Keeps.refl _ _, _, HS.out.loc, HS.out.gx, HS.out.bx, by rw [HO2.out, HN.out]; exact HOWN.out, HS.out.out, hxs⟩
      clear he HIN HOUT
      gi_wp2
      exact HE.out
  case done =>
    rintro D s M W hD ⟨hs, hg⟩ hMD ⟨u, hS⟩ hK
    have hown := hS.own
    rw [← hg.of hs] at hown
    have c0 := cell_of_one hS.bx
    have hbel := hS.loc.bel
    have hsiz := hS.loc.siz
    have hout := hS.loc.out D hMD
    have hout2 := hS.out D hMD
    obtain ⟨av, cv, rfl⟩ := row_slice hown
    have HOWN : Hid (W.ownsRow (w.heap.size + 2) 3 1 (.slice av (ofT T pg 513).length cv) (ofT T pg 513).length (vI (ofT T pg 513))) := hown
    clear hS hit hg hown
    gi_wp2
    refine ⟨by simp, .inl ⟨D, _, rfl, run_takeDeferred hK, ?_⟩⟩
    have hp := keeps_put W D (.deferred none)
    exact ⟨_, results_tmp Try.results11 _ _ _, _, rfl, rowMono (hp.row HOWN.out fun gg h5 h6 => hout2 (h6 ▸ h5)) (by omega), hbel.trans (hp.below (fun i h5 => by omega) (by omega))⟩
  case stop =>
    rintro D k M W _ _ _ h _
    exact h.elim
end Go.Proofs.Ytlnkelhhemgibaa
