/- Proved: gunnylaw07.LuckKeeps returns true for all lists of bools: luck keeps the choices that it was made of, whatever becomes of the list that was handed in. No conditions. -/
import Derived.Test.YtndeojiebpbgdaaLLives
import Derived.Test.YtndeojiebpbgdaaGSrc
import Derived.Deep.RegionWith
namespace Go.Proofs.Ytndeojiebpbgdaa.LuckKeeps
open Go.ChangeShapes Go.WideShapes Go.ChangeAt Go.RowKit
set_option linter.unusedVariables false
theorem own : ownKnob Try.prog.godebug = none := by kernel_rfl
theorem laidOut : laidOutB Try.prog = true := by kernel_rfl
/-- The first rounds' state: the list that was handed in (v: of L bools, from base B to less than Q) turns; luck does not. -/
structure Held (w wr : World) (Q E b L : Nat) (v : Value) (zs : List Bool) : Prop where
  at_ : LuckAt Q E wr b zs 0
  bel : Below w.heap.size w wr
  row : ∃ ys, wr.ownsRow w.heap.size 4 1 v L (bl ys)
  qs : w.heap.size ≤ Q
  low : ∀ g n c, v = .slice (some ⟨g, 0, none⟩) n c → g < Q
theorem BoolsAt.src {w : World} {a : Option Addr} {n c : Nat} {zs : List Bool} (h : BoolsAt w a n c zs) : SrcAt w (.slice a n c) n 1 (bl zs) := by
  rcases h.2 with ⟨rfl, rfl, rfl⟩ | ⟨p, rfl, hc⟩
  · exact .inl ⟨rfl, rfl, by rw [List.length_eq_zero_iff.1 h.1]; rfl⟩
  · refine .inr ⟨p, c, rfl, by rw [bl_len, h.1]; omega, fun j u hj => ?_⟩
    obtain ⟨h1, rfl⟩ := bl_some hj
    rw [h.1] at h1
    have hx := hc j h1
    refine ⟨?_, hx⟩
    have := World.block_lt_of_cell? w _ hx
    unfold Addr.add at this
    split at this <;> exact this
/-- The later rounds' state. -/
structure Seen (w wr : World) (Q E b : Nat) (zs : List Bool) (k : Nat) : Prop where
  at_ : LuckAt Q E wr b zs k
  bel : Below w.heap.size w wr
  qs : w.heap.size ≤ Q
theorem Seen.step {w wr w2 : World} {Q E b k k' : Nat} {zs : List Bool} (h : Seen w wr Q E b zs k) (h2 : LuckAt Q E w2 b zs k') (t2 : Turns Q E wr w2) : Seen w w2 Q E b zs k' := by
  have e1 := h.at_.lo
  have e2 := h.at_.lt
  have e3 := h.at_.hi
  exact ⟨h2, h.bel.trans ((t2.below (by omega)).mono h.qs), h.qs⟩

set_option maxRecDepth 100000 in
set_option maxHeartbeats 4000000 in
theorem run (a : Option Addr) (L c : Nat) (zs : List Bool) (w : World) (hL : L ≤ maxLen) (hz : BoolsAt w a L c zs) :
    Calls Try.prog 4 #[.slice a L c] w fun e w' => e = .returned (.bool true) ∧ Below w.heap.size w w' := by
  unfold maxLen at hL
  by_cases hlong : 500 < L
  · go_enter Try.func4, Try.ntmps4
    go_wp2_with fail
    refine (lives_any _).mono ?_
    rintro e w1 ⟨rfl, hb⟩
    go_wp2
    go_ret
    exact ⟨rfl, hb⟩
  have HZ : Hid (BoolsAt w a L c zs) := hz
  have HZL : Hid (zs.length = L) := hz.1
  clear hz
  obtain ⟨i0, hi, hz0, hz1, hz2⟩ := info_parts Try.info4
  have HSRC : Hid (SrcAt (w.alloc (.cells #[] 4)) (.slice a L c) L 1 (bl zs)) := (BoolsAt.src HZ.out).later ((Below.refl _ w).alloc (Nat.le_refl _) _)
  go_enter Try.func4, Try.ntmps4
  go_wp2_with (at_builtin; refine wpList_append_src rfl _ _ 22 rfl w.heap.size 4 i0 (.bool false) 1 1 Try.underlying22 hi hz0 hz1 hz2 rfl (by decide) _ _ _ rfl (World.ownsRow_made w #[] 0 (Nat.le_refl _) (by unfold maxLen; omega) rfl) _ L (bl zs) rfl HSRC.out (bl_one _) ?c3 ?c4 ?c5 ?_)
  case c3 => unfold maxLen; omega
  case c4 => omega
  case c5 => simp
  intro v2 w2 own2 gr2
  have b2 : Below w.heap.size w w2 := ((Below.refl _ w).alloc (Nat.le_refl _) _).grown gr2 (by simp) (fun i hi => by simp [Value.ownBlock] at hi; omega)
  have own2' : w2.ownsRow w.heap.size 4 1 v2 L (bl zs) := by simpa using own2
  obtain ⟨a2, c2, rfl⟩ := row_slice own2'
  have HO : Hid (w2.ownsRow w.heap.size 4 1 (.slice a2 L c2) L (bl zs)) := own2'
  have HB2 : Hid (Below w.heap.size w w2) := b2
  clear own2 own2' gr2 b2 HSRC hi hz0 hz1 hz2
  go_wp2_with fail
  refine (new_any _ (BoolsAt.of_row HO.out) (by omega)).mono ?_
  rintro e w3 ⟨b, rfl, h3, b3⟩
  have HH : Hid (Held w w3 w2.heap.size w3.heap.size b L (.slice a2 L c2) zs) := by
    refine ⟨h3, HB2.out.trans (b3.mono HB2.out.size), ⟨zs, row_below HO.out b3⟩, HB2.out.size, ?_⟩
    intro g n' c' e
    simp only [Value.slice.injEq] at e
    obtain ⟨rfl, rfl, rfl⟩ := e
    exact (HO.out.lt g rfl).2
  clear h3 b3 HB2 HO
  generalize w2.heap.size = Q at *
  generalize w3.heap.size = E at *
  go_wp2_with fail
  go_loopw [5] (fun i wr => ∃ k : Nat, k ≤ L ∧ i = .int .i64 k ∧ Held w wr Q E b L (.slice a2 L c2) zs) (fun i _ => L - (intOf i).toNat)
  case atStart => exact ⟨0, Nat.zero_le _, rfl, HH.out⟩
  case round =>
    obtain ⟨k, hk, rfl, hH⟩ := hrel
    by_cases hlt : k < L
    · obtain ⟨ys, hr⟩ := hH.row
      have hyl : ys.length = L := by have := hr.1; simpa [bl] using this
      obtain ⟨g, rfl, cz, fz, g1, g2⟩ := row_at hr hlt
      rw [bl_at ys k (by omega)] at cz
      have HR : Hid (wr.ownsRow w.heap.size 4 1 (.slice (some ⟨g, 0, none⟩) L c2) L (bl ys)) := hr
      have Hh : Hid (Held w wr Q E b L (.slice (some ⟨g, 0, none⟩) L c2) zs) := hH
      have i1 : (k : Int) < (L : Int) := by omega
      generalize ys.getD k false = y at *
      clear hr hH hyl g2
      go_wp2
      go_roundw
      case rel =>
        refine ⟨k + 1, by omega, by go_num, ?_⟩
        have hg := Hh.out.low g _ _ rfl
        refine ⟨Hh.out.at_.of_blocks (by simp) (fun i h1 _ => Below.heap_setCell _ _ _ _ (by show i ≠ g; omega)), Hh.out.bel.setCell (p := ⟨g, k, none⟩) g1 _, ⟨ys.set k (!y), ?_⟩, Hh.out.qs, Hh.out.low⟩
        rw [bl_set]
        exact (HR.out.stored k _).1
      case measure => simp [intOf]; omega
    · have HS : Hid (Seen w wr Q E b zs 0) := ⟨hH.at_, hH.bel, hH.qs⟩
      clear hH HH
      go_wp2_with fail
      go_loopw [6] (fun i wq => ∃ k : Nat, k ≤ L ∧ i = .int .i64 k ∧ Seen w wq Q E b zs k) (fun i _ => L - (intOf i).toNat)
      case atStart => exact ⟨0, Nat.zero_le _, rfl, HS.out⟩
      case round =>
        obtain ⟨j, hj, rfl, hsj⟩ := hrel
        have HJ : Hid (Seen w wr Q E b zs j) := hsj
        clear hsj
        by_cases hj2 : j < L
        · obtain ⟨bz, off, rfl, hbz, cz⟩ := HZ.out.later HJ.out.bel hj2
          have HKD : Hid (∀ w5, Turns Q E wr.drew w5 → w5.cell? ⟨bz, off + j, none⟩ = some (.bool (fa zs j))) := by
            intro w5 t5
            have e1 := HJ.out.bel.size
            have e2 := HJ.out.qs
            rw [← cz]
            exact World.cell?_of_block (t5.block bz (by show bz < wr.heap.size; omega) (.inl (by omega)))
          have HJD : Hid (Seen w wr.drew Q E b zs j) := ⟨HJ.out.at_.drewN 1, HJ.out.bel.trans (drew_below _ _), HJ.out.qs⟩
          obtain ⟨y, hy⟩ : ∃ y, fa zs j = y := ⟨_, rfl⟩
          have HY : Hid (fa zs j = y) := hy
          rw [hy] at cz HKD
          have i1 : (j : Int) < (L : Int) := by omega
          clear hy
          go_wp2_with fail
          go_region_with (go_at_call 6; refine (fails_is _ HJD.out.at_ (by omega) HY.out).mono ?_; rintro e w5 ⟨rfl, h5, t5⟩; have q5 := HKD.out w5 t5; have H5 : Hid _ := h5; have T5 : Hid _ := t5; clear h5 t5)
          all_goals
            have H6 : Hid (Seen w w5 Q E b zs (j + 1)) := HJD.out.step H5.out T5.out
            have e7 : (y != y) = false := by cases y <;> rfl
            cases y
            all_goals
              go_wp2
              go_roundw
              case rel => exact ⟨j + 1, by omega, by go_num, H6.out⟩
              case measure => simp [intOf]; omega
        · have e : j = L := by omega
          subst e
          have HF : Hid (fa zs j = false) := fa_far (by rw [HZL.out]; omega)
          go_wp2_with fail
          refine (fails_any _ HJ.out.at_ (by omega)).mono ?_
          rintro e w5 ⟨rfl, h5, t5⟩
          rw [HF.out]
          have H5 : Hid (Seen w w5 Q E b zs (j + 1)) := HJ.out.step h5 t5
          have HQ : Hid (zs.length - (j + 1) = 0) := by show _ = _; rw [HZL.out]; omega
          clear h5 t5
          go_wp2_with fail
          refine (left_any _ H5.out.at_).mono ?_
          rintro e w' ⟨rfl, rfl⟩
          rw [HQ.out]
          go_wp2_with fail
          refine (lives_any _).mono ?_
          rintro e w6 ⟨rfl, hb⟩
          go_wp2
          go_ret
          exact ⟨rfl, H5.out.bel.trans (hb.mono H5.out.bel.size)⟩

theorem walk {H : Type} {enc : TypeId × Value → H} {w : World} {base : Nat} {v0 : Value} {d0 : DataW H} {p0 : List MemPlace}
    (o0 : Value.okWide Try.prog w .any base 22 v0)
    (h0 : DataW.Trod enc Try.prog w 0 (fun _ => true) true 22 v0 d0 p0) :
    Calls Try.prog 4 #[v0] w fun e w' => e = .returned (.bool true) ∧ Below w.heap.size w w' := by
  obtain ⟨a, L, c, zs, rfl, hL, hz⟩ := openBools Try.underlying22 Try.underlying4 (by kernel_rfl) o0 h0
  exact run a L c zs w hL hz

set_option maxRecDepth 100000 in
theorem lifted (os : Os) (started : os.Started) (H : Type) (enc : TypeId × Value → H) :
    ReturnsInHanded {} Try.checked os 4 .any (Rows.luckKeepsSpec.pre6 enc Try.prog Try.f4 Rows.luckKeepsRow.domain false) (Rows.luckKeepsSpec.post enc Try.prog Try.f4 false true false false) := by
  refine returnsInHanded_of_change (C := Try.checked) own started (by kernel_rfl) Try.func4
    (ChangeSpec.witness6 (enc := enc) (C := Try.checked) false ⟨#[], #[.slice none 0 0], []⟩ 8 (by kernel_rfl) (by kernel_rfl) (by kernel_rfl) (by kernel_rfl)) ?_
  intro W base args ds gs before hval0 hW hcnd _
  have hval : ∀ (j : Nat) t v, Try.f4.params[j]? = some t → args[j]? = some v → Value.okWide Try.prog W .any base t v := hval0
  have hW' := hW
  obtain ⟨p, q, hA0, hV, rfl, hfz, hnd⟩ := hW
  have hA : DataW.TrodAll enc Try.prog W 0 (fun _ => true) true Try.f4.params.toList args.toList ds p := hA0
  rw [Try.params4] at hA hval
  obtain ⟨v0, vs0, d0, ds0, p0, q0, hargs, rfl, rfl, h0, r0⟩ := trodAll_cons hA
  obtain ⟨rfl, rfl, rfl⟩ := trodAll_nil r0
  obtain rfl : args = #[v0] := by cases args; simp_all
  obtain ⟨rfl, rfl⟩ := trodVars_none hV
  have o0 := hval 0 22 v0 rfl rfl
  have lt0 : ∀ x ∈ p0, x.block < W.heap.size := by obtain ⟨m, hm⟩ := h0; exact DataW.trod_lt m _ _ _ hm
  clear hA0 hval0
  refine (walk o0 h0).mono fun e W' ⟨he, bel⟩ => ?_
  subst he
  exact ⟨_, rfl, _, _, _, [], _, [], hW', trodAll_mk1 (shut_bool Try.underlying4 _), (trodAll_cons_mk (Below.trod laidOut (by kernel_rfl) (of_decide_eq_true (by kernel_rfl)) h0 bel lt0) trodAll_mk0), rfl, bel.frame _, fun h => by cases h⟩

theorem over : Rows.luckKeepsRow.holds Try.pinned (OpenSpec.ofChange Rows.luckKeepsSpec) :=
  OpenClaim.holds_of_wide 4 Try.f4 rfl rfl rfl rfl rfl rfl rfl ⟨rfl, rfl, rfl, rfl, rfl⟩ rfl rfl rfl rfl rfl (by kernel_rfl) Try.func4 (by kernel_rfl)
    (of_decide_eq_true (by kernel_rfl)) (by unfold Func.isWrapper; first | (rw [if_pos (by decide +kernel)]; kernel_rfl) | (rw [if_neg (by decide +kernel)]; exact ⟨rfl, rfl⟩))
    (fun os started H enc _ => lifted os started H enc)
end Go.Proofs.Ytndeojiebpbgdaa.LuckKeeps
namespace Go.Proofs.Ytndeojiebpbgdaa
/-- The statement. -/
theorem luckKeeps_holds : Rows.LuckKeepsSaid := LuckKeeps.over
#print axioms luckKeeps_holds
end Go.Proofs.Ytndeojiebpbgdaa
