/- Proved: gunnylaw04.RadixStops returns true for all lists of ints l and all ints start and most: as many keys are told as are wanted. No conditions. -/
import Derived.Test.YtkghedllkigecaaRBoth
import Derived.Test.YtkghedllkigecaaBOpen
namespace Go.Proofs.Ytkghedllkigecaa.RadixStops
open Go.ChangeShapes Go.WideShapes Go.ChangeAt Go.RowKit
set_option linter.unusedVariables false
theorem own : ownKnob Try.prog.godebug = none := by kernel_rfl
theorem laidOut : laidOutB Try.prog = true := by kernel_rfl
theorem later_at {k : IntKind} {w w' : World} {a : Option Addr} {zs : List Int} (h : IntsAt k w a zs) (hb : Below w.heap.size w w') {i : Nat} (hi : i < zs.length) :
    ∃ b off, a = some ⟨b, off, none⟩ ∧ b < w.heap.size ∧ w'.cell? ⟨b, off + i, none⟩ = some (.int k (zs.getD i 0)) := by
  rcases h with rfl | ⟨b, off, rfl, hlt, hc⟩
  · simp at hi
  · exact ⟨b, off, rfl, hlt, by rw [hb.cell (p := ⟨b, off + i, none⟩) hlt]; exact hc i hi⟩
theorem upTo_long {l : List KV} {most : Int} (h : (l.length : Int) ≤ most) : upTo most l = l := by
  unfold upTo
  split
  · exact List.take_of_length_le (by omega)
  · rfl
set_option maxRecDepth 100000 in
set_option maxHeartbeats 2000000 in
theorem run (a : Option Addr) (L c : Nat) (zs : List Int) (start most : Int) (w : World) (hzl : zs.length = L) (hL : L ≤ maxLen) (hz : IntsAt .i64 w a zs) (hst : -9223372036854775808 ≤ start ∧ start ≤ 9223372036854775807) (hm : -9223372036854775808 ≤ most ∧ most ≤ 9223372036854775807) :
    Calls Try.prog 4 #[.slice a L c, .int .i64 start, .int .i64 most] w fun e w' => e = .returned (.bool true) ∧ Below w.heap.size w w' := by
  unfold maxLen at hL
  by_cases hlong : 100 < L
  · go_enter Try.func4, Try.ntmps4
    go_wp2_with fail
    refine (lives_any _).mono ?_
    rintro e w1 ⟨rfl, hb⟩
    go_wp2
    go_ret
    exact ⟨rfl, hb⟩
  · have HZ : Hid (IntsAt .i64 w a zs) := hz
    have HZL : Hid _ := hzl
    clear hz hzl
    go_enter Try.func4, Try.ntmps4
    go_wp2_with fail
    refine (new_any w).mono ?_
    rintro e w1 ⟨rfl, h1, b1⟩
    have H1 : Hid (Both w w1 w.heap.size ⟨w.heap.size, 0, none⟩ (.slice none 0 0) []) := ⟨h1, World.ownsRow_nil _ _ _ _, b1, Nat.le_refl _, b1.size⟩
    clear h1 b1
    obtain ⟨B, hBe⟩ : ∃ B, w.heap.size = B := ⟨_, rfl⟩
    have HBE : Hid (w.heap.size = B) := hBe
    rw [hBe] at H1
    rw [hBe]
    clear hBe
    go_wp2_with fail
    go_loopw [8, 9] (fun x i wr => ∃ (k : Nat) (l : List KV), k ≤ L ∧ i = .int .i64 k ∧ Both w wr B ⟨B, 0, none⟩ x l) (fun _ i _ => L - (intOf i).toNat)
    case atStart => exact ⟨0, [], Nat.zero_le _, rfl, H1.out⟩
    case round =>
      obtain ⟨k, l, hk, rfl, hb⟩ := hrel
      have HB : Hid (Both w wr B ⟨B, 0, none⟩ u8 l) := hb
      by_cases hlt : k < L
      · obtain ⟨bz, off, rfl, hbz, hc⟩ := later_at HZ.out hb.bel (i := k) (by have := HZL.out; omega)
        clear hb
        generalize zs.getD k 0 = z at *
        have hlt' : (k : Int) < (L : Int) := by omega
        go_wp2_with fail
        refine (set_any z (k : Nat) wr HB.out.tree).mono ?_
        rintro e w2 ⟨rfl, h2, k2⟩
        obtain ⟨t2, r2, b2, s2⟩ := HB.out.turned h2 k2
        have hc2 : w2.cell? ⟨bz, off + k, none⟩ = some (.int .i64 z) := by
          rw [← hc]
          exact (k2.below HB.out.hi).cell (p := ⟨bz, off + k, none⟩) (Nat.lt_of_lt_of_le hbz HB.out.wB)
        have T2 : Hid (TreeP B w2 (some ⟨B, 0, none⟩) (setL l z (k : Nat))) := t2
        have R2 : Hid (w2.ownsRow B 47 2 u8 l.length (kvv l)) := r2
        have B2 : Hid (Below w.heap.size w w2) := b2
        have S2 : Hid (B ≤ w2.heap.size) := s2
        clear h2 k2 t2 r2 b2 s2 hc
        go_wp2_with fail
        refine (refSet_any z (k : Nat) w2 R2.out HB.out.fine S2.out).mono ?_
        rintro e w3 ⟨x3, rfl, r3, b3⟩
        have H3 : Hid (Both w w3 B ⟨B, 0, none⟩ x3 (setL l z (k : Nat))) := ⟨T2.out.below b3, r3, B2.out.trans (b3.mono B2.out.size), HB.out.wB, Nat.le_trans S2.out b3.size⟩
        clear r3 b3
        go_wp2
        go_roundw
        case rel => exact ⟨k + 1, _, by omega, by go_num, H3.out⟩
        case measure => simp [intOf]; omega
      · have e : k = L := by omega
        subst e
        obtain ⟨ax, cx, rfl⟩ := row_slice hb.row
        have hfl := hb.fine
        have hlen := hfl.len
        obtain ⟨hs1, hs2⟩ := split_idx hfl start
        have hil := idx_le l start
        have HI : Hid (l.drop (idx l start) = frm l start) := hs2
        clear hs1 hs2 hb
        go_wp2_with fail
        refine (refAt_any start wr HB.out.row hfl).mono ?_
        rintro e w2 ⟨rfl, q, rfl⟩
        have hb2 := HB.out.drewN q
        generalize wr.drewN q = w2 at *
        have hka := KAt.drop hb2.row hil
        rw [HI.out] at hka
        have HUL : Hid ((frm l start).length = l.length - idx l start) := by show _ = _; rw [← HI.out, List.length_drop]
        generalize hn : idx l start = n at *
        generalize foundB l start = fb at *
        clear hn HI
        cases ax with
        | none =>
          have hl0 : l = [] := by
            rcases hb2.row.2 with ⟨_, h2⟩ | ⟨g, cap, cur, h2, _⟩
            · exact List.eq_nil_of_length_eq_zero h2
            · simp at h2
          subst hl0
          have hc0 : cx = 0 := by
            rcases hb2.row.2 with ⟨h2, _⟩ | ⟨g, cap, cur, h2, _⟩
            · simp at h2; exact h2
            · simp at h2
          subst hc0
          have hn0 : n = 0 := by simpa using hil
          subst hn0
          have HB2 : Hid (Both w w2 B ⟨B, 0, none⟩ (.slice none 0 0) []) := hb2
          have HV : Hid (upTo most (frm [] start) = []) := by
            show _ = _
            unfold upTo
            split <;> simp [frm]
          clear hka hb2 HB
          by_cases hm0 : 0 < most
          · have hm1 : ¬ most < 0 := by omega
            have hm2 : 0 ≤ most := by omega
            go_wp2_with fail
            refine (from_any start hst.2 most w2 HB2.out.tree).mono ?_
            rw [HV.out]
            rintro e w3 ⟨v3, rfl, r3, b3⟩
            obtain ⟨a3, c3, rfl⟩ := row_slice r3
            have HB3 : Hid (Both w w3 B ⟨B, 0, none⟩ _ []) := HB2.out.below b3
            clear r3 b3
            go_wp2_with fail
            refine (keys_is (l := []) w3 (.inl rfl) (.inl rfl) (by simp) rfl).mono ?_
            rintro e w4 ⟨rfl, q4, rfl⟩
            have HB4 : Hid (Below w.heap.size w (w3.drewN q4)) := (HB3.out.drewN q4).bel
            generalize w3.drewN q4 = w4 at *
            go_wp2_with fail
            refine (lives_any w4).mono ?_
            rintro e w5 ⟨rfl, b5⟩
            go_wp2
            go_ret
            exact ⟨rfl, HB4.out.trans (b5.mono HB4.out.size)⟩
          · go_wp2_with fail
            refine (from_any start hst.2 most w2 HB2.out.tree).mono ?_
            rw [HV.out]
            rintro e w3 ⟨v3, rfl, r3, b3⟩
            obtain ⟨a3, c3, rfl⟩ := row_slice r3
            have HB3 : Hid (Both w w3 B ⟨B, 0, none⟩ _ []) := HB2.out.below b3
            clear r3 b3
            go_wp2_with fail
            refine (keys_is (l := []) w3 (.inl rfl) (.inl rfl) (by simp) rfl).mono ?_
            rintro e w4 ⟨rfl, q4, rfl⟩
            have HB4 : Hid (Below w.heap.size w (w3.drewN q4)) := (HB3.out.drewN q4).bel
            generalize w3.drewN q4 = w4 at *
            go_wp2_with fail
            refine (lives_any w4).mono ?_
            rintro e w5 ⟨rfl, b5⟩
            go_wp2
            go_ret
            exact ⟨rfl, HB4.out.trans (b5.mono HB4.out.size)⟩
        | some ad =>
          obtain ⟨hcap, hcm⟩ := row_cap hb2.row
          unfold maxLen at hcm
          have hg : ∃ g, ad = ⟨g, 0, none⟩ := by
            rcases hb2.row.2 with ⟨h2, _⟩ | ⟨g, cap, cur, h2, _⟩
            · simp at h2
            · simp at h2; exact ⟨g, h2.1⟩
          obtain ⟨g, rfl⟩ := hg
          have hn1 : (n : Int) ≤ (l.length : Int) := by omega
          have ea : tailAddr (some ⟨g, 0, none⟩) cx n = if cx = n then some ⟨g, 0, none⟩ else some ⟨g, n * 2, none⟩ := by simp only [tailAddr, Addr.add_lit]; simp
          rw [ea] at hka
          obtain ⟨A, hA⟩ : ∃ A, (if cx = n then some (⟨g, 0, none⟩ : Addr) else some ⟨g, n * 2, none⟩) = some A := by split <;> exact ⟨_, rfl⟩
          rw [hA] at hka
          have HKA : Hid (KAt w2 (some A) (frm l start)) := hka
          have HB2 : Hid (Both w w2 B ⟨B, 0, none⟩ (.slice (some ⟨g, 0, none⟩) l.length cx) l) := hb2
          clear hka hb2 ea HB
          obtain ⟨M, hMe⟩ : ∃ M, l.length - n = M := ⟨_, rfl⟩
          rw [hMe] at HUL
          obtain ⟨cM, hcMe⟩ : ∃ M, cx - n = M := ⟨_, rfl⟩
          have hMc : M ≤ cM := by omega
          have hM2 : M ≤ 65536 := by omega
          have hcM2 : cM ≤ 9223372036854775807 := by omega
          by_cases hm0 : 0 < most
          · by_cases hm1 : most < M
            · obtain ⟨mm, rfl⟩ : ∃ mm : Nat, most = mm := ⟨most.toNat, by omega⟩
              rw [if_neg (by omega)] at hA
              cases hA
              have hm2 : (mm : Int) ≤ (cM : Int) := by omega
              have hm3 : (0 : Int) ≤ (mm : Int) := by omega
              have HV : Hid (upTo (mm : Nat) (frm l start) = (frm l start).take mm) := by show _ = _; rw [upTo, if_pos hm0]; rfl
              have HKV : Hid (KAt w2 (some ⟨g, n * 2, none⟩) ((frm l start).take mm)) := HKA.out.take mm
              have HVL : Hid (((frm l start).take mm).length = mm) := by show _ = _; rw [List.length_take, HUL.out]; omega
              go_wp2_with fail
              refine (from_any start hst.2 _ w2 HB2.out.tree).mono ?_
              rw [HV.out, HVL.out]
              rintro e w3 ⟨v3, rfl, r3, b3⟩
              obtain ⟨a3, c3, rfl⟩ := row_slice r3
              have HB3 : Hid (Both w w3 B ⟨B, 0, none⟩ _ l) := HB2.out.below b3
              have HK3 : Hid (KAt w3 a3 ((frm l start).take mm)) := KAt.of_row (by rw [HVL.out]; exact r3)
              have HK4 : Hid (KAt w3 (some ⟨g, n * 2, none⟩) ((frm l start).take mm)) := HKV.out.below b3
              clear r3 b3
              go_wp2_with fail
              refine (keys_is w3 HK3.out HK4.out (by rw [HVL.out]; omega) HVL.out).mono ?_
              rintro e w4 ⟨rfl, q4, rfl⟩
              have HB4 : Hid (Below w.heap.size w (w3.drewN q4)) := (HB3.out.drewN q4).bel
              generalize w3.drewN q4 = w4 at *
              go_wp2_with fail
              refine (lives_any w4).mono ?_
              rintro e w5 ⟨rfl, b5⟩
              go_wp2
              go_ret
              exact ⟨rfl, HB4.out.trans (b5.mono HB4.out.size)⟩
            · have HV : Hid (upTo most (frm l start) = frm l start) := upTo_long (by rw [HUL.out]; omega)
              go_wp2_with fail
              refine (from_any start hst.2 _ w2 HB2.out.tree).mono ?_
              rw [HV.out, HUL.out]
              rintro e w3 ⟨v3, rfl, r3, b3⟩
              obtain ⟨a3, c3, rfl⟩ := row_slice r3
              have HB3 : Hid (Both w w3 B ⟨B, 0, none⟩ _ l) := HB2.out.below b3
              have HK3 : Hid (KAt w3 a3 (frm l start)) := KAt.of_row (by rw [HUL.out]; exact r3)
              have HK4 : Hid (KAt w3 (some A) (frm l start)) := HKA.out.below b3
              clear r3 b3
              go_wp2_with fail
              refine (keys_is w3 HK3.out HK4.out (by rw [HUL.out]; omega) HUL.out).mono ?_
              rintro e w4 ⟨rfl, q4, rfl⟩
              have HB4 : Hid (Below w.heap.size w (w3.drewN q4)) := (HB3.out.drewN q4).bel
              generalize w3.drewN q4 = w4 at *
              go_wp2_with fail
              refine (lives_any w4).mono ?_
              rintro e w5 ⟨rfl, b5⟩
              go_wp2
              go_ret
              exact ⟨rfl, HB4.out.trans (b5.mono HB4.out.size)⟩
          · have HV : Hid (upTo most (frm l start) = frm l start) := upTo_all (.inl (by omega))
            go_wp2_with fail
            refine (from_any start hst.2 _ w2 HB2.out.tree).mono ?_
            rw [HV.out, HUL.out]
            rintro e w3 ⟨v3, rfl, r3, b3⟩
            obtain ⟨a3, c3, rfl⟩ := row_slice r3
            have HB3 : Hid (Both w w3 B ⟨B, 0, none⟩ _ l) := HB2.out.below b3
            have HK3 : Hid (KAt w3 a3 (frm l start)) := KAt.of_row (by rw [HUL.out]; exact r3)
            have HK4 : Hid (KAt w3 (some A) (frm l start)) := HKA.out.below b3
            clear r3 b3
            go_wp2_with fail
            refine (keys_is w3 HK3.out HK4.out (by rw [HUL.out]; omega) HUL.out).mono ?_
            rintro e w4 ⟨rfl, q4, rfl⟩
            have HB4 : Hid (Below w.heap.size w (w3.drewN q4)) := (HB3.out.drewN q4).bel
            generalize w3.drewN q4 = w4 at *
            go_wp2_with fail
            refine (lives_any w4).mono ?_
            rintro e w5 ⟨rfl, b5⟩
            go_wp2
            go_ret
            exact ⟨rfl, HB4.out.trans (b5.mono HB4.out.size)⟩

theorem walk {H : Type} {enc : TypeId × Value → H} {w : World} {base : Nat} {v0 v1 v2 : Value} {d0 d1 d2 : DataW H} {p0 p1 p2 : List MemPlace}
    (o0 : Value.okWide Try.prog w .any base 44 v0) (o1 : Value.okWide Try.prog w .any base 3 v1) (o2 : Value.okWide Try.prog w .any base 3 v2)
    (h0 : DataW.Trod enc Try.prog w 0 (fun _ => true) true 44 v0 d0 p0) (h1 : DataW.Trod enc Try.prog w 0 (fun _ => true) true 3 v1 d1 p1) (h2 : DataW.Trod enc Try.prog w 0 (fun _ => true) true 3 v2 d2 p2) :
    Calls Try.prog 4 #[v0, v1, v2] w fun e w' => e = .returned (.bool true) ∧ Below w.heap.size w w' := by
  obtain ⟨a, L, c, zs, rfl, hzl, hL, hz, _⟩ := openList Try.underlying44 Try.underlying3 (by kernel_rfl) o0 h0
  obtain ⟨start, rfl, hs⟩ := openOne Try.underlying3 o1 h1
  obtain ⟨most, rfl, hm⟩ := openOne Try.underlying3 o2 h2
  exact run a L c zs start most w hzl hL hz (bounds_i64 hs) (bounds_i64 hm)

set_option maxRecDepth 100000 in
theorem lifted (os : Os) (started : os.Started) (H : Type) (enc : TypeId × Value → H) :
    ReturnsInHanded {} Try.checked os 4 .any (Rows.radixStopsSpec.pre6 enc Try.prog Try.f4 Rows.radixStopsRow.domain false) (Rows.radixStopsSpec.post enc Try.prog Try.f4 false true false false) := by
  refine returnsInHanded_of_change (C := Try.checked) own started (by kernel_rfl) Try.func4
    (ChangeSpec.witness6 (enc := enc) (C := Try.checked) false ⟨#[], #[.slice none 0 0, .int .i64 0, .int .i64 0], []⟩ 8 (by kernel_rfl) (by kernel_rfl) (by kernel_rfl) (by kernel_rfl)) ?_
  intro W base args ds gs before hval0 hW hcnd _
  have hval : ∀ (j : Nat) t v, Try.f4.params[j]? = some t → args[j]? = some v → Value.okWide Try.prog W .any base t v := hval0
  have hW' := hW
  obtain ⟨p, q, hA0, hV, rfl, hfz, hnd⟩ := hW
  have hA : DataW.TrodAll enc Try.prog W 0 (fun _ => true) true Try.f4.params.toList args.toList ds p := hA0
  rw [Try.params4] at hA hval
  obtain ⟨v0, vs0, d0, ds0, p0, q0, hargs, rfl, rfl, h0, r0⟩ := trodAll_cons hA
  obtain ⟨v1, vs1, d1, ds1, p1, q1, rfl, rfl, rfl, h1, r1⟩ := trodAll_cons r0
  obtain ⟨v2, vs2, d2, ds2, p2, q2, rfl, rfl, rfl, h2, r2⟩ := trodAll_cons r1
  obtain ⟨rfl, rfl, rfl⟩ := trodAll_nil r2
  obtain rfl : args = #[v0, v1, v2] := by cases args; simp_all
  obtain ⟨rfl, rfl⟩ := trodVars_none hV
  have o0 := hval 0 44 v0 rfl rfl
  have lt0 : ∀ x ∈ p0, x.block < W.heap.size := by obtain ⟨m, hm⟩ := h0; exact DataW.trod_lt m _ _ _ hm
  have o1 := hval 1 3 v1 rfl rfl
  have lt1 : ∀ x ∈ p1, x.block < W.heap.size := by obtain ⟨m, hm⟩ := h1; exact DataW.trod_lt m _ _ _ hm
  have o2 := hval 2 3 v2 rfl rfl
  have lt2 : ∀ x ∈ p2, x.block < W.heap.size := by obtain ⟨m, hm⟩ := h2; exact DataW.trod_lt m _ _ _ hm
  clear hA0 hval0
  refine (walk o0 o1 o2 h0 h1 h2).mono fun e W' ⟨he, bel⟩ => ?_
  subst he
  exact ⟨_, rfl, _, _, _, [], _, [], hW', trodAll_mk1 (shut_bool Try.underlying4 _), (trodAll_cons_mk (Below.trod laidOut (by kernel_rfl) (of_decide_eq_true (by kernel_rfl)) h0 bel lt0) (trodAll_cons_mk (Below.trod laidOut (by kernel_rfl) (of_decide_eq_true (by kernel_rfl)) h1 bel lt1) (trodAll_cons_mk (Below.trod laidOut (by kernel_rfl) (of_decide_eq_true (by kernel_rfl)) h2 bel lt2) trodAll_mk0))), rfl, bel.frame _, fun h => by cases h⟩

theorem over : Rows.radixStopsRow.holds Try.pinned (OpenSpec.ofChange Rows.radixStopsSpec) :=
  OpenClaim.holds_of_wide 4 Try.f4 rfl rfl rfl rfl rfl rfl rfl ⟨rfl, rfl, rfl, rfl, rfl⟩ rfl rfl rfl rfl rfl (by kernel_rfl) Try.func4 (by kernel_rfl)
    (of_decide_eq_true (by kernel_rfl)) (by unfold Func.isWrapper; first | (rw [if_pos (by decide +kernel)]; kernel_rfl) | (rw [if_neg (by decide +kernel)]; exact ⟨rfl, rfl⟩))
    (fun os started H enc _ => lifted os started H enc)
end Go.Proofs.Ytkghedllkigecaa.RadixStops
namespace Go.Proofs.Ytkghedllkigecaa
/-- The statement. -/
theorem radixStops_holds : Rows.RadixStopsSaid := RadixStops.over
#print axioms radixStops_holds
end Go.Proofs.Ytkghedllkigecaa
