/- Proved: gunnylaw19.HandlePlays returns true for all slices of deeds, nil and empty ones among them, and all ints: what any calls of a table answer, how many are in use, and which are in any zspage, behind each, is the document's; a table that isn't there has none. No conditions. -/
import Derived.Test.YtlnkelhhemgibaaVStep
import Derived.Test.YtlnkelhhemgibaaVRefO
import Derived.Test.YtlnkelhhemgibaaVOf
import Derived.Test.YtlnkelhhemgibaaVLen
import Derived.Test.YtlnkelhhemgibaaVLives
import Derived.Deep.RegionHeld3
import Derived.Deep.DeepCutAuto
namespace Go.Proofs.Ytlnkelhhemgibaa.HandlePlays
open Go.ChangeShapes Go.WideShapes Go.ChangeAt Go.RowKit
set_option linter.unusedVariables false
theorem own : ownKnob Try.prog.godebug = none := by kernel_rfl
theorem laidOut : laidOutB Try.prog = true := by kernel_rfl

set_option maxRecDepth 100000 in
set_option maxHeartbeats 4000000 in
theorem run {a : Option Addr} {c : Nat} {Z : List Dd} (pg : Int) (w : World) (hZ : ArgD w a Z) :
    Calls Try.prog 3 #[.slice a Z.length c, .int .i64 pg] w fun e w' => e = .returned (.bool true) ∧ Below w.heap.size w w' := by
  have HZ : Hid (ArgD w a Z) := hZ
  have N1 : Hid _ := make_nil 0 0 1 w (by decide)
  clear hZ
  go_enter Try.func3, Try.ntmps3
  go_wp2_with fail
  refine Calls.mono N1.out ?_
  rintro e v1 ⟨rfl, b1⟩
  have V1 : Hid (Below w.heap.size w v1) := b1
  have hg0 : gotV (noT 1) = .tuple #[.agg #[.int .i64 0, .int .i64 0, .int .i64 0], .bool false] := rfl
  have N2 : Hid _ := get_is (h := 1) v1 (tabP_nil v1) hg0
  clear b1 N1
  go_wp2_with fail
  refine Calls.mono N2.out ?_
  rintro e v2 ⟨rfl, b2⟩
  obtain ⟨v3, hv3⟩ : ∃ v3, v3 = v2.alloc (.cells #[.int .i64 0, .int .i64 0, .int .i64 0] 28) := ⟨_, rfl⟩
  have hb3 : Below v2.heap.size v2 v3 := by rw [hv3]; exact (Below.refl _ v2).alloc (Nat.le_refl _) _
  have hx3 : v3.heap[v2.heap.size]? = some (.cells #[.int .i64 0, .int .i64 0, .int .i64 0] 28 (0, 0)) := by rw [hv3]; exact place_new v2 zP
  have V3 : Hid (Below w.heap.size w v3) := (V1.out.trans (b2.mono V1.out.size)).trans (hb3.mono (by have := V1.out.size; have := b2.size; omega))
  have N3 := drop_any 1 v3 (tabP_nil v3)
  rw [hg0] at N3
  have N3 : Hid _ := N3
  have HX3 : Hid (v3.heap[v2.heap.size]? = some (.cells #[.int .i64 0, .int .i64 0, .int .i64 0] 28 (0, 0))) := hx3
  clear b2 hb3 hx3 N2 V1
  go_upto_region 4 with (fail)
  rw [← hv3]
  clear hv3
  go_wp2_with fail
  refine Calls.mono N3.out ?_
  rintro e v4 ⟨rfl, _, hw⟩
  have b4 : Below v3.heap.size v3 v4 := by
    rcases hw with ⟨_, h⟩ | ⟨t, h, _⟩
    · exact h
    · cases h
  obtain ⟨v5, hv5⟩ : ∃ v5, v5 = v4.alloc (.cells #[.int .i64 0, .int .i64 0, .int .i64 0] 28) := ⟨_, rfl⟩
  have hb5 : Below v4.heap.size v4 v5 := by rw [hv5]; exact (Below.refl _ v4).alloc (Nat.le_refl _) _
  have hx5 : v5.heap[v4.heap.size]? = some (.cells #[.int .i64 0, .int .i64 0, .int .i64 0] 28 (0, 0)) := by rw [hv5]; exact place_new v4 zP
  have hlt := (Array.getElem?_eq_some_iff.1 HX3.out).1
  have hx35 := (hb5.block _ (by have := b4.size; omega)).trans ((b4.block _ hlt).trans HX3.out)
  obtain ⟨x0, x1, x2⟩ := cells_three hx5
  obtain ⟨y0, y1, y2⟩ := cells_three hx35
  have V5 : Hid (Below w.heap.size w v5) := (V3.out.trans (b4.mono V3.out.size)).trans (hb5.mono (by have := V3.out.size; have := b4.size; omega))
  have hsame : sameP ⟨0, 0, 0⟩ ⟨0, 0, 0⟩ = true := sameP_iff.2 rfl
  have heq := Try.neqP 0 0 0 0 0 0
  rw [hsame] at heq
  have N4 := set_any (v := .pointer none) 1 0 0 1 v5 (tabP_nil v5)
  have hset : setB noT 1 ⟨0, 0, 1⟩ = false := rfl
  rw [hset] at N4
  have N4 : Hid _ := N4
  clear hw b4 hb5 hx5 hlt hx35 hsame HX3 N3 V3 hset
  go_upto_region 5 with (fail)
  rw [← hv5]
  clear hv5
  go_wp2_with fail
  refine Calls.mono N4.out ?_
  rintro e v6 ⟨rfl, _, hw⟩
  have b6 : Below v5.heap.size v5 v6 := by
    rcases hw with ⟨_, h⟩ | ⟨t, h, _⟩
    · exact h
    · cases h
  have V6 : Hid (Below w.heap.size w v6) := V5.out.trans (b6.mono V5.out.size)
  have N5 : Hid _ := len_is v6 (tabP_nil v6) (cnt_no 513)
  clear hw b6 N4 V5
  go_wp2_with fail
  refine Calls.mono N5.out ?_
  rintro e v7 ⟨rfl, b7⟩
  have V7 : Hid (Below w.heap.size w v7) := V6.out.trans (b7.mono V6.out.size)
  have N6 := of_any (v := .pointer none) 0 v7 (tabP_nil v7)
  rw [of_no] at N6
  have N6 : Hid _ := N6
  clear b7 N5 V6
  go_wp2_with fail
  refine Calls.mono N6.out ?_
  rintro e v8 ⟨u8, rfl, hown, b8⟩
  obtain ⟨au, cu, rfl⟩ := row_slice hown
  have V8 : Hid (Below w.heap.size w v8) := V7.out.trans (b8.mono V7.out.size)
  rw [show ([] : List Nat).length = 0 from rfl]
  clear hown b8 N6 V7
  by_cases hl : 60 < Z.length
  · have i1 : (60 : Int) < (Z.length : Int) := by omega
    go_wp2_with fail
    refine (lives_any _).mono ?_
    rintro e w' ⟨rfl, b1⟩
    have HB : Hid (Below w.heap.size w w') := V8.out.trans (b1.mono V8.out.size)
    clear b1
    go_wp2
    go_ret
    exact ⟨rfl, HB.out⟩
  · have i1 : ¬ (60 : Int) < (Z.length : Int) := by omega
    have HN : Hid _ := new_any v8
    go_wp2_with fail
    refine Calls.mono HN.out ?_
    rintro e w1 ⟨rfl, hT1, hb1, hs1⟩
    obtain ⟨t, ht⟩ : ∃ t, v8.heap.size = t := ⟨_, rfl⟩
    have htw : w.heap.size ≤ t := by have := V8.out.size; omega
    have HB1 : Hid (Below w.heap.size w w1) := V8.out.trans (hb1.mono V8.out.size)
    rw [ht] at hT1 ⊢
    have HT1 : Hid (TabAt w1 t noT) := hT1
    clear hT1 hb1 hs1 HN ht V8
    go_wp2_with fail
    go_loopg [13, 14] Z.length (fun gk xv i wr => ∃ (k : Nat) (X : List Hd) (T : Int → Pl), k ≤ Z.length ∧ gk = Z.length - k ∧ i = .int .i64 k ∧ Below w.heap.size w wr ∧ TabAt wr t T ∧ Rel T X ∧ DsAt wr (t + 1) xv X ∧ X.length ≤ k)
    case atStart => exact ⟨0, [], noT, by omega, rfl, rfl, HB1.out, HT1.out, rel_nil, dsAt_nil _ _, Nat.le_refl _⟩
    case round =>
      obtain ⟨k, X, T, hk, rfl, rfl, hbel, htab, hrel, hds, hlen⟩ := hrel
      have HBE : Hid (Below w.heap.size w wr) := hbel
      by_cases hlt : k < Z.length
      · have i3 : (k : Int) < (Z.length : Int) := by omega
        obtain ⟨x, hx⟩ : ∃ x, Z[k]? = some x := ⟨_, List.getElem?_eq_getElem hlt⟩
        obtain ⟨ba, off, rfl, hba, c0, c1, c2, c3, c4⟩ := HZ.out k x hx
        obtain ⟨dk, dh, ⟨p, o, l⟩⟩ := x
        simp only at c0 c1 c2 c3 c4
        have HS : Hid _ := step_any dk dh p o l wr htab hrel hds (by omega) ⟨Nat.le_refl _, htab.lt⟩
        have HC : Hid (∀ w', Below w.heap.size w w' → w'.cell? ⟨ba, off + k * 5, none⟩ = some (.int .i64 dk) ∧ w'.cell? ⟨ba, off + k * 5 + 1, none⟩ = some (.int .i64 dh) ∧ w'.cell? ⟨ba, off + k * 5 + 2, none⟩ = some (.int .i64 p) ∧ w'.cell? ⟨ba, off + k * 5 + 3, none⟩ = some (.int .i64 o) ∧ w'.cell? ⟨ba, off + k * 5 + 4, none⟩ = some (.int .i64 l)) :=
          fun w' hb => ⟨(hb.cell (p := ⟨ba, off + k * 5, none⟩) hba).trans c0, (hb.cell (p := ⟨ba, off + k * 5 + 1, none⟩) hba).trans c1, (hb.cell (p := ⟨ba, off + k * 5 + 2, none⟩) hba).trans c2, (hb.cell (p := ⟨ba, off + k * 5 + 3, none⟩) hba).trans c3, (hb.cell (p := ⟨ba, off + k * 5 + 4, none⟩) hba).trans c4⟩
        have htl := htab.lt
        clear c0 c1 c2 c3 c4
        obtain ⟨c0, c1, c2, c3, c4⟩ := HC.out wr hbel
        clear hbel htab hrel hds hx
        go_wp2_with fail
        refine Calls.mono HS.out ?_
        rintro e W9 ⟨v9, X9, T9, rfl, hT9, hR9, hD9, hL9, ht9⟩
        have hb9 : Below w.heap.size w W9 := HBE.out.trans ((ht9.below (by omega)).mono htw)
        obtain ⟨av, cv, rfl⟩ := row_slice hD9
        obtain ⟨m, hm⟩ : ∃ m, X9.length = m := ⟨_, rfl⟩
        obtain ⟨b, hb⟩ : ∃ b, mayP ⟨p, o, l⟩ = b := ⟨_, rfl⟩
        obtain ⟨L, hL⟩ : ∃ L, ofT T9 pg 513 = L := ⟨_, rfl⟩
        have hcn : cntT T9 513 = m := by rw [hR9.cnt hT9.ok, hm]
        have hLl : L.length ≤ 4096 := by rw [← hL]; have := of_le T9 pg 513; omega
        have HB9 : Hid (Below w.heap.size w W9) := hb9
        have HT9 : Hid (TabAt W9 t T9) := hT9
        have HD9 : Hid (DsAt W9 (t + 1) (.slice av m cv) X9 ∧ Rel T9 X9 ∧ X9.length ≤ k + 1) := ⟨by rw [← hm]; exact hD9, hR9, by omega⟩
        have HMAY : Hid (∀ w1, Below W9.heap.size W9 w1 → Calls Try.prog 15 #[.agg #[.int .i64 p, .int .i64 o, .int .i64 l]] w1 fun e w2 => e = .returned (.bool b) ∧ Below W9.heap.size W9 w2) :=
          fun w1 h => (may_is w1 hb).mono fun e w2 ⟨h1, h2⟩ => ⟨h1, h.trans (h2.mono h.size)⟩
        have HRMA : Hid (∀ w1, Below W9.heap.size W9 w1 → Calls Try.prog 16 #[.agg #[.int .i64 p, .int .i64 o, .int .i64 l]] w1 fun e w2 => e = .returned (.bool b) ∧ Below W9.heap.size W9 w2) :=
          fun w1 h => (refMay_is w1 hb).mono fun e w2 ⟨h1, h2⟩ => ⟨h1, h.trans (h2.mono h.size)⟩
        have HLEN : Hid (∀ w1, Below W9.heap.size W9 w1 → Calls Try.prog 10 #[.pointer (some ⟨t, 0, none⟩)] w1 fun e w2 => e = .returned (.int .i64 (m : Nat)) ∧ Below W9.heap.size W9 w2) :=
          fun w1 h => (len_is w1 (hT9.later h).p hcn).mono fun e w2 ⟨h1, h2⟩ => ⟨h1, h.trans (h2.mono h.size)⟩
        have HOF : Hid (∀ w1, Below W9.heap.size W9 w1 → Calls Try.prog 11 #[.pointer (some ⟨t, 0, none⟩), .int .i64 pg] w1 fun e w2 => ∃ u, e = .returned u ∧ w2.ownsRow w1.heap.size 3 1 u L.length (vI L) ∧ Below w1.heap.size w1 w2 ∧ Below W9.heap.size W9 w2) := by
          intro w1 h
          have := of_any pg w1 (hT9.later h).p
          rw [hL] at this
          exact this.mono fun e w2 ⟨u, h1, h2, h3⟩ => ⟨u, h1, h2, h3, h.trans (h3.mono h.size)⟩
        have HROF : Hid (∀ w1, Below W9.heap.size W9 w1 → Calls Try.prog 18 #[.slice av m cv, .int .i64 pg] w1 fun e w2 => ∃ u, e = .returned u ∧ w2.ownsRow w1.heap.size 3 1 u L.length (vI L) ∧ Below w1.heap.size w1 w2 ∧ Below W9.heap.size W9 w2) := by
          intro w1 h
          have := refOf_any pg w1 (HD9.out.1.below h) hR9 hT9.ok (by omega)
          rw [hL] at this
          exact this.mono fun e w2 ⟨u, h1, h2, h3⟩ => ⟨u, h1, h2, h3, h.trans (h3.mono h.size)⟩
        have HINT : Hid (∀ (w1 : World) (B C : Nat) (u v : Value), Below W9.heap.size W9 w1 → w1.ownsRow B 3 1 u L.length (vI L) → w1.ownsRow C 3 1 v L.length (vI L) → Calls Try.prog 17 #[u, v] w1 fun e w2 => e = .returned (.bool true) ∧ Below W9.heap.size W9 w2) :=
          fun w1 B C u v h h2 h3 => (refInts_any w1 h2 h3 hLl).mono fun e w2 ⟨h4, h5⟩ => ⟨h4, h.trans (h5.mono h.size)⟩
        have HSK : Hid (∀ w', Below W9.heap.size W9 w' → w'.cell? ⟨ba, off + k * 5 + 2, none⟩ = some (.int .i64 p) ∧ w'.cell? ⟨ba, off + k * 5 + 3, none⟩ = some (.int .i64 o) ∧ w'.cell? ⟨ba, off + k * 5 + 4, none⟩ = some (.int .i64 l)) := by
          intro w' h
          obtain ⟨_, _, h2, h3, h4⟩ := HC.out w' (hb9.trans (h.mono hb9.size))
          exact ⟨h2, h3, h4⟩
        have hdr : Below W9.heap.size W9 W9.drew := drew_below _ _
        rw [hm]
        clear c0 c1 c2 c3 c4 hT9 hR9 hD9 hL9 ht9 hb9 hm hb hL hcn hLl HS HC HBE
        obtain ⟨c2, c3, c4⟩ := HSK.out _ hdr
        go_wp2_with fail
        go_region_held3 (fun w' => w'.cell? ⟨ba, off + k * 5 + 2, none⟩ = some (.int .i64 p) ∧ w'.cell? ⟨ba, off + k * 5 + 3, none⟩ = some (.int .i64 o) ∧ w'.cell? ⟨ba, off + k * 5 + 4, none⟩ = some (.int .i64 l)) (first | (exact HSK.out _ (by assumption)) | (go_keep; done)) (first | (go_at_call 15; refine (HMAY.out _ (by assumption)).mono ?_; rintro e wt ⟨rfl, hbm⟩) | (go_at_call 16; refine (HRMA.out _ (by assumption)).mono ?_; rintro e wt ⟨rfl, hbr⟩) | (go_at_call 10; refine (HLEN.out _ (by assumption)).mono ?_; rintro e wt ⟨rfl, hbl⟩) | (go_at_call 11; refine (HOF.out _ (by assumption)).mono ?_; rintro e wo ⟨uo, rfl, owno, bo, hbo⟩) | (go_at_call 18; refine (HROF.out _ (by assumption)).mono ?_; rintro e wq ⟨uq, rfl, ownq, bq, hbq⟩) | (go_at_call 17; first | (refine (HINT.out _ _ _ _ _ hbq (row_below owno bq) ownq).mono ?_; rintro e wi ⟨rfl, hbi⟩) | (refine (HINT.out _ _ _ _ _ hbo owno (row_below ownq bo)).mono ?_; rintro e wi ⟨rfl, hbi⟩)))
        all_goals
          have HF : Hid (Below w.heap.size w wi ∧ TabAt wi t T9 ∧ DsAt wi (t + 1) (.slice av m cv) X9) := ⟨HB9.out.trans (hbi.mono HB9.out.size), HT9.out.later hbi, HD9.out.1.below hbi⟩
          clear hbi
          go_wp2
          go_roundg (Z.length - (k + 1))
          case measure => omega
          case rel => exact ⟨k + 1, X9, T9, by omega, rfl, by go_num, HF.out.1, HF.out.2.1, HD9.out.2.1, HF.out.2.2, HD9.out.2.2⟩
      · have i3 : ¬ (k : Int) < (Z.length : Int) := by omega
        clear hbel htab hrel hds
        go_wp2_with fail
        refine (lives_any _).mono ?_
        rintro e w' ⟨rfl, b1⟩
        have HB : Hid (Below w.heap.size w w') := HBE.out.trans (b1.mono HBE.out.size)
        clear b1
        go_wp2
        go_ret
        exact ⟨rfl, HB.out⟩

set_option maxRecDepth 100000 in
theorem walk {H : Type} {enc : TypeId × Value → H} {w : World} {base : Nat} {v0 v1 : Value} {d0 d1 : DataW H} {p0 p1 : List MemPlace}
    (o0 : Value.okWide Try.prog w .any base 22 v0) (o1 : Value.okWide Try.prog w .any base 3 v1)
    (h0 : DataW.Trod enc Try.prog w 0 (fun _ => true) true 22 v0 d0 p0) (h1 : DataW.Trod enc Try.prog w 0 (fun _ => true) true 3 v1 d1 p1) :
    Calls Try.prog 3 #[v0, v1] w fun e w' => e = .returned (.bool true) ∧ Below w.heap.size w w' := by
  obtain ⟨a, c, Z, rfl, _, hZ⟩ := openDs Try.underlying22 Try.underlying41 Try.underlying28 (by kernel_rfl) (by kernel_rfl) (by kernel_rfl) (by kernel_rfl) (by kernel_rfl) (by kernel_rfl) (by kernel_rfl) Try.underlying3 Try.underlying3 (by kernel_rfl) (by kernel_rfl) (by kernel_rfl) (by kernel_rfl) (by kernel_rfl) (by kernel_rfl) Try.underlying3 Try.underlying3 Try.underlying3 o0 h0
  obtain ⟨pg, rfl, _⟩ := openOne Try.underlying3 o1 h1
  exact run pg w hZ

set_option maxRecDepth 100000 in
theorem lifted (os : Os) (started : os.Started) (H : Type) (enc : TypeId × Value → H) :
    ReturnsInHanded {} Try.checked os 3 .any (Rows.handlePlaysSpec.pre6 enc Try.prog Try.f3 Rows.handlePlaysRow.domain false) (Rows.handlePlaysSpec.post enc Try.prog Try.f3 false true false false) := by
  refine returnsInHanded_of_change (C := Try.checked) own started (by kernel_rfl) Try.func3
    (ChangeSpec.witness6 (enc := enc) (C := Try.checked) false ⟨#[], #[.slice none 0 0, .int .i64 0], []⟩ 8 (by kernel_rfl) (by kernel_rfl) (by kernel_rfl) (by kernel_rfl)) ?_
  intro W base args ds gs before hval0 hW hcnd _
  have hval : ∀ (j : Nat) t v, Try.f3.params[j]? = some t → args[j]? = some v → Value.okWide Try.prog W .any base t v := hval0
  have hW' := hW
  obtain ⟨p, q, hA0, hV, rfl, hfz, hnd⟩ := hW
  have hA : DataW.TrodAll enc Try.prog W 0 (fun _ => true) true Try.f3.params.toList args.toList ds p := hA0
  rw [Try.params3] at hA hval
  obtain ⟨v0, vs0, d0, ds0, p0, q0, hargs, rfl, rfl, h0, r0⟩ := trodAll_cons hA
  obtain ⟨v1, vs1, d1, ds1, p1, q1, rfl, rfl, rfl, h1, r1⟩ := trodAll_cons r0
  obtain ⟨rfl, rfl, rfl⟩ := trodAll_nil r1
  obtain rfl : args = #[v0, v1] := by cases args; simp_all
  obtain ⟨rfl, rfl⟩ := trodVars_none hV
  have o0 := hval 0 22 v0 rfl rfl
  have lt0 : ∀ x ∈ p0, x.block < W.heap.size := by obtain ⟨m, hm⟩ := h0; exact DataW.trod_lt m _ _ _ hm
  have o1 := hval 1 3 v1 rfl rfl
  have lt1 : ∀ x ∈ p1, x.block < W.heap.size := by obtain ⟨m, hm⟩ := h1; exact DataW.trod_lt m _ _ _ hm
  clear hA0 hval0
  refine (walk o0 o1 h0 h1).mono fun e W' ⟨he, bel⟩ => ?_
  subst he
  exact ⟨_, rfl, _, _, _, [], _, [], hW', trodAll_mk1 (shut_bool Try.underlying4 _), (trodAll_cons_mk (Below.trod laidOut (by kernel_rfl) (of_decide_eq_true (by kernel_rfl)) h0 bel lt0) (trodAll_cons_mk (Below.trod laidOut (by kernel_rfl) (of_decide_eq_true (by kernel_rfl)) h1 bel lt1) trodAll_mk0)), rfl, bel.frame _, fun h => by cases h⟩

theorem over : Rows.handlePlaysRow.holds Try.pinned (OpenSpec.ofChange Rows.handlePlaysSpec) :=
  OpenClaim.holds_of_wide 3 Try.f3 rfl rfl rfl rfl rfl rfl rfl ⟨rfl, rfl, rfl, rfl, rfl⟩ rfl rfl rfl rfl rfl (by kernel_rfl) Try.func3 (by kernel_rfl)
    (of_decide_eq_true (by kernel_rfl)) (by unfold Func.isWrapper; first | (rw [if_pos (by decide +kernel)]; kernel_rfl) | (rw [if_neg (by decide +kernel)]; exact ⟨rfl, rfl⟩))
    (fun os started H enc _ => lifted os started H enc)
end Go.Proofs.Ytlnkelhhemgibaa.HandlePlays
namespace Go.Proofs.Ytlnkelhhemgibaa
/-- The statement. -/
theorem handlePlays_holds : Rows.HandlePlaysSaid := HandlePlays.over
#print axioms handlePlays_holds
end Go.Proofs.Ytlnkelhhemgibaa
