/- The walk of the law's step. -/
import Derived.Test.YtlnkelhhemgibaaVRefD
import Derived.Test.YtlnkelhhemgibaaVKeeps
import Derived.Laws.OwnMore
import Derived.Deep.DeepCutAuto
namespace Go.Proofs.Ytlnkelhhemgibaa
open Go.RowKit

theorem rowD_set : ∀ {X : List Hd} {k : Nat} (e : Hd), k < X.length →
    ((((rowD X).set (k * 4) (.int .i64 e.h)).set (k * 4 + 1) (.int .i64 e.q.p)).set (k * 4 + 2) (.int .i64 e.q.o)).set (k * 4 + 3) (.int .i64 e.q.l) = rowD (X.set k e)
  | [], k, e, h => by simp at h
  | x :: X, 0, e, h => rfl
  | x :: X, k + 1, e, h => by
    have ih := rowD_set (X := X) (k := k) e (by simpa using h)
    have e4 : (Hd.cells x).length = 4 := rfl
    show ((((Hd.cells x ++ rowD X).set ((k + 1) * 4) _).set ((k + 1) * 4 + 1) _).set ((k + 1) * 4 + 2) _).set ((k + 1) * 4 + 3) _ = Hd.cells x ++ rowD (X.set k e)
    rw [List.set_append_right _ _ (by omega), List.set_append_right _ _ (by omega), List.set_append_right _ _ (by omega), List.set_append_right _ _ (by omega), e4, show (k + 1) * 4 - 4 = k * 4 by omega, show (k + 1) * 4 + 1 - 4 = k * 4 + 1 by omega, show (k + 1) * 4 + 2 - 4 = k * 4 + 2 by omega, show (k + 1) * 4 + 3 - 4 = k * 4 + 3 by omega, ih]
theorem refDrop_rel {base : Nat} {v : Value} {X : List Hd} {T : Int → Pl} (n : Int) (w : World) (h : DsAt w base v X) (hR : Rel T X) (hL : X.length ≤ 1000) (hbase : base ≤ w.heap.size) :
    Calls Try.prog 23 #[v, .int .i64 n] w fun e w' => ∃ (v' : Value) (X' : List Hd), e = .returned (.tuple #[v', .agg #[.int .i64 (T n).p, .int .i64 (T n).o, .int .i64 (T n).l], .bool (isU (T n))]) ∧ DsAt w' base v' X' ∧ Rel (putT T n zP) X' ∧ X'.length ≤ X.length ∧ Below w.heap.size w w' := by
  refine (refDropD_any n w h hL hbase).mono ?_
  rintro e w' ⟨v', x, hp, hc, hb⟩
  have hu := hp.used hR
  rcases hc with ⟨rfl, rfl⟩ | ⟨k, e', rfl, hk, rfl, hd⟩
  · have hz : T n = zP := isU_not.1 (by rw [hu]; rfl)
    refine ⟨v, X, ?_, h.below hb, by rw [putT_none hz]; exact hR, Nat.le_refl _, hb⟩
    rw [hu, hz]
    rfl
  · obtain ⟨j, e2, hj, hk2, hn⟩ := hp.yes (by omega)
    obtain rfl : k = j := by omega
    rw [hk] at hk2
    cases hk2
    have ht := (hR.at (List.mem_of_getElem? hk)).1
    rw [hn] at ht
    refine ⟨v', _, ?_, hd, hR.drop hk hn, by rw [List.length_append, List.length_take, List.length_drop]; have := (List.getElem?_eq_some_iff.1 hk).1; omega, hb⟩
    rw [hu, ht]
    have : decide (0 ≤ (k : Int)) = true := decide_eq_true (by omega)
    rw [this]
set_option maxRecDepth 100000 in
set_option maxHeartbeats 2000000 in
theorem step_any {t base : Nat} {v : Value} {X : List Hd} {T : Int → Pl} (k h p o l : Int) (w : World) (hT : TabAt w t T) (hR : Rel T X) (hD : DsAt w base v X) (hL : X.length ≤ 100) (hbase : t + 1 ≤ base ∧ base ≤ w.heap.size) :
    Calls Try.prog 14 #[.pointer (some ⟨t, 0, none⟩), v, .agg #[.int .i64 k, .int .i64 h, .int .i64 p, .int .i64 o, .int .i64 l]] w fun e w' =>
      ∃ (v' : Value) (X' : List Hd) (T' : Int → Pl), e = .returned (.tuple #[v', .bool true]) ∧ TabAt w' t T' ∧ Rel T' X' ∧ DsAt w' base v' X' ∧ X'.length ≤ X.length + 1 ∧ Turns t (t + 1) w w' := by
  obtain ⟨i0, hi0, hz0, hz1, hz2⟩ := info_parts Try.infoHd
  obtain ⟨W2, hW2⟩ : ∃ W2, W2 = (w.alloc (.cells #[.int .i64 k, .int .i64 h, .int .i64 p, .int .i64 o, .int .i64 l] 41)).alloc (.cells #[.int .i64 p, .int .i64 o, .int .i64 l] 44) := ⟨_, rfl⟩
  have hz : (w.alloc (.cells #[.int .i64 k, .int .i64 h, .int .i64 p, .int .i64 o, .int .i64 l] 41)).heap[w.heap.size]? = some (.cells #[.int .i64 k, .int .i64 h, .int .i64 p, .int .i64 o, .int .i64 l] 41 (0, 0)) := heap_alloc_new w _
  obtain ⟨z0, z1, z2, z3, z4⟩ := cells_five hz
  have hb2 : Below w.heap.size w W2 := by rw [hW2]; exact ((Below.refl _ w).alloc (Nat.le_refl _) _).alloc (by simp) _
  have hs2 : W2.heap.size = w.heap.size + 2 := by rw [hW2]; simp
  have hx1 : W2.heap[w.heap.size]? = some (.cells #[.int .i64 k, .int .i64 h, .int .i64 p, .int .i64 o, .int .i64 l] 41 (0, 0)) := by
    rw [hW2, ← hz]
    exact Below.heap_alloc _ _ _ (by simp)
  have hx2 : W2.heap[w.heap.size + 1]? = some (.cells #[.int .i64 p, .int .i64 o, .int .i64 l] 44 (0, 0)) := by
    have := heap_alloc_new (w.alloc (.cells #[.int .i64 k, .int .i64 h, .int .i64 p, .int .i64 o, .int .i64 l] 41)) (.cells #[.int .i64 p, .int .i64 o, .int .i64 l] 44)
    rw [← hW2] at this
    simpa using this
  have HX1 : Hid (W2.heap[w.heap.size]? = some (.cells #[.int .i64 k, .int .i64 h, .int .i64 p, .int .i64 o, .int .i64 l] 41 (0, 0))) := hx1
  have HX2 : Hid (W2.heap[w.heap.size + 1]? = some (.cells #[.int .i64 p, .int .i64 o, .int .i64 l] 44 (0, 0))) := hx2
  have HB : Hid (Below w.heap.size w W2) := hb2
  have HT : Hid (TabAt W2 t T) := hT.later hb2
  have HR : Hid (Rel T X) := hR
  have HTO : Hid (TOk T) := hT.ok
  have HD : Hid (DsAt W2 base v X) := hD.below hb2
  have HAT : Hid _ := refAt_any h W2 HD.out (by omega)
  have htw := hT.lt
  clear hT hR hD hb2 hz hx1 hx2
  go_enter Try.func14, Try.ntmps14
  go_upto_region 2 with (fail)
  rw [← hW2]
  clear hW2 z0 z1 z2 z3 z4
  obtain ⟨y0, y1, y2, y3, y4⟩ := cells_five HX1.out
  obtain ⟨q0, q1, q2⟩ := cells_three HX2.out
  go_wp2_with fail
  refine Calls.mono HAT.out ?_
  rintro e w1 ⟨x, rfl, rfl, hp⟩
  have HPL : Hid (PlaceD X h x) := hp
  have HU : Hid (isU (T h) = decide (0 ≤ x)) := hp.used HR.out
  clear hp HAT
  by_cases h0 : k = 0
  · subst h0
    by_cases hm : mayP ⟨p, o, l⟩ = true
    · have HMA : Hid (mayP ⟨p, o, l⟩ = true) := hm
      have HM : Hid _ := refMake_any p o l W2 HD.out hm (by omega) (by omega)
      clear hm
      go_wp2_with fail
      refine Calls.mono HM.out ?_
      rintro e W3 ⟨v3, n, rfl, hfd, hd3, b3⟩
      have hn : n ≤ 512 := by have := upto_len hfd.less; omega
      have hfr := hfd.free HR.out hn
      have hx3 := (b3.block w.heap.size (by omega)).trans HX1.out
      obtain ⟨y0, y1, y2, y3, y4⟩ := cells_five hx3
      have HM2 : Hid _ := make_free p o l W3 (HT.out.later b3) HMA.out hfr
      have HD3 : Hid (DsAt W3 base v3 _) := hd3
      have HB3 : Hid (Below w.heap.size w W3) := HB.out.trans (b3.mono HB.out.size)
      have HRF : Hid (Rel (putT T (n : Nat) ⟨p, o, l⟩) (X ++ [⟨(n : Nat), ⟨p, o, l⟩⟩])) := HR.out.put hfr.at_ (may_used HMA.out)
      clear hfd hd3 b3 hn hfr hx3 HM
      go_wp2_with fail
      refine Calls.mono HM2.out ?_
      rintro e W4 ⟨rfl, hT4, ht4⟩
      have HF : Hid (TabAt W4 t (putT T (n : Nat) ⟨p, o, l⟩) ∧ DsAt W4 base v3 (X ++ [⟨(n : Nat), ⟨p, o, l⟩⟩]) ∧ Turns t (t + 1) w W4) := ⟨hT4, HD3.out.turns ht4 hbase.1, (Turns.of_below HB3.out).trans ht4⟩
      obtain ⟨n', hn'⟩ : ∃ n' : Int, ((n : Nat) : Int) = n' := ⟨_, rfl⟩
      rw [hn'] at HF HRF ⊢
      clear hT4 ht4 HM2 hn' y0 y1 y2 y3 y4
      go_wp2
      go_ret2
      exact ⟨v3, _, _, rfl, HF.out.1, HRF.out, HF.out.2.1, by simp, HF.out.2.2⟩
    · have hm2 : mayP ⟨p, o, l⟩ = false := by simpa using hm
      have HM : Hid _ := refMake_bad (v := v) p o l W2 hm2
      have HMN : Hid (mayP ⟨p, o, l⟩ = false) := hm2
      clear hm hm2
      go_wp2_with fail
      refine Calls.mono HM.out ?_
      rintro e W3 ⟨rfl, b3⟩
      have hx3 := (b3.block w.heap.size (by omega)).trans HX1.out
      obtain ⟨y0, y1, y2, y3, y4⟩ := cells_five hx3
      have HM2 : Hid _ := make_bad (v := .pointer (some ⟨t, 0, none⟩)) p o l W3 HMN.out
      have HS3 : Hid (TabAt W3 t T ∧ DsAt W3 base v X ∧ Below w.heap.size w W3) := ⟨HT.out.later b3, HD.out.below b3, HB.out.trans (b3.mono HB.out.size)⟩
      clear b3 hx3 HM
      go_wp2_with fail
      refine Calls.mono HM2.out ?_
      rintro e W4 ⟨rfl, b4⟩
      have HF : Hid (TabAt W4 t T ∧ DsAt W4 base v X ∧ Below w.heap.size w W4) := ⟨HS3.out.1.later b4, HS3.out.2.1.below b4, HS3.out.2.2.trans (b4.mono HS3.out.2.2.size)⟩
      clear b4 HM2 y0 y1 y2 y3 y4
      go_wp2
      go_ret2
      exact ⟨v, _, _, rfl, HF.out.1, HR.out, HF.out.2.1, by omega, Turns.of_below HF.out.2.2⟩
  · by_cases h1 : k = 1
    · subst h1
      by_cases hm : mayP ⟨p, o, l⟩ = true
      · have HMA : Hid (mayP ⟨p, o, l⟩ = true) := hm
        have HM : Hid _ := refMake_any p o l W2 HD.out hm (by omega) (by omega)
        clear hm
        go_wp2_with fail
        refine Calls.mono HM.out ?_
        rintro e W3 ⟨v3, n, rfl, hfd, hd3, b3⟩
        have hn : n ≤ 512 := by have := upto_len hfd.less; omega
        have hfr := hfd.free HR.out hn
        have hx3 := (b3.block w.heap.size (by omega)).trans HX1.out
        obtain ⟨y0, y1, y2, y3, y4⟩ := cells_five hx3
        have HM2 : Hid _ := make_free p o l W3 (HT.out.later b3) HMA.out hfr
        have HD3 : Hid (DsAt W3 base v3 _) := hd3
        have HB3 : Hid (Below w.heap.size w W3) := HB.out.trans (b3.mono HB.out.size)
        have HRF : Hid (Rel (putT T (n : Nat) ⟨p, o, l⟩) (X ++ [⟨(n : Nat), ⟨p, o, l⟩⟩])) := HR.out.put hfr.at_ (may_used HMA.out)
        clear hfd hd3 b3 hn hfr hx3 HM
        go_wp2_with fail
        refine Calls.mono HM2.out ?_
        rintro e W4 ⟨rfl, hT4, ht4⟩
        have HF : Hid (TabAt W4 t (putT T (n : Nat) ⟨p, o, l⟩) ∧ DsAt W4 base v3 (X ++ [⟨(n : Nat), ⟨p, o, l⟩⟩]) ∧ Turns t (t + 1) w W4) := ⟨hT4, HD3.out.turns ht4 hbase.1, (Turns.of_below HB3.out).trans ht4⟩
        obtain ⟨n', hn'⟩ : ∃ n' : Int, ((n : Nat) : Int) = n' := ⟨_, rfl⟩
        rw [hn'] at HF HRF ⊢
        clear hT4 ht4 HM2 hn' y0 y1 y2 y3 y4
        go_wp2
        go_ret2
        exact ⟨v3, _, _, rfl, HF.out.1, HRF.out, HF.out.2.1, by simp, HF.out.2.2⟩
      · have hm2 : mayP ⟨p, o, l⟩ = false := by simpa using hm
        have HM : Hid _ := refMake_bad (v := v) p o l W2 hm2
        have HMN : Hid (mayP ⟨p, o, l⟩ = false) := hm2
        clear hm hm2
        go_wp2_with fail
        refine Calls.mono HM.out ?_
        rintro e W3 ⟨rfl, b3⟩
        have hx3 := (b3.block w.heap.size (by omega)).trans HX1.out
        obtain ⟨y0, y1, y2, y3, y4⟩ := cells_five hx3
        have HM2 : Hid _ := make_bad (v := .pointer (some ⟨t, 0, none⟩)) p o l W3 HMN.out
        have HS3 : Hid (TabAt W3 t T ∧ DsAt W3 base v X ∧ Below w.heap.size w W3) := ⟨HT.out.later b3, HD.out.below b3, HB.out.trans (b3.mono HB.out.size)⟩
        clear b3 hx3 HM
        go_wp2_with fail
        refine Calls.mono HM2.out ?_
        rintro e W4 ⟨rfl, b4⟩
        have HF : Hid (TabAt W4 t T ∧ DsAt W4 base v X ∧ Below w.heap.size w W4) := ⟨HS3.out.1.later b4, HS3.out.2.1.below b4, HS3.out.2.2.trans (b4.mono HS3.out.2.2.size)⟩
        clear b4 HM2 y0 y1 y2 y3 y4
        go_wp2
        go_ret2
        exact ⟨v, _, _, rfl, HF.out.1, HR.out, HF.out.2.1, by omega, Turns.of_below HF.out.2.2⟩
    · by_cases h2 : k = 2
      · subst h2
        have HDR : Hid _ := refDrop_rel h W2 HD.out HR.out (by omega) (by omega)
        go_wp2_with fail
        refine Calls.mono HDR.out ?_
        rintro e W3 ⟨v3, X3, rfl, hd3, hr3, hl3, b3⟩
        obtain ⟨q, hq⟩ : ∃ q, T h = q := ⟨_, rfl⟩
        obtain ⟨u, hu⟩ : ∃ u, isU q = u := ⟨_, rfl⟩
        rw [hq, hu]
        obtain ⟨qp, qo, ql⟩ := q
        obtain ⟨W4, hW4⟩ : ∃ W4, W4 = W3.alloc (.cells #[.int .i64 qp, .int .i64 qo, .int .i64 ql] 44) := ⟨_, rfl⟩
        have hb4 : Below W3.heap.size W3 W4 := by rw [hW4]; exact (Below.refl _ W3).alloc (Nat.le_refl _) _
        have hp4 : W4.heap[W3.heap.size]? = some (.cells #[.int .i64 qp, .int .i64 qo, .int .i64 ql] 44 (0, 0)) := by rw [hW4]; exact heap_alloc_new W3 _
        have b4 := b3.trans (hb4.mono b3.size)
        have hx4 := (b4.block w.heap.size (by omega)).trans HX1.out
        obtain ⟨x0, x1, x2, x3, x4⟩ := cells_five hx4
        have HDP := drop_any h W4 (HT.out.later b4).p
        rw [hq] at HDP
        unfold gotV at HDP
        rw [hu] at HDP
        have HDP : Hid _ := HDP
        have HD4 : Hid (DsAt W4 base v3 X3) := hd3.below hb4
        have HB4 : Hid (Below w.heap.size w W4) := HB.out.trans (b4.mono HB.out.size)
        have HR3 : Hid (Rel (putT T h zP) X3) := hr3
        have HP4 : Hid (W4.heap[W3.heap.size]? = some (.cells #[.int .i64 qp, .int .i64 qo, .int .i64 ql] 44 (0, 0))) := hp4
        have hs3 : t + 1 ≤ W3.heap.size := by have := b3.size; omega
        clear hd3 hr3 b3 hq hu hb4 hp4 b4 hx4 HDR y0 y1 y2 y3 y4 q0 q1 q2
        go_upto_region 11 with (fail)
        rw [← hW4]
        clear hW4
        go_wp2_with fail
        refine Calls.mono HDP.out ?_
        rintro e W5 ⟨rfl, hT5, hw5⟩
        have ht5 : Turns t (t + 1) W4 W5 := turns_or rfl hw5
        have hA5 : TabAt W5 t (putT T h zP) := hT5.at rfl
        obtain ⟨W6, hW6⟩ : ∃ W6, W6 = W5.alloc (.cells #[.int .i64 qp, .int .i64 qo, .int .i64 ql] 28) := ⟨_, rfl⟩
        have hb6 : Below W5.heap.size W5 W6 := by rw [hW6]; exact (Below.refl _ W5).alloc (Nat.le_refl _) _
        have hp6 : W6.heap[W5.heap.size]? = some (.cells #[.int .i64 qp, .int .i64 qo, .int .i64 ql] 28 (0, 0)) := by rw [hW6]; exact place_new W5 ⟨qp, qo, ql⟩
        have hs4 := (Array.getElem?_eq_some_iff.1 HP4.out).1
        have hr6 := (hb6.block _ (by have := ht5.size; omega)).trans ((ht5.block _ hs4 (.inr hs3)).trans HP4.out)
        obtain ⟨x0, x1, x2⟩ := cells_three hp6
        obtain ⟨y0, y1, y2⟩ := cells_three hr6
        have HF : Hid (TabAt W6 t (putT T h zP) ∧ DsAt W6 base v3 X3 ∧ Turns t (t + 1) w W6) := ⟨hA5.later hb6, (HD4.out.turns ht5 hbase.1).below hb6, ((Turns.of_below HB4.out).trans ht5).trans (Turns.of_below hb6)⟩
        have hsame : sameP ⟨qp, qo, ql⟩ ⟨qp, qo, ql⟩ = true := sameP_iff.2 rfl
        have heq := Try.eqlR qp qo ql qp qo ql
        rw [hsame] at heq
        clear hT5 hw5 ht5 hA5 hb6 hp6 hs4 hr6 HDP hsame
        go_upto_region 12 with (fail)
        rw [← hW6]
        clear hW6
        go_wp2
        go_ret2
        exact ⟨v3, X3, _, rfl, HF.out.1, HR3.out, HF.out.2.1, by omega, HF.out.2.2⟩
      · by_cases h3 : k = 3
        · subst h3
          by_cases hx : 0 ≤ x
          · obtain ⟨i, e, rfl, hi, hin⟩ := HPL.out.yes hx
            obtain ⟨a, c, rfl⟩ := row_slice HD.out
            obtain ⟨g, rfl, hbg, hg, _⟩ := HD.out.at hi
            obtain ⟨m, hm⟩ : ∃ m, X.length = m := ⟨_, rfl⟩
            have hil := (List.getElem?_eq_some_iff.1 hi).1
            rw [hm] at hil
            have HI : Hid (X[i]? = some e ∧ e.h = h) := ⟨hi, hin⟩
            have HMX : Hid (X.length = m) := hm
            have HM : Hid _ := refMay_any p o l W2
            have HUT : Hid (isU (T h) = true) := by show _ = _; rw [HU.out]; exact decide_eq_true hx
            have i1 : 0 ≤ (i : Int) := by omega
            have i2 : (i : Int) < (m : Int) := by omega
            rw [hm]
            clear hx hi hin
            go_wp2_with fail
            refine Calls.mono HM.out ?_
            rintro e2 W3 ⟨rfl, b3⟩
            have hx3 := (b3.block w.heap.size (by omega)).trans HX1.out
            have hp3 := (b3.block (w.heap.size + 1) (by omega)).trans HX2.out
            have HB3 : Hid (Below w.heap.size w W3) := HB.out.trans (b3.mono HB.out.size)
            have HD3 : Hid (DsAt W3 base (.slice (some ⟨g, 0, none⟩) X.length c) X) := HD.out.below b3
            have HT3 : Hid (TabAt W3 t T) := HT.out.later b3
            have hs3 := b3.size
            clear y0 y1 y2 y3 y4 q0 q1 q2
            by_cases hma : mayP ⟨p, o, l⟩ = true
            · have HSB : Hid (setB T h ⟨p, o, l⟩ = true) := by show _ = _; unfold setB; rw [HUT.out, hma]; rfl
              have HMA : Hid (mayP ⟨p, o, l⟩ = true) := hma
              rw [hma]
              have hmade : (W3.alloc (.cells #[] 65)).ownsRow W3.heap.size 65 4 (.slice (some ⟨W3.heap.size, 0, none⟩) 0 0) 0 [] := World.ownsRow_made (e := 65) (size := 4) W3 #[] 0 (Nat.le_refl _) (by unfold maxLen; omega) rfl
              have HMD : Hid ((W3.alloc (.cells #[] 65)).ownsRow W3.heap.size 65 4 (.slice (some ⟨W3.heap.size, 0, none⟩) 0 0) 0 []) := hmade
              have LN1 : Hid ((rowD X).length = m * 4) := by show _ = _; rw [rowD_len, hm]
              have hcm := (row_cap HD3.out).2
              have HX3 : Hid (W3.heap[w.heap.size]? = some (.cells #[.int .i64 3, .int .i64 h, .int .i64 p, .int .i64 o, .int .i64 l] 41 (0, 0)) ∧ W3.heap[w.heap.size + 1]? = some (.cells #[.int .i64 p, .int .i64 o, .int .i64 l] 44 (0, 0))) := ⟨hx3, hp3⟩
              clear b3 hma hmade hx3 hp3
              go_wp2_with (at_builtin; refine wpList_append_own _ rfl _ _ 37 rfl W3.heap.size 65 i0 _ 4 32 Try.underlying37 hi0 hz0 hz1 hz2 rfl (by decide) (.slice (some ⟨W3.heap.size, 0, none⟩) 0 0) 0 [] rfl HMD.out ⟨g, 0, none⟩ m c (rowD X) rfl LN1.out ?c1 (rowD_one _) ?c3 ?c4 ?c5 ?_)
              case c1 =>
                intro j u hu
                have h3 := World.ownsRow.cells HD3.out rfl j u hu
                rw [Addr.add_lit] at h3 ⊢
                rw [← h3]
                exact World.cell?_of_block (Below.heap_alloc W3 _ g (by omega))
              case c3 => unfold maxLen; omega
              case c4 => omega
              case c5 => simp
              intro v5 W5 own5 gr5 _
              have own5' : DsAt W5 W3.heap.size v5 X := by
                unfold DsAt
                rw [hm]
                simpa using own5
              have hb5 : Below W3.heap.size W3 W5 := ((Below.refl _ W3).alloc (Nat.le_refl _) _).grown gr5 (by simp) (fun j hj => by simp [Value.ownBlock] at hj; omega)
              obtain ⟨a5, c5, rfl⟩ := row_slice own5'
              obtain ⟨g5, rfl, hg5, hg5s, c0, c1, c2, c3⟩ := own5'.at HI.out.1
              have hx5 := (hb5.block _ (by omega)).trans HX3.out.1
              have hp5 := (hb5.block _ (by omega)).trans HX3.out.2
              obtain ⟨y0, y1, y2, y3, y4⟩ := cells_five hx5
              obtain ⟨q0, q1, q2⟩ := cells_three hp5
              have f0 := own5'.frozenAt (i * 4)
              have f1 := own5'.frozenAt (i * 4 + 1)
              have f2 := own5'.frozenAt (i * 4 + 2)
              have f3 := own5'.frozenAt (i * 4 + 3)
              obtain ⟨r0, t0⟩ := World.ownsRow.stored own5' (i * 4) (.int .i64 h)
              obtain ⟨r1, t1⟩ := World.ownsRow.stored r0 (i * 4 + 1) (.int .i64 p)
              obtain ⟨r2, t2⟩ := World.ownsRow.stored r1 (i * 4 + 2) (.int .i64 o)
              obtain ⟨r3, t3⟩ := World.ownsRow.stored r2 (i * 4 + 3) (.int .i64 l)
              rw [rowD_set ⟨h, ⟨p, o, l⟩⟩ (by omega)] at r3
              obtain ⟨W7, hW7⟩ : ∃ W7, W7 = (((W5.setCell ⟨g5, i * 4, none⟩ (.int .i64 h)).setCell ⟨g5, i * 4 + 1, none⟩ (.int .i64 p)).setCell ⟨g5, i * 4 + 2, none⟩ (.int .i64 o)).setCell ⟨g5, i * 4 + 3, none⟩ (.int .i64 l) := ⟨_, rfl⟩
              have hb7 : Below W3.heap.size W3 W7 := by
                rw [hW7]
                exact (((hb5.setCell (p := ⟨g5, i * 4, none⟩) hg5 _).setCell (p := ⟨g5, i * 4 + 1, none⟩) hg5 _).setCell (p := ⟨g5, i * 4 + 2, none⟩) hg5 _).setCell (p := ⟨g5, i * 4 + 3, none⟩) hg5 _
              rw [← hW7] at r3
              have hx7 := (hb7.block _ (by omega)).trans HX3.out.1
              have HDW : Hid (DsAt W7 base (.slice (some ⟨g5, 0, none⟩) X.length c5) (X.set i ⟨h, ⟨p, o, l⟩⟩)) := by
                show World.ownsRow _ _ _ _ _ _ _
                rw [List.length_set]
                exact rowMono r3 (by omega)
              have HTW : Hid (TabAt W7 t T) := HT3.out.later hb7
              have HTU : Hid (Turns t (t + 1) w W7) := (Turns.of_below HB3.out).trans (Turns.of_below hb7)
              rw [hm] at HDW
              clear own5 gr5 own5' hb5 hx5 hp5 r0 r1 r2 r3 t0 t1 t2 t3 hb7 HMD LN1 HM
              go_upto_region 18 with (fail)
              rw [← hW7]
              clear hW7 c0 c1 c2 c3 f0 f1 f2 f3 q0 q1 q2 y0 y1 y2 y3 y4
              obtain ⟨y0, y1, y2, y3, y4⟩ := cells_five hx7
              clear hx7
              have HSA : Hid _ := set_any h p o l W7 HTW.out.p
              go_wp2_with fail
              refine Calls.mono HSA.out ?_
              rintro e W9 ⟨rfl, hT9, hw9⟩
              have ht9 : Turns t (t + 1) W7 W9 := turns_or rfl hw9
              have hT9' : TabAt W9 t (setT T h ⟨p, o, l⟩) := hT9.at rfl
              have HF : Hid (TabAt W9 t (setT T h ⟨p, o, l⟩) ∧ DsAt W9 base (.slice (some ⟨g5, 0, none⟩) m c5) (X.set i ⟨h, ⟨p, o, l⟩⟩) ∧ Turns t (t + 1) w W9) := ⟨hT9', HDW.out.turns ht9 hbase.1, HTU.out.trans ht9⟩
              rw [HSB.out]
              clear hT9 hw9 ht9 hT9' HSA
              go_wp2
              go_ret2
              exact ⟨_, _, _, rfl, HF.out.1, by rw [setT_yes HSB.out]; exact HR.out.set HI.out.1 HI.out.2 (may_used HMA.out), HF.out.2.1, by simp, HF.out.2.2⟩
            · have hma2 : mayP ⟨p, o, l⟩ = false := by simpa using hma
              have HSB : Hid (setB T h ⟨p, o, l⟩ = false) := by show _ = _; unfold setB; rw [hma2]; simp
              rw [hma2]
              obtain ⟨y0, y1, y2, y3, y4⟩ := cells_five hx3
              clear b3 hma hma2 hx3 hp3 HM
              rw [hm] at HD3
              have HSA : Hid _ := set_any h p o l W3 HT3.out.p
              go_wp2_with fail
              refine Calls.mono HSA.out ?_
              rintro e W9 ⟨rfl, hT9, hw9⟩
              have ht9 : Turns t (t + 1) W3 W9 := turns_or rfl hw9
              have hT9' : TabAt W9 t (setT T h ⟨p, o, l⟩) := hT9.at rfl
              have HF : Hid (TabAt W9 t (setT T h ⟨p, o, l⟩) ∧ DsAt W9 base (.slice (some ⟨g, 0, none⟩) m c) X ∧ Turns t (t + 1) w W9) := ⟨hT9', HD3.out.turns ht9 hbase.1, (Turns.of_below HB3.out).trans ht9⟩
              rw [HSB.out]
              clear hT9 hw9 ht9 hT9' HSA
              go_wp2
              go_ret2
              exact ⟨_, _, _, rfl, HF.out.1, by rw [setT_no HSB.out]; exact HR.out, HF.out.2.1, by omega, HF.out.2.2⟩
          · obtain rfl : x = -1 := (HPL.out.no (by omega)).1
            have HSB : Hid (setB T h ⟨p, o, l⟩ = false) := by show _ = _; unfold setB; rw [HU.out]; rfl
            clear hx
            have HSA : Hid _ := set_any h p o l W2 HT.out.p
            go_wp2_with fail
            refine Calls.mono HSA.out ?_
            rintro e W9 ⟨rfl, hT9, hw9⟩
            have ht9 : Turns t (t + 1) W2 W9 := turns_or rfl hw9
            have hT9' : TabAt W9 t (setT T h ⟨p, o, l⟩) := hT9.at rfl
            have HF : Hid (TabAt W9 t (setT T h ⟨p, o, l⟩) ∧ DsAt W9 base v X ∧ Turns t (t + 1) w W9) := ⟨hT9', HD.out.turns ht9 hbase.1, (Turns.of_below HB.out).trans ht9⟩
            rw [HSB.out]
            clear hT9 hw9 ht9 hT9' HSA
            go_wp2
            go_ret2
            exact ⟨_, _, _, rfl, HF.out.1, by rw [setT_no HSB.out]; exact HR.out, HF.out.2.1, by omega, HF.out.2.2⟩
        · have e0 : (k == 0) = false := by rw [beq_eq_false_iff_ne]; exact h0
          have e1 : (k == 1) = false := by rw [beq_eq_false_iff_ne]; exact h1
          have e2 : (k == 2) = false := by rw [beq_eq_false_iff_ne]; exact h2
          have e3 : (k == 3) = false := by rw [beq_eq_false_iff_ne]; exact h3
          have HG := get_any h W2 HT.out.p
          obtain ⟨q, hq⟩ : ∃ q, T h = q := ⟨_, rfl⟩
          obtain ⟨u, hu⟩ : ∃ u, isU q = u := ⟨_, rfl⟩
          rw [hq] at HG
          unfold gotV at HG
          rw [hu] at HG
          obtain ⟨qp, qo, ql⟩ := q
          simp only at HG
          have HG : Hid _ := HG
          have HQ : Hid (T h = ⟨qp, qo, ql⟩ ∧ isU ⟨qp, qo, ql⟩ = u) := ⟨hq, hu⟩
          clear h0 h1 h2 h3 hq hu
          go_wp2_with fail
          refine Calls.mono HG.out ?_
          rintro e W3 ⟨rfl, b3⟩
          obtain ⟨W4, hW4⟩ : ∃ W4, W4 = W3.alloc (.cells #[.int .i64 qp, .int .i64 qo, .int .i64 ql] 28) := ⟨_, rfl⟩
          have hb4 : Below W3.heap.size W3 W4 := by rw [hW4]; exact (Below.refl _ W3).alloc (Nat.le_refl _) _
          have hp4 : W4.heap[W3.heap.size]? = some (.cells #[.int .i64 qp, .int .i64 qo, .int .i64 ql] 28 (0, 0)) := by rw [hW4]; exact place_new W3 ⟨qp, qo, ql⟩
          have b4 := b3.trans (hb4.mono b3.size)
          obtain ⟨x0, x1, x2⟩ := cells_three hp4
          have HD4 : Hid (DsAt W4 base v X) := HD.out.below b4
          have HF : Hid (∀ n, TabAt (W4.drewN n) t T ∧ DsAt (W4.drewN n) base v X ∧ Turns t (t + 1) w (W4.drewN n)) := fun n => ⟨(HT.out.later b4).later (drewN_below _ _ n), HD4.out.below (drewN_below _ _ n), ((Turns.of_below HB.out).trans (Turns.of_below b4)).trans (Turns.of_below (drewN_below _ _ n))⟩
          clear b3 hb4 hp4 b4 HG y0 y1 y2 y3 y4 q0 q1 q2
          by_cases hx : 0 ≤ x
          · obtain ⟨i, e, rfl, hi, hin⟩ := HPL.out.yes hx
            have hTe := HR.out.at (List.mem_of_getElem? hi)
            rw [hin, HQ.out.1] at hTe
            obtain ⟨eh, eq⟩ := e
            simp only at hTe hin
            obtain ⟨hq2, hne⟩ := hTe
            subst hq2
            have hut : u = true := by rw [← HQ.out.2]; exact isU_iff.2 hne
            subst hut
            obtain ⟨a, c, rfl⟩ := row_slice HD4.out
            obtain ⟨g, rfl, hbg, hg, c0, c1, c2, c3⟩ := HD4.out.at hi
            obtain ⟨m, hm⟩ : ∃ m, X.length = m := ⟨_, rfl⟩
            have hil := (List.getElem?_eq_some_iff.1 hi).1
            rw [hm] at hil HF ⊢
            simp only at c0 c1 c2 c3
            have i1 : ¬ (i : Int) < 0 := by omega
            have i2 : (i : Int) < (m : Int) := by omega
            have i3 : 0 ≤ (i : Int) := by omega
            have hsame : sameP ⟨qp, qo, ql⟩ ⟨qp, qo, ql⟩ = true := sameP_iff.2 rfl
            have heq := Try.eqlR qp qo ql qp qo ql
            rw [hsame] at heq
            clear hx hi hin hne hsame HQ
            go_upto_region 22 with (fail)
            rw [← hW4]
            clear hW4
            go_quiet (fail)
            go_wp2
            go_ret2
            exact ⟨_, X, T, rfl, (HF.out _).1, HR.out, (HF.out _).2.1, by omega, (HF.out _).2.2⟩
          · obtain rfl : x = -1 := (HPL.out.no (by omega)).1
            have hz : T h = zP := isU_not.1 (by rw [HU.out]; rfl)
            rw [HQ.out.1] at hz
            unfold zP at hz
            cases hz
            have huf : u = false := by rw [← HQ.out.2]; exact isU_not.2 rfl
            subst huf
            have hsame : sameP ⟨0, 0, 0⟩ ⟨0, 0, 0⟩ = true := sameP_iff.2 rfl
            have heq := Try.eqlP 0 0 0 0 0 0
            rw [hsame] at heq
            clear hx hsame HQ
            go_upto_region 21 with (fail)
            rw [← hW4]
            clear hW4
            go_quiet (fail)
            go_wp2
            go_ret2
            exact ⟨_, X, T, rfl, (HF.out _).1, HR.out, (HF.out _).2.1, by omega, (HF.out _).2.2⟩
end Go.Proofs.Ytlnkelhhemgibaa
