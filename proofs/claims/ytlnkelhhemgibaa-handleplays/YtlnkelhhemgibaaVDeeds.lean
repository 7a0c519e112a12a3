/- The walks of Drop, Set, Make. -/
import Derived.Test.YtlnkelhhemgibaaVGet
import Derived.Deep.DeepCutAuto
namespace Go.Proofs.Ytlnkelhhemgibaa
open Go.RowKit

theorem putT_none {T : Int → Pl} {h : Int} (e : T h = zP) : putT T h zP = T := by
  funext i
  by_cases hi : i = h
  · rw [hi, putT_same, e]
  · exact putT_other _ hi
/-- What a Set leaves. -/
def setB (T : Int → Pl) (h : Int) (x : Pl) : Bool := isU (T h) && mayP x
def setT (T : Int → Pl) (h : Int) (x : Pl) : Int → Pl := if setB T h x = true then putT T h x else T
theorem setT_yes {T : Int → Pl} {h : Int} {x : Pl} (e : setB T h x = true) : setT T h x = putT T h x := if_pos e
theorem setT_no {T : Int → Pl} {h : Int} {x : Pl} (e : setB T h x = false) : setT T h x = T := if_neg (by rw [e]; decide)
theorem place_new (w : World) (x : Pl) : (w.alloc (.cells #[.int .i64 x.p, .int .i64 x.o, .int .i64 x.l] 28)).heap[w.heap.size]? = some (.cells #[.int .i64 x.p, .int .i64 x.o, .int .i64 x.l] 28 (0, 0)) := heap_alloc_new w _

theorem Turns.then_below {B E : Nat} {w a b : World} (h : Turns B E w a) (hb : Below w.heap.size a b) : Turns B E w b :=
  ⟨hb.os.trans h.os, hb.tape.trans h.tape, hb.output.trans h.output, Nat.le_trans h.size hb.size, fun k h1 h2 => (hb.block k h1).trans (h.block k h1 h2)⟩
set_option maxRecDepth 100000 in
set_option maxHeartbeats 1000000 in
theorem drop_any {v : Value} {T : Int → Pl} (h : Int) (w : World) (hT : TabP w v T) :
    Calls Try.prog 8 #[v, .int .i64 h] w fun e w' => e = .returned (gotV (T h)) ∧ TabP w' v (putT T h zP) ∧ ((T h = zP ∧ Below w.heap.size w w') ∨ ∃ t : Nat, v = .pointer (some ⟨t, 0, none⟩) ∧ TabAt w t T ∧ Turns t (t + 1) w w') := by
  obtain ⟨W1, hW1⟩ : ∃ W1, W1 = w.alloc (.cells #[.int .i64 0, .int .i64 0, .int .i64 0] 28) := ⟨_, rfl⟩
  have hb1 : Below w.heap.size w W1 := by rw [hW1]; exact (Below.refl _ w).alloc (Nat.le_refl _) _
  have hx1 : W1.heap[w.heap.size]? = some (.cells #[.int .i64 0, .int .i64 0, .int .i64 0] 28 (0, 0)) := by rw [hW1]; exact heap_alloc_new w _
  have HB : Hid (Below w.heap.size w W1) := hb1
  have HX : Hid (W1.heap[w.heap.size]? = some (.cells #[.int .i64 0, .int .i64 0, .int .i64 0] 28 (0, 0))) := hx1
  have HP : Hid (TabP w v T) := hT
  have HG : Hid _ := get_any h W1 (hT.later hb1)
  clear hx1
  by_cases hu : T h = zP
  · have HU : Hid (isU (T h) = false ∧ T h = zP ∧ TabP w v T) := ⟨isU_not.2 hu, hu, hT⟩
    clear hu hb1 hT
    go_enter Try.func8, Try.ntmps8
    go_wp2_with fail
    rw [← hW1]
    refine Calls.mono HG.out ?_
    rintro e W2 ⟨rfl, b2⟩
    have hr2 := (b2.block _ (Array.getElem?_eq_some_iff.1 HX.out).1).trans HX.out
    obtain ⟨x, hx⟩ : ∃ x, T h = x := ⟨_, rfl⟩
    rw [hx]
    have HTX : Hid (T h = x) := hx
    obtain ⟨W3, hW3⟩ : ∃ W3, W3 = W2.alloc (.cells #[.int .i64 x.p, .int .i64 x.o, .int .i64 x.l] 28) := ⟨_, rfl⟩
    have b3 : Below W2.heap.size W2 W3 := by rw [hW3]; exact (Below.refl _ W2).alloc (Nat.le_refl _) _
    have p3 : W3.heap[W2.heap.size]? = some (.cells #[.int .i64 x.p, .int .i64 x.o, .int .i64 x.l] 28 (0, 0)) := by rw [hW3]; exact place_new W2 x
    have hr3 := (b3.block _ (Array.getElem?_eq_some_iff.1 hr2).1).trans hr2
    have hs1 := (Array.getElem?_eq_some_iff.1 HX.out).1
    have hs2 := (Array.getElem?_eq_some_iff.1 hr2).1
    obtain ⟨pb, hpb⟩ : ∃ pb, W2.heap.size = pb := ⟨_, rfl⟩
    rw [hpb] at b3 p3 hs2
    have hb13 : Below W1.heap.size W1 W3 := b2.trans (b3.mono (by rw [← hpb]; exact b2.size))
    have HB3 : Hid (Below w.heap.size w W3) := HB.out.trans (hb13.mono HB.out.size)
    clear hx b2 b3 hr2 HG
    unfold gotV
    obtain ⟨y0, y1, y2⟩ := cells_three hr3
    have g0 := free_three (n := 0) hr3
    have g1 := free_three (n := 1) hr3
    have g2 := free_three (n := 2) hr3
    obtain ⟨x0, x1, x2⟩ := cells_three p3
    have hux : isU x = false := by rw [← HTX.out]; exact HU.out.1
    rw [hux]
    have HF : Hid (gotV (T h) = .tuple #[.agg #[.int .i64 x.p, .int .i64 x.o, .int .i64 x.l], .bool false]) := by show _ = _; rw [HTX.out]; unfold gotV; rw [hux]
    have HR : Hid (W3.heap[w.heap.size]? = some (.cells #[.int .i64 0, .int .i64 0, .int .i64 0] 28 (0, 0))) := hr3
    clear hux hr3 p3 hb13 hW1
    obtain ⟨xp, xo, xl⟩ := x
    simp only at x0 x1 x2 HF hW3 ⊢
    go_upto_region 2 with (fail)
    rw [← hW3]
    clear hW3
    go_wp2
    have hb4 := res3_below (u0 := .int .i64 xp) (u1 := .int .i64 xo) (u2 := .int .i64 xl) HB3.out (Nat.le_refl _)
    refine bodyPost_ret (results_cell_tmp Try.results8 _ _ w.heap.size _ _ _ _ rfl (res3_kept HR.out) Try.underlying28 rfl Try.sizePl) rfl ?_
    exact ⟨by rw [HF.out]; rfl, by rw [putT_none HU.out.2.1]; exact HU.out.2.2.later hb4, .inl ⟨HU.out.2.1, hb4⟩⟩
  · obtain ⟨t, rfl, hA⟩ : ∃ t : Nat, v = .pointer (some ⟨t, 0, none⟩) ∧ TabAt w t T := by
      rcases hT with ⟨_, rfl⟩ | h1
      · exact absurd rfl hu
      · exact h1
    have hn := hA.ok.used hu
    obtain ⟨n, rfl⟩ : ∃ n : Nat, h = n := ⟨h.toNat, by omega⟩
    have htl := hA.lt
    have HA : Hid (TabAt w t T) := hA
    have HU : Hid (isU (T n) = true) := isU_iff.2 hu
    clear hu hb1 hT hA
    go_enter Try.func8, Try.ntmps8
    go_wp2_with fail
    rw [← hW1]
    refine Calls.mono HG.out ?_
    rintro e W2 ⟨rfl, b2⟩
    have hr2 := (b2.block _ (Array.getElem?_eq_some_iff.1 HX.out).1).trans HX.out
    obtain ⟨x, hx⟩ : ∃ x, T n = x := ⟨_, rfl⟩
    rw [hx]
    have HTX : Hid (T n = x) := hx
    obtain ⟨W3, hW3⟩ : ∃ W3, W3 = W2.alloc (.cells #[.int .i64 x.p, .int .i64 x.o, .int .i64 x.l] 28) := ⟨_, rfl⟩
    have b3 : Below W2.heap.size W2 W3 := by rw [hW3]; exact (Below.refl _ W2).alloc (Nat.le_refl _) _
    have p3 : W3.heap[W2.heap.size]? = some (.cells #[.int .i64 x.p, .int .i64 x.o, .int .i64 x.l] 28 (0, 0)) := by rw [hW3]; exact place_new W2 x
    have hr3 := (b3.block _ (Array.getElem?_eq_some_iff.1 hr2).1).trans hr2
    have hs1 := (Array.getElem?_eq_some_iff.1 HX.out).1
    have hs2 := (Array.getElem?_eq_some_iff.1 hr2).1
    obtain ⟨pb, hpb⟩ : ∃ pb, W2.heap.size = pb := ⟨_, rfl⟩
    rw [hpb] at b3 p3 hs2
    have hb13 : Below W1.heap.size W1 W3 := b2.trans (b3.mono (by rw [← hpb]; exact b2.size))
    have HB3 : Hid (Below w.heap.size w W3) := HB.out.trans (hb13.mono HB.out.size)
    clear hx b2 b3 hr2 HG
    unfold gotV
    have hux : isU x = true := by rw [← HTX.out]; exact HU.out
    rw [hux]
    have HF : Hid (gotV (T n) = .tuple #[.agg #[.int .i64 x.p, .int .i64 x.o, .int .i64 x.l], .bool true]) := by show _ = _; rw [HTX.out]; unfold gotV; rw [hux]
    have hA3 : TabAt W3 t T := HA.out.below HB3.out htl
    obtain ⟨W4, hW4⟩ : ∃ W4, W4 = ((W3.setCell ⟨t, n * 3, none⟩ (.int .i64 0)).setCell ⟨t, n * 3 + 1, none⟩ (.int .i64 0)).setCell ⟨t, n * 3 + 2, none⟩ (.int .i64 0) := ⟨_, rfl⟩
    have hA4 : TabAt W4 t (putT T n zP) := by rw [hW4]; exact hA3.set (x := zP) (by omega) (.inl rfl)
    have hT4 : Turns t (t + 1) W3 W4 := by rw [hW4]; exact tab_turns zP n W3 t
    have hne : ¬ w.heap.size = t := by omega
    have hne2 : ¬ pb = t := by omega
    have hr4 := (hT4.block w.heap.size (Array.getElem?_eq_some_iff.1 hr3).1 (by omega)).trans hr3
    have p4 := (hT4.block pb (Array.getElem?_eq_some_iff.1 p3).1 (by omega)).trans p3
    obtain ⟨c0, c1, c2⟩ := hA3.cell (n := n) (by omega)
    have f0 := hA3.frozen (n * 3)
    have f1 := hA3.frozen (n * 3 + 1)
    have f2 := hA3.frozen (n * 3 + 2)
    obtain ⟨x0, x1, x2⟩ := cells_three p4
    obtain ⟨y0, y1, y2⟩ := cells_three hr4
    have g0 := free_three (n := 0) hr4
    have g1 := free_three (n := 1) hr4
    have g2 := free_three (n := 2) hr4
    have HR : Hid (W4.heap[w.heap.size]? = some (.cells #[.int .i64 0, .int .i64 0, .int .i64 0] 28 (0, 0))) := hr4
    have HE : Hid (TabAt W4 t (putT T n zP) ∧ Turns t (t + 1) w W4) := ⟨hA4, (Turns.of_below HB3.out).trans hT4⟩
    clear hux hr3 p3 hb13 hW1 hr4 p4 hT4 hA4 hA3
    obtain ⟨xp, xo, xl⟩ := x
    simp only at x0 x1 x2 HF hW3 ⊢
    go_upto_region 2 with (fail)
    rw [← hW3]
    clear hW3
    go_upto_region 4 with (fail)
    rw [← hW4]
    clear hW4 c0 c1 c2 f0 f1 f2
    go_wp2
    refine bodyPost_ret (results_cell_tmp Try.results8 _ _ w.heap.size _ _ _ _ rfl (res3_kept HR.out) Try.underlying28 rfl Try.sizePl) rfl ?_
    have hz : Below w.heap.size W4 (((W4.setCell ⟨w.heap.size, 0, none⟩ (.int .i64 xp)).setCell ⟨w.heap.size, 1, none⟩ (.int .i64 xo)).setCell ⟨w.heap.size, 2, none⟩ (.int .i64 xl)) := res3_below (Below.refl _ _) (Nat.le_refl _)
    exact ⟨by rw [HF.out]; rfl, .inr ⟨t, rfl, HE.out.1.below hz htl⟩, .inr ⟨t, rfl, HA.out, HE.out.2.then_below hz⟩⟩

set_option maxRecDepth 100000 in
set_option maxHeartbeats 1000000 in
theorem set_any {v : Value} {T : Int → Pl} (h p o l : Int) (w : World) (hT : TabP w v T) :
    Calls Try.prog 9 #[v, .int .i64 h, .agg #[.int .i64 p, .int .i64 o, .int .i64 l]] w fun e w' => e = .returned (.bool (setB T h ⟨p, o, l⟩)) ∧ TabP w' v (setT T h ⟨p, o, l⟩) ∧ ((setB T h ⟨p, o, l⟩ = false ∧ Below w.heap.size w w') ∨ ∃ t : Nat, v = .pointer (some ⟨t, 0, none⟩) ∧ TabAt w t T ∧ Turns t (t + 1) w w') := by
  obtain ⟨W1, hW1⟩ : ∃ W1, W1 = w.alloc (.cells #[.int .i64 p, .int .i64 o, .int .i64 l] 28) := ⟨_, rfl⟩
  have hb1 : Below w.heap.size w W1 := by rw [hW1]; exact (Below.refl _ w).alloc (Nat.le_refl _) _
  have hx1 : W1.heap[w.heap.size]? = some (.cells #[.int .i64 p, .int .i64 o, .int .i64 l] 28 (0, 0)) := by rw [hW1]; exact heap_alloc_new w _
  have HB : Hid (Below w.heap.size w W1) := hb1
  have HX : Hid (W1.heap[w.heap.size]? = some (.cells #[.int .i64 p, .int .i64 o, .int .i64 l] 28 (0, 0))) := hx1
  have HP : Hid (TabP w v T) := hT
  have HG : Hid _ := get_any h W1 (hT.later hb1)
  clear hx1
  by_cases hu : T h = zP
  · have HU : Hid (isU (T h) = false ∧ setB T h ⟨p, o, l⟩ = false ∧ TabP w v T) := ⟨isU_not.2 hu, by unfold setB; rw [isU_not.2 hu]; rfl, hT⟩
    clear hu hb1 hT
    go_enter Try.func9, Try.ntmps9
    go_wp2_with fail
    rw [← hW1]
    refine Calls.mono HG.out ?_
    rintro e W2 ⟨rfl, b2⟩
    have hr2 := (b2.block _ (Array.getElem?_eq_some_iff.1 HX.out).1).trans HX.out
    obtain ⟨x, hx⟩ : ∃ x, T h = x := ⟨_, rfl⟩
    rw [hx]
    have HTX : Hid (T h = x) := hx
    obtain ⟨W3, hW3⟩ : ∃ W3, W3 = W2.alloc (.cells #[.int .i64 x.p, .int .i64 x.o, .int .i64 x.l] 28) := ⟨_, rfl⟩
    have b3 : Below W2.heap.size W2 W3 := by rw [hW3]; exact (Below.refl _ W2).alloc (Nat.le_refl _) _
    have p3 : W3.heap[W2.heap.size]? = some (.cells #[.int .i64 x.p, .int .i64 x.o, .int .i64 x.l] 28 (0, 0)) := by rw [hW3]; exact place_new W2 x
    have hr3 := (b3.block _ (Array.getElem?_eq_some_iff.1 hr2).1).trans hr2
    have hs1 := (Array.getElem?_eq_some_iff.1 HX.out).1
    have hs2 := (Array.getElem?_eq_some_iff.1 hr2).1
    obtain ⟨pb, hpb⟩ : ∃ pb, W2.heap.size = pb := ⟨_, rfl⟩
    rw [hpb] at b3 p3 hs2
    have hb13 : Below W1.heap.size W1 W3 := b2.trans (b3.mono (by rw [← hpb]; exact b2.size))
    have HB3 : Hid (Below w.heap.size w W3) := HB.out.trans (hb13.mono HB.out.size)
    clear hx b2 b3 hr2 HG
    unfold gotV
    have hux : isU x = false := by rw [← HTX.out]; exact HU.out.1
    rw [hux]
    clear hux hr3 p3 hb13 hW1
    obtain ⟨xp, xo, xl⟩ := x
    simp only at hW3 ⊢
    go_upto_region 2 with (fail)
    rw [← hW3]
    clear hW3
    go_wp2
    go_ret
    exact ⟨retBool HU.out.2.1.symm, by rw [setT_no HU.out.2.1]; exact HU.out.2.2.later HB3.out, .inl ⟨HU.out.2.1, HB3.out⟩⟩
  · obtain ⟨t, rfl, hA⟩ : ∃ t : Nat, v = .pointer (some ⟨t, 0, none⟩) ∧ TabAt w t T := by
      rcases hT with ⟨_, rfl⟩ | h1
      · exact absurd rfl hu
      · exact h1
    have hn := hA.ok.used hu
    obtain ⟨n, rfl⟩ : ∃ n : Nat, h = n := ⟨h.toNat, by omega⟩
    have htl := hA.lt
    have HA : Hid (TabAt w t T) := hA
    have HU : Hid (isU (T n) = true) := isU_iff.2 hu
    have HSB : Hid (setB T n ⟨p, o, l⟩ = mayP ⟨p, o, l⟩) := by show _ = _; unfold setB; rw [HU.out]; rfl
    clear hu hb1 hT hA
    go_enter Try.func9, Try.ntmps9
    go_wp2_with fail
    rw [← hW1]
    refine Calls.mono HG.out ?_
    rintro e W2 ⟨rfl, b2⟩
    have hr2 := (b2.block _ (Array.getElem?_eq_some_iff.1 HX.out).1).trans HX.out
    obtain ⟨x, hx⟩ : ∃ x, T n = x := ⟨_, rfl⟩
    rw [hx]
    have HTX : Hid (T n = x) := hx
    obtain ⟨W3, hW3⟩ : ∃ W3, W3 = W2.alloc (.cells #[.int .i64 x.p, .int .i64 x.o, .int .i64 x.l] 28) := ⟨_, rfl⟩
    have b3 : Below W2.heap.size W2 W3 := by rw [hW3]; exact (Below.refl _ W2).alloc (Nat.le_refl _) _
    have p3 : W3.heap[W2.heap.size]? = some (.cells #[.int .i64 x.p, .int .i64 x.o, .int .i64 x.l] 28 (0, 0)) := by rw [hW3]; exact place_new W2 x
    have hr3 := (b3.block _ (Array.getElem?_eq_some_iff.1 hr2).1).trans hr2
    have hs1 := (Array.getElem?_eq_some_iff.1 HX.out).1
    have hs2 := (Array.getElem?_eq_some_iff.1 hr2).1
    obtain ⟨pb, hpb⟩ : ∃ pb, W2.heap.size = pb := ⟨_, rfl⟩
    rw [hpb] at b3 p3 hs2
    have hb13 : Below W1.heap.size W1 W3 := b2.trans (b3.mono (by rw [← hpb]; exact b2.size))
    have HB3 : Hid (Below w.heap.size w W3) := HB.out.trans (hb13.mono HB.out.size)
    clear hx b2 b3 hr2 HG
    unfold gotV
    have hux : isU x = true := by rw [← HTX.out]; exact HU.out
    rw [hux]
    have hA3 : TabAt W3 t T := HA.out.below HB3.out htl
    obtain ⟨y0, y1, y2⟩ := cells_three hr3
    have HA3 : Hid (TabAt W3 t T) := hA3
    have HR : Hid (W3.heap[w.heap.size]? = some (.cells #[.int .i64 p, .int .i64 o, .int .i64 l] 28 (0, 0))) := hr3
    obtain ⟨b, hb⟩ : ∃ b, mayP ⟨p, o, l⟩ = b := ⟨_, rfl⟩
    have HM : Hid _ := may_is W3 hb
    have HBB : Hid (mayP ⟨p, o, l⟩ = b) := hb
    clear hux hr3 p3 hb13 hW1 hA3 hb
    obtain ⟨xp, xo, xl⟩ := x
    simp only at hW3 ⊢
    go_upto_region 2 with (fail)
    rw [← hW3]
    clear hW3
    cases b with
    | false =>
      have HSN : Hid (setB T n ⟨p, o, l⟩ = false) := HSB.out.trans HBB.out
      go_wp2_with fail
      refine Calls.mono HM.out ?_
      rintro e W5 ⟨rfl, b5⟩
      have HB5 : Hid (Below w.heap.size w W5) := HB3.out.trans (b5.mono HB3.out.size)
      clear b5
      go_wp2
      go_ret
      exact ⟨retBool HSN.out.symm, by rw [setT_no HSN.out]; exact HP.out.later HB5.out, .inl ⟨HSN.out, HB5.out⟩⟩
    | true =>
      have HSN : Hid (setB T n ⟨p, o, l⟩ = true) := HSB.out.trans HBB.out
      go_wp2_with fail
      refine Calls.mono HM.out ?_
      rintro e W5 ⟨rfl, b5⟩
      have hs3 : w.heap.size ≤ W3.heap.size := HB3.out.size
      have HB5 : Hid (Below w.heap.size w W5) := HB3.out.trans (b5.mono hs3)
      have hA5 : TabAt W5 t T := HA3.out.later b5
      have hr5 := (b5.block _ (Array.getElem?_eq_some_iff.1 HR.out).1).trans HR.out
      obtain ⟨q0, q1, q2⟩ := cells_three hr5
      have hne : ¬ w.heap.size = t := by omega
      obtain ⟨c0, c1, c2⟩ := hA5.cell (n := n) (by omega)
      have f0 := hA5.frozen (n * 3)
      have f1 := hA5.frozen (n * 3 + 1)
      have f2 := hA5.frozen (n * 3 + 2)
      have HA5 : Hid (TabAt W5 t T) := hA5
      clear b5 hA5 hr5 HM y0 y1 y2
      go_wp2_with fail
      go_region
      all_goals
        go_wp2
        go_ret
        have hA6 : ∀ m, _ := fun m => (HA5.out.later (drewN_below _ _ m)).set (n := n) (x := ⟨p, o, l⟩) (by omega) (.inr HBB.out)
        exact ⟨retBool HSN.out.symm, by rw [setT_yes HSN.out]; exact .inr ⟨t, rfl, hA6 _⟩, .inr ⟨t, rfl, HA.out, ((Turns.of_below HB5.out).trans (Turns.of_below (drewN_below _ _ _))).trans (tab_turns ⟨p, o, l⟩ n _ t)⟩⟩
set_option maxHeartbeats 400000 in
theorem make_bad {v : Value} (p o l : Int) (w : World) (hm : mayP ⟨p, o, l⟩ = false) :
    Calls Try.prog 6 #[v, .agg #[.int .i64 p, .int .i64 o, .int .i64 l]] w fun e w' => e = .returned (.tuple #[.int .i64 0, .int .i64 1]) ∧ Below w.heap.size w w' := by
  obtain ⟨W1, hW1⟩ : ∃ W1, W1 = w.alloc (.cells #[.int .i64 p, .int .i64 o, .int .i64 l] 28) := ⟨_, rfl⟩
  have hb1 : Below w.heap.size w W1 := by rw [hW1]; exact (Below.refl _ w).alloc (Nat.le_refl _) _
  have hx1 : W1.heap[w.heap.size]? = some (.cells #[.int .i64 p, .int .i64 o, .int .i64 l] 28 (0, 0)) := by rw [hW1]; exact heap_alloc_new w _
  have HB : Hid (Below w.heap.size w W1) := hb1
  have HX : Hid (W1.heap[w.heap.size]? = some (.cells #[.int .i64 p, .int .i64 o, .int .i64 l] 28 (0, 0))) := hx1
  obtain ⟨z0, z1, z2⟩ := cells_three hx1
  have HM : Hid _ := may_is W1 hm
  rw [hW1] at z0 z1 z2
  clear hx1 hm
  clear hb1
  go_enter Try.func6, Try.ntmps6
  go_wp2_with fail
  rw [← hW1]
  clear hW1
  refine Calls.mono HM.out ?_
  rintro e W2 ⟨rfl, b2⟩
  have HB2 : Hid (Below w.heap.size w W2) := HB.out.trans (b2.mono HB.out.size)
  clear b2
  go_wp2
  go_ret2
  exact ⟨rfl, HB2.out⟩
set_option maxHeartbeats 400000 in
theorem make_nil (p o l : Int) (w : World) (hm : mayP ⟨p, o, l⟩ = true) :
    Calls Try.prog 6 #[.pointer none, .agg #[.int .i64 p, .int .i64 o, .int .i64 l]] w fun e w' => e = .returned (.tuple #[.int .i64 0, .int .i64 11]) ∧ Below w.heap.size w w' := by
  obtain ⟨W1, hW1⟩ : ∃ W1, W1 = w.alloc (.cells #[.int .i64 p, .int .i64 o, .int .i64 l] 28) := ⟨_, rfl⟩
  have hb1 : Below w.heap.size w W1 := by rw [hW1]; exact (Below.refl _ w).alloc (Nat.le_refl _) _
  have hx1 : W1.heap[w.heap.size]? = some (.cells #[.int .i64 p, .int .i64 o, .int .i64 l] 28 (0, 0)) := by rw [hW1]; exact heap_alloc_new w _
  have HB : Hid (Below w.heap.size w W1) := hb1
  have HX : Hid (W1.heap[w.heap.size]? = some (.cells #[.int .i64 p, .int .i64 o, .int .i64 l] 28 (0, 0))) := hx1
  obtain ⟨z0, z1, z2⟩ := cells_three hx1
  have HM : Hid _ := may_is W1 hm
  rw [hW1] at z0 z1 z2
  clear hx1 hm
  clear hb1
  go_enter Try.func6, Try.ntmps6
  go_wp2_with fail
  rw [← hW1]
  clear hW1
  refine Calls.mono HM.out ?_
  rintro e W2 ⟨rfl, b2⟩
  have HB2 : Hid (Below w.heap.size w W2) := HB.out.trans (b2.mono HB.out.size)
  clear b2
  go_wp2
  go_ret2
  exact ⟨rfl, HB2.out⟩
set_option maxHeartbeats 400000 in
theorem make_full {t : Nat} {T : Int → Pl} (p o l : Int) (w : World) (hT : TabAt w t T) (hm : mayP ⟨p, o, l⟩ = true) (hf : Full T) :
    Calls Try.prog 6 #[.pointer (some ⟨t, 0, none⟩), .agg #[.int .i64 p, .int .i64 o, .int .i64 l]] w fun e w' => e = .returned (.tuple #[.int .i64 0, .int .i64 11]) ∧ Below w.heap.size w w' := by
  have HT : Hid (TabAt w t T) := hT
  obtain ⟨W1, hW1⟩ : ∃ W1, W1 = w.alloc (.cells #[.int .i64 p, .int .i64 o, .int .i64 l] 28) := ⟨_, rfl⟩
  have hb1 : Below w.heap.size w W1 := by rw [hW1]; exact (Below.refl _ w).alloc (Nat.le_refl _) _
  have hx1 : W1.heap[w.heap.size]? = some (.cells #[.int .i64 p, .int .i64 o, .int .i64 l] 28 (0, 0)) := by rw [hW1]; exact heap_alloc_new w _
  have HB : Hid (Below w.heap.size w W1) := hb1
  have HX : Hid (W1.heap[w.heap.size]? = some (.cells #[.int .i64 p, .int .i64 o, .int .i64 l] 28 (0, 0))) := hx1
  obtain ⟨z0, z1, z2⟩ := cells_three hx1
  have HM : Hid _ := may_is W1 hm
  rw [hW1] at z0 z1 z2
  clear hx1 hm
  clear hT hb1
  go_enter Try.func6, Try.ntmps6
  go_wp2_with fail
  rw [← hW1]
  clear hW1
  refine Calls.mono HM.out ?_
  rintro e W2 ⟨rfl, b2⟩
  have HB2 : Hid (Below w.heap.size w W2) := HB.out.trans (b2.mono HB.out.size)
  have hr2 := (b2.block _ (Array.getElem?_eq_some_iff.1 HX.out).1).trans HX.out
  have HR2 : Hid (W2.heap[w.heap.size]? = some (.cells #[.int .i64 p, .int .i64 o, .int .i64 l] 28 (0, 0))) := hr2
  have HI : Hid _ := index_any W2 (HT.out.later HB2.out)
  clear b2 hr2 HM
  go_wp2_with fail
  refine Calls.mono HI.out ?_
  rintro e W3 ⟨x, rfl, b3, hx⟩
  have HB3 : Hid (Below w.heap.size w W3) := HB2.out.trans (b3.mono HB2.out.size)
  obtain rfl : x = -1 := by
    rcases hx with h | ⟨n, _, h⟩
    · exact h.1
    · exact absurd h.at_ (hf _ h.lo h.hi)
  clear b3 hx HI
  go_wp2
  go_ret2
  exact ⟨rfl, HB3.out⟩
set_option maxRecDepth 100000 in
set_option maxHeartbeats 1000000 in
theorem make_free {t n : Nat} {T : Int → Pl} (p o l : Int) (w : World) (hT : TabAt w t T) (hm : mayP ⟨p, o, l⟩ = true) (hf : IsFree T n) :
    Calls Try.prog 6 #[.pointer (some ⟨t, 0, none⟩), .agg #[.int .i64 p, .int .i64 o, .int .i64 l]] w fun e w' => e = .returned (.tuple #[.int .i64 (n : Nat), .int .i64 0]) ∧ TabAt w' t (putT T n ⟨p, o, l⟩) ∧ Turns t (t + 1) w w' := by
  have HT : Hid (TabAt w t T) := hT
  have HMA : Hid (mayP ⟨p, o, l⟩ = true) := hm
  have htl := hT.lt
  obtain ⟨W1, hW1⟩ : ∃ W1, W1 = w.alloc (.cells #[.int .i64 p, .int .i64 o, .int .i64 l] 28) := ⟨_, rfl⟩
  have hb1 : Below w.heap.size w W1 := by rw [hW1]; exact (Below.refl _ w).alloc (Nat.le_refl _) _
  have hx1 : W1.heap[w.heap.size]? = some (.cells #[.int .i64 p, .int .i64 o, .int .i64 l] 28 (0, 0)) := by rw [hW1]; exact heap_alloc_new w _
  have HB : Hid (Below w.heap.size w W1) := hb1
  have HX : Hid (W1.heap[w.heap.size]? = some (.cells #[.int .i64 p, .int .i64 o, .int .i64 l] 28 (0, 0))) := hx1
  obtain ⟨z0, z1, z2⟩ := cells_three hx1
  have HM : Hid _ := may_is W1 hm
  rw [hW1] at z0 z1 z2
  clear hx1 hm
  clear hT hb1
  go_enter Try.func6, Try.ntmps6
  go_wp2_with fail
  rw [← hW1]
  clear hW1
  refine Calls.mono HM.out ?_
  rintro e W2 ⟨rfl, b2⟩
  have HB2 : Hid (Below w.heap.size w W2) := HB.out.trans (b2.mono HB.out.size)
  have hr2 := (b2.block _ (Array.getElem?_eq_some_iff.1 HX.out).1).trans HX.out
  have HR2 : Hid (W2.heap[w.heap.size]? = some (.cells #[.int .i64 p, .int .i64 o, .int .i64 l] 28 (0, 0))) := hr2
  have HI : Hid _ := index_any W2 (HT.out.later HB2.out)
  clear b2 hr2 HM
  go_wp2_with fail
  refine Calls.mono HI.out ?_
  rintro e W3 ⟨x, rfl, b3, hx⟩
  have HB3 : Hid (Below w.heap.size w W3) := HB2.out.trans (b3.mono HB2.out.size)
  obtain ⟨k, rfl, rfl⟩ : ∃ k : Nat, x = (k : Int) ∧ n = k + 1 := by
    rcases hx with ⟨_, h⟩ | ⟨m, rfl, h⟩
    · exact absurd hf.at_ (h n hf.lo hf.hi)
    · refine ⟨m, rfl, ?_⟩
      rcases Nat.lt_trichotomy n (m + 1) with h1 | h1 | h1
      · exact absurd hf.at_ (h.less n hf.lo h1)
      · exact h1
      · exact absurd h.at_ (hf.less (m + 1) (by omega) h1)
  have hk := hf.hi
  have hA3 : TabAt W3 t T := HT.out.later HB3.out
  have hr3 := (b3.block _ (Array.getElem?_eq_some_iff.1 HR2.out).1).trans HR2.out
  obtain ⟨q0, q1, q2⟩ := cells_three hr3
  have hne : ¬ w.heap.size = t := by omega
  obtain ⟨c0, c1, c2⟩ := hA3.cell (n := k + 1) (by omega)
  have f0 := hA3.frozen ((k + 1) * 3)
  have f1 := hA3.frozen ((k + 1) * 3 + 1)
  have f2 := hA3.frozen ((k + 1) * 3 + 2)
  have HA3 : Hid (TabAt W3 t T) := hA3
  have i0 : ¬ (k : Int) < 0 := by omega
  have i1 : (k : Int) + 1 < 513 := by omega
  have i2 : 0 ≤ (k : Int) + 1 := by omega
  have i3 : ((k : Int) + 1).toNat = k + 1 := by omega
  clear b3 hx HI hA3 hr3 hf
  go_wp2_with fail
  go_region
  all_goals
    go_wp2
    go_ret2
    have hA6 : ∀ m, _ := fun m => (HA3.out.later (drewN_below _ _ m)).set (n := k + 1) (x := ⟨p, o, l⟩) (by omega) (.inr HMA.out)
    exact ⟨by go_num, hA6 _, ((Turns.of_below HB3.out).trans (Turns.of_below (drewN_below _ _ _))).trans (tab_turns ⟨p, o, l⟩ (k + 1) _ t)⟩
end Go.Proofs.Ytlnkelhhemgibaa
