/- Proved: gunnylaw11.TokenGrows returns true for all lists of bytes and all tokens: what any bytes grow to by any token, or why they don't, is the document's; what was handed in stays. No conditions. -/
import Derived.Test.YtdnmkbncdiggfaaKLives
import Derived.Test.YtdnmkbncdiggfaaKRefG
import Derived.Test.YtdnmkbncdiggfaaKOpen
namespace Go.Proofs.Ytdnmkbncdiggfaa.TokenGrows
open Go.ChangeShapes Go.WideShapes Go.ChangeAt Go.RowKit
set_option linter.unusedVariables false
theorem own : ownKnob Try.prog.godebug = none := by kernel_rfl
theorem laidOut : laidOutB Try.prog = true := by kernel_rfl
set_option maxRecDepth 100000 in
set_option maxHeartbeats 2000000 in
theorem run (p : Option Addr) (L c : Nat) (s : List Nat) (p2 : Option Addr) (l2 c2 : Nat) (b : List Nat) (n d : Int) (w : World) (h : ByAt w p L c s) (h2 : ByAt w p2 l2 c2 b) :
    Calls Try.prog 5 #[.slice p L c, .agg #[.slice p2 l2 c2, .int .i64 n, .int .i64 d]] w fun e w' => e = .returned (.bool true) ∧ Below w.heap.size w w' := by
  have HS : Hid (∀ w', Below w.heap.size w w' → ByAt w' p L c s) := fun w' hb => h.later hb
  have HT : Hid (∀ w', Below w.heap.size w w' → ByAt w' p2 l2 c2 b) := fun w' hb => h2.later hb
  have HX : Hid ((w.alloc (.cells #[.slice p2 l2 c2, .int .i64 n, .int .i64 d] 27)).heap[w.heap.size]? = some (.cells #[.slice p2 l2 c2, .int .i64 n, .int .i64 d] 27 (0, 0))) := heap_alloc_new w _
  have HB : Hid (Below w.heap.size w (w.alloc (.cells #[.slice p2 l2 c2, .int .i64 n, .int .i64 d] 27))) := (Below.refl _ w).alloc (Nat.le_refl _) _
  have hL := h.short
  have hl2 := h2.short
  unfold maxLen at hL
  clear h h2
  go_enter Try.func5, Try.ntmps5
  by_cases h5 : 5000 < L
  · have i1 : (5000 : Int) < (L : Int) := by omega
    go_wp2_with fail
    refine (lives_any _).mono ?_
    rintro e w1 ⟨rfl, hb⟩
    have HB : Hid (Below w.heap.size w w1) := HB.out.trans (hb.mono HB.out.size)
    clear hb
    go_wp2
    go_ret
    exact ⟨rfl, HB.out⟩
  have i1 : ¬ (5000 : Int) < (L : Int) := by omega
  cases hgr : decide (300 < l2) with
  | true =>
    have HGR : Hid (decide (300 < l2) = true) := hgr
    clear hgr
    go_wp2_with fail
    refine (great_is _ hl2 HGR.out).mono ?_
    rintro e w0 ⟨rfl, b0⟩
    have HB0 : Hid (Below w.heap.size w w0) := HB.out.trans (b0.mono HB.out.size)
    clear b0
    go_wp2_with fail
    refine (lives_any _).mono ?_
    rintro e w1 ⟨rfl, hb⟩
    have HB : Hid (Below w.heap.size w w1) := HB0.out.trans (hb.mono HB0.out.size)
    clear hb
    go_wp2
    go_ret
    exact ⟨rfl, HB.out⟩
  | false =>
    have HGR : Hid (decide (300 < l2) = false) := hgr
    clear hgr
    go_wp2_with fail
    refine (great_is _ hl2 HGR.out).mono ?_
    rintro e w1 ⟨rfl, b1⟩
    have hx1 := (b1.block w.heap.size (Array.getElem?_eq_some_iff.1 HX.out).1).trans HX.out
    have HX1 : Hid _ := hx1
    have HB1 : Hid (Below w.heap.size w w1) := HB.out.trans (b1.mono HB.out.size)
    have HS1 : Hid (ByAt w1 p L c s) := HS.out _ HB1.out
    have HT1 : Hid (ByAt w1 p2 l2 c2 b) := HT.out _ HB1.out
    obtain ⟨t, ht⟩ : ∃ t, strB s = t := ⟨_, rfl⟩
    have HST : Hid (strB s = t) := ht
    have kS := HS1.out.conv
    rw [ht] at kS
    obtain ⟨d0, d1, d2⟩ := three_cells hx1
    clear hx1 b1 HB HX ht
    generalize hfb : w.heap.size = fb at *
    have HFB : Hid (w.heap.size = fb) := hfb
    clear hfb
    go_wp2_with fail
    obtain ⟨E, hE⟩ : ∃ E, growE s b n d = E := ⟨_, rfl⟩
    obtain ⟨G, hG⟩ : ∃ G, growA s b n d = G := ⟨_, rfl⟩
    have HE : Hid (growE s b n d = E) := hE
    have HG : Hid (growA s b n d = G) := hG
    have hc := grow_any (n := n) (d := d) _ HS1.out HT1.out (by omega)
    rw [hE, hG] at hc
    clear hE hG
    refine Calls.mono hc ?_
    rintro e w2 ⟨v2, rfl, own2, b2⟩
    have hx2 := (b2.block fb (Array.getElem?_eq_some_iff.1 HX1.out).1).trans HX1.out
    have HX2 : Hid _ := hx2
    have hlt1 := (Array.getElem?_eq_some_iff.1 HX1.out).1
    have HB2 : Hid (Below fb w w2) := HB1.out.trans (b2.mono (Nat.le_of_lt hlt1))
    have HS2 : Hid (ByAt w2 p L c s) := HS.out _ HB2.out
    have HT2 : Hid (ByAt w2 p2 l2 c2 b) := HT.out _ HB2.out
    have HO2 : Hid (SrcAt w2 v2 G.length 1 (bv G)) := src_row own2
    clear kS d0 d1 d2 own2 b2 hc hlt1
    obtain ⟨d0, d1, d2⟩ := three_cells hx2
    clear hx2
    go_wp2_with fail
    have hc := refGrow_any (n := n) (d := d) _ HS2.out HT2.out (by omega)
    rw [HE.out, HG.out] at hc
    refine Calls.mono hc ?_
    rintro e w3 ⟨v3, rfl, own3, b3⟩
    have hlt2 := (Array.getElem?_eq_some_iff.1 HX2.out).1
    have HB3 : Hid (Below fb w w3) := HB2.out.trans (b3.mono (Nat.le_of_lt hlt2))
    have HS3 : Hid (ByAt w3 p L c s) := HS.out _ HB3.out
    have HO3 : Hid (SrcAt w3 v2 G.length 1 (bv G)) := SrcAt.later HO2.out b3
    have HP3 : Hid (SrcAt w3 v3 G.length 1 (bv G)) := src_row own3
    clear d0 d1 d2 own3 b3 hc hlt2
    have kS := HS3.out.conv
    rw [HST.out] at kS
    go_wp2_with fail
    refine (refBytes_same v2 v3 G w3 (conv_src HO3.out) (conv_src HP3.out)).mono ?_
    rintro e w' ⟨rfl, rfl⟩
    go_wp2_with fail
    refine (lives_any _).mono ?_
    rintro e w4 ⟨rfl, b4⟩
    have HB4 : Hid (Below w.heap.size w w4) := by
      show Below _ _ _
      rw [HFB.out]
      exact HB3.out.trans (b4.mono (by rw [← HFB.out]; exact HB3.out.size))
    clear b4
    go_wp2
    go_ret
    exact ⟨rfl, HB4.out⟩

theorem walk {H : Type} {enc : TypeId × Value → H} {w : World} {base : Nat} {v0 v1 : Value} {d0 d1 : DataW H} {p0 p1 : List MemPlace}
    (o0 : Value.okWide Try.prog w .any base 24 v0)
    (o1 : Value.okWide Try.prog w .any base 27 v1)
    (h0 : DataW.Trod enc Try.prog w 0 (fun _ => true) true 24 v0 d0 p0)
    (h1 : DataW.Trod enc Try.prog w 0 (fun _ => true) true 27 v1 d1 p1) :
    Calls Try.prog 5 #[v0, v1] w fun e w' => e = .returned (.bool true) ∧ Below w.heap.size w w' := by
  obtain ⟨p, L, c, b, rfl, hb⟩ := openBy Try.underlying24 Try.underlying5 (by kernel_rfl) o0 h0
  obtain ⟨q, rfl, hq⟩ := openTk Try.underlying27 (by kernel_rfl) (by kernel_rfl) Try.underlying24 Try.underlying5 (by kernel_rfl) Try.underlying3 Try.underlying3 o1 h1
  exact run p L c b q.p q.l q.c q.b q.n q.d w hb hq.by_

set_option maxRecDepth 100000 in
theorem lifted (os : Os) (started : os.Started) (H : Type) (enc : TypeId × Value → H) :
    ReturnsInHanded {} Try.checked os 5 .any (Rows.tokenGrowsSpec.pre6 enc Try.prog Try.f5 Rows.tokenGrowsRow.domain false) (Rows.tokenGrowsSpec.post enc Try.prog Try.f5 false true false false) := by
  refine returnsInHanded_of_change (C := Try.checked) own started (by kernel_rfl) Try.func5
    (ChangeSpec.witness6 (enc := enc) (C := Try.checked) false ⟨#[], #[.slice none 0 0, .agg #[.slice none 0 0, .int .i64 0, .int .i64 0]], []⟩ 8 (by kernel_rfl) (by kernel_rfl) (by kernel_rfl) (by kernel_rfl)) ?_
  intro W base args ds gs before hval0 hW hcnd _
  have hval : ∀ (j : Nat) t v, Try.f5.params[j]? = some t → args[j]? = some v → Value.okWide Try.prog W .any base t v := hval0
  have hW' := hW
  obtain ⟨p, q, hA0, hV, rfl, hfz, hnd⟩ := hW
  have hA : DataW.TrodAll enc Try.prog W 0 (fun _ => true) true Try.f5.params.toList args.toList ds p := hA0
  rw [Try.params5] at hA hval
  obtain ⟨v0, vs0, d0, ds0, p0, q0, hargs, rfl, rfl, h0, r0⟩ := trodAll_cons hA
  obtain ⟨v1, vs1, d1, ds1, p1, q1, rfl, rfl, rfl, h1, r1⟩ := trodAll_cons r0
  obtain ⟨rfl, rfl, rfl⟩ := trodAll_nil r1
  obtain rfl : args = #[v0, v1] := by cases args; simp_all
  obtain ⟨rfl, rfl⟩ := trodVars_none hV
  have o0 := hval 0 24 v0 rfl rfl
  have lt0 : ∀ x ∈ p0, x.block < W.heap.size := by obtain ⟨m, hm⟩ := h0; exact DataW.trod_lt m _ _ _ hm
  have o1 := hval 1 27 v1 rfl rfl
  have lt1 : ∀ x ∈ p1, x.block < W.heap.size := by obtain ⟨m, hm⟩ := h1; exact DataW.trod_lt m _ _ _ hm
  clear hA0 hval0
  refine (walk o0 o1 h0 h1).mono fun e W' ⟨he, bel⟩ => ?_
  subst he
  exact ⟨_, rfl, _, _, _, [], _, [], hW', trodAll_mk1 (shut_bool Try.underlying4 _), (trodAll_cons_mk (Below.trod laidOut (by kernel_rfl) (of_decide_eq_true (by kernel_rfl)) h0 bel lt0) (trodAll_cons_mk (Below.trod laidOut (by kernel_rfl) (of_decide_eq_true (by kernel_rfl)) h1 bel lt1) trodAll_mk0)), rfl, bel.frame _, fun h => by cases h⟩

theorem over : Rows.tokenGrowsRow.holds Try.pinned (OpenSpec.ofChange Rows.tokenGrowsSpec) :=
  OpenClaim.holds_of_wide 5 Try.f5 rfl rfl rfl rfl rfl rfl rfl ⟨rfl, rfl, rfl, rfl, rfl⟩ rfl rfl rfl rfl rfl (by kernel_rfl) Try.func5 (by kernel_rfl)
    (of_decide_eq_true (by kernel_rfl)) (by unfold Func.isWrapper; first | (rw [if_pos (by decide +kernel)]; kernel_rfl) | (rw [if_neg (by decide +kernel)]; exact ⟨rfl, rfl⟩))
    (fun os started H enc _ => lifted os started H enc)
end Go.Proofs.Ytdnmkbncdiggfaa.TokenGrows
namespace Go.Proofs.Ytdnmkbncdiggfaa
/-- The statement. -/
theorem tokenGrows_holds : Rows.TokenGrowsSaid := TokenGrows.over
#print axioms tokenGrows_holds
end Go.Proofs.Ytdnmkbncdiggfaa
