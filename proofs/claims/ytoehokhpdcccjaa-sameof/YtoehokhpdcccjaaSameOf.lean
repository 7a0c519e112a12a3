/- Proved: gunnylaw10.SameOf returns true for all lists of bytes and all lists of pieces: the word that all words of any bytes are, or that there is none, and into how many stretches they fall, is the document's; what was handed in stays. No conditions. -/
import Derived.Test.YtoehokhpdcccjaaELives
import Derived.Test.YtoehokhpdcccjaaERefR
import Derived.Test.YtoehokhpdcccjaaEPieces
import Derived.Test.YtoehokhpdcccjaaBOpen
namespace Go.Proofs.Ytoehokhpdcccjaa.SameOf
open Go.ChangeShapes Go.WideShapes Go.ChangeAt Go.RowKit
set_option linter.unusedVariables false
theorem own : ownKnob Try.prog.godebug = none := by kernel_rfl
theorem laidOut : laidOutB Try.prog = true := by kernel_rfl
/-- What is read. -/
structure Held (w wr : World) (p : Option Addr) (L c g c' : Nat) (b q : List Nat) : Prop where
  arg : ByAt wr p L c b
  page : ByAt wr (some ⟨g, 0, none⟩) 4096 c' q
  bel : Below w.heap.size w wr
theorem Held.drewN {w wr : World} {p : Option Addr} {L c g c' : Nat} {b q : List Nat} (h : Held w wr p L c g c' b q) (m : Nat) : Held w (wr.drewN m) p L c g c' b q :=
  ⟨h.arg.later (drewN_below _ _ _), h.page.later (drewN_below _ _ _), h.bel.trans (drewN_below _ _ _)⟩

set_option maxRecDepth 100000 in
set_option maxHeartbeats 4000000 in
theorem run (p : Option Addr) (L c : Nat) (b : List Nat) (a : Option Addr) (L' c' : Nat) (D : Nat → Pc) (w : World) (hb : ByAt w p L c b) (hL' : L' ≤ maxLen) (hd : PcsAt w a L' D) :
    Calls Try.prog 3 #[.slice p L c, .slice a L' c'] w fun e w' => e = .returned (.bool true) ∧ Below w.heap.size w w' := by
  have HA : Hid (ByAt w p L c b) := hb
  have HD : Hid (PcsAt w a L' D) := hd
  have hL := hb.short
  have hL2 := hL'
  unfold maxLen at hL hL2
  clear hb hd
  go_enter Try.func3, Try.ntmps3
  by_cases h5 : 5000 < L
  · have i1 : (5000 : Int) < (L : Int) := by omega
    go_wp2_with fail
    refine (lives_any _).mono ?_
    rintro e w1 ⟨rfl, hb⟩
    have HB : Hid (Below w.heap.size w w1) := hb
    clear hb
    go_wp2
    go_ret
    exact ⟨rfl, HB.out⟩
  have i1 : ¬ (5000 : Int) < (L : Int) := by omega
  go_wp2_with fail
  refine (great_any a L' c' D w hL' HD.out).mono ?_
  rintro e w' ⟨v, rfl, rfl, t, rfl, hgr⟩
  cases t with
  | true =>
    go_wp2_with fail
    refine (lives_any _).mono ?_
    rintro e w1 ⟨rfl, hb⟩
    have HB : Hid (Below w.heap.size w w1) := hb
    clear hb
    go_wp2
    go_ret
    exact ⟨rfl, HB.out⟩
  | false =>
    obtain ⟨h200, hall⟩ := hgr rfl
    clear hgr
    go_wp2_with fail
    refine (pieces_any a L' c' D w h200 HD.out hall).mono ?_
    rintro e w1 ⟨g, cp, q, rfl, own1, h8, b1⟩
    have HH : Hid (Held w w1 p L c g cp b q) := ⟨HA.out.later b1, by_row own1 h8, b1⟩
    have hcv := HH.out.page.conv
    clear own1 h8 b1 hall HD HA
    obtain ⟨t, ht⟩ : ∃ t, strB q = t := ⟨_, rfl⟩
    rw [ht] at hcv
    have HT : Hid (strB q = t) := ht
    clear ht
    go_wp2_with fail
    refine (of_any _ HH.out.arg).mono ?_
    rintro e w' ⟨rfl, rfl⟩
    go_wp2_with fail
    refine (refOf_any _ HH.out.arg).mono ?_
    rintro e w' ⟨rfl, m, rfl⟩
    have H2 : Hid (Held w (w1.drewN m) p L c g cp b q) := HH.out.drewN m
    clear HH hcv
    generalize w1.drewN m = w2 at *
    go_wp2_with fail
    refine (of_any _ H2.out.page).mono ?_
    rintro e w' ⟨rfl, rfl⟩
    go_wp2_with fail
    refine (refOf_any _ H2.out.page).mono ?_
    rintro e w' ⟨rfl, m3, rfl⟩
    have H3 : Hid (Held w (w2.drewN m3) p L c g cp b q) := H2.out.drewN m3
    clear H2
    generalize w2.drewN m3 = w3 at *
    go_wp2_with fail
    refine (runs_any _ H3.out.arg).mono ?_
    rintro e w' ⟨rfl, rfl⟩
    go_wp2_with fail
    refine (refRuns_any _ H3.out.arg).mono ?_
    rintro e w' ⟨rfl, m4, rfl⟩
    have H4 : Hid (Held w (w3.drewN m4) p L c g cp b q) := H3.out.drewN m4
    clear H3
    generalize w3.drewN m4 = w4 at *
    go_wp2_with fail
    refine (runs_any _ H4.out.page).mono ?_
    rintro e w' ⟨rfl, rfl⟩
    go_wp2_with fail
    refine (refRuns_any _ H4.out.page).mono ?_
    rintro e w' ⟨rfl, m5, rfl⟩
    have H5 : Hid (Held w (w4.drewN m5) p L c g cp b q) := H4.out.drewN m5
    clear H4
    generalize w4.drewN m5 = w5 at *
    have hcv := H5.out.page.conv
    rw [HT.out] at hcv
    go_wp2_with fail
    refine (lives_any _).mono ?_
    rintro e w6 ⟨rfl, b6⟩
    have HB : Hid (Below w.heap.size w w6) := H5.out.bel.trans (b6.mono H5.out.bel.size)
    clear b6
    go_wp2
    go_ret
    exact ⟨rfl, HB.out⟩

theorem walk {H : Type} {enc : TypeId × Value → H} {w : World} {base : Nat} {v0 v1 : Value} {d0 d1 : DataW H} {p0 p1 : List MemPlace}
    (o0 : Value.okWide Try.prog w .any base 22 v0)
    (o1 : Value.okWide Try.prog w .any base 23 v1)
    (h0 : DataW.Trod enc Try.prog w 0 (fun _ => true) true 22 v0 d0 p0)
    (h1 : DataW.Trod enc Try.prog w 0 (fun _ => true) true 23 v1 d1 p1) :
    Calls Try.prog 3 #[v0, v1] w fun e w' => e = .returned (.bool true) ∧ Below w.heap.size w w' := by
  obtain ⟨a, L', c', D, rfl, hL', hds⟩ := openPcs Try.underlying23 Try.underlying38 (by kernel_rfl) (by kernel_rfl) Try.underlying22 Try.underlying5 (by kernel_rfl) Try.underlying35 o1 h1
  obtain ⟨p, L, c, rfl⟩ := okWide_slice Try.underlying22 o0
  obtain ⟨fuel, hf⟩ := h0
  obtain ⟨p', l', c2, b, e, hl, hcp, hs, h8⟩ := bytes_cap (v := .slice p L c) Try.underlying22 Try.underlying5 (by kernel_rfl) hf
  cases e
  exact run p L c b a L' c' D w ⟨hs, hcp.2, hcp.1, h8⟩ hL' hds

set_option maxRecDepth 100000 in
theorem lifted (os : Os) (started : os.Started) (H : Type) (enc : TypeId × Value → H) :
    ReturnsInHanded {} Try.checked os 3 .any (Rows.sameOfSpec.pre6 enc Try.prog Try.f3 Rows.sameOfRow.domain false) (Rows.sameOfSpec.post enc Try.prog Try.f3 false true false false) := by
  refine returnsInHanded_of_change (C := Try.checked) own started (by kernel_rfl) Try.func3
    (ChangeSpec.witness6 (enc := enc) (C := Try.checked) false ⟨#[], #[.slice none 0 0, .slice none 0 0], []⟩ 8 (by kernel_rfl) (by kernel_rfl) (by kernel_rfl) (by kernel_rfl)) ?_
  intro W base args ds gs before hval0 hW hcnd _
  have hval : ∀ (j : Nat) t v, Try.f3.params[j]? = some t → args[j]? = some v → Value.okWide Try.prog W .any base t v := hval0
  have hW' := hW
  obtain ⟨p, q, hA0, hV, rfl, hfz, hnd⟩ := hW
  have hA : DataW.TrodAll enc Try.prog W 0 (fun _ => true) true Try.f3.params.toList args.toList ds p := hA0
  rw [Try.params3] at hA hval
  obtain ⟨v0, vs0, d0, ds0, p0, q0, hargs, rfl, rfl, h0, r0⟩ := trodAll_cons hA
  obtain ⟨v1, vs1, d1, ds1, p1, q1, rfl, rfl, rfl, h1, r1⟩ := trodAll_cons r0
  obtain ⟨rfl, rfl, rfl⟩ := trodAll_nil r1
  obtain rfl : args = #[v0, v1] := by cases args; simp_all
  obtain ⟨rfl, rfl⟩ := trodVars_none hV
  have o0 := hval 0 22 v0 rfl rfl
  have lt0 : ∀ x ∈ p0, x.block < W.heap.size := by obtain ⟨m, hm⟩ := h0; exact DataW.trod_lt m _ _ _ hm
  have o1 := hval 1 23 v1 rfl rfl
  have lt1 : ∀ x ∈ p1, x.block < W.heap.size := by obtain ⟨m, hm⟩ := h1; exact DataW.trod_lt m _ _ _ hm
  clear hA0 hval0
  refine (walk o0 o1 h0 h1).mono fun e W' ⟨he, bel⟩ => ?_
  subst he
  exact ⟨_, rfl, _, _, _, [], _, [], hW', trodAll_mk1 (shut_bool Try.underlying4 _), (trodAll_cons_mk (Below.trod laidOut (by kernel_rfl) (of_decide_eq_true (by kernel_rfl)) h0 bel lt0) (trodAll_cons_mk (Below.trod laidOut (by kernel_rfl) (of_decide_eq_true (by kernel_rfl)) h1 bel lt1) trodAll_mk0)), rfl, bel.frame _, fun h => by cases h⟩

theorem over : Rows.sameOfRow.holds Try.pinned (OpenSpec.ofChange Rows.sameOfSpec) :=
  OpenClaim.holds_of_wide 3 Try.f3 rfl rfl rfl rfl rfl rfl rfl ⟨rfl, rfl, rfl, rfl, rfl⟩ rfl rfl rfl rfl rfl (by kernel_rfl) Try.func3 (by kernel_rfl)
    (of_decide_eq_true (by kernel_rfl)) (by unfold Func.isWrapper; first | (rw [if_pos (by decide +kernel)]; kernel_rfl) | (rw [if_neg (by decide +kernel)]; exact ⟨rfl, rfl⟩))
    (fun os started H enc _ => lifted os started H enc)
end Go.Proofs.Ytoehokhpdcccjaa.SameOf
namespace Go.Proofs.Ytoehokhpdcccjaa
/-- The statement. -/
theorem sameOf_holds : Rows.SameOfSaid := SameOf.over
#print axioms sameOf_holds
end Go.Proofs.Ytoehokhpdcccjaa
