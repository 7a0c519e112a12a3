/- Proved: gunnylaw10.SameBack returns true for all lists of pieces, all uint64 and all uint16: a page is of one word just if it falls into one stretch; Page of Of is it; a page of one word with one byte otherwise is of none. No conditions. -/
import Derived.Test.YtoehokhpdcccjaaELives
import Derived.Test.YtoehokhpdcccjaaERef
import Derived.Test.YtoehokhpdcccjaaEPieces
import Derived.Test.YtoehokhpdcccjaaBOpen
namespace Go.Proofs.Ytoehokhpdcccjaa.SameBack
open Go.ChangeShapes Go.WideShapes Go.ChangeAt Go.RowKit
set_option linter.unusedVariables false
theorem own : ownKnob Try.prog.godebug = none := by kernel_rfl
theorem laidOut : laidOutB Try.prog = true := by kernel_rfl
theorem run_is {p : Option Addr} {L c r : Nat} {b : List Nat} (w : World) (h : ByAt w p L c b) (hr : runsN b = r) :
    Calls Try.prog 11 #[.slice p L c] w fun e w' => e = .returned (.int .i64 (r : Nat)) ∧ w = w' := by
  subst hr
  exact runs_any w h


set_option maxRecDepth 100000 in
set_option maxHeartbeats 4000000 in
theorem run (a : Option Addr) (L c : Nat) (D : Nat → Pc) (n i : Nat) (w : World) (hL : L ≤ maxLen) (hd : PcsAt w a L D) (hn : n < 18446744073709551616) (hi : i < 65536) :
    Calls Try.prog 5 #[.slice a L c, .int .u64 (n : Nat), .int .u16 (i : Nat)] w fun e w' => e = .returned (.bool true) ∧ Below w.heap.size w w' := by
  have HD : Hid (PcsAt w a L D) := hd
  have hL2 := hL
  unfold maxLen at hL2
  clear hd
  go_enter Try.func5, Try.ntmps5
  go_wp2_with fail
  refine (great_any a L c D w hL HD.out).mono ?_
  rintro e w' ⟨v, rfl, rfl, t, rfl, hgr⟩
  cases t with
  | true =>
    go_wp2_with fail
    refine (lives_any _).mono ?_
    rintro e w1 ⟨rfl, hb⟩
    have HB : Hid (Below w.heap.size w w1) := hb
    clear hb
    go_wp2
    go_ret
    exact ⟨rfl, HB.out⟩
  | false =>
    obtain ⟨h200, hall⟩ := hgr rfl
    clear hgr
    go_wp2_with fail
    refine (pieces_any a L c D w h200 HD.out hall).mono ?_
    rintro e w1 ⟨gp, cp, q, rfl, own1, h8, b1⟩
    have HY : Hid (ByAt w1 (some ⟨gp, 0, none⟩) 4096 cp q) := by_row own1 h8
    have HB : Hid (Below w.heap.size w w1) := b1
    clear own1 h8 b1 hall HD
    obtain ⟨o, ho⟩ : ∃ o, ofN q = o := ⟨_, rfl⟩
    have HO : Hid (ofN q = o) := ho
    have hol := ofN_lt HY.out.byte
    rw [ho] at hol
    clear ho
    cases hone : oneB q with
    | true =>
      have HN : Hid (oneB q = true) := hone
      have HR : Hid (runsN q = 1) := oneB_iff.1 hone
      have HP : Hid (pageN o = q) := by have := page_back HY.out.byte hone; rwa [HO.out] at this
      clear hone
      go_wp2_with fail
      refine (of_is _ HY.out HO.out HN.out).mono ?_
      rintro e w' ⟨rfl, rfl⟩
      go_wp2_with fail
      refine (run_is _ HY.out HR.out).mono ?_
      rintro e w' ⟨rfl, rfl⟩
      go_wp2_with fail
      refine (page_any o _ rfl _).mono ?_
      rintro e w2 ⟨g2, rfl, own2, b2⟩
      rw [HP.out] at own2
      have HO2 : Hid (w2.ownsRow w1.heap.size 5 1 (.slice (some ⟨g2, 0, none⟩) 4096 4096) 4096 (bv q)) := own2
      have HY2 : Hid (ByAt w2 (some ⟨gp, 0, none⟩) 4096 cp q) := HY.out.later b2
      have HW : Hid (Below w.heap.size w w2) := HB.out.trans (b2.mono HB.out.size)
      clear own2 b2 HB HY
      go_wp2_with fail
      refine (refBytes_same _ _ q w2 (conv_any HO2.out) HY2.out.conv).mono ?_
      rintro e w' ⟨rfl, rfl⟩
      clear HY2 HO2
      go_wp2_with fail
      refine (page_any n _ rfl _).mono ?_
      rintro e w3 ⟨g, rfl, own3, b3⟩
      have HB3 : Hid (Below w.heap.size w w3) := HW.out.trans (b3.mono HW.out.size)
      have HO3 : Hid (w3.ownsRow w.heap.size 5 1 (.slice (some ⟨g, 0, none⟩) 4096 4096) 4096 (bv (pageN n))) := rowMono own3 HW.out.size
      have HY3 : Hid (ByAt w3 (some ⟨g, 0, none⟩) 4096 4096 (pageN n)) := by_row own3 (pageN_byte n)
      clear own3 b3 HW
      go_wp2_with fail
      refine (of_is _ HY3.out (pageN_of hn) (pageN_one n)).mono ?_
      rintro e w' ⟨rfl, rfl⟩
      clear HY3
      have hc : w3.cell? ⟨g, i % 4096, none⟩ = some (.int .u8 ((n / 256 ^ (i % 4096 % 8) % 256 : Nat) : Int)) := by
        rw [HO3.out.cellAt (i % 4096) (by omega), bv_at _ _ (by rw [pageN_len]; omega), pageN_getD (by omega)]
      have hfz := HO3.out.frozenAt (i % 4096)
      have HX : Hid (∀ x : Nat, x < 256 → x ≠ n / 256 ^ (i % 4096 % 8) % 256 → oneB ((pageN n).set (i % 4096) x) = false ∧ 1 < runsN ((pageN n).set (i % 4096) x)) := fun x h1 h2 => page_turned (by omega) h1 h2
      have hy : n / 256 ^ (i % 4096 % 8) % 256 < 256 := Nat.mod_lt _ (by omega)
      have hix := index_at (g := g) (o := 0) (L := 4096) (c := 4096) (q := i % 4096) (I := (i : Int) % 4096) (i % 4096) (by omega) (by omega) (by omega)
      have hjl : i % 4096 < 4096 := by omega
      generalize n / 256 ^ (i % 4096 % 8) % 256 = y at *
      generalize i % 4096 = j at *
      obtain ⟨x, hx8, hxy, hu⟩ : ∃ x : Nat, x < 256 ∧ x ≠ y ∧ IntKind.u8.wrap ((y : Int) + 1) = (x : Int) := by
        refine ⟨(y + 1) % 256, by omega, by omega, ?_⟩
        rw [IntKind.wrap_u8']
        omega
      have hu2 : ((y : Int) + 1) % 256 = (x : Int) := by rw [← hu, IntKind.wrap_u8']
      obtain ⟨z1, z2⟩ := HX.out x hx8 hxy
      have R := HO3.out.stored j (.int .u8 (x : Int))
      rw [bv_set] at R
      have HY4 : Hid (ByAt (w3.setCell ⟨g, j, none⟩ (.int .u8 (x : Int))) (some ⟨g, 0, none⟩) 4096 4096 ((pageN n).set j x)) := by
        refine by_row R.1 ?_
        intro u hu
        rcases List.mem_or_eq_of_mem_set hu with h | rfl
        · exact pageN_byte n u h
        · exact hx8
      have HB4 : Hid (Below w.heap.size w (w3.setCell ⟨g, j, none⟩ (.int .u8 (x : Int)))) := HB3.out.grown R.2 HB3.out.size (fun q hq => by simp at hq; subst hq; exact (HO3.out.lt g rfl).1)
      have HZ1 : Hid (oneB ((pageN n).set j x) = false) := z1
      obtain ⟨l, hl⟩ : ∃ l, (pageN n).set j x = l := ⟨_, rfl⟩
      rw [hl] at HY4 HZ1 z2
      obtain ⟨r4, hr4⟩ : ∃ r, runsN l = r := ⟨_, rfl⟩
      rw [hr4] at z2
      have HR4 : Hid (runsN l = r4) := hr4
      have i4 : (1 : Int) < (r4 : Int) := by omega
      clear R z1 hl hr4 HX HO3 HB3 hxy
      go_wp2_with fail
      generalize w3.setCell ⟨g, j, none⟩ (.int .u8 (x : Int)) = w4 at *
      clear hc hfz
      refine (of_is _ HY4.out rfl HZ1.out).mono ?_
      rintro e w' ⟨rfl, rfl⟩
      go_wp2_with fail
      refine (run_is _ HY4.out HR4.out).mono ?_
      rintro e w' ⟨rfl, rfl⟩
      clear HY4
      go_wp2_with fail
      refine (lives_any _).mono ?_
      rintro e w5 ⟨rfl, b5⟩
      have HB5 : Hid (Below w.heap.size w w5) := HB4.out.trans (b5.mono HB4.out.size)
      clear b5
      go_wp2
      go_ret
      exact ⟨rfl, HB5.out⟩
    | false =>
      have HN : Hid (oneB q = false) := hone
      obtain ⟨r, hr⟩ : ∃ r, runsN q = r := ⟨_, rfl⟩
      have HR : Hid (runsN q = r) := hr
      have hr1 : ¬ r = 1 := by
        rintro rfl
        rw [oneB_iff.2 hr] at hone
        cases hone
      have h6 : ((r : Int) == 1) = false := by rw [beq_eq_false_iff_ne]; omega
      clear hone hr
      go_wp2_with fail
      refine (of_is _ HY.out HO.out HN.out).mono ?_
      rintro e w' ⟨rfl, rfl⟩
      go_wp2_with fail
      refine (run_is _ HY.out HR.out).mono ?_
      rintro e w' ⟨rfl, rfl⟩
      have HW : Hid (Below w.heap.size w w1) := HB.out
      clear HB HY
      go_wp2_with fail
      refine (page_any n _ rfl _).mono ?_
      rintro e w3 ⟨g, rfl, own3, b3⟩
      have HB3 : Hid (Below w.heap.size w w3) := HW.out.trans (b3.mono HW.out.size)
      have HO3 : Hid (w3.ownsRow w.heap.size 5 1 (.slice (some ⟨g, 0, none⟩) 4096 4096) 4096 (bv (pageN n))) := rowMono own3 HW.out.size
      have HY3 : Hid (ByAt w3 (some ⟨g, 0, none⟩) 4096 4096 (pageN n)) := by_row own3 (pageN_byte n)
      clear own3 b3 HW
      go_wp2_with fail
      refine (of_is _ HY3.out (pageN_of hn) (pageN_one n)).mono ?_
      rintro e w' ⟨rfl, rfl⟩
      clear HY3
      have hc : w3.cell? ⟨g, i % 4096, none⟩ = some (.int .u8 ((n / 256 ^ (i % 4096 % 8) % 256 : Nat) : Int)) := by
        rw [HO3.out.cellAt (i % 4096) (by omega), bv_at _ _ (by rw [pageN_len]; omega), pageN_getD (by omega)]
      have hfz := HO3.out.frozenAt (i % 4096)
      have HX : Hid (∀ x : Nat, x < 256 → x ≠ n / 256 ^ (i % 4096 % 8) % 256 → oneB ((pageN n).set (i % 4096) x) = false ∧ 1 < runsN ((pageN n).set (i % 4096) x)) := fun x h1 h2 => page_turned (by omega) h1 h2
      have hy : n / 256 ^ (i % 4096 % 8) % 256 < 256 := Nat.mod_lt _ (by omega)
      have hix := index_at (g := g) (o := 0) (L := 4096) (c := 4096) (q := i % 4096) (I := (i : Int) % 4096) (i % 4096) (by omega) (by omega) (by omega)
      have hjl : i % 4096 < 4096 := by omega
      generalize n / 256 ^ (i % 4096 % 8) % 256 = y at *
      generalize i % 4096 = j at *
      obtain ⟨x, hx8, hxy, hu⟩ : ∃ x : Nat, x < 256 ∧ x ≠ y ∧ IntKind.u8.wrap ((y : Int) + 1) = (x : Int) := by
        refine ⟨(y + 1) % 256, by omega, by omega, ?_⟩
        rw [IntKind.wrap_u8']
        omega
      have hu2 : ((y : Int) + 1) % 256 = (x : Int) := by rw [← hu, IntKind.wrap_u8']
      obtain ⟨z1, z2⟩ := HX.out x hx8 hxy
      have R := HO3.out.stored j (.int .u8 (x : Int))
      rw [bv_set] at R
      have HY4 : Hid (ByAt (w3.setCell ⟨g, j, none⟩ (.int .u8 (x : Int))) (some ⟨g, 0, none⟩) 4096 4096 ((pageN n).set j x)) := by
        refine by_row R.1 ?_
        intro u hu
        rcases List.mem_or_eq_of_mem_set hu with h | rfl
        · exact pageN_byte n u h
        · exact hx8
      have HB4 : Hid (Below w.heap.size w (w3.setCell ⟨g, j, none⟩ (.int .u8 (x : Int)))) := HB3.out.grown R.2 HB3.out.size (fun q hq => by simp at hq; subst hq; exact (HO3.out.lt g rfl).1)
      have HZ1 : Hid (oneB ((pageN n).set j x) = false) := z1
      obtain ⟨l, hl⟩ : ∃ l, (pageN n).set j x = l := ⟨_, rfl⟩
      rw [hl] at HY4 HZ1 z2
      obtain ⟨r4, hr4⟩ : ∃ r, runsN l = r := ⟨_, rfl⟩
      rw [hr4] at z2
      have HR4 : Hid (runsN l = r4) := hr4
      have i4 : (1 : Int) < (r4 : Int) := by omega
      clear R z1 hl hr4 HX HO3 HB3 hxy
      go_wp2_with fail
      generalize w3.setCell ⟨g, j, none⟩ (.int .u8 (x : Int)) = w4 at *
      clear hc hfz
      refine (of_is _ HY4.out rfl HZ1.out).mono ?_
      rintro e w' ⟨rfl, rfl⟩
      go_wp2_with fail
      refine (run_is _ HY4.out HR4.out).mono ?_
      rintro e w' ⟨rfl, rfl⟩
      clear HY4
      go_wp2_with fail
      refine (lives_any _).mono ?_
      rintro e w5 ⟨rfl, b5⟩
      have HB5 : Hid (Below w.heap.size w w5) := HB4.out.trans (b5.mono HB4.out.size)
      clear b5
      go_wp2
      go_ret
      exact ⟨rfl, HB5.out⟩

theorem walk {H : Type} {enc : TypeId × Value → H} {w : World} {base : Nat} {v0 v1 v2 : Value} {d0 d1 d2 : DataW H} {p0 p1 p2 : List MemPlace}
    (o0 : Value.okWide Try.prog w .any base 23 v0)
    (o1 : Value.okWide Try.prog w .any base 27 v1)
    (o2 : Value.okWide Try.prog w .any base 35 v2)
    (h0 : DataW.Trod enc Try.prog w 0 (fun _ => true) true 23 v0 d0 p0)
    (h1 : DataW.Trod enc Try.prog w 0 (fun _ => true) true 27 v1 d1 p1)
    (h2 : DataW.Trod enc Try.prog w 0 (fun _ => true) true 35 v2 d2 p2) :
    Calls Try.prog 5 #[v0, v1, v2] w fun e w' => e = .returned (.bool true) ∧ Below w.heap.size w w' := by
  obtain ⟨a, L, c, D, rfl, hL, hds⟩ := openPcs Try.underlying23 Try.underlying38 (by kernel_rfl) (by kernel_rfl) Try.underlying22 Try.underlying5 (by kernel_rfl) Try.underlying35 o0 h0
  obtain ⟨x, rfl, hx⟩ := openOne Try.underlying27 o1 h1
  obtain ⟨y, rfl, hy⟩ := openOne Try.underlying35 o2 h2
  have hb := bounds_u64 hx
  have hc := bounds_u16 hy
  have := run a L c D x.toNat y.toNat w hL hds (by omega) (by omega)
  rwa [Int.toNat_of_nonneg hb.1, Int.toNat_of_nonneg hc.1] at this

set_option maxRecDepth 100000 in
theorem lifted (os : Os) (started : os.Started) (H : Type) (enc : TypeId × Value → H) :
    ReturnsInHanded {} Try.checked os 5 .any (Rows.sameBackSpec.pre6 enc Try.prog Try.f5 Rows.sameBackRow.domain false) (Rows.sameBackSpec.post enc Try.prog Try.f5 false true false false) := by
  refine returnsInHanded_of_change (C := Try.checked) own started (by kernel_rfl) Try.func5
    (ChangeSpec.witness6 (enc := enc) (C := Try.checked) false ⟨#[], #[.slice none 0 0, .int .u64 0, .int .u16 0], []⟩ 8 (by kernel_rfl) (by kernel_rfl) (by kernel_rfl) (by kernel_rfl)) ?_
  intro W base args ds gs before hval0 hW hcnd _
  have hval : ∀ (j : Nat) t v, Try.f5.params[j]? = some t → args[j]? = some v → Value.okWide Try.prog W .any base t v := hval0
  have hW' := hW
  obtain ⟨p, q, hA0, hV, rfl, hfz, hnd⟩ := hW
  have hA : DataW.TrodAll enc Try.prog W 0 (fun _ => true) true Try.f5.params.toList args.toList ds p := hA0
  rw [Try.params5] at hA hval
  obtain ⟨v0, vs0, d0, ds0, p0, q0, hargs, rfl, rfl, h0, r0⟩ := trodAll_cons hA
  obtain ⟨v1, vs1, d1, ds1, p1, q1, rfl, rfl, rfl, h1, r1⟩ := trodAll_cons r0
  obtain ⟨v2, vs2, d2, ds2, p2, q2, rfl, rfl, rfl, h2, r2⟩ := trodAll_cons r1
  obtain ⟨rfl, rfl, rfl⟩ := trodAll_nil r2
  obtain rfl : args = #[v0, v1, v2] := by cases args; simp_all
  obtain ⟨rfl, rfl⟩ := trodVars_none hV
  have o0 := hval 0 23 v0 rfl rfl
  have lt0 : ∀ x ∈ p0, x.block < W.heap.size := by obtain ⟨m, hm⟩ := h0; exact DataW.trod_lt m _ _ _ hm
  have o1 := hval 1 27 v1 rfl rfl
  have lt1 : ∀ x ∈ p1, x.block < W.heap.size := by obtain ⟨m, hm⟩ := h1; exact DataW.trod_lt m _ _ _ hm
  have o2 := hval 2 35 v2 rfl rfl
  have lt2 : ∀ x ∈ p2, x.block < W.heap.size := by obtain ⟨m, hm⟩ := h2; exact DataW.trod_lt m _ _ _ hm
  clear hA0 hval0
  refine (walk o0 o1 o2 h0 h1 h2).mono fun e W' ⟨he, bel⟩ => ?_
  subst he
  exact ⟨_, rfl, _, _, _, [], _, [], hW', trodAll_mk1 (shut_bool Try.underlying4 _), (trodAll_cons_mk (Below.trod laidOut (by kernel_rfl) (of_decide_eq_true (by kernel_rfl)) h0 bel lt0) (trodAll_cons_mk (Below.trod laidOut (by kernel_rfl) (of_decide_eq_true (by kernel_rfl)) h1 bel lt1) (trodAll_cons_mk (Below.trod laidOut (by kernel_rfl) (of_decide_eq_true (by kernel_rfl)) h2 bel lt2) trodAll_mk0))), rfl, bel.frame _, fun h => by cases h⟩

theorem over : Rows.sameBackRow.holds Try.pinned (OpenSpec.ofChange Rows.sameBackSpec) :=
  OpenClaim.holds_of_wide 5 Try.f5 rfl rfl rfl rfl rfl rfl rfl ⟨rfl, rfl, rfl, rfl, rfl⟩ rfl rfl rfl rfl rfl (by kernel_rfl) Try.func5 (by kernel_rfl)
    (of_decide_eq_true (by kernel_rfl)) (by unfold Func.isWrapper; first | (rw [if_pos (by decide +kernel)]; kernel_rfl) | (rw [if_neg (by decide +kernel)]; exact ⟨rfl, rfl⟩))
    (fun os started H enc _ => lifted os started H enc)
end Go.Proofs.Ytoehokhpdcccjaa.SameBack
namespace Go.Proofs.Ytoehokhpdcccjaa
/-- The statement. -/
theorem sameBack_holds : Rows.SameBackSaid := SameBack.over
#print axioms sameBack_holds
end Go.Proofs.Ytoehokhpdcccjaa
