/- Proved: gunnylaw06.RamNew returns true for all ints and all deeds: there are as many frames, all Free, as were asked for; nothing can be read, or written, as long as none is taken. No conditions. -/
import Derived.Test.YteebjeifbccbnaaMLives
import Derived.Test.YteebjeifbccbnaaMOpen
namespace Go.Proofs.Yteebjeifbccbnaa.RamNew
open Go.ChangeShapes Go.WideShapes Go.ChangeAt Go.RowKit
set_option linter.unusedVariables false
theorem own : ownKnob Try.prog.godebug = none := by kernel_rfl
theorem laidOut : laidOutB Try.prog = true := by kernel_rfl
theorem own_none (m : Nat) (n : Int) : ownI (List.replicate m 0) n = 0 := by
  unfold ownI
  split
  · exact rep_getD _ _
  · rfl
theorem th_none (m : Nat) (n a s : Int) : thB (List.replicate m 0) n a s = false := decide_eq_false (by rw [own_none]; simp)
theorem wd_none (m : Nat) (n i : Int) : wdB (List.replicate m 0) n i = false := decide_eq_false (by rw [own_none]; simp)
theorem cnt_rep (m : Nat) : cnt (List.replicate m 0) [0] = m := by rw [(Good.start m).cnt_free, down_len]

set_option maxRecDepth 100000 in
set_option maxHeartbeats 4000000 in
theorem run (n : Int) (d : Dd) (w : World) (hn : -9223372036854775808 ≤ n ∧ n ≤ 9223372036854775807) (hd : DeedOk w d) :
    Calls Try.prog 5 #[.int .i64 n, .agg #[.int .i64 d.K, .int .i64 d.N, .int .i64 d.A, .int .i64 d.Z, .int .u64 (d.V : Int), .slice d.p d.l d.c]] w fun e w' => e = .returned (.bool true) ∧ Below w.heap.size w w' := by
  have hl := hd.l
  unfold maxLen at hl
  have HD : Hid (DeedOk w d) := hd
  clear hd
  have hbox : Hid (Below w.heap.size w (w.alloc (.cells #[.int .i64 d.K, .int .i64 d.N, .int .i64 d.A, .int .i64 d.Z, .int .u64 (d.V : Int), .slice d.p d.l d.c] 50))) := (Below.refl _ w).alloc (Nat.le_refl _) _
  have hcel : Hid ((w.alloc (.cells #[.int .i64 d.K, .int .i64 d.N, .int .i64 d.A, .int .i64 d.Z, .int .u64 (d.V : Int), .slice d.p d.l d.c] 50)).heap[w.heap.size]? = some (.cells #[.int .i64 d.K, .int .i64 d.N, .int .i64 d.A, .int .i64 d.Z, .int .u64 (d.V : Int), .slice d.p d.l d.c] 50 (0, 0))) := heap_alloc_new w _
  by_cases hlong : 5000 < d.l
  · go_enter Try.func5, Try.ntmps5
    go_wp2_with fail
    refine (lives_any _).mono ?_
    rintro e w1 ⟨rfl, hb⟩
    have hb2 := hbox.out.trans (hb.mono hbox.out.size)
    clear hcel hbox
    go_wp2
    go_ret
    exact ⟨rfl, hb2⟩
  by_cases hbad : n < 8 ∨ 96 < n
  · go_enter Try.func5, Try.ntmps5
    go_wp2_with fail
    refine (ramNew_bad n hbad _).mono ?_
    rintro e w1 ⟨rfl, rfl⟩
    rcases hbad with hbad | hbad
    all_goals
      go_wp2_with fail
      refine (lives_any _).mono ?_
      rintro e w1 ⟨rfl, hb⟩
      have hb2 := hbox.out.trans (hb.mono hbox.out.size)
      clear hcel hbox
      go_wp2
      go_ret
      exact ⟨rfl, hb2⟩
  obtain ⟨m, rfl⟩ := Int.eq_ofNat_of_zero_le (show 0 ≤ n by omega)
  go_enter Try.func5, Try.ntmps5
  go_wp2_with fail
  generalize w.alloc (.cells #[.int .i64 d.K, .int .i64 d.N, .int .i64 d.A, .int .i64 d.Z, .int .u64 (d.V : Int), .slice d.p d.l d.c] 50) = wb at *
  obtain ⟨bb, hbb⟩ : ∃ bb, w.heap.size = bb := ⟨_, rfl⟩
  rw [hbb] at hcel
  rw [hbb]
  have HBB : Hid (w.heap.size = bb) := hbb
  clear hbb
  refine (ramNew_any m (by omega) (by omega) _).mono ?_
  rintro e w1 ⟨r, rfl, h1, b1⟩
  have HOk : Hid (m ≤ 96) := by show _ ≤ _; omega
  generalize List.replicate (m * 4096) 0 = P at *
  generalize w1.heap.size = E at *
  have H1 : Hid (RamAt wb.heap.size E w1 r m 0 0 (List.replicate m 0) (down m) P) := h1
  have HB1 : Hid (Below wb.heap.size wb w1) := b1
  clear h1 b1
  have hlt : bb < wb.heap.size := (Array.getElem?_eq_some_iff.1 hcel.out).1
  have HLT : Hid (bb < wb.heap.size) := hlt
  have cl : ∀ {w2 : World}, Below wb.heap.size wb w2 → w2.heap[bb]? = some (.cells #[.int .i64 d.K, .int .i64 d.N, .int .i64 d.A, .int .i64 d.Z, .int .u64 (d.V : Int), .slice d.p d.l d.c] 50 (0, 0)) := fun hb => (hb.block bb hlt).trans hcel.out
  have CL : Hid (∀ {w2 : World}, Below wb.heap.size wb w2 → w2.heap[bb]? = some (.cells #[.int .i64 d.K, .int .i64 d.N, .int .i64 d.A, .int .i64 d.Z, .int .u64 (d.V : Int), .slice d.p d.l d.c] 50 (0, 0))) := cl
  clear cl hlt
  have k1 : w1.cell? ⟨bb, 1, none⟩ = some (.int .i64 d.N) := by rw [cell_of_row w1 bb 1 _ _ _ (CL.out HB1.out)]; rfl
  have k2 : w1.cell? ⟨bb, 2, none⟩ = some (.int .i64 d.A) := by rw [cell_of_row w1 bb 2 _ _ _ (CL.out HB1.out)]; rfl
  have k3 : w1.cell? ⟨bb, 3, none⟩ = some (.int .i64 d.Z) := by rw [cell_of_row w1 bb 3 _ _ _ (CL.out HB1.out)]; rfl
  go_wp2_with fail
  refine (ramRead_any d.N d.A d.Z _ H1.out (by omega) HD.out.z.2 HD.out.z.1).mono ?_
  rintro e w2 ⟨v, rfl, own2, h2, t2⟩
  rw [th_none] at h2 ⊢
  rw [rd_no (th_none _ _ _ _)] at own2
  have H2 : Hid (RamAt wb.heap.size E w2 r m 0 0 (List.replicate m 0) (down m) P) := h2
  have HB2 : Hid (Below wb.heap.size wb w2) := HB1.out.trans (t2.below HB1.out.size)
  obtain ⟨pv, cv, rfl⟩ := row_slice own2
  clear k1 k2 k3 own2 h2 t2
  have k1 : w2.cell? ⟨bb, 1, none⟩ = some (.int .i64 d.N) := by rw [cell_of_row w2 bb 1 _ _ _ (CL.out HB2.out)]; rfl
  have k2 : w2.cell? ⟨bb, 2, none⟩ = some (.int .i64 d.A) := by rw [cell_of_row w2 bb 2 _ _ _ (CL.out HB2.out)]; rfl
  go_wp2_with fail
  refine (ramWord_any d.N d.A _ H2.out (by omega)).mono ?_
  rintro e w3 ⟨rfl, h3, t3⟩
  rw [wd_none] at h3 ⊢
  rw [wdN_no (wd_none _ _ _)]
  have H3 : Hid (RamAt wb.heap.size E w3 r m 0 0 (List.replicate m 0) (down m) P) := h3
  have HB3 : Hid (Below wb.heap.size wb w3) := HB2.out.trans (t3.below HB2.out.size)
  clear k1 k2 h3 t3
  go_wp2_with fail
  refine (ramMany_any _ H3.out).mono ?_
  rintro e w' ⟨rfl, rfl⟩
  have hmm : ((m : Int) == (m : Int)) = true := beq_self_eq_true _
  go_wp2_with fail
  have ba : Below w3.heap.size w3 (w3.alloc (.cells #[.int .i64 0] 3)) := (Below.refl _ w3).alloc (Nat.le_refl _) _
  refine (ramCount_any _ 1 1 [0] _ (H3.out.below ba) (IntsAt.made w3 [0] _ rfl) rfl (by omega)).mono ?_
  rintro e w4 ⟨rfl, b4⟩
  rw [cnt_rep]
  have H4 : Hid (RamAt wb.heap.size E w4 r m 0 0 (List.replicate m 0) (down m) P) := (H3.out.below ba).below b4
  have HB4 : Hid (Below wb.heap.size wb w4) := HB3.out.trans ((ba.trans (b4.mono ba.size)).mono HB3.out.size)
  clear ba b4
  have k1 : w4.cell? ⟨bb, 1, none⟩ = some (.int .i64 d.N) := by rw [cell_of_row w4 bb 1 _ _ _ (CL.out HB4.out)]; rfl
  have k2 : w4.cell? ⟨bb, 2, none⟩ = some (.int .i64 d.A) := by rw [cell_of_row w4 bb 2 _ _ _ (CL.out HB4.out)]; rfl
  have k5 : w4.cell? ⟨bb, 5, none⟩ = some (.slice d.p d.l d.c) := by rw [cell_of_row w4 bb 5 _ _ _ (CL.out HB4.out)]; rfl
  go_wp2_with fail
  refine (ramWrite_any d.N d.A _ H4.out (by omega) HD.out.l HD.out.bl (nums_later HD.out.nums (hbox.out.trans (HB4.out.mono hbox.out.size))) HD.out.byte ?_).mono ?_
  · intro q hq hne
    have e1 := HD.out.old q hq hne
    have e2 := H4.out.hi
    have e3 := hbox.out.size
    omega
  rintro e w5 ⟨rfl, h5, t5⟩
  rw [th_none] at h5 ⊢
  rw [wr_no (th_none _ _ _ _)] at h5
  have H5 : Hid (RamAt wb.heap.size E w5 r m 0 0 (List.replicate m 0) (down m) P) := h5
  have HB5 : Hid (Below wb.heap.size wb w5) := HB4.out.trans (t5.below HB4.out.size)
  clear k1 k2 k5 h5 t5
  have k1 : w5.cell? ⟨bb, 1, none⟩ = some (.int .i64 d.N) := by rw [cell_of_row w5 bb 1 _ _ _ (CL.out HB5.out)]; rfl
  have k2 : w5.cell? ⟨bb, 2, none⟩ = some (.int .i64 d.A) := by rw [cell_of_row w5 bb 2 _ _ _ (CL.out HB5.out)]; rfl
  have k4 : w5.cell? ⟨bb, 4, none⟩ = some (.int .u64 (d.V : Int)) := by rw [cell_of_row w5 bb 4 _ _ _ (CL.out HB5.out)]; rfl
  go_wp2_with fail
  refine (ramSetWord_any d.N d.A d.V _ H5.out (by omega)).mono ?_
  rintro e w6 ⟨rfl, h6, t6⟩
  rw [wd_none] at h6 ⊢
  rw [wdP_no (wd_none _ _ _)] at h6
  have H6 : Hid (RamAt wb.heap.size E w6 r m 0 0 (List.replicate m 0) (down m) P) := h6
  have HB6 : Hid (Below wb.heap.size wb w6) := HB5.out.trans (t6.below HB5.out.size)
  clear k1 k2 k4 h6 t6
  go_wp2_with fail
  refine (ramTouches_any _ H6.out).mono ?_
  rintro e w' ⟨rfl, rfl⟩
  go_wp2_with fail
  refine (lives_any _).mono ?_
  rintro e w7 ⟨rfl, b7⟩
  have hfin := hbox.out.trans ((HB6.out.trans (b7.mono HB6.out.size)).mono hbox.out.size)
  clear b7
  go_wp2
  go_ret
  exact ⟨rfl, hfin⟩

theorem walk {H : Type} {enc : TypeId × Value → H} {w : World} {base : Nat} {v0 v1 : Value} {d0 d1 : DataW H} {p0 p1 : List MemPlace}
    (o0 : Value.okWide Try.prog w .any base 3 v0) (o1 : Value.okWide Try.prog w .any base 50 v1)
    (h0 : DataW.Trod enc Try.prog w 0 (fun _ => true) true 3 v0 d0 p0) (h1 : DataW.Trod enc Try.prog w 0 (fun _ => true) true 50 v1 d1 p1) :
    Calls Try.prog 5 #[v0, v1] w fun e w' => e = .returned (.bool true) ∧ Below w.heap.size w w' := by
  obtain ⟨n, rfl, hn⟩ := openOne Try.underlying3 o0 h0
  obtain ⟨q, rfl, hq⟩ := openDeed Try.underlying50 (by kernel_rfl) (by kernel_rfl) Try.underlying3 Try.underlying3 Try.underlying3 Try.underlying3 Try.underlying27 Try.underlying24 Try.underlying5 (by kernel_rfl) o1 h1
  exact run n q w (bounds_i64 hn) hq

set_option maxRecDepth 100000 in
theorem lifted (os : Os) (started : os.Started) (H : Type) (enc : TypeId × Value → H) :
    ReturnsInHanded {} Try.checked os 5 .any (Rows.ramNewSpec.pre6 enc Try.prog Try.f5 Rows.ramNewRow.domain false) (Rows.ramNewSpec.post enc Try.prog Try.f5 false true false false) := by
  refine returnsInHanded_of_change (C := Try.checked) own started (by kernel_rfl) Try.func5
    (ChangeSpec.witness6 (enc := enc) (C := Try.checked) false ⟨#[], #[.int .i64 0, .agg #[.int .i64 0, .int .i64 0, .int .i64 0, .int .i64 0, .int .u64 0, .slice none 0 0]], []⟩ 8 (by kernel_rfl) (by kernel_rfl) (by kernel_rfl) (by kernel_rfl)) ?_
  intro W base args ds gs before hval0 hW hcnd _
  have hval : ∀ (j : Nat) t v, Try.f5.params[j]? = some t → args[j]? = some v → Value.okWide Try.prog W .any base t v := hval0
  have hW' := hW
  obtain ⟨p, q, hA0, hV, rfl, hfz, hnd⟩ := hW
  have hA : DataW.TrodAll enc Try.prog W 0 (fun _ => true) true Try.f5.params.toList args.toList ds p := hA0
  rw [Try.params5] at hA hval
  obtain ⟨v0, vs0, d0, ds0, p0, q0, hargs, rfl, rfl, h0, r0⟩ := trodAll_cons hA
  obtain ⟨v1, vs1, d1, ds1, p1, q1, rfl, rfl, rfl, h1, r1⟩ := trodAll_cons r0
  obtain ⟨rfl, rfl, rfl⟩ := trodAll_nil r1
  obtain rfl : args = #[v0, v1] := by cases args; simp_all
  obtain ⟨rfl, rfl⟩ := trodVars_none hV
  have o0 := hval 0 3 v0 rfl rfl
  have lt0 : ∀ x ∈ p0, x.block < W.heap.size := by obtain ⟨m, hm⟩ := h0; exact DataW.trod_lt m _ _ _ hm
  have o1 := hval 1 50 v1 rfl rfl
  have lt1 : ∀ x ∈ p1, x.block < W.heap.size := by obtain ⟨m, hm⟩ := h1; exact DataW.trod_lt m _ _ _ hm
  clear hA0 hval0
  refine (walk o0 o1 h0 h1).mono fun e W' ⟨he, bel⟩ => ?_
  subst he
  exact ⟨_, rfl, _, _, _, [], _, [], hW', trodAll_mk1 (shut_bool Try.underlying4 _), (trodAll_cons_mk (Below.trod laidOut (by kernel_rfl) (of_decide_eq_true (by kernel_rfl)) h0 bel lt0) (trodAll_cons_mk (Below.trod laidOut (by kernel_rfl) (of_decide_eq_true (by kernel_rfl)) h1 bel lt1) trodAll_mk0)), rfl, bel.frame _, fun h => by cases h⟩

theorem over : Rows.ramNewRow.holds Try.pinned (OpenSpec.ofChange Rows.ramNewSpec) :=
  OpenClaim.holds_of_wide 5 Try.f5 rfl rfl rfl rfl rfl rfl rfl ⟨rfl, rfl, rfl, rfl, rfl⟩ rfl rfl rfl rfl rfl (by kernel_rfl) Try.func5 (by kernel_rfl)
    (of_decide_eq_true (by kernel_rfl)) (by unfold Func.isWrapper; first | (rw [if_pos (by decide +kernel)]; kernel_rfl) | (rw [if_neg (by decide +kernel)]; exact ⟨rfl, rfl⟩))
    (fun os started H enc _ => lifted os started H enc)
end Go.Proofs.Yteebjeifbccbnaa.RamNew
namespace Go.Proofs.Yteebjeifbccbnaa
/-- The statement. -/
theorem ramNew_holds : Rows.RamNewSaid := RamNew.over
#print axioms ramNew_holds
end Go.Proofs.Yteebjeifbccbnaa
