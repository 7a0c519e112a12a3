/- Proved: gunnylaw16.ZspagePieces returns true for all numbers: the pieces of any bytes of any object are the document's. No conditions. -/
import Derived.Test.YtepbfedmnibifaaZLives
import Derived.Test.YtepbfedmnibifaaGArr
import Derived.Test.YtepbfedmnibifaaBOpen
import Derived.Deep.LoopGhost
namespace Go.Proofs.Ytepbfedmnibifaa.ZspagePieces
open Go.ChangeShapes Go.WideShapes Go.ChangeAt Go.RowKit
set_option linter.unusedVariables false
theorem own : ownKnob Try.prog.godebug = none := by kernel_rfl
theorem laidOut : laidOutB Try.prog = true := by kernel_rfl
set_option maxRecDepth 100000 in
set_option maxHeartbeats 2000000 in
theorem run (S N F M : Int) (w : World) (hF : F < 9223372036854775808) (hM : M < 9223372036854775808) :
    Calls Try.prog 3 #[.int .i64 S, .int .i64 N, .agg #[.int .i64 F, .int .i64 M]] w fun e w' => e = .returned (.bool true) ∧ Below w.heap.size w w' := by
  obtain ⟨a, e, hz⟩ := Zae.is S N F M
  obtain ⟨T, hT⟩ : ∃ T, pcsZ a e = T := ⟨_, rfl⟩
  have hl2 := pcs_len a e
  rw [hT] at hl2
  obtain ⟨W1, hW1⟩ : ∃ W1, w.alloc (.cells #[.int .i64 F, .int .i64 M] 22) = W1 := ⟨_, rfl⟩
  have hb1 : Below w.heap.size w W1 := by rw [← hW1]; exact (Below.refl _ w).alloc (Nat.le_refl _) _
  have hx1 : W1.heap[w.heap.size]? = some (.cells #[.int .i64 F, .int .i64 M] 22 (0, 0)) := by rw [← hW1]; exact heap_alloc_new _ _
  have hsz1 : W1.heap.size = w.heap.size + 1 := by rw [← hW1]; simp
  have x0 : W1.cell? ⟨w.heap.size, 0, none⟩ = some (.int .i64 F) := by simp [World.cell?, hx1]
  have x1 : W1.cell? ⟨w.heap.size, 1, none⟩ = some (.int .i64 M) := by simp [World.cell?, hx1]
  have H1 : Hid _ := Pieces_any W1 hF hz
  have HZ : Hid (Zae S N F M a e) := hz
  have HB1 : Hid (Below w.heap.size w W1) := hb1
  have HT : Hid (pcsZ a e = T) := hT
  clear hz hb1 hx1 hT
  go_enter Try.func3, Try.ntmps3
  go_wp2_with fail
  refine Calls.mono H1.out ?_
  rintro r w2 ⟨v2, rfl, own2, b2⟩
  rw [HT.out] at own2
  obtain ⟨a2, c2, rfl⟩ := row_slice own2
  have hlt1 : w.heap.size < W1.heap.size := by omega
  have y0 : w2.cell? ⟨w.heap.size, 0, none⟩ = some (.int .i64 F) := (b2.cell (p := ⟨w.heap.size, 0, none⟩) hlt1).trans x0
  have y1 : w2.cell? ⟨w.heap.size, 1, none⟩ = some (.int .i64 M) := (b2.cell (p := ⟨w.heap.size, 1, none⟩) hlt1).trans x1
  have HO2 : Hid (w2.ownsRow W1.heap.size 29 3 (.slice a2 T.length c2) T.length (rowZ T)) := own2
  have HB2 : Hid (Below W1.heap.size W1 w2) := b2
  have H2 : Hid _ := refPieces_any w2 hM HZ.out
  clear own2 b2 x0 x1 hW1 H1
  go_wp2_with fail
  refine Calls.mono H2.out ?_
  rintro r w3 ⟨v3, rfl, own3, b3⟩
  rw [HT.out] at own3
  obtain ⟨a3, c3, rfl⟩ := row_slice own3
  have HO3 : Hid (w3.ownsRow w2.heap.size 28 3 (.slice a3 T.length c3) T.length (rowZ T)) := own3
  have HO4 : Hid (w3.ownsRow W1.heap.size 29 3 (.slice a2 T.length c2) T.length (rowZ T)) := row_below HO2.out b3
  have HB3 : Hid (Below w.heap.size w w3) := HB1.out.trans ((HB2.out.mono (by omega)).trans (b3.mono (by have := HB2.out.size; omega)))
  clear own3 b3 y0 y1 HO2 HB2 H2 HB1 HT HZ
  go_wp2_with fail
  go_loopg [9] T.length (fun gk i wr => ∃ k m : Nat, k ≤ T.length ∧ gk = T.length - k ∧ i = .int .i64 k ∧ wr = w3.drewN m)
  case atStart => exact ⟨0, 0, by omega, rfl, rfl, rfl⟩
  case round =>
    obtain ⟨k, m, hk, rfl, rfl, rfl⟩ := hrel
    by_cases hlt : k < T.length
    · have i1 : (k : Int) < (T.length : Int) := by omega
      obtain ⟨p, hp⟩ : ∃ p, T[k]? = some p := ⟨_, List.getElem?_eq_getElem hlt⟩
      obtain ⟨g, rfl, _, _, _, c0, c1, c2⟩ := rowZ_cells HO4.out hp
      obtain ⟨g', rfl, _, _, _, d0, d1, d2⟩ := rowZ_cells HO3.out hp
      have hq := Try.neqPr p.f p.a p.l
      clear hp
      go_wp2_with fail
      go_quiet (fail)
      go_wp2
      go_roundg (T.length - (k + 1))
      case measure => omega
      case rel => exact ⟨k + 1, _, by omega, rfl, by go_num, rfl⟩
    · have i1 : ¬ (k : Int) < (T.length : Int) := by omega
      go_wp2_with fail
      refine (lives_any _).mono ?_
      rintro r w4 ⟨rfl, b4⟩
      have HB4 : Hid (Below w.heap.size w w4) := HB3.out.trans ((drewN_below _ _ _).trans (b4.mono (by have := HB3.out.size; simp; omega)))
      clear b4
      go_wp2
      go_ret
      exact ⟨rfl, HB4.out⟩

set_option maxRecDepth 100000 in
theorem walk {H : Type} {enc : TypeId × Value → H} {w : World} {base : Nat} {v0 v1 v2 : Value} {d0 d1 d2 : DataW H} {p0 p1 p2 : List MemPlace}
    (o0 : Value.okWide Try.prog w .any base 3 v0) (o1 : Value.okWide Try.prog w .any base 3 v1) (o2 : Value.okWide Try.prog w .any base 22 v2)
    (h0 : DataW.Trod enc Try.prog w 0 (fun _ => true) true 3 v0 d0 p0) (h1 : DataW.Trod enc Try.prog w 0 (fun _ => true) true 3 v1 d1 p1) (h2 : DataW.Trod enc Try.prog w 0 (fun _ => true) true 22 v2 d2 p2) :
    Calls Try.prog 3 #[v0, v1, v2] w fun e w' => e = .returned (.bool true) ∧ Below w.heap.size w w' := by
  obtain ⟨S, rfl, hS⟩ := openOne Try.underlying3 o0 h0
  obtain ⟨N, rfl, hN⟩ := openOne Try.underlying3 o1 h1
  obtain ⟨F, M, rfl, hF, hM⟩ := openArr2 Try.underlying22 Try.underlying3 (by kernel_rfl) (by kernel_rfl) o2 h2
  exact run S N F M w (by have := bounds_i64 hF; omega) (by have := bounds_i64 hM; omega)

set_option maxRecDepth 100000 in
theorem lifted (os : Os) (started : os.Started) (H : Type) (enc : TypeId × Value → H) :
    ReturnsInHanded {} Try.checked os 3 .any (Rows.zspagePiecesSpec.pre6 enc Try.prog Try.f3 Rows.zspagePiecesRow.domain false) (Rows.zspagePiecesSpec.post enc Try.prog Try.f3 false true false false) := by
  refine returnsInHanded_of_change (C := Try.checked) own started (by kernel_rfl) Try.func3
    (ChangeSpec.witness6 (enc := enc) (C := Try.checked) false ⟨#[], #[.int .i64 0, .int .i64 0, .agg #[.int .i64 0, .int .i64 0]], []⟩ 8 (by kernel_rfl) (by kernel_rfl) (by kernel_rfl) (by kernel_rfl)) ?_
  intro W base args ds gs before hval0 hW hcnd _
  have hval : ∀ (j : Nat) t v, Try.f3.params[j]? = some t → args[j]? = some v → Value.okWide Try.prog W .any base t v := hval0
  have hW' := hW
  obtain ⟨p, q, hA0, hV, rfl, hfz, hnd⟩ := hW
  have hA : DataW.TrodAll enc Try.prog W 0 (fun _ => true) true Try.f3.params.toList args.toList ds p := hA0
  rw [Try.params3] at hA hval
  obtain ⟨v0, vs0, d0, ds0, p0, q0, hargs, rfl, rfl, h0, r0⟩ := trodAll_cons hA
  obtain ⟨v1, vs1, d1, ds1, p1, q1, rfl, rfl, rfl, h1, r1⟩ := trodAll_cons r0
  obtain ⟨v2, vs2, d2, ds2, p2, q2, rfl, rfl, rfl, h2, r2⟩ := trodAll_cons r1
  obtain ⟨rfl, rfl, rfl⟩ := trodAll_nil r2
  obtain rfl : args = #[v0, v1, v2] := by cases args; simp_all
  obtain ⟨rfl, rfl⟩ := trodVars_none hV
  have o0 := hval 0 3 v0 rfl rfl
  have lt0 : ∀ x ∈ p0, x.block < W.heap.size := by obtain ⟨m, hm⟩ := h0; exact DataW.trod_lt m _ _ _ hm
  have o1 := hval 1 3 v1 rfl rfl
  have lt1 : ∀ x ∈ p1, x.block < W.heap.size := by obtain ⟨m, hm⟩ := h1; exact DataW.trod_lt m _ _ _ hm
  have o2 := hval 2 22 v2 rfl rfl
  have lt2 : ∀ x ∈ p2, x.block < W.heap.size := by obtain ⟨m, hm⟩ := h2; exact DataW.trod_lt m _ _ _ hm
  clear hA0 hval0
  refine (walk o0 o1 o2 h0 h1 h2).mono fun e W' ⟨he, bel⟩ => ?_
  subst he
  exact ⟨_, rfl, _, _, _, [], _, [], hW', trodAll_mk1 (shut_bool Try.underlying4 _), (trodAll_cons_mk (Below.trod laidOut (by kernel_rfl) (of_decide_eq_true (by kernel_rfl)) h0 bel lt0) (trodAll_cons_mk (Below.trod laidOut (by kernel_rfl) (of_decide_eq_true (by kernel_rfl)) h1 bel lt1) (trodAll_cons_mk (Below.trod laidOut (by kernel_rfl) (of_decide_eq_true (by kernel_rfl)) h2 bel lt2) trodAll_mk0))), rfl, bel.frame _, fun h => by cases h⟩

theorem over : Rows.zspagePiecesRow.holds Try.pinned (OpenSpec.ofChange Rows.zspagePiecesSpec) :=
  OpenClaim.holds_of_wide 3 Try.f3 rfl rfl rfl rfl rfl rfl rfl ⟨rfl, rfl, rfl, rfl, rfl⟩ rfl rfl rfl rfl rfl (by kernel_rfl) Try.func3 (by kernel_rfl)
    (of_decide_eq_true (by kernel_rfl)) (by unfold Func.isWrapper; first | (rw [if_pos (by decide +kernel)]; kernel_rfl) | (rw [if_neg (by decide +kernel)]; exact ⟨rfl, rfl⟩))
    (fun os started H enc _ => lifted os started H enc)
end Go.Proofs.Ytepbfedmnibifaa.ZspagePieces
namespace Go.Proofs.Ytepbfedmnibifaa
/-- The statement. -/
theorem zspagePieces_holds : Rows.ZspagePiecesSaid := ZspagePieces.over
#print axioms zspagePieces_holds
end Go.Proofs.Ytepbfedmnibifaa
