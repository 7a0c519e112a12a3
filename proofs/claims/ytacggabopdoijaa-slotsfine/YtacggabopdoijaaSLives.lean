/- The walk of the law's own 'lives'. -/
import Derived.Test.YtacggabopdoijaaSNew
import Derived.Deep.RegionHeld3
namespace Go.Proofs.Ytacggabopdoijaa
open Go.RowKit

theorem BoolsAt.none (w : World) : BoolsAt w .none 0 0 [] := ⟨rfl, .inl ⟨rfl, rfl, rfl⟩⟩
/-- Slots and a page that was just filled, put: what Put wants. -/
theorem put_wants {w : World} {E g c : Nat} {B : Nat} {page : List Nat} {base : Nat} (h : w.ownsRow base 5 1 (.slice (some ⟨g, 0, none⟩) 4096 c) 4096 (bv page)) (h8 : ∀ y ∈ page, y < 256) (hE : E ≤ base) :
    4096 = 4096 → ∃ b off, (some ⟨g, 0, .none⟩ : Option Addr) = some ⟨b, off, .none⟩ ∧ PageAt w b off c page ∧ (b < B ∨ E ≤ b) :=
  fun _ => ⟨g, 0, rfl, page_row h h8, .inr (Nat.le_trans hE (h.lt g rfl).1)⟩

set_option maxRecDepth 100000 in
set_option maxHeartbeats 2000000 in
theorem lives_any (w : World) :
    Calls Try.prog 15 #[] w fun e w' => e = .returned (.bool true) ∧ Below w.heap.size w w' := by
  go_enter Try.func15, Try.ntmps15
  go_wp2_with fail
  refine (slNew 2 (fun _ => []) _ (by omega) (BoolsAt.none _) (by omega)).mono ?_
  rintro e w1 ⟨r, rfl, h1, b1⟩
  obtain ⟨B, hB⟩ : ∃ B, w.heap.size = B := ⟨_, rfl⟩
  obtain ⟨E, hE⟩ : ∃ E, w1.heap.size = E := ⟨_, rfl⟩
  rw [hB, hE] at h1
  have H1 : Hid (SlotsAt B E w1 r 2 [] 0 [false, false] (fun _ => [])) := h1
  have B1 : Hid (Below w.heap.size w w1) := b1
  have HB : Hid (w.heap.size = B) := hB
  clear h1 b1 hB hE
  go_wp2_with fail
  refine (filled_any 1 _).mono ?_
  rintro e w2 ⟨rfl, ownA, bA⟩
  have H3A : Hid (w2.ownsRow w1.heap.size 5 1 (.slice (some ⟨w1.heap.size, 0, none⟩) 4096 4096) 4096 (bv (fillP 1))) := ownA
  have HSA : Hid (SlotsAt B E w2 r 2 [] 0 [false, false] (fun _ => [])) := H1.out.below bA
  have HBA : Hid (Below w.heap.size w w2) := B1.out.trans (bA.mono B1.out.size)
  have HEA : Hid (E ≤ w1.heap.size) := H1.out.hi.1
  clear ownA bA H1 B1
  go_wp2_with fail
  refine (slPut (L := 4096) _ HSA.out (by omega) (by unfold maxLen; omega) (put_wants H3A.out (fillP_byte 1) HEA.out)).mono ?_
  rintro e w3 ⟨rfl, hSB, tB⟩
  rw [show puK 4096 [] 0 [false, false] = 8 by decide, show puX 4096 [] 0 [false, false] = [true, false] by decide] at hSB
  rw [show ((puN 4096 [] 0 [false, false] : Nat) : Int) = 0 by decide, show ((puE 4096 [] 0 [false, false] : Nat) : Int) = 0 by decide]
  have H3 : Hid (SlotsAt B E w3 r 2 [] 8 [true, false] (puG 4096 [] 0 [false, false] (fun _ => []) (fillP 1))) := hSB
  have B3 : Hid (Below w.heap.size w w3) := HBA.out.trans ((tB.below (by have := HSA.out.hi; omega)).mono (by rw [HB.out]; exact Nat.le_refl _))
  clear hSB tB HSA H3A HBA HEA
  obtain ⟨p3, hp3⟩ : ∃ p, puG 4096 [] 0 [false, false] (fun _ => []) (fillP 1) = p := ⟨_, rfl⟩
  rw [hp3] at H3
  clear hp3
  go_wp2_with fail
  refine (filled_any 2 _).mono ?_
  rintro e w4 ⟨rfl, ownA, bA⟩
  have H5A : Hid (w4.ownsRow w3.heap.size 5 1 (.slice (some ⟨w3.heap.size, 0, none⟩) 4096 4096) 4096 (bv (fillP 2))) := ownA
  have HSA : Hid (SlotsAt B E w4 r 2 [] 8 [true, false] p3) := H3.out.below bA
  have HBA : Hid (Below w.heap.size w w4) := B3.out.trans (bA.mono B3.out.size)
  have HEA : Hid (E ≤ w3.heap.size) := H3.out.hi.1
  clear ownA bA H3 B3
  go_wp2_with fail
  refine (slPut (L := 4096) _ HSA.out (by omega) (by unfold maxLen; omega) (put_wants H5A.out (fillP_byte 2) HEA.out)).mono ?_
  rintro e w5 ⟨rfl, hSB, tB⟩
  rw [show puK 4096 [] 8 [true, false] = 16 by decide, show puX 4096 [] 8 [true, false] = [true, true] by decide] at hSB
  rw [show ((puN 4096 [] 8 [true, false] : Nat) : Int) = 1 by decide, show ((puE 4096 [] 8 [true, false] : Nat) : Int) = 0 by decide]
  have H5 : Hid (SlotsAt B E w5 r 2 [] 16 [true, true] (puG 4096 [] 8 [true, false] p3 (fillP 2))) := hSB
  have B5 : Hid (Below w.heap.size w w5) := HBA.out.trans ((tB.below (by have := HSA.out.hi; omega)).mono (by rw [HB.out]; exact Nat.le_refl _))
  clear hSB tB HSA H5A HBA HEA
  have hp5 : puG 4096 [] 8 [true, false] p3 (fillP 2) 1 = fillP 2 := by
    rw [(pu_ok (by decide)).2.2, show frst [true, false] = 1 by decide]
    rfl
  have HP5 : Hid (puG 4096 [] 8 [true, false] p3 (fillP 2) 1 = fillP 2) := hp5
  clear hp5
  obtain ⟨p5, hp5⟩ : ∃ p, puG 4096 [] 8 [true, false] p3 (fillP 2) = p := ⟨_, rfl⟩
  rw [hp5] at H5 HP5
  clear hp5
  go_wp2_with fail
  refine (filled_any 3 _).mono ?_
  rintro e w6 ⟨rfl, ownA, bA⟩
  have H7A : Hid (w6.ownsRow w5.heap.size 5 1 (.slice (some ⟨w5.heap.size, 0, none⟩) 4096 4096) 4096 (bv (fillP 3))) := ownA
  have HSA : Hid (SlotsAt B E w6 r 2 [] 16 [true, true] p5) := H5.out.below bA
  have HBA : Hid (Below w.heap.size w w6) := B5.out.trans (bA.mono B5.out.size)
  have HEA : Hid (E ≤ w5.heap.size) := H5.out.hi.1
  clear ownA bA H5 B5
  go_wp2_with fail
  refine (slPut (L := 4096) _ HSA.out (by omega) (by unfold maxLen; omega) (put_wants H7A.out (fillP_byte 3) HEA.out)).mono ?_
  rintro e w7 ⟨rfl, hSB, tB⟩
  rw [show puK 4096 [] 16 [true, true] = 16 by decide, show puX 4096 [] 16 [true, true] = [true, true] by decide] at hSB
  rw [show ((puN 4096 [] 16 [true, true] : Nat) : Int) = 0 by decide, show ((puE 4096 [] 16 [true, true] : Nat) : Int) = 11 by decide]
  have H7 : Hid (SlotsAt B E w7 r 2 [] 16 [true, true] (puG 4096 [] 16 [true, true] p5 (fillP 3))) := hSB
  have B7 : Hid (Below w.heap.size w w7) := HBA.out.trans ((tB.below (by have := HSA.out.hi; omega)).mono (by rw [HB.out]; exact Nat.le_refl _))
  clear hSB tB HSA H7A HBA HEA
  rw [(pu_err (by decide)).2.2] at H7
  go_wp2_with fail
  refine (slPage 1 _ H7.out (by omega)).mono ?_
  rintro e w8 ⟨v8, rfl, own8, h8, t8⟩
  have hpb : pgB [true, true] [] 16 p5 1 = fillP 2 := by
    rw [(pg_fine (by decide) (by decide)).2.2]
    exact HP5.out
  rw [hpb, fillP_len] at own8
  rw [show ((pgE [true, true] [] 16 1 : Nat) : Int) = 0 by decide]
  obtain ⟨a8, c8, rfl⟩ := row_slice own8
  have B8 : Hid (Below w.heap.size w w8) := B7.out.trans ((t8.below (by have := H7.out.hi; omega)).mono (by rw [HB.out]; exact Nat.le_refl _))
  have HO8 : Hid (w8.ownsRow w7.heap.size 5 1 (.slice a8 4096 c8) 4096 (bv (fillP 2))) := own8
  have q0 := conv_any own8.drew
  have HFL : Hid (∀ w : World, Calls Try.prog 7 #[.int .u8 2] w fun e w' => ∃ g, e = .returned (.slice (some ⟨g, 0, none⟩) 4096 4096) ∧ w'.ownsRow w.heap.size 5 1 (.slice (some ⟨g, 0, none⟩) 4096 4096) 4096 (bv (fillP 2)) ∧ Below w.heap.size w w') := fun w => filled_is 2 w
  clear own8 h8 t8 hpb H7 B7
  generalize fillP 2 = page at *
  go_upto_region 8 with (fail)
  refine wp_region_held_drew (S := fun w' => (convert 28 9 (.slice a8 4096 c8)).run Try.prog w' = .ok (.string (strB page)) w') (by kernel_rfl) q0 (fun hHeld => ?_)
  refine wpAnyH_take (i := 0) (oi := { dst := some 44, op := Op.move (Operand.tmp 3), type := 3, pos := "law.go:30", after := #[], guard := none }) (v := ?v0) rfl (by kernel_rfl) (by kernel_rfl) (by kernel_rfl) (fun _ _ _ h => h) (Or.inl ⟨by rfl, ?hy0⟩) (by assumption) ?rest0
  case hy0 =>
    intro w hSw
    try dsimp only at hSw
    go_simp
    try with_reducible rfl
  try simp only [Act.put, List.setIfInBounds_toArray, List.set_cons_zero, List.set_cons_succ]
  refine wpAnyH_take (i := 1) (oi := { dst := some 45, op := Op.binOp BinOp.eql 3 (Operand.tmp 44) (Operand.const (Value.int IntKind.i64 0)) 3, type := 4, pos := "law.go:30", after := #[{ on := 0, ground := Ground.data }], guard := none }) (v := ?v1) rfl (by kernel_rfl) (by kernel_rfl) (by kernel_rfl) (fun _ _ _ h => h) (Or.inl ⟨by rfl, ?hy1⟩) (by assumption) ?rest1
  case hy1 =>
    intro w hSw
    try dsimp only at hSw
    go_simp
    try with_reducible rfl
  try simp only [Act.put, List.setIfInBounds_toArray, List.set_cons_zero, List.set_cons_succ]
  refine wpAnyH_take (i := 2) (oi := { dst := some 46, op := Op.move (Operand.tmp 45), type := 4, pos := "law.go:30", after := #[{ on := 1, ground := Ground.data }], guard := none }) (v := ?v2) rfl (by kernel_rfl) (by kernel_rfl) (by kernel_rfl) (fun _ _ _ h => h) (Or.inl ⟨by rfl, ?hy2⟩) (by assumption) ?rest2
  case hy2 =>
    intro w hSw
    try dsimp only at hSw
    go_simp
    try with_reducible rfl
  try simp only [Act.put, List.setIfInBounds_toArray, List.set_cons_zero, List.set_cons_succ]
  refine wpAnyH_take (i := 3) (oi := { dst := some 47, op := Op.move (Operand.tmp 5), type := 3, pos := "law.go:30", after := #[{ on := 2, ground := Ground.guard }], guard := some (2, true) }) (v := ?v3) rfl (by kernel_rfl) (by kernel_rfl) (by kernel_rfl) (fun _ _ _ h => h) (Or.inl ⟨by rfl, ?hy3⟩) (by assumption) ?rest3
  case hy3 =>
    intro w hSw
    try dsimp only at hSw
    go_simp
    try with_reducible rfl
  try simp only [Act.put, List.setIfInBounds_toArray, List.set_cons_zero, List.set_cons_succ]
  refine wpAnyH_take (i := 4) (oi := { dst := some 48, op := Op.binOp BinOp.eql 3 (Operand.tmp 47) (Operand.const (Value.int IntKind.i64 1)) 3, type := 4, pos := "law.go:30", after := #[{ on := 3, ground := Ground.data }, { on := 2, ground := Ground.guard }], guard := some (2, true) }) (v := ?v4) rfl (by kernel_rfl) (by kernel_rfl) (by kernel_rfl) (fun _ _ _ h => h) (Or.inl ⟨by rfl, ?hy4⟩) (by assumption) ?rest4
  case hy4 =>
    intro w hSw
    try dsimp only at hSw
    go_simp
    try with_reducible rfl
  try simp only [Act.put, List.setIfInBounds_toArray, List.set_cons_zero, List.set_cons_succ]
  refine wpAnyH_take (i := 5) (oi := { dst := some 49, op := Op.pick (Operand.tmp 46) (Operand.tmp 48) (Operand.const (Value.bool false)), type := 4, pos := "law.go:30", after := #[{ on := 2, ground := Ground.data }, { on := 4, ground := Ground.data }], guard := none }) (v := ?v5) rfl (by kernel_rfl) (by kernel_rfl) (by kernel_rfl) (fun _ _ _ h => h) (Or.inl ⟨by rfl, ?hy5⟩) (by assumption) ?rest5
  case hy5 =>
    intro w hSw
    try dsimp only at hSw
    go_simp
    try with_reducible rfl
  try simp only [Act.put, List.setIfInBounds_toArray, List.set_cons_zero, List.set_cons_succ]
  refine wpAnyH_take (i := 6) (oi := { dst := some 50, op := Op.move (Operand.tmp 49), type := 4, pos := "law.go:30", after := #[{ on := 5, ground := Ground.data }, { on := 2, ground := Ground.chain }], guard := none }) (v := ?v6) rfl (by kernel_rfl) (by kernel_rfl) (by kernel_rfl) (fun _ _ _ h => h) (Or.inl ⟨by rfl, ?hy6⟩) (by assumption) ?rest6
  case hy6 =>
    intro w hSw
    try dsimp only at hSw
    go_simp
    try with_reducible rfl
  try simp only [Act.put, List.setIfInBounds_toArray, List.set_cons_zero, List.set_cons_succ]
  refine wpAnyH_take (i := 7) (oi := { dst := some 51, op := Op.move (Operand.tmp 4), type := 25, pos := "law.go:30", after := #[{ on := 6, ground := Ground.guard }], guard := some (6, true) }) (v := ?v7) rfl (by kernel_rfl) (by kernel_rfl) (by kernel_rfl) (fun _ _ _ h => h) (Or.inl ⟨by rfl, ?hy7⟩) (by assumption) ?rest7
  case hy7 =>
    intro w hSw
    try dsimp only at hSw
    go_simp
    try with_reducible rfl
  try simp only [Act.put, List.setIfInBounds_toArray, List.set_cons_zero, List.set_cons_succ]
  refine wpAnyH_take (i := 8) (oi := { dst := some 52, op := Op.binOp BinOp.eql 25 (Operand.tmp 51) (Operand.const (Value.int IntKind.i64 0)) 25, type := 4, pos := "law.go:30", after := #[{ on := 7, ground := Ground.data }, { on := 6, ground := Ground.guard }], guard := some (6, true) }) (v := ?v8) rfl (by kernel_rfl) (by kernel_rfl) (by kernel_rfl) (fun _ _ _ h => h) (Or.inl ⟨by rfl, ?hy8⟩) (by assumption) ?rest8
  case hy8 =>
    intro w hSw
    try dsimp only at hSw
    go_simp
    try with_reducible rfl
  try simp only [Act.put, List.setIfInBounds_toArray, List.set_cons_zero, List.set_cons_succ]
  refine wpAnyH_take (i := 9) (oi := { dst := some 53, op := Op.pick (Operand.tmp 50) (Operand.tmp 52) (Operand.const (Value.bool false)), type := 4, pos := "law.go:30", after := #[{ on := 6, ground := Ground.data }, { on := 8, ground := Ground.data }], guard := none }) (v := ?v9) rfl (by kernel_rfl) (by kernel_rfl) (by kernel_rfl) (fun _ _ _ h => h) (Or.inl ⟨by rfl, ?hy9⟩) (by assumption) ?rest9
  case hy9 =>
    intro w hSw
    try dsimp only at hSw
    go_simp
    try with_reducible rfl
  try simp only [Act.put, List.setIfInBounds_toArray, List.set_cons_zero, List.set_cons_succ]
  refine wpAnyH_take (i := 10) (oi := { dst := some 54, op := Op.move (Operand.tmp 53), type := 4, pos := "law.go:30", after := #[{ on := 9, ground := Ground.data }, { on := 6, ground := Ground.chain }], guard := none }) (v := ?v10) rfl (by kernel_rfl) (by kernel_rfl) (by kernel_rfl) (fun _ _ _ h => h) (Or.inl ⟨by rfl, ?hy10⟩) (by assumption) ?rest10
  case hy10 =>
    intro w hSw
    try dsimp only at hSw
    go_simp
    try with_reducible rfl
  try simp only [Act.put, List.setIfInBounds_toArray, List.set_cons_zero, List.set_cons_succ]
  refine wpAnyH_take (i := 11) (oi := { dst := some 55, op := Op.move (Operand.tmp 6), type := 25, pos := "law.go:30", after := #[{ on := 10, ground := Ground.guard }], guard := some (10, true) }) (v := ?v11) rfl (by kernel_rfl) (by kernel_rfl) (by kernel_rfl) (fun _ _ _ h => h) (Or.inl ⟨by rfl, ?hy11⟩) (by assumption) ?rest11
  case hy11 =>
    intro w hSw
    try dsimp only at hSw
    go_simp
    try with_reducible rfl
  try simp only [Act.put, List.setIfInBounds_toArray, List.set_cons_zero, List.set_cons_succ]
  refine wpAnyH_take (i := 12) (oi := { dst := some 56, op := Op.binOp BinOp.eql 25 (Operand.tmp 55) (Operand.const (Value.int IntKind.i64 0)) 25, type := 4, pos := "law.go:30", after := #[{ on := 11, ground := Ground.data }, { on := 10, ground := Ground.guard }], guard := some (10, true) }) (v := ?v12) rfl (by kernel_rfl) (by kernel_rfl) (by kernel_rfl) (fun _ _ _ h => h) (Or.inl ⟨by rfl, ?hy12⟩) (by assumption) ?rest12
  case hy12 =>
    intro w hSw
    try dsimp only at hSw
    go_simp
    try with_reducible rfl
  try simp only [Act.put, List.setIfInBounds_toArray, List.set_cons_zero, List.set_cons_succ]
  refine wpAnyH_take (i := 13) (oi := { dst := some 57, op := Op.pick (Operand.tmp 54) (Operand.tmp 56) (Operand.const (Value.bool false)), type := 4, pos := "law.go:30", after := #[{ on := 10, ground := Ground.data }, { on := 12, ground := Ground.data }], guard := none }) (v := ?v13) rfl (by kernel_rfl) (by kernel_rfl) (by kernel_rfl) (fun _ _ _ h => h) (Or.inl ⟨by rfl, ?hy13⟩) (by assumption) ?rest13
  case hy13 =>
    intro w hSw
    try dsimp only at hSw
    go_simp
    try with_reducible rfl
  try simp only [Act.put, List.setIfInBounds_toArray, List.set_cons_zero, List.set_cons_succ]
  refine wpAnyH_take (i := 14) (oi := { dst := some 58, op := Op.move (Operand.tmp 57), type := 4, pos := "law.go:30", after := #[{ on := 13, ground := Ground.data }, { on := 10, ground := Ground.chain }], guard := none }) (v := ?v14) rfl (by kernel_rfl) (by kernel_rfl) (by kernel_rfl) (fun _ _ _ h => h) (Or.inl ⟨by rfl, ?hy14⟩) (by assumption) ?rest14
  case hy14 =>
    intro w hSw
    try dsimp only at hSw
    go_simp
    try with_reducible rfl
  try simp only [Act.put, List.setIfInBounds_toArray, List.set_cons_zero, List.set_cons_succ]
  refine wpAnyH_take (i := 15) (oi := { dst := some 59, op := Op.move (Operand.tmp 8), type := 25, pos := "law.go:30", after := #[{ on := 14, ground := Ground.guard }], guard := some (14, true) }) (v := ?v15) rfl (by kernel_rfl) (by kernel_rfl) (by kernel_rfl) (fun _ _ _ h => h) (Or.inl ⟨by rfl, ?hy15⟩) (by assumption) ?rest15
  case hy15 =>
    intro w hSw
    try dsimp only at hSw
    go_simp
    try with_reducible rfl
  try simp only [Act.put, List.setIfInBounds_toArray, List.set_cons_zero, List.set_cons_succ]
  refine wpAnyH_take (i := 16) (oi := { dst := some 60, op := Op.binOp BinOp.eql 25 (Operand.tmp 59) (Operand.const (Value.int IntKind.i64 11)) 25, type := 4, pos := "law.go:30", after := #[{ on := 15, ground := Ground.data }, { on := 14, ground := Ground.guard }], guard := some (14, true) }) (v := ?v16) rfl (by kernel_rfl) (by kernel_rfl) (by kernel_rfl) (fun _ _ _ h => h) (Or.inl ⟨by rfl, ?hy16⟩) (by assumption) ?rest16
  case hy16 =>
    intro w hSw
    try dsimp only at hSw
    go_simp
    try with_reducible rfl
  try simp only [Act.put, List.setIfInBounds_toArray, List.set_cons_zero, List.set_cons_succ]
  refine wpAnyH_take (i := 17) (oi := { dst := some 61, op := Op.pick (Operand.tmp 58) (Operand.tmp 60) (Operand.const (Value.bool false)), type := 4, pos := "law.go:30", after := #[{ on := 14, ground := Ground.data }, { on := 16, ground := Ground.data }], guard := none }) (v := ?v17) rfl (by kernel_rfl) (by kernel_rfl) (by kernel_rfl) (fun _ _ _ h => h) (Or.inl ⟨by rfl, ?hy17⟩) (by assumption) ?rest17
  case hy17 =>
    intro w hSw
    try dsimp only at hSw
    go_simp
    try with_reducible rfl
  try simp only [Act.put, List.setIfInBounds_toArray, List.set_cons_zero, List.set_cons_succ]
  refine wpAnyH_take (i := 18) (oi := { dst := some 62, op := Op.move (Operand.tmp 61), type := 4, pos := "law.go:30", after := #[{ on := 17, ground := Ground.data }, { on := 14, ground := Ground.chain }], guard := none }) (v := ?v18) rfl (by kernel_rfl) (by kernel_rfl) (by kernel_rfl) (fun _ _ _ h => h) (Or.inl ⟨by rfl, ?hy18⟩) (by assumption) ?rest18
  case hy18 =>
    intro w hSw
    try dsimp only at hSw
    go_simp
    try with_reducible rfl
  try simp only [Act.put, List.setIfInBounds_toArray, List.set_cons_zero, List.set_cons_succ]
  refine wpAnyH_take (i := 19) (oi := { dst := some 63, op := Op.move (Operand.tmp 10), type := 25, pos := "law.go:30", after := #[{ on := 18, ground := Ground.guard }], guard := some (18, true) }) (v := ?v19) rfl (by kernel_rfl) (by kernel_rfl) (by kernel_rfl) (fun _ _ _ h => h) (Or.inl ⟨by rfl, ?hy19⟩) (by assumption) ?rest19
  case hy19 =>
    intro w hSw
    try dsimp only at hSw
    go_simp
    try with_reducible rfl
  try simp only [Act.put, List.setIfInBounds_toArray, List.set_cons_zero, List.set_cons_succ]
  refine wpAnyH_take (i := 20) (oi := { dst := some 64, op := Op.binOp BinOp.eql 25 (Operand.tmp 63) (Operand.const (Value.int IntKind.i64 0)) 25, type := 4, pos := "law.go:30", after := #[{ on := 19, ground := Ground.data }, { on := 18, ground := Ground.guard }], guard := some (18, true) }) (v := ?v20) rfl (by kernel_rfl) (by kernel_rfl) (by kernel_rfl) (fun _ _ _ h => h) (Or.inl ⟨by rfl, ?hy20⟩) (by assumption) ?rest20
  case hy20 =>
    intro w hSw
    try dsimp only at hSw
    go_simp
    try with_reducible rfl
  try simp only [Act.put, List.setIfInBounds_toArray, List.set_cons_zero, List.set_cons_succ]
  refine wpAnyH_take (i := 21) (oi := { dst := some 65, op := Op.pick (Operand.tmp 62) (Operand.tmp 64) (Operand.const (Value.bool false)), type := 4, pos := "law.go:30", after := #[{ on := 18, ground := Ground.data }, { on := 20, ground := Ground.data }], guard := none }) (v := ?v21) rfl (by kernel_rfl) (by kernel_rfl) (by kernel_rfl) (fun _ _ _ h => h) (Or.inl ⟨by rfl, ?hy21⟩) (by assumption) ?rest21
  case hy21 =>
    intro w hSw
    try dsimp only at hSw
    go_simp
    try with_reducible rfl
  try simp only [Act.put, List.setIfInBounds_toArray, List.set_cons_zero, List.set_cons_succ]
  refine wpAnyH_take (i := 22) (oi := { dst := some 66, op := Op.move (Operand.tmp 65), type := 4, pos := "law.go:30", after := #[{ on := 21, ground := Ground.data }, { on := 18, ground := Ground.chain }], guard := none }) (v := ?v22) rfl (by kernel_rfl) (by kernel_rfl) (by kernel_rfl) (fun _ _ _ h => h) (Or.inl ⟨by rfl, ?hy22⟩) (by assumption) ?rest22
  case hy22 =>
    intro w hSw
    try dsimp only at hSw
    go_simp
    try with_reducible rfl
  try simp only [Act.put, List.setIfInBounds_toArray, List.set_cons_zero, List.set_cons_succ]
  refine wpAnyH_take (i := 23) (oi := { dst := some 67, op := Op.move (Operand.tmp 9), type := 28, pos := "law.go:30", after := #[{ on := 22, ground := Ground.guard }], guard := some (22, true) }) (v := ?v23) rfl (by kernel_rfl) (by kernel_rfl) (by kernel_rfl) (fun _ _ _ h => h) (Or.inl ⟨by rfl, ?hy23⟩) (by assumption) ?rest23
  case hy23 =>
    intro w hSw
    try dsimp only at hSw
    go_simp
    try with_reducible rfl
  try simp only [Act.put, List.setIfInBounds_toArray, List.set_cons_zero, List.set_cons_succ]
  refine wpAnyH_take (i := 24) (oi := { dst := some 68, op := Op.convert 28 9 (Operand.tmp 67), type := 9, pos := "law.go:30", after := #[{ on := 23, ground := Ground.data }, { on := 22, ground := Ground.guard }], guard := some (22, true) }) (v := ?v24) rfl (by kernel_rfl) (by kernel_rfl) (by kernel_rfl) (fun _ _ _ h => h) (Or.inl ⟨by rfl, ?hy24⟩) (by assumption) ?rest24
  case hy24 =>
    intro w hSw
    try dsimp only at hSw
    go_simp
    try with_reducible rfl
  try simp only [Act.put, List.setIfInBounds_toArray, List.set_cons_zero, List.set_cons_succ]
  refine wpAnyH_ready (rs := [25]) (by kernel_rfl) (by simp) ?_
  refine AllReadyH.cons (o := { dst := some 69, op := Op.call { callee := Callee.value (Operand.func 7), args := #[Operand.const (Value.int IntKind.u8 2)], argTypes := #[5] }, type := 28, pos := "law.go:30", after := #[{ on := 22, ground := Ground.chain }, { on := 22, ground := Ground.guard }], guard := some (22, true) }) rfl (fun KK9 hK9 => ?_) ?more25
  case more25 => exact AllReadyH.nil
  go_simp
  refine (HFL.out _).mono ?_
  rintro e w9 ⟨g9, rfl, own9, b9⟩
  go_simp
  refine hK9.out _ _ ?keep25 (fun hHeld => ?_)
  case keep25 => exact conv_any (row_below HO8.out.drew b9)
  have q2 := conv_any own9
  have BF : Hid (Below w.heap.size w w9) := B8.out.trans (((drew_below _ _).trans b9).mono B8.out.size)
  clear hK9 KK9 own9 b9 q0
  try simp only [Act.put, List.setIfInBounds_toArray, List.set_cons_zero, List.set_cons_succ]
  refine wpAnyH_ready (rs := [26]) (by kernel_rfl) (by simp) ?_
  refine AllReadyH.cons (o := { dst := some 70, op := Op.convert 28 9 (Operand.tmp 69), type := 9, pos := "law.go:30", after := #[{ on := 25, ground := Ground.data }, { on := 22, ground := Ground.guard }], guard := some (22, true) }) rfl (fun KK9 hK9 => ?_) ?more26
  case more26 => exact AllReadyH.nil
  go_simp
  refine hK9.out _ _ (by assumption) (fun hHeld => ?_)
  clear hK9 KK9
  try simp only [Act.put, List.setIfInBounds_toArray, List.set_cons_zero, List.set_cons_succ]
  refine wpAnyH_take (i := 27) (oi := { dst := some 71, op := Op.binOp BinOp.eql 9 (Operand.tmp 68) (Operand.tmp 70) 9, type := 4, pos := "law.go:30", after := #[{ on := 24, ground := Ground.data }, { on := 26, ground := Ground.data }, { on := 22, ground := Ground.guard }], guard := some (22, true) }) (v := ?v27) rfl (by kernel_rfl) (by kernel_rfl) (by kernel_rfl) (fun _ _ _ h => h) (Or.inl ⟨by rfl, ?hy27⟩) (by assumption) ?rest27
  case hy27 =>
    intro w hSw
    try dsimp only at hSw
    go_simp
    try with_reducible rfl
  try simp only [Act.put, List.setIfInBounds_toArray, List.set_cons_zero, List.set_cons_succ]
  refine wpAnyH_take (i := 28) (oi := { dst := some 72, op := Op.pick (Operand.tmp 66) (Operand.tmp 71) (Operand.const (Value.bool false)), type := 4, pos := "law.go:30", after := #[{ on := 22, ground := Ground.data }, { on := 27, ground := Ground.data }], guard := none }) (v := ?v28) rfl (by kernel_rfl) (by kernel_rfl) (by kernel_rfl) (fun _ _ _ h => h) (Or.inl ⟨by rfl, ?hy28⟩) (by assumption) ?rest28
  case hy28 =>
    intro w hSw
    try dsimp only at hSw
    go_simp
    try with_reducible rfl
  try simp only [Act.put, List.setIfInBounds_toArray, List.set_cons_zero, List.set_cons_succ]
  refine wpAnyH_take (i := 29) (oi := { dst := some 0, op := Op.assign (Operand.tmp 72), type := 4, pos := "law.go:30", after := #[{ on := 28, ground := Ground.data }, { on := 25, ground := Ground.chain }, { on := 0, ground := Ground.phase }, { on := 1, ground := Ground.phase }, { on := 2, ground := Ground.phase }, { on := 3, ground := Ground.phase }, { on := 4, ground := Ground.phase }, { on := 5, ground := Ground.phase }, { on := 6, ground := Ground.phase }, { on := 7, ground := Ground.phase }, { on := 8, ground := Ground.phase }, { on := 9, ground := Ground.phase }, { on := 10, ground := Ground.phase }, { on := 11, ground := Ground.phase }, { on := 12, ground := Ground.phase }, { on := 13, ground := Ground.phase }, { on := 14, ground := Ground.phase }, { on := 15, ground := Ground.phase }, { on := 16, ground := Ground.phase }, { on := 17, ground := Ground.phase }, { on := 18, ground := Ground.phase }, { on := 19, ground := Ground.phase }, { on := 20, ground := Ground.phase }, { on := 21, ground := Ground.phase }, { on := 22, ground := Ground.phase }, { on := 23, ground := Ground.phase }, { on := 24, ground := Ground.phase }, { on := 25, ground := Ground.phase }, { on := 26, ground := Ground.phase }, { on := 27, ground := Ground.phase }, { on := 28, ground := Ground.phase }], guard := none }) (v := ?v29) rfl (by kernel_rfl) (by kernel_rfl) (by kernel_rfl) (fun _ _ _ h => h) (Or.inl ⟨by rfl, ?hy29⟩) (by assumption) ?rest29
  case hy29 =>
    intro w hSw
    try dsimp only at hSw
    go_simp
    try with_reducible rfl
  try simp only [Act.put, List.setIfInBounds_toArray, List.set_cons_zero]
  refine wpAnyH_done (by kernel_rfl) ?_ _
  go_wp2
  go_ret
  exact ⟨rfl, BF.out⟩
end Go.Proofs.Ytacggabopdoijaa
