/- The walk of lives: the chapter's example. -/
import Derived.Test.YtgninhecclinaaaOMake
import Derived.Test.YtgninhecclinaaaOBack
import Derived.Deep.RegionHeld3
namespace Go.Proofs.Ytgninhecclinaaa
open Go.RowKit

theorem zero_page : formN (pageN 0) = 1 ∧ keptL (pageN 0) = putN 8 0 ∧ backE 1 (putN 8 0) = 0 ∧ backQ 1 (putN 8 0) = pageN 0 := by
  obtain ⟨h1, h2, _⟩ := form_one (pageN_len 0) (pageN_one 0)
  rw [pageN_of (by omega)] at h2
  obtain ⟨h3, h4⟩ := back_one (k := putN 8 0) (length_putN _ _)
  exact ⟨h1, h2, h3, by rw [h4, getTo_putN (by omega)]⟩
theorem zero_kept : putN 8 0 = List.replicate 8 0 := by
  refine ext_getD (by rw [length_putN, List.length_replicate]) fun i hi => ?_
  rw [length_putN] at hi
  rw [putN_getD hi, repN_getD]
  simp
set_option maxRecDepth 100000 in
set_option maxHeartbeats 1000000 in
theorem lives_any (w : World) : Calls Try.prog 7 #[] w fun e w' => e = .returned (.bool true) ∧ Below w.heap.size w w' := by
  obtain ⟨Z, hZ⟩ : ∃ Z : List Nat, Z = List.replicate 4096 0 := ⟨_, rfl⟩
  have hmk : ∀ w : World, (Instr.makeSlice 23 (.int .i64 4096) (.int .i64 4096)).run Try.prog w = .ok (.slice (some ⟨w.heap.size, 0, none⟩) 4096 4096) (w.alloc (.cells (bv Z).toArray 5)) := by
    intro w
    rw [hZ]
    exact run_make_bytes 4096 (by omega) w
  obtain ⟨Y, hY⟩ : ∃ Y : List Nat, Y = List.replicate 8 0 := ⟨_, rfl⟩
  have hmk8 : ∀ w : World, (Instr.makeSlice 23 (.int .i64 8) (.int .i64 8)).run Try.prog w = .ok (.slice (some ⟨w.heap.size, 0, none⟩) 8 8) (w.alloc (.cells (bv Y).toArray 5)) := by
    intro w
    rw [hY]
    exact run_make_bytes 8 (by omega) w
  have own : ∀ w : World, ByAt (w.alloc (.cells (bv Z).toArray 5)) (some ⟨w.heap.size, 0, none⟩) 4096 4096 Z := by
    intro w
    have h := made_own w 4096 (by unfold maxLen; omega)
    rw [← hZ] at h
    exact by_row h (by rw [hZ]; exact rep_byte (by omega))
  have own8 : ∀ w : World, ByAt (w.alloc (.cells (bv Y).toArray 5)) (some ⟨w.heap.size, 0, none⟩) 8 8 Y := by
    intro w
    have h := made_own w 8 (by unfold maxLen; omega)
    rw [← hY] at h
    exact by_row h (by rw [hY]; exact rep_byte (by omega))
  have HZL : Hid (Z.length = 4096 ∧ Y.length = 8) := ⟨by rw [hZ]; exact List.length_replicate, by rw [hY]; exact List.length_replicate⟩
  have HF : Hid (formN Z = 1 ∧ keptL Z = Y ∧ backE (1 : Nat) Y = 0 ∧ backQ (1 : Nat) Y = Z) := by
    obtain ⟨h1, h2, h3, h4⟩ := zero_page
    rw [← pageN_zero, ← hZ] at h1 h2 h4
    rw [zero_kept, ← hY] at h2 h3 h4
    exact ⟨h1, h2, h3, h4⟩
  have HO : Hid (∀ w : World, ByAt (w.alloc (.cells (bv Z).toArray 5)) (some ⟨w.heap.size, 0, none⟩) 4096 4096 Z) := own
  have HO8 : Hid (∀ w : World, ByAt (w.alloc (.cells (bv Y).toArray 5)) (some ⟨w.heap.size, 0, none⟩) 8 8 Y) := own8
  have HB : Hid (Below w.heap.size w (w.alloc (.cells (bv Z).toArray 5))) := (Below.refl _ w).alloc (Nat.le_refl _) _
  clear own own8 hZ hY
  go_enter Try.func7, Try.ntmps7
  go_wp2_with fail
  refine (make_any _ (HO.out w) HF.out.1 HF.out.2.1).mono ?_
  generalize w.alloc (.cells (bv Z).toArray 5) = w1 at *
  rw [HZL.out.2]
  rintro e w2 ⟨a2, c2, rfl, own2, b2⟩
  have HY8 : Hid (∀ x ∈ Y, x < 256) := (HO8.out w).byte
  have HZ8 : Hid (∀ x ∈ Z, x < 256) := (HO.out w).byte
  have HY2 : Hid (∀ w', Below w2.heap.size w2 w' → ByAt w' a2 8 c2 Y) := fun w' hw => (by_own own2 HY8.out).later hw
  have HB2 : Hid (Below w.heap.size w w2) := HB.out.trans (b2.mono HB.out.size)
  clear own2 b2
  go_wp2_with fail
  refine (back_any (1 : Nat) w2 (HY2.out w2 (Below.refl _ _)) (by omega) HF.out.2.2.1 HF.out.2.2.2).mono ?_
  rw [HZL.out.1]
  rintro e w3 ⟨a3, c3, rfl, own3, b3⟩
  have HY3 : Hid (∀ w', Below w3.heap.size w3 w' → ByAt w' a3 4096 c3 Z) := fun w' hw => (by_own own3 HZ8.out).later hw
  have HB3 : Hid (Below w.heap.size w w3) := HB2.out.trans (b3.mono HB2.out.size)
  have hk2 : ∀ w', Below w2.heap.size w2 w' → (convert 23 9 (.slice a2 8 c2)).run Try.prog w' = .ok (.string (strB Y)) w' := fun w' hw => (HY2.out w' hw).conv
  have hx : Below w3.heap.size w3 w3.drew := drewN_below _ w3 1
  have HX : Hid (∀ x, Below w3.heap.size w3 x → (convert 23 9 (.slice a2 8 c2)).run Try.prog x = .ok (.string (strB Y)) x ∧ (convert 23 9 (.slice a3 4096 c3)).run Try.prog x = .ok (.string (strB Z)) x) := fun x hx => ⟨hk2 x (b3.trans (hx.mono b3.size)), (HY3.out x hx).conv⟩
  have q0 := HX.out _ hx
  have q3 : ∀ x : World, (convert 23 9 (.slice (some ⟨x.heap.size, 0, none⟩) 8 8)).run Try.prog (x.alloc (.cells (bv Y).toArray 5)) = .ok (.string (strB Y)) (x.alloc (.cells (bv Y).toArray 5)) := fun x => (HO8.out x).conv
  have q6 : ∀ x : World, (convert 23 9 (.slice (some ⟨x.heap.size, 0, none⟩) 4096 4096)).run Try.prog (x.alloc (.cells (bv Z).toArray 5)) = .ok (.string (strB Z)) (x.alloc (.cells (bv Z).toArray 5)) := fun x => (HO.out x).conv
  have HQ3 : Hid _ := q3
  have HQ6 : Hid _ := q6
  have HXX : Hid (Below w3.heap.size w3 w3.drew) := hx
  clear own3 b3 hk2 q3 q6 hx
  generalize strB Y = ty at *
  generalize strB Z = tz at *
  go_upto_region 3 with (fail)
  refine wp_region_held_drew (S := fun w' => (convert 23 9 (.slice a2 8 c2)).run Try.prog w' = .ok (.string ty) w' ∧ (convert 23 9 (.slice a3 4096 c3)).run Try.prog w' = .ok (.string tz) w') (by kernel_rfl) q0 (fun hHeld => ?_)
  generalize w3.drew = x at *
  have e1 : Below w3.heap.size w3 (x.alloc (.cells (bv Y).toArray 5)) := HXX.out.alloc HXX.out.size _
  have e2 : Below w3.heap.size w3 ((x.alloc (.cells (bv Y).toArray 5)).alloc (.cells (bv Z).toArray 5)) := e1.alloc e1.size _
  have p1 := HX.out _ e1
  have p2 := HX.out _ e2
  have HP1 : Hid _ := p1
  have HP2 : Hid _ := p2
  have HBF : Hid (Below w.heap.size w ((x.alloc (.cells (bv Y).toArray 5)).alloc (.cells (bv Z).toArray 5))) := HB3.out.trans (e2.mono HB3.out.size)
  clear e1 e2 p1 p2 q0
  refine wpAnyH_take (i := 0) (oi := { dst := some 16, op := Op.move (Operand.tmp 1), type := 3, pos := "law.go:17", after := #[], guard := none }) (v := ?v0) rfl (by kernel_rfl) (by kernel_rfl) (by kernel_rfl) (fun _ _ _ h => h) (Or.inl ⟨by rfl, ?hy0⟩) (by assumption) ?rest0
  case hy0 =>
    intro w hSw
    try dsimp only at hSw
    go_simp
    try with_reducible rfl
  try simp only [Act.put, List.setIfInBounds_toArray, List.set_cons_zero, List.set_cons_succ]
  refine wpAnyH_take (i := 1) (oi := { dst := some 17, op := Op.binOp BinOp.eql 3 (Operand.tmp 16) (Operand.const (Value.int IntKind.i64 1)) 3, type := 4, pos := "law.go:17", after := #[{ on := 0, ground := Ground.data }], guard := none }) (v := ?v1) rfl (by kernel_rfl) (by kernel_rfl) (by kernel_rfl) (fun _ _ _ h => h) (Or.inl ⟨by rfl, ?hy1⟩) (by assumption) ?rest1
  case hy1 =>
    intro w hSw
    try dsimp only at hSw
    go_simp
    try with_reducible rfl
  try simp only [Act.put, List.setIfInBounds_toArray, List.set_cons_zero, List.set_cons_succ]
  refine wpAnyH_take (i := 2) (oi := { dst := some 18, op := Op.move (Operand.tmp 17), type := 4, pos := "law.go:17", after := #[{ on := 1, ground := Ground.data }], guard := none }) (v := ?v2) rfl (by kernel_rfl) (by kernel_rfl) (by kernel_rfl) (fun _ _ _ h => h) (Or.inl ⟨by rfl, ?hy2⟩) (by assumption) ?rest2
  case hy2 =>
    intro w hSw
    try dsimp only at hSw
    go_simp
    try with_reducible rfl
  try simp only [Act.put, List.setIfInBounds_toArray, List.set_cons_zero, List.set_cons_succ]
  refine wpAnyH_take (i := 3) (oi := { dst := some 19, op := Op.move (Operand.tmp 2), type := 23, pos := "law.go:17", after := #[{ on := 2, ground := Ground.guard }], guard := some (2, true) }) (v := ?v3) rfl (by kernel_rfl) (by kernel_rfl) (by kernel_rfl) (fun _ _ _ h => h) (Or.inl ⟨by rfl, ?hy3⟩) (by assumption) ?rest3
  case hy3 =>
    intro w hSw
    try dsimp only at hSw
    go_simp
    try with_reducible rfl
  try simp only [Act.put, List.setIfInBounds_toArray, List.set_cons_zero, List.set_cons_succ]
  refine wpAnyH_take (i := 4) (oi := { dst := some 20, op := Op.convert 23 9 (Operand.tmp 19), type := 9, pos := "law.go:17", after := #[{ on := 3, ground := Ground.data }, { on := 2, ground := Ground.guard }], guard := some (2, true) }) (v := ?v4) rfl (by kernel_rfl) (by kernel_rfl) (by kernel_rfl) (fun _ _ _ h => h) (Or.inl ⟨by rfl, ?hy4⟩) (by assumption) ?rest4
  case hy4 =>
    intro w hSw
    try dsimp only at hSw
    go_simp
    try with_reducible rfl
  try simp only [Act.put, List.setIfInBounds_toArray, List.set_cons_zero, List.set_cons_succ]
  refine wpAnyH_ready (rs := [5]) (by kernel_rfl) (by simp) ?_
  refine AllReadyH.cons (o := { dst := some 21, op := Op.makeSlice 23 (Operand.const (Value.int IntKind.i64 8)) (Operand.const (Value.int IntKind.i64 8)), type := 23, pos := "law.go:17", after := #[{ on := 2, ground := Ground.guard }], guard := some (2, true) }) rfl (fun KK9 hK9 => ?_) ?more5
  case more5 => exact AllReadyH.nil
  go_simp
  refine hK9.out _ _ ?keep5 (fun hHeld => ?_)
  case keep5 => exact HP1.out
  clear hK9 KK9
  have q3 := HQ3.out x
  try simp only [Act.put, List.setIfInBounds_toArray, List.set_cons_zero, List.set_cons_succ]
  refine wpAnyH_ready (rs := [6]) (by kernel_rfl) (by simp) ?_
  refine AllReadyH.cons (o := { dst := some 22, op := Op.convert 23 9 (Operand.tmp 21), type := 9, pos := "law.go:17", after := #[{ on := 5, ground := Ground.data }, { on := 2, ground := Ground.guard }], guard := some (2, true) }) rfl (fun KK9 hK9 => ?_) ?more6
  case more6 => exact AllReadyH.nil
  go_simp
  refine hK9.out _ _ (by assumption) (fun hHeld => ?_)
  clear hK9 KK9
  try simp only [Act.put, List.setIfInBounds_toArray, List.set_cons_zero, List.set_cons_succ]
  refine wpAnyH_take (i := 7) (oi := { dst := some 23, op := Op.binOp BinOp.eql 9 (Operand.tmp 20) (Operand.tmp 22) 9, type := 4, pos := "law.go:17", after := #[{ on := 4, ground := Ground.data }, { on := 6, ground := Ground.data }, { on := 2, ground := Ground.guard }], guard := some (2, true) }) (v := ?v7) rfl (by kernel_rfl) (by kernel_rfl) (by kernel_rfl) (fun _ _ _ h => h) (Or.inl ⟨by rfl, ?hy7⟩) (by assumption) ?rest7
  case hy7 =>
    intro w hSw
    try dsimp only at hSw
    go_simp
    try with_reducible rfl
  try simp only [Act.put, List.setIfInBounds_toArray, List.set_cons_zero, List.set_cons_succ]
  refine wpAnyH_take (i := 8) (oi := { dst := some 24, op := Op.pick (Operand.tmp 18) (Operand.tmp 23) (Operand.const (Value.bool false)), type := 4, pos := "law.go:17", after := #[{ on := 2, ground := Ground.data }, { on := 7, ground := Ground.data }], guard := none }) (v := ?v8) rfl (by kernel_rfl) (by kernel_rfl) (by kernel_rfl) (fun _ _ _ h => h) (Or.inl ⟨by rfl, ?hy8⟩) (by assumption) ?rest8
  case hy8 =>
    intro w hSw
    try dsimp only at hSw
    go_simp
    try with_reducible rfl
  try simp only [Act.put, List.setIfInBounds_toArray, List.set_cons_zero, List.set_cons_succ]
  refine wpAnyH_take (i := 9) (oi := { dst := some 25, op := Op.move (Operand.tmp 24), type := 4, pos := "law.go:17", after := #[{ on := 8, ground := Ground.data }, { on := 2, ground := Ground.chain }], guard := none }) (v := ?v9) rfl (by kernel_rfl) (by kernel_rfl) (by kernel_rfl) (fun _ _ _ h => h) (Or.inl ⟨by rfl, ?hy9⟩) (by assumption) ?rest9
  case hy9 =>
    intro w hSw
    try dsimp only at hSw
    go_simp
    try with_reducible rfl
  try simp only [Act.put, List.setIfInBounds_toArray, List.set_cons_zero, List.set_cons_succ]
  refine wpAnyH_take (i := 10) (oi := { dst := some 26, op := Op.move (Operand.tmp 4), type := 35, pos := "law.go:17", after := #[{ on := 9, ground := Ground.guard }], guard := some (9, true) }) (v := ?v10) rfl (by kernel_rfl) (by kernel_rfl) (by kernel_rfl) (fun _ _ _ h => h) (Or.inl ⟨by rfl, ?hy10⟩) (by assumption) ?rest10
  case hy10 =>
    intro w hSw
    try dsimp only at hSw
    go_simp
    try with_reducible rfl
  try simp only [Act.put, List.setIfInBounds_toArray, List.set_cons_zero, List.set_cons_succ]
  refine wpAnyH_take (i := 11) (oi := { dst := some 27, op := Op.binOp BinOp.eql 35 (Operand.tmp 26) (Operand.const (Value.int IntKind.i64 0)) 35, type := 4, pos := "law.go:17", after := #[{ on := 10, ground := Ground.data }, { on := 9, ground := Ground.guard }], guard := some (9, true) }) (v := ?v11) rfl (by kernel_rfl) (by kernel_rfl) (by kernel_rfl) (fun _ _ _ h => h) (Or.inl ⟨by rfl, ?hy11⟩) (by assumption) ?rest11
  case hy11 =>
    intro w hSw
    try dsimp only at hSw
    go_simp
    try with_reducible rfl
  try simp only [Act.put, List.setIfInBounds_toArray, List.set_cons_zero, List.set_cons_succ]
  refine wpAnyH_take (i := 12) (oi := { dst := some 28, op := Op.pick (Operand.tmp 25) (Operand.tmp 27) (Operand.const (Value.bool false)), type := 4, pos := "law.go:17", after := #[{ on := 9, ground := Ground.data }, { on := 11, ground := Ground.data }], guard := none }) (v := ?v12) rfl (by kernel_rfl) (by kernel_rfl) (by kernel_rfl) (fun _ _ _ h => h) (Or.inl ⟨by rfl, ?hy12⟩) (by assumption) ?rest12
  case hy12 =>
    intro w hSw
    try dsimp only at hSw
    go_simp
    try with_reducible rfl
  try simp only [Act.put, List.setIfInBounds_toArray, List.set_cons_zero, List.set_cons_succ]
  refine wpAnyH_take (i := 13) (oi := { dst := some 29, op := Op.move (Operand.tmp 28), type := 4, pos := "law.go:17", after := #[{ on := 12, ground := Ground.data }, { on := 9, ground := Ground.chain }], guard := none }) (v := ?v13) rfl (by kernel_rfl) (by kernel_rfl) (by kernel_rfl) (fun _ _ _ h => h) (Or.inl ⟨by rfl, ?hy13⟩) (by assumption) ?rest13
  case hy13 =>
    intro w hSw
    try dsimp only at hSw
    go_simp
    try with_reducible rfl
  try simp only [Act.put, List.setIfInBounds_toArray, List.set_cons_zero, List.set_cons_succ]
  refine wpAnyH_take (i := 14) (oi := { dst := some 30, op := Op.move (Operand.tmp 3), type := 23, pos := "law.go:17", after := #[{ on := 13, ground := Ground.guard }], guard := some (13, true) }) (v := ?v14) rfl (by kernel_rfl) (by kernel_rfl) (by kernel_rfl) (fun _ _ _ h => h) (Or.inl ⟨by rfl, ?hy14⟩) (by assumption) ?rest14
  case hy14 =>
    intro w hSw
    try dsimp only at hSw
    go_simp
    try with_reducible rfl
  try simp only [Act.put, List.setIfInBounds_toArray, List.set_cons_zero, List.set_cons_succ]
  refine wpAnyH_take (i := 15) (oi := { dst := some 31, op := Op.convert 23 9 (Operand.tmp 30), type := 9, pos := "law.go:17", after := #[{ on := 14, ground := Ground.data }, { on := 13, ground := Ground.guard }], guard := some (13, true) }) (v := ?v15) rfl (by kernel_rfl) (by kernel_rfl) (by kernel_rfl) (fun _ _ _ h => h) (Or.inl ⟨by rfl, ?hy15⟩) (by assumption) ?rest15
  case hy15 =>
    intro w hSw
    try dsimp only at hSw
    go_simp
    try with_reducible rfl
  try simp only [Act.put, List.setIfInBounds_toArray, List.set_cons_zero, List.set_cons_succ]
  refine wpAnyH_ready (rs := [16]) (by kernel_rfl) (by simp) ?_
  refine AllReadyH.cons (o := { dst := some 32, op := Op.makeSlice 23 (Operand.const (Value.int IntKind.i64 4096)) (Operand.const (Value.int IntKind.i64 4096)), type := 23, pos := "law.go:17", after := #[{ on := 13, ground := Ground.guard }], guard := some (13, true) }) rfl (fun KK9 hK9 => ?_) ?more16
  case more16 => exact AllReadyH.nil
  go_simp
  refine hK9.out _ _ ?keep16 (fun hHeld => ?_)
  case keep16 => exact HP2.out
  clear hK9 KK9
  have q6 := HQ6.out (x.alloc (.cells (bv Y).toArray 5))
  rw [show (x.alloc (.cells (bv Y).toArray 5)).heap.size = x.heap.size + 1 by simp] at q6
  try simp only [Act.put, List.setIfInBounds_toArray, List.set_cons_zero, List.set_cons_succ]
  refine wpAnyH_ready (rs := [17]) (by kernel_rfl) (by simp) ?_
  refine AllReadyH.cons (o := { dst := some 33, op := Op.convert 23 9 (Operand.tmp 32), type := 9, pos := "law.go:17", after := #[{ on := 16, ground := Ground.data }, { on := 13, ground := Ground.guard }], guard := some (13, true) }) rfl (fun KK9 hK9 => ?_) ?more17
  case more17 => exact AllReadyH.nil
  go_simp
  refine hK9.out _ _ (by assumption) (fun hHeld => ?_)
  clear hK9 KK9
  try simp only [Act.put, List.setIfInBounds_toArray, List.set_cons_zero, List.set_cons_succ]
  refine wpAnyH_take (i := 18) (oi := { dst := some 34, op := Op.binOp BinOp.eql 9 (Operand.tmp 31) (Operand.tmp 33) 9, type := 4, pos := "law.go:17", after := #[{ on := 15, ground := Ground.data }, { on := 17, ground := Ground.data }, { on := 13, ground := Ground.guard }], guard := some (13, true) }) (v := ?v18) rfl (by kernel_rfl) (by kernel_rfl) (by kernel_rfl) (fun _ _ _ h => h) (Or.inl ⟨by rfl, ?hy18⟩) (by assumption) ?rest18
  case hy18 =>
    intro w hSw
    try dsimp only at hSw
    go_simp
    try with_reducible rfl
  try simp only [Act.put, List.setIfInBounds_toArray, List.set_cons_zero, List.set_cons_succ]
  refine wpAnyH_take (i := 19) (oi := { dst := some 35, op := Op.pick (Operand.tmp 29) (Operand.tmp 34) (Operand.const (Value.bool false)), type := 4, pos := "law.go:17", after := #[{ on := 13, ground := Ground.data }, { on := 18, ground := Ground.data }], guard := none }) (v := ?v19) rfl (by kernel_rfl) (by kernel_rfl) (by kernel_rfl) (fun _ _ _ h => h) (Or.inl ⟨by rfl, ?hy19⟩) (by assumption) ?rest19
  case hy19 =>
    intro w hSw
    try dsimp only at hSw
    go_simp
    try with_reducible rfl
  try simp only [Act.put, List.setIfInBounds_toArray, List.set_cons_zero, List.set_cons_succ]
  refine wpAnyH_take (i := 20) (oi := { dst := some 0, op := Op.assign (Operand.tmp 35), type := 4, pos := "law.go:17", after := #[{ on := 19, ground := Ground.data }, { on := 13, ground := Ground.chain }, { on := 0, ground := Ground.phase }, { on := 1, ground := Ground.phase }, { on := 2, ground := Ground.phase }, { on := 3, ground := Ground.phase }, { on := 4, ground := Ground.phase }, { on := 5, ground := Ground.phase }, { on := 6, ground := Ground.phase }, { on := 7, ground := Ground.phase }, { on := 8, ground := Ground.phase }, { on := 9, ground := Ground.phase }, { on := 10, ground := Ground.phase }, { on := 11, ground := Ground.phase }, { on := 12, ground := Ground.phase }, { on := 13, ground := Ground.phase }, { on := 14, ground := Ground.phase }, { on := 15, ground := Ground.phase }, { on := 16, ground := Ground.phase }, { on := 17, ground := Ground.phase }, { on := 18, ground := Ground.phase }, { on := 19, ground := Ground.phase }], guard := none }) (v := ?v20) rfl (by kernel_rfl) (by kernel_rfl) (by kernel_rfl) (fun _ _ _ h => h) (Or.inl ⟨by rfl, ?hy20⟩) (by assumption) ?rest20
  case hy20 =>
    intro w hSw
    try dsimp only at hSw
    go_simp
    try with_reducible rfl
  try simp only [Act.put, List.setIfInBounds_toArray, List.set_cons_zero]
  refine wpAnyH_done (by kernel_rfl) ?_ _
  go_wp2
  go_ret
  exact ⟨rfl, HBF.out⟩
end Go.Proofs.Ytgninhecclinaaa
