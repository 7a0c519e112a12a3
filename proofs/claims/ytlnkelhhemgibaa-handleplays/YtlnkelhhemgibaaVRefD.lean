/- The walk of the document's Drop. -/
import Derived.Test.YtlnkelhhemgibaaVRefM
import Derived.Test.YtlnkelhhemgibaaVGet
namespace Go.Proofs.Ytlnkelhhemgibaa
open Go.RowKit

theorem results_tmp_cell_tmp {P : Program} {fn : Func} {p b c : Tmp} {ty : TypeId} (h : fn.results = #[.tmp b, .cell p ty, .tmp c]) (tmps : Array Value) (w : World) (g : Nat) (t : TypeId) (cs : Array Value) (fr : Nat × Nat) (d : TypeDesc)
    (hp : tmps.getD p undef = .pointer (some ⟨g, 0, none⟩)) (hg : w.heap[g]? = some (.cells cs t fr))
    (hu : P.underlying ty = some d) (hd : (match d with | .struct _ | .array _ _ => true | _ => false) = true) (hi : (P.info? ty).map (·.size) = some cs.size) :
    (results fn tmps).run P w = .ok (.tuple #[tmps.getD b undef, .agg cs, tmps.getD c undef]) w := by
  have hp' : tmps[p]?.getD undef = .pointer (some ⟨g, 0, none⟩) := by simpa using hp
  simp [results, h, hp', asAddr, run_loadVar_row w g t ty cs fr d hg hu hd hi]
theorem Try.sizeRp : (Try.prog.info? 44).map (fun i => i.size) = some 3 := by kernel_rfl
theorem headD_at {w : World} {B g c : Nat} {X : List Hd} (h : DsAt w B (.slice (some ⟨g, 0, none⟩) X.length c) X) (j : Nat) : ∀ i u, (rowD (X.take j))[i]? = some u → w.cell? ((⟨g, 0, none⟩ : Addr).add i) = some u := by
  intro i u hu
  refine World.ownsRow.cells h rfl i u ?_
  rw [rowD_split X j, List.getElem?_append_left (List.getElem?_eq_some_iff.1 hu).1]
  exact hu
theorem tailD_at {w : World} {B g c : Nat} {X : List Hd} (h : DsAt w B (.slice (some ⟨g, 0, none⟩) X.length c) X) {j : Nat} (hj : j ≤ X.length) :
    ∃ A : Addr, (if c = j then some (⟨g, 0, none⟩ : Addr) else some ⟨g, j * 4, none⟩) = some A ∧ A.block = g ∧ ∀ i u, (rowD (X.drop j))[i]? = some u → w.cell? (A.add i) = some u := by
  have hc := (row_cap h).1
  by_cases e : c = j
  · refine ⟨⟨g, 0, none⟩, by rw [if_pos e], rfl, ?_⟩
    intro i u hu
    have := (List.getElem?_eq_some_iff.1 hu).1
    rw [rowD_len, List.length_drop] at this
    omega
  · refine ⟨⟨g, j * 4, none⟩, by rw [if_neg e], rfl, ?_⟩
    intro i u hu
    have h1 := World.ownsRow.cells h rfl (j * 4 + i) u (by
      have e2 : (rowD (X.take j)).length = j * 4 := by rw [rowD_len, List.length_take]; omega
      rw [rowD_split X j, List.getElem?_append_right (by omega), e2, show j * 4 + i - j * 4 = i by omega]
      exact hu)
    rw [Addr.add_lit] at h1 ⊢
    simpa using h1
set_option maxRecDepth 100000 in
set_option maxHeartbeats 1000000 in
theorem refDropD_any {base : Nat} {v : Value} {X : List Hd} (n : Int) (w : World) (h : DsAt w base v X) (hL : X.length ≤ 1000) (hbase : base ≤ w.heap.size) :
    Calls Try.prog 23 #[v, .int .i64 n] w fun e w' => ∃ (v' : Value) (x : Int), PlaceD X n x ∧
      ((x = -1 ∧ e = .returned (.tuple #[v, .agg #[.int .i64 0, .int .i64 0, .int .i64 0], .bool false])) ∨ ∃ (k : Nat) (e' : Hd), x = k ∧ X[k]? = some e' ∧ e = .returned (.tuple #[v', .agg #[.int .i64 e'.q.p, .int .i64 e'.q.o, .int .i64 e'.q.l], .bool true]) ∧ DsAt w' base v' (X.take k ++ X.drop (k + 1))) ∧ Below w.heap.size w w' := by
  obtain ⟨i0, hi0, hz0, hz1, hz2⟩ := info_parts Try.infoHd
  obtain ⟨a, c, rfl⟩ := row_slice h
  obtain ⟨W1, hW1⟩ : ∃ W1, W1 = w.alloc (.cells #[.int .i64 0, .int .i64 0, .int .i64 0] 44) := ⟨_, rfl⟩
  have hb1 : Below w.heap.size w W1 := by rw [hW1]; exact (Below.refl _ w).alloc (Nat.le_refl _) _
  have hx1 : W1.heap[w.heap.size]? = some (.cells #[.int .i64 0, .int .i64 0, .int .i64 0] 44 (0, 0)) := by rw [hW1]; exact heap_alloc_new w _
  have hs1 : W1.heap.size = w.heap.size + 1 := by rw [hW1]; simp
  have HH : Hid (DsAt W1 base (.slice a X.length c) X) := h.below hb1
  have HB : Hid (Below w.heap.size w W1) := hb1
  have HX1 : Hid (W1.heap[w.heap.size]? = some (.cells #[.int .i64 0, .int .i64 0, .int .i64 0] 44 (0, 0))) := hx1
  obtain ⟨m, hm⟩ : ∃ m, X.length = m := ⟨_, rfl⟩
  have HMX : Hid (X.length = m) := hm
  have HAT := refAt_any n W1 HH.out hL
  rw [hm] at HAT hL ⊢
  have HAT : Hid _ := HAT
  have H0 : Hid (DsAt w base (.slice a X.length c) X) := h
  clear hb1 h
  go_enter Try.func23, Try.ntmps23
  go_wp2_with fail
  rw [← hW1]
  clear hW1
  refine Calls.mono HAT.out ?_
  rintro e w1 ⟨x, rfl, rfl, hp⟩
  have HPL : Hid (PlaceD X n x) := hp
  by_cases hx : 0 ≤ x
  · obtain ⟨k, e, rfl, hy, hyn⟩ := hp.yes hx
    have HX : Hid (X[k]? = some e) := hy
    obtain ⟨g, rfl, _, _, _, _, _, _⟩ := H0.out.at hy
    have hkl := (List.getElem?_eq_some_iff.1 hy).1
    obtain ⟨hcap, hcm⟩ := row_cap H0.out
    rw [hm] at hkl hcap
    unfold maxLen at hcm
    have hg : g < w.heap.size := by
      obtain ⟨_, e2, _, h2, _⟩ := H0.out.at hy
      cases e2
      exact h2
    have HC1 : Hid _ := headD_at HH.out k
    have LN1 : Hid ((rowD (X.take k)).length = k * 4) := by show _ = _; rw [rowD_len, List.length_take]; omega
    have hic : (k : Int) ≤ (c : Int) := by omega
    have hnx : ¬ (k : Int) < 0 := by omega
    obtain ⟨A, hA, hAg, hAc⟩ := tailD_at H0.out (j := k + 1) (by omega)
    have LN2 : Hid ((rowD (X.drop (k + 1))).length = (m - (k + 1)) * 4) := by show _ = _; rw [rowD_len, List.length_drop, hm]
    have HSR : Hid (SrcAt w (.slice (some A) (m - (k + 1)) (c - (k + 1))) (m - (k + 1)) 4 (rowD (X.drop (k + 1)))) := .inr ⟨A, _, rfl, LN2.out, fun j u hj => ⟨by omega, hAc j u hj⟩⟩
    obtain ⟨c0, c1, c2, c3⟩ : w.cell? ⟨g, k * 4, none⟩ = some (.int .i64 e.h) ∧ w.cell? ⟨g, k * 4 + 1, none⟩ = some (.int .i64 e.q.p) ∧ w.cell? ⟨g, k * 4 + 2, none⟩ = some (.int .i64 e.q.o) ∧ w.cell? ⟨g, k * 4 + 3, none⟩ = some (.int .i64 e.q.l) := by
      obtain ⟨_, e2, _, _, h2⟩ := H0.out.at hy
      cases e2
      exact h2
    have hle : w.heap.size + 1 ≤ W1.heap.size := by omega
    have hmade : (W1.alloc (.cells #[] 65)).ownsRow (w.heap.size + 1) 65 4 (.slice (some ⟨w.heap.size + 1, 0, none⟩) 0 0) 0 [] := by
      have := World.ownsRow_made (e := 65) (size := 4) W1 #[] 0 hle (by unfold maxLen; omega) rfl
      rw [hs1] at this
      exact this
    have HMD : Hid ((W1.alloc (.cells #[] 65)).ownsRow (w.heap.size + 1) 65 4 (.slice (some ⟨w.heap.size + 1, 0, none⟩) 0 0) 0 []) := hmade
    clear hmade
    obtain ⟨eh, ⟨qp, qo, ql⟩⟩ := e
    simp only at c0 c1 c2 c3
    clear hp HAT hy hx hyn hAc H0 HH
    go_wp2_with (at_builtin; refine wpList_append_own _ rfl _ _ 37 rfl (w.heap.size + 1) 65 i0 _ 4 32 Try.underlying37 hi0 hz0 hz1 hz2 rfl (by decide) (.slice (some ⟨w.heap.size + 1, 0, none⟩) 0 0) 0 [] rfl HMD.out ⟨g, 0, none⟩ k c (rowD (X.take k)) rfl LN1.out ?c1 (rowD_one _) ?c3 ?c4 ?c5 ?_)
    case c1 =>
      intro j u hu
      have h3 := HC1.out j u hu
      rw [Addr.add_lit] at h3 ⊢
      rw [← h3]
      exact World.cell?_of_block (Below.heap_alloc W1 _ g (by omega))
    case c3 => unfold maxLen; omega
    case c4 => omega
    case c5 => simp; omega
    intro v2 W2 own2 gr2 _
    have b2 : Below (w.heap.size + 1) W1 W2 := ((Below.refl _ W1).alloc (by omega) _).grown gr2 (by simp; omega) (fun j hj => by simp [Value.ownBlock] at hj; omega)
    have own2' : W2.ownsRow (w.heap.size + 1) 65 4 v2 k (rowD (X.take k)) := by simpa using own2
    obtain ⟨a2, c2', rfl⟩ := row_slice own2'
    have hX2 : Below w.heap.size w W2 := HB.out.trans (b2.mono (by omega))
    have hx2 : W2.heap[w.heap.size]? = some (.cells #[.int .i64 0, .int .i64 0, .int .i64 0] 44 (0, 0)) := (b2.block _ (by omega)).trans HX1.out
    have hs2 : w.heap.size < W2.heap.size := (Array.getElem?_eq_some_iff.1 hx2).1
    have hj3 : 0 ≤ (k : Int) + 1 := by omega
    have hj4 : (k : Int) + 1 ≤ (m : Int) := by omega
    have hj5 : (k : Int) < (m : Int) := by omega
    have hwr : IntKind.i64.wrap ((k : Int) + 1) = (k : Int) + 1 := IntWalk.i64_in _ (by omega)
    have htn : ((k : Int) + 1).toNat = k + 1 := by omega
    have hXD : Below w.heap.size w W2.drew := hX2.trans ((drew_below W2.heap.size W2).mono hX2.size)
    have hxD : W2.drew.heap[w.heap.size]? = some (.cells #[.int .i64 0, .int .i64 0, .int .i64 0] 44 (0, 0)) := hx2
    have ownD : W2.drew.ownsRow (w.heap.size + 1) 65 4 (.slice a2 k c2') k (rowD (X.take k)) := own2'.drew
    have hsD : w.heap.size + 1 ≤ W2.drew.heap.size := hs2
    clear gr2 own2 b2 own2' HC1 hX2 hx2 hs2
    go_wp2_with fail
    refine wp_region_held_drew (S := fun w' => Below w.heap.size w w') (by kernel_rfl) hXD (fun hHeld => ?_)
    generalize W2.drew = Z0 at *
    refine wpAnyH_take (i := 0) (oi := { dst := some 21, op := Op.move (Operand.tmp 8), type := 37, pos := "ref.go:50", after := #[], guard := none }) (v := ?v0a) rfl (by kernel_rfl) (by kernel_rfl) (by kernel_rfl) (fun _ _ _ h => h) (Or.inl ⟨by rfl, ?hy0a⟩) (by assumption) ?rest0a
    case hy0a =>
      intro w hSw
      try dsimp only at hSw
      go_simp
      try with_reducible rfl
    try simp only [Act.put, List.setIfInBounds_toArray, List.set_cons_zero, List.set_cons_succ]
    refine wpAnyH_take (i := 1) (oi := { dst := some 22, op := Op.move (Operand.tmp 0), type := 37, pos := "ref.go:50", after := #[], guard := none }) (v := ?v1a) rfl (by kernel_rfl) (by kernel_rfl) (by kernel_rfl) (fun _ _ _ h => h) (Or.inl ⟨by rfl, ?hy1a⟩) (by assumption) ?rest1a
    case hy1a =>
      intro w hSw
      try dsimp only at hSw
      go_simp
      try with_reducible rfl
    try simp only [Act.put, List.setIfInBounds_toArray, List.set_cons_zero, List.set_cons_succ]
    refine wpAnyH_take (i := 2) (oi := { dst := some 23, op := Op.move (Operand.tmp 7), type := 3, pos := "ref.go:50", after := #[], guard := none }) (v := ?v2a) rfl (by kernel_rfl) (by kernel_rfl) (by kernel_rfl) (fun _ _ _ h => h) (Or.inl ⟨by rfl, ?hy2a⟩) (by assumption) ?rest2a
    case hy2a =>
      intro w hSw
      try dsimp only at hSw
      go_simp
      try with_reducible rfl
    try simp only [Act.put, List.setIfInBounds_toArray, List.set_cons_zero, List.set_cons_succ]
    refine wpAnyH_take (i := 3) (oi := { dst := some 24, op := Op.binOp BinOp.add 3 (Operand.tmp 23) (Operand.const (Value.int IntKind.i64 1)) 3, type := 3, pos := "ref.go:50", after := #[{ on := 2, ground := Ground.data }], guard := none }) (v := ?v3a) rfl (by kernel_rfl) (by kernel_rfl) (by kernel_rfl) (fun _ _ _ h => h) (Or.inl ⟨by rfl, ?hy3a⟩) (by assumption) ?rest3a
    case hy3a =>
      intro w hSw
      try dsimp only at hSw
      go_simp
      try with_reducible rfl
    try simp only [Act.put, List.setIfInBounds_toArray, List.set_cons_zero, List.set_cons_succ]
    refine wpAnyH_take (i := 4) (oi := { dst := some 25, op := Op.slice 37 (Operand.tmp 22) (some (Operand.tmp 24)) none none, type := 37, pos := "ref.go:50", after := #[{ on := 1, ground := Ground.data }, { on := 3, ground := Ground.data }], guard := none }) (v := .slice (some A) (m - (k + 1)) (c - (k + 1))) rfl (by kernel_rfl) (by kernel_rfl) (by kernel_rfl) (fun _ _ _ h => h) (Or.inl ⟨by rfl, ?hy4⟩) (by assumption) ?rest4
    case hy4 =>
      intro wq hSw
      clear hHeld
      go_simp
    try simp only [Act.put, List.setIfInBounds_toArray, List.set_cons_zero, List.set_cons_succ]
    refine wpAnyH_take (i := 6) (oi := { dst := some 27, op := Op.move (Operand.tmp 0), type := 37, pos := "ref.go:50", after := #[{ on := 11, ground := Ground.gcOnly Departure.lateStores }], guard := none }) (v := ?v6a) rfl (by kernel_rfl) (by kernel_rfl) (by kernel_rfl) (fun _ _ _ h => h) (Or.inl ⟨by rfl, ?hy6a⟩) (by assumption) ?rest6a
    case hy6a =>
      intro w hSw
      try dsimp only at hSw
      go_simp
      try with_reducible rfl
    try simp only [Act.put, List.setIfInBounds_toArray, List.set_cons_zero, List.set_cons_succ]
    refine wpAnyH_take (i := 7) (oi := { dst := some 28, op := Op.move (Operand.tmp 7), type := 3, pos := "ref.go:50", after := #[{ on := 11, ground := Ground.gcOnly Departure.lateStores }], guard := none }) (v := ?v7a) rfl (by kernel_rfl) (by kernel_rfl) (by kernel_rfl) (fun _ _ _ h => h) (Or.inl ⟨by rfl, ?hy7a⟩) (by assumption) ?rest7a
    case hy7a =>
      intro w hSw
      try dsimp only at hSw
      go_simp
      try with_reducible rfl
    try simp only [Act.put, List.setIfInBounds_toArray, List.set_cons_zero, List.set_cons_succ]
    refine wpAnyH_take (i := 8) (oi := { dst := some 29, op := Op.indexAddr 37 (Operand.tmp 27) (Operand.tmp 28), type := 0, pos := "ref.go:50", after := #[{ on := 6, ground := Ground.data }, { on := 7, ground := Ground.data }, { on := 11, ground := Ground.gcOnly Departure.lateStores }], guard := none }) (v := ?v8a) rfl (by kernel_rfl) (by kernel_rfl) (by kernel_rfl) (fun _ _ _ h => h) (Or.inl ⟨by rfl, ?hy8a⟩) (by assumption) ?rest8a
    case hy8a =>
      intro w hSw
      try dsimp only at hSw
      go_simp
      try with_reducible rfl
    try simp only [Act.put, List.setIfInBounds_toArray, List.set_cons_zero, List.set_cons_succ]
    refine wpAnyH_take (i := 9) (oi := { dst := some 30, op := Op.fieldAddr 65 (Operand.tmp 29) 1, type := 0, pos := "ref.go:50", after := #[{ on := 8, ground := Ground.data }, { on := 11, ground := Ground.gcOnly Departure.lateStores }], guard := none }) (v := ?v9a) rfl (by kernel_rfl) (by kernel_rfl) (by kernel_rfl) (fun _ _ _ h => h) (Or.inl ⟨by rfl, ?hy9a⟩) (by assumption) ?rest9a
    case hy9a =>
      intro w hSw
      try dsimp only at hSw
      go_simp
      try with_reducible rfl
    try simp only [Act.put, List.setIfInBounds_toArray, List.set_cons_zero, List.set_cons_succ]
    refine wpAnyH_take (i := 10) (oi := { dst := some 31, op := Op.load 44 (Operand.tmp 30), type := 44, pos := "ref.go:50", after := #[{ on := 9, ground := Ground.data }, { on := 11, ground := Ground.gcOnly Departure.lateStores }], guard := none }) (v := .agg #[.int .i64 qp, .int .i64 qo, .int .i64 ql]) rfl (by kernel_rfl) (by kernel_rfl) (by kernel_rfl) (fun _ _ _ h => h) (Or.inl ⟨by rfl, ?hy10⟩) (by assumption) ?rest10
    case hy10 =>
      intro wq hSw
      have q1 := (hSw.cell (p := ⟨g, k * 4 + 1, none⟩) hg).trans c1
      have q2 := (hSw.cell (p := ⟨g, k * 4 + 2, none⟩) hg).trans c2
      have q3 := (hSw.cell (p := ⟨g, k * 4 + 3, none⟩) hg).trans c3
      clear hHeld
      go_simp
    try simp only [Act.put, List.setIfInBounds_toArray, List.set_cons_zero, List.set_cons_succ]
    refine wpAnyH_ready (rs := [5]) (by kernel_rfl) (by simp) ?_
    refine AllReadyH.cons (o := { dst := some 26, op := Op.call { callee := Callee.builtin Builtin.append, args := #[Operand.tmp 21, Operand.tmp 25], argTypes := #[37, 37] }, type := 37, pos := "ref.go:50", after := #[{ on := 0, ground := Ground.data }, { on := 4, ground := Ground.data }], guard := none }) rfl (fun KK9 hK9 => ?_) ?more5
    case more5 => exact AllReadyH.nil
    refine step_append_H rfl (.tmp 21) (.tmp 25) rfl (w.heap.size + 1) (by simp [Act.eval]) ownD (by simp [Act.eval]) (HSR.out.later hXD) (rowD_one _) (by omega) hsD ?_
    intro v3 w3 own2 gr2
    have hX3 := hXD.grown gr2 (by omega) (fun i hi => by have := (ownD.lt i hi).1; omega)
    have hr3 := (gr2.block w.heap.size hsD (fun e => by have := (ownD.lt _ e.symm).1; omega)).trans hxD
    refine hK9.out _ _ hX3 (fun hHeld => ?_)
    clear hK9 KK9
    try simp only [Act.put, List.setIfInBounds_toArray, List.set_cons_zero, List.set_cons_succ]
    refine wpAnyH_take (i := 11) (oi := { dst := some 4, op := Op.assign (Operand.tmp 26), type := 37, pos := "ref.go:50", after := #[{ on := 5, ground := Ground.data }, { on := 5, ground := Ground.chain }, { on := 0, ground := Ground.phase }, { on := 1, ground := Ground.phase }, { on := 2, ground := Ground.phase }, { on := 3, ground := Ground.phase }, { on := 4, ground := Ground.phase }, { on := 5, ground := Ground.phase }, { on := 6, ground := Ground.textOnly Departure.lateStores }, { on := 7, ground := Ground.textOnly Departure.lateStores }, { on := 8, ground := Ground.textOnly Departure.lateStores }, { on := 9, ground := Ground.textOnly Departure.lateStores }, { on := 10, ground := Ground.textOnly Departure.lateStores }], guard := none }) (v := ?v11b) rfl (by kernel_rfl) (by kernel_rfl) (by kernel_rfl) (fun _ _ _ h => h) (Or.inl ⟨by rfl, ?hy11b⟩) (by assumption) ?rest11b
    case hy11b =>
      intro w hSw
      try dsimp only at hSw
      go_simp
      try with_reducible rfl
    try simp only [Act.put, List.setIfInBounds_toArray, List.set_cons_zero, List.set_cons_succ]
    obtain ⟨y0, y1, y2⟩ := cells_three hr3
    have f0 := free_three (n := 0) hr3
    have f1 := free_three (n := 1) hr3
    have f2 := free_three (n := 2) hr3
    refine wpAnyH_ready (rs := [12]) (by kernel_rfl) (by simp) ?_
    refine AllReadyH.cons (o := { dst := none, op := Op.store 44 (Operand.tmp 5) (Operand.tmp 31), type := 0, pos := "ref.go:50", after := #[{ on := 10, ground := Ground.data }, { on := 11, ground := Ground.chain }, { on := 0, ground := Ground.phase }, { on := 1, ground := Ground.phase }, { on := 2, ground := Ground.phase }, { on := 3, ground := Ground.phase }, { on := 4, ground := Ground.phase }, { on := 5, ground := Ground.phase }, { on := 6, ground := Ground.phase }, { on := 7, ground := Ground.phase }, { on := 8, ground := Ground.phase }, { on := 9, ground := Ground.phase }, { on := 10, ground := Ground.phase }, { on := 11, ground := Ground.phase }], guard := none }) rfl (fun KK9 hK9 => ?_) ?more12
    case more12 => exact AllReadyH.nil
    go_simp
    have hX4 := res3_below (u0 := .int .i64 qp) (u1 := .int .i64 qo) (u2 := .int .i64 ql) hX3 (Nat.le_refl _)
    refine hK9.out _ _ hX4 (fun hHeld => ?_)
    clear hK9 KK9
    try simp only [Act.put, List.setIfInBounds_toArray, List.set_cons_zero, List.set_cons_succ]
    refine wpAnyH_take (i := 13) (oi := { dst := some 6, op := Op.assign (Operand.const (Value.bool true)), type := 4, pos := "ref.go:50", after := #[{ on := 12, ground := Ground.chain }, { on := 0, ground := Ground.phase }, { on := 1, ground := Ground.phase }, { on := 2, ground := Ground.phase }, { on := 3, ground := Ground.phase }, { on := 4, ground := Ground.phase }, { on := 5, ground := Ground.phase }, { on := 6, ground := Ground.phase }, { on := 7, ground := Ground.phase }, { on := 8, ground := Ground.phase }, { on := 9, ground := Ground.phase }, { on := 10, ground := Ground.phase }, { on := 11, ground := Ground.phase }, { on := 12, ground := Ground.phase }], guard := none }) (v := ?v13b) rfl (by kernel_rfl) (by kernel_rfl) (by kernel_rfl) (fun _ _ _ h => h) (Or.inl ⟨by rfl, ?hy13b⟩) (by assumption) ?rest13b
    case hy13b =>
      intro w hSw
      try dsimp only at hSw
      go_simp
      try with_reducible rfl
    try simp only [Act.put, List.setIfInBounds_toArray, List.set_cons_zero, List.set_cons_succ]
    refine wpAnyH_done (by kernel_rfl) ?_ _
    have HF : Hid (DsAt (((w3.setCell ⟨w.heap.size, 0, none⟩ (.int .i64 qp)).setCell ⟨w.heap.size, 1, none⟩ (.int .i64 qo)).setCell ⟨w.heap.size, 2, none⟩ (.int .i64 ql)) base v3 (X.take k ++ X.drop (k + 1)) ∧ Below w.heap.size w (((w3.setCell ⟨w.heap.size, 0, none⟩ (.int .i64 qp)).setCell ⟨w.heap.size, 1, none⟩ (.int .i64 qo)).setCell ⟨w.heap.size, 2, none⟩ (.int .i64 ql))) := by
      refine ⟨?_, hX4⟩
      unfold DsAt
      rw [rowD_app, List.length_append, List.length_take, List.length_drop, HMX.out, show min k m = k by omega]
      exact rowMono (row_apart own2 (fun g hg => res3_block hg) (by omega)) (by omega)
    have hrf := res3_kept (u0 := .int .i64 qp) (u1 := .int .i64 qo) (u2 := .int .i64 ql) hr3
    clear hHeld own2 gr2 hX3 hX4
    go_wp2
    refine bodyPost_ret (results_tmp_cell_tmp Try.results23 _ _ w.heap.size _ _ _ _ rfl hrf Try.underlying44 rfl Try.sizeRp) rfl ?_
    exact ⟨v3, (k : Nat), HPL.out, .inr ⟨k, ⟨eh, ⟨qp, qo, ql⟩⟩, rfl, HX.out, rfl, HF.out.1⟩, HF.out.2⟩
  · have hno := hp.no (by omega)
    obtain rfl : x = -1 := hno.1
    have HK : Hid (Below w.heap.size w W1) := HB.out
    obtain ⟨z0, z1, z2⟩ := cells_three hx1
    have f0 := free_three (n := 0) hx1
    have f1 := free_three (n := 1) hx1
    have f2 := free_three (n := 2) hx1
    clear hp HAT hno hx hx1
    go_wp2
    have hb4 := res3_below (u0 := .int .i64 0) (u1 := .int .i64 0) (u2 := .int .i64 0) HK.out (Nat.le_refl _)
    refine bodyPost_ret (results_tmp_cell_tmp Try.results23 _ _ w.heap.size _ _ _ _ rfl (res3_kept HX1.out) Try.underlying44 rfl Try.sizeRp) rfl ?_
    exact ⟨.slice none 0 0, _, HPL.out, .inl ⟨rfl, rfl⟩, hb4⟩
end Go.Proofs.Ytlnkelhhemgibaa
