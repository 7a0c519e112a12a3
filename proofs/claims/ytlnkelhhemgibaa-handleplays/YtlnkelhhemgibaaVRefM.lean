/- The walk of the document's Make. -/
import Derived.Test.YtlnkelhhemgibaaVRef
import Derived.Test.YtlnkelhhemgibaaVSet
import Derived.Test.YtlnkelhhemgibaaGCells
import Derived.Test.YtlnkelhhemgibaaGRange
namespace Go.Proofs.Ytlnkelhhemgibaa
open Go.RowKit

theorem Try.infoHd : (Try.prog.info? 65).map (fun i => (i.zero, i.size, i.bytes)) = some (some (.agg #[.int .i64 0, .int .i64 0, .int .i64 0, .int .i64 0]), 4, 32) := by kernel_rfl
theorem run_append_H (ty : TypeId) (w : World) (base : Nat) {v : Value} {n : Nat} {xs : List Value} (hown : w.ownsRow base 65 4 v n xs) {vx : Value} {m : Nat} {news : List Value} (hsrc : SrcAt w vx m 4 news) (h1 : ∀ u ∈ news, u.oneCell' = true) (hb : n + m ≤ 10000) (hbase : base ≤ w.heap.size) :
    ∃ v' w', (Builtin.append_ #[37, 37] ty #[v, vx]).run Try.prog w = .ok v' w' ∧ w'.ownsRow base 65 4 v' (n + m) (xs ++ news) ∧ w.grownBy w' v.ownBlock := by
  obtain ⟨i0, hi, hz0, hz1, hz2⟩ := info_parts Try.infoHd
  rcases hsrc with ⟨rfl, rfl, rfl⟩ | ⟨ad, c, rfl, h2, h3⟩
  · exact ⟨v, w, run_append_owned_none (P := Try.prog) (w := w) base 37 ty 65 i0 4 Try.underlying37 hi v n xs hown, by simpa using hown, World.grownBy.refl _ _⟩
  · obtain ⟨v', w', hrun, r1, r2, _⟩ := run_append_own (P := Try.prog) w base 37 ty 65 i0 _ 4 32 Try.underlying37 hi hz0 hz1 hz2 rfl (by decide) v n xs hown ad m c news h2 (fun j u hj => (h3 j u hj).2) h1 (by unfold maxLen; omega) (by omega) hbase
    exact ⟨v', w', hrun, r1, r2⟩
theorem step_append_H {ops : Array Oper} {o : Oper} {a : Act} {w : World} {K : Act → World → Prop} {Q : Exit → Act → World → Prop} {E : Prop}
    (hg : o.guard = none) (s x : Operand) (hop : o.op = Op.call { callee := Callee.builtin Builtin.append, args := #[s, x], argTypes := #[37, 37] }) (base : Nat) {v : Value} {n : Nat} {xs : List Value} (hs : a.eval s = v) (hown : w.ownsRow base 65 4 v n xs)
    {vx : Value} {m : Nat} {news : List Value} (hx : a.eval x = vx) (hsrc : SrcAt w vx m 4 news) (h1 : ∀ u ∈ news, u.oneCell' = true) (hb : n + m ≤ 10000) (hbase : base ≤ w.heap.size)
    (hK : ∀ v' w', w'.ownsRow base 65 4 v' (n + m) (xs ++ news) → w.grownBy w' v.ownBlock → K (a.put o.dst v') w') :
    if Region.wanted o (yielded ops a.tmps) = true then Oper.wp Try.prog o a w K Q else E := by
  have hw : Region.wanted o (yielded ops a.tmps) = true := by simp [Region.wanted, hg]
  rw [if_pos hw]
  obtain ⟨v', w', hrun, r1, r2⟩ := run_append_H o.type w base hown hsrc h1 hb hbase
  unfold Oper.wp
  simp [execOp, hop, resolve, invoke, builtin, hs, hx, hrun, Result.andThen]
  exact hK v' w' r1 r2
theorem hd_one (w : World) (x : Hd) : SrcAt (w.alloc (.cells x.cells.toArray 65)) (.slice (some ⟨w.heap.size, 0, none⟩) 1 1) 1 4 x.cells := by
  refine .inr ⟨⟨w.heap.size, 0, none⟩, 1, rfl, rfl, fun j u hj => ⟨by simp, ?_⟩⟩
  exact World.news_of_block (heap_alloc_new _ _) j u hj
theorem cells_hd (x : Hd) : ∀ u ∈ x.cells, u.oneCell' = true := by
  intro u hu
  simp only [Hd.cells, List.mem_cons, List.not_mem_nil, or_false] at hu
  rcases hu with rfl | rfl | rfl | rfl <;> rfl
theorem src_keeps {w w' : World} {g c n m : Nat} {news : List Value} {K : Nat → Prop} (h : SrcAt w (.slice (some ⟨g, 0, none⟩) n c) n m news) (hk : Keeps K w w') (hg : K g) : SrcAt w' (.slice (some ⟨g, 0, none⟩) n c) n m news := by
  rcases h with ⟨h, _⟩ | ⟨ad, c', h1, h2, h3⟩
  · simp at h
  · simp only [Value.slice.injEq, Option.some.injEq, true_and] at h1
    obtain ⟨rfl, rfl⟩ := h1
    refine .inr ⟨_, _, rfl, h2, fun j u hj => ?_⟩
    obtain ⟨h4, h5⟩ := h3 j u hj
    rw [add_lit'] at h5 ⊢
    exact ⟨Nat.lt_of_lt_of_le h4 hk.size, (hk.cell (p := ⟨g, 0 + j, none⟩) h4 hg).trans h5⟩
set_option maxHeartbeats 400000 in
theorem refMake_bad {v : Value} (p o l : Int) (w : World) (hm : mayP ⟨p, o, l⟩ = false) :
    Calls Try.prog 22 #[v, .agg #[.int .i64 p, .int .i64 o, .int .i64 l]] w fun e w' => e = .returned (.tuple #[v, .int .i64 0, .int .i64 1]) ∧ Below w.heap.size w w' := by
  obtain ⟨W1, hW1⟩ : ∃ W1, W1 = w.alloc (.cells #[.int .i64 p, .int .i64 o, .int .i64 l] 44) := ⟨_, rfl⟩
  have hb1 : Below w.heap.size w W1 := by rw [hW1]; exact (Below.refl _ w).alloc (Nat.le_refl _) _
  have hx1 : W1.heap[w.heap.size]? = some (.cells #[.int .i64 p, .int .i64 o, .int .i64 l] 44 (0, 0)) := by rw [hW1]; exact heap_alloc_new w _
  have HB : Hid (Below w.heap.size w W1) := hb1
  have HX : Hid (W1.heap[w.heap.size]? = some (.cells #[.int .i64 p, .int .i64 o, .int .i64 l] 44 (0, 0))) := hx1
  obtain ⟨z0, z1, z2⟩ := cells_three hx1
  have HM : Hid _ := refMay_is W1 hm
  rw [hW1] at z0 z1 z2
  clear hx1 hm
  clear hb1
  go_enter Try.func22, Try.ntmps22
  go_wp2_with fail
  rw [← hW1]
  clear hW1
  refine Calls.mono HM.out ?_
  rintro e W2 ⟨rfl, b2⟩
  have HB2 : Hid (Below w.heap.size w W2) := HB.out.trans (b2.mono HB.out.size)
  clear b2 HM
  go_wp2
  go_ret3
  exact ⟨rfl, HB2.out⟩
set_option maxRecDepth 100000 in
set_option maxHeartbeats 1000000 in
theorem refMake_any {base : Nat} {v : Value} {X : List Hd} (p o l : Int) (w : World) (h : DsAt w base v X) (hm : mayP ⟨p, o, l⟩ = true) (hL : X.length ≤ 500) (hbase : base ≤ w.heap.size) :
    Calls Try.prog 22 #[v, .agg #[.int .i64 p, .int .i64 o, .int .i64 l]] w fun e w' => ∃ (v' : Value) (n : Nat), e = .returned (.tuple #[v', .int .i64 (n : Nat), .int .i64 0]) ∧ FirstD X n ∧ DsAt w' base v' (X ++ [⟨(n : Nat), ⟨p, o, l⟩⟩]) ∧ Below w.heap.size w w' := by
  obtain ⟨W1, hW1⟩ : ∃ W1, W1 = w.alloc (.cells #[.int .i64 p, .int .i64 o, .int .i64 l] 44) := ⟨_, rfl⟩
  have hb1 : Below w.heap.size w W1 := by rw [hW1]; exact (Below.refl _ w).alloc (Nat.le_refl _) _
  have hx1 : W1.heap[w.heap.size]? = some (.cells #[.int .i64 p, .int .i64 o, .int .i64 l] 44 (0, 0)) := by rw [hW1]; exact heap_alloc_new w _
  have HB : Hid (Below w.heap.size w W1) := hb1
  have HX : Hid (W1.heap[w.heap.size]? = some (.cells #[.int .i64 p, .int .i64 o, .int .i64 l] 44 (0, 0))) := hx1
  obtain ⟨z0, z1, z2⟩ := cells_three hx1
  have HM : Hid _ := refMay_is W1 hm
  rw [hW1] at z0 z1 z2
  clear hx1 hm
  obtain ⟨a, c, rfl⟩ := row_slice h
  obtain ⟨m, hmm⟩ : ∃ m, X.length = m := ⟨_, rfl⟩
  have HM2 : Hid (X.length = m) := hmm
  have HD : Hid (DsAt w base (.slice a X.length c) X) := h
  rw [hmm] at hL ⊢
  clear h hb1
  go_enter Try.func22, Try.ntmps22
  go_wp2_with fail
  rw [← hW1]
  clear hW1 z0 z1 z2
  refine Calls.mono HM.out ?_
  rintro e W2 ⟨rfl, b2⟩
  have HB2 : Hid (Below w.heap.size w W2) := HB.out.trans (b2.mono HB.out.size)
  have hx2 := (b2.block _ (Array.getElem?_eq_some_iff.1 HX.out).1).trans HX.out
  have hs2 := (Array.getElem?_eq_some_iff.1 hx2).1
  obtain ⟨c0, c1, c2⟩ := cells_three hx2
  have HD2 : Hid (DsAt W2 base (.slice a X.length c) X) := HD.out.below HB2.out
  clear b2 hx2 HM HX HB HD
  go_wp2_with fail
  go_loopg [7] (m + 1) (fun gk i wr => ∃ k : Nat, 1 ≤ k ∧ k ≤ m + 1 ∧ gk = m + 2 - k ∧ i = .int .i64 k ∧ W2 = wr ∧ ∀ j : Nat, 1 ≤ j → j < k → hasD X j = true)
  case atStart => exact ⟨1, by omega, by omega, rfl, rfl, rfl, fun j h1 h2 => by omega⟩
  case round =>
    obtain ⟨k, hk1, hk, rfl, rfl, rfl, hless⟩ := hrel
    have HLE : Hid (∀ j : Nat, 1 ≤ j → j < k → hasD X j = true) := hless
    have HAT := refAt_any (k : Nat) W2 HD2.out (by omega)
    rw [hmm] at HAT
    have HAT : Hid _ := HAT
    clear hless
    go_wp2_with fail
    refine Calls.mono HAT.out ?_
    rintro e w1 ⟨x, rfl, rfl, hp⟩
    by_cases hx : 0 ≤ x
    · obtain ⟨i, e, rfl, hi, hin⟩ := hp.yes hx
      have HL2 : Hid (∀ j : Nat, 1 ≤ j → j < k + 1 → hasD X j = true) := by
        intro j h1 h2
        by_cases hj : j = k
        · subst hj
          exact hasD_iff.2 ⟨e, List.mem_of_getElem? hi, hin⟩
        · exact HLE.out j h1 (by omega)
      have hk2 : k + 1 ≤ m + 1 := by rw [← HM2.out]; exact upto_len HL2.out
      clear hp hi hin hx HAT
      go_wp2
      go_roundg (m + 2 - (k + 1))
      case measure => omega
      case rel => exact ⟨k + 1, by omega, hk2, rfl, by go_num, rfl, HL2.out⟩
    · obtain ⟨rfl, hno⟩ := hp.no (by omega)
      have HFD : Hid (FirstD X k) := ⟨hk1, hno, HLE.out⟩
      obtain ⟨n, hn⟩ : ∃ n : Int, (k : Int) = n := ⟨_, rfl⟩
      have HNK : Hid ((k : Int) = n) := hn
      have hn5 : ¬ 512 < n := by omega
      have hsrc : SrcAt W2 (.slice a m c) m 4 (rowD X) := by rw [← hmm]; exact src_row HD2.out
      have HSR : Hid (SrcAt W2 (.slice a m c) m 4 (rowD X)) := hsrc
      have hX2 : Below W2.heap.size W2 W2.drew := drew_below _ _
      rw [hn]
      clear hp hno hx hn hsrc HAT HLE
      go_wp2_with fail
      refine wp_region_held_drew (S := fun w' => Below W2.heap.size W2 w') (by kernel_rfl) hX2 (fun hHeld => ?_)
      generalize W2.drew = Z0 at *
      refine wpAnyH_take (i := 1) (oi := { dst := some 22, op := Op.move (Operand.tmp 0), type := 37, pos := "ref.go:40", after := #[], guard := none }) (v := ?v1a) rfl (by kernel_rfl) (by kernel_rfl) (by kernel_rfl) (fun _ _ _ h => h) (Or.inl ⟨by rfl, ?hy1a⟩) (by assumption) ?rest1a
      case hy1a =>
        intro w hSw
        try dsimp only at hSw
        go_simp
        try with_reducible rfl
      try simp only [Act.put, List.setIfInBounds_toArray, List.set_cons_zero, List.set_cons_succ]
      refine wpAnyH_take (i := 3) (oi := { dst := some 24, op := Op.move (Operand.tmp 7), type := 3, pos := "ref.go:40", after := #[], guard := none }) (v := ?v3a) rfl (by kernel_rfl) (by kernel_rfl) (by kernel_rfl) (fun _ _ _ h => h) (Or.inl ⟨by rfl, ?hy3a⟩) (by assumption) ?rest3a
      case hy3a =>
        intro w hSw
        try dsimp only at hSw
        go_simp
        try with_reducible rfl
      try simp only [Act.put, List.setIfInBounds_toArray, List.set_cons_zero, List.set_cons_succ]
      refine wpAnyH_take (i := 4) (oi := { dst := some 25, op := Op.load 44 (Operand.tmp 3), type := 44, pos := "ref.go:40", after := #[], guard := none }) (v := .agg #[.int .i64 p, .int .i64 o, .int .i64 l]) rfl (by kernel_rfl) (by kernel_rfl) (by kernel_rfl) (fun _ _ _ h => h) (Or.inl ⟨by rfl, ?hy4⟩) (by assumption) ?rest4
      case hy4 =>
        intro wq hSw
        have q0 := (hSw.cell (p := ⟨w.heap.size, 0, none⟩) (by show w.heap.size < _; omega)).trans c0
        have q1 := (hSw.cell (p := ⟨w.heap.size, 1, none⟩) (by show w.heap.size < _; omega)).trans c1
        have q2 := (hSw.cell (p := ⟨w.heap.size, 2, none⟩) (by show w.heap.size < _; omega)).trans c2
        clear hHeld
        go_simp
      try simp only [Act.put, List.setIfInBounds_toArray, List.set_cons_zero, List.set_cons_succ]
      refine wpAnyH_take (i := 5) (oi := { dst := some 26, op := Op.build 65 #[(0, Operand.tmp 24), (1, Operand.tmp 25)], type := 65, pos := "ref.go:40", after := #[{ on := 3, ground := Ground.data }, { on := 4, ground := Ground.data }], guard := none }) (v := .agg #[.int .i64 n, .int .i64 p, .int .i64 o, .int .i64 l]) rfl (by kernel_rfl) (by kernel_rfl) (by kernel_rfl) (fun _ _ _ h => h) (Or.inl ⟨by rfl, ?hy5⟩) (by assumption) ?rest5
      case hy5 =>
        intro wq hSw
        clear hHeld
        go_simp
      try simp only [Act.put, List.setIfInBounds_toArray, List.set_cons_zero, List.set_cons_succ]
      refine wpAnyH_take (i := 8) (oi := { dst := some 29, op := Op.move (Operand.tmp 7), type := 3, pos := "ref.go:40", after := #[{ on := 9, ground := Ground.gcOnly Departure.lateStores }], guard := none }) (v := ?v8a) rfl (by kernel_rfl) (by kernel_rfl) (by kernel_rfl) (fun _ _ _ h => h) (Or.inl ⟨by rfl, ?hy8a⟩) (by assumption) ?rest8a
      case hy8a =>
        intro w hSw
        try dsimp only at hSw
        go_simp
        try with_reducible rfl
      try simp only [Act.put, List.setIfInBounds_toArray, List.set_cons_zero, List.set_cons_succ]
      have own0 : ∀ Y : World, W2.heap.size ≤ Y.heap.size → (Y.alloc (.cells #[] 65)).ownsRow W2.heap.size 65 4 (.slice (some ⟨Y.heap.size, 0, none⟩) 0 0) 0 [] := fun Y hY => World.ownsRow_made Y #[] 0 hY (by unfold maxLen; omega) rfl
      have bz : ∀ {Y : World} (o : Obj), Below W2.heap.size W2 Y → Below W2.heap.size W2 (Y.alloc o) := fun o hY => hY.alloc hY.size o
      refine wpAnyH_ready (rs := [0, 6]) (by kernel_rfl) (by simp) ?_
      refine AllReadyH.cons (o := { dst := some 21, op := Op.buildSlice 37 0 #[], type := 37, pos := "ref.go:40", after := #[], guard := none }) rfl (fun KK9 hK9 => ?_) ?four
      · go_simp
        have hX1 := bz (.cells #[] 65) hX2
        have hown1 := own0 Z0 hX2.size
        refine hK9.out _ _ hX1 (fun hHeld => ?_)
        clear hK9 KK9
        try simp only [Act.put, List.setIfInBounds_toArray, List.set_cons_zero, List.set_cons_succ]
        have hszX : (Z0.alloc (.cells #[] 65)).heap.size = Z0.heap.size + 1 := by simp
        generalize Z0.alloc (.cells #[] 65) = Y at *
        refine wpAnyH_ready (rs := [2, 6]) (by kernel_rfl) (by simp) ?_
        refine AllReadyH.cons (o := { dst := some 23, op := Op.call { callee := Callee.builtin Builtin.append, args := #[Operand.tmp 21, Operand.tmp 22], argTypes := #[37, 37] }, type := 37, pos := "ref.go:40", after := #[{ on := 0, ground := Ground.data }, { on := 1, ground := Ground.data }], guard := none }) rfl (fun KK9 hK9 => ?_) ?fourb
        · refine step_append_H rfl (.tmp 21) (.tmp 22) rfl W2.heap.size (by simp [Act.eval]) hown1 (by simp [Act.eval]) (HSR.out.later hX1) (rowD_one _) (by omega) hX1.size ?_
          intro v3 w3 own2 gr2
          have hX3 := hX1.grown gr2 hX1.size (fun i hi => (hown1.lt i hi).1)
          refine hK9.out _ _ hX3 (fun hHeld => ?_)
          clear hK9 KK9
          try simp only [Act.put, List.setIfInBounds_toArray, List.set_cons_zero, List.set_cons_succ]
          refine wpAnyH_ready (rs := [6]) (by kernel_rfl) (by simp) ?_
          refine AllReadyH.cons (o := { dst := some 27, op := Op.buildSlice 37 1 #[(0, Operand.tmp 26)], type := 37, pos := "ref.go:40", after := #[{ on := 5, ground := Ground.data }], guard := none }) rfl (fun KK9 hK9 => ?_) ?m
          case m => exact AllReadyH.nil
          go_simp
          have hX4 := bz (.cells #[.int .i64 n, .int .i64 p, .int .i64 o, .int .i64 l] 65) hX3
          refine hK9.out _ _ hX4 (fun hHeld => ?_)
          clear hK9 KK9
          try simp only [Act.put, List.setIfInBounds_toArray, List.set_cons_zero, List.set_cons_succ]
          refine wpAnyH_ready (rs := [7]) (by kernel_rfl) (by simp) ?_
          refine AllReadyH.cons (o := { dst := some 28, op := Op.call { callee := Callee.builtin Builtin.append, args := #[Operand.tmp 23, Operand.tmp 27], argTypes := #[37, 37] }, type := 37, pos := "ref.go:40", after := #[{ on := 2, ground := Ground.data }, { on := 6, ground := Ground.data }, { on := 2, ground := Ground.chain }], guard := none }) rfl (fun KK9 hK9 => ?_) ?moreDa
          case moreDa => exact AllReadyH.nil
          refine step_append_H rfl (.tmp 23) (.tmp 27) rfl W2.heap.size (by simp [Act.eval]) (own2.alloc (.cells #[.int .i64 n, .int .i64 p, .int .i64 o, .int .i64 l] 65)) (by simp [Act.eval]) (hd_one w3 ⟨n, ⟨p, o, l⟩⟩) (cells_hd ⟨n, ⟨p, o, l⟩⟩) (by omega) hX4.size ?_
          intro v5 w5 own5 gr5
          have hb5 := hX4.grown gr5 hX4.size (fun i hi => ((own2.alloc (.cells #[.int .i64 n, .int .i64 p, .int .i64 o, .int .i64 l] 65)).lt i hi).1)
          refine hK9.out _ _ hb5 (fun hHeld => ?_)
          clear hK9 KK9
          try simp only [Act.put, List.setIfInBounds_toArray, List.set_cons_zero, List.set_cons_succ]
          refine wpAnyH_take (i := 9) (oi := { dst := some 4, op := Op.assign (Operand.tmp 28), type := 37, pos := "ref.go:40", after := #[{ on := 7, ground := Ground.data }, { on := 7, ground := Ground.chain }, { on := 0, ground := Ground.phase }, { on := 1, ground := Ground.phase }, { on := 2, ground := Ground.phase }, { on := 3, ground := Ground.phase }, { on := 4, ground := Ground.phase }, { on := 5, ground := Ground.phase }, { on := 6, ground := Ground.phase }, { on := 7, ground := Ground.phase }, { on := 8, ground := Ground.textOnly Departure.lateStores }], guard := none }) (v := ?v9a) rfl (by kernel_rfl) (by kernel_rfl) (by kernel_rfl) (fun _ _ _ h => h) (Or.inl ⟨by rfl, ?hy9a⟩) (by assumption) ?rest9a
          case hy9a =>
            intro w hSw
            try dsimp only at hSw
            go_simp
            try with_reducible rfl
          try simp only [Act.put, List.setIfInBounds_toArray, List.set_cons_zero, List.set_cons_succ]
          refine wpAnyH_take (i := 10) (oi := { dst := some 5, op := Op.assign (Operand.tmp 29), type := 3, pos := "ref.go:40", after := #[{ on := 8, ground := Ground.data }, { on := 9, ground := Ground.chain }, { on := 0, ground := Ground.phase }, { on := 1, ground := Ground.phase }, { on := 2, ground := Ground.phase }, { on := 3, ground := Ground.phase }, { on := 4, ground := Ground.phase }, { on := 5, ground := Ground.phase }, { on := 6, ground := Ground.phase }, { on := 7, ground := Ground.phase }, { on := 8, ground := Ground.phase }, { on := 9, ground := Ground.phase }], guard := none }) (v := ?v10a) rfl (by kernel_rfl) (by kernel_rfl) (by kernel_rfl) (fun _ _ _ h => h) (Or.inl ⟨by rfl, ?hy10a⟩) (by assumption) ?rest10a
          case hy10a =>
            intro w hSw
            try dsimp only at hSw
            go_simp
            try with_reducible rfl
          try simp only [Act.put, List.setIfInBounds_toArray, List.set_cons_zero, List.set_cons_succ]
          refine wpAnyH_take (i := 11) (oi := { dst := some 6, op := Op.assign (Operand.const (Value.int IntKind.i64 0)), type := 3, pos := "ref.go:40", after := #[{ on := 10, ground := Ground.chain }, { on := 0, ground := Ground.phase }, { on := 1, ground := Ground.phase }, { on := 2, ground := Ground.phase }, { on := 3, ground := Ground.phase }, { on := 4, ground := Ground.phase }, { on := 5, ground := Ground.phase }, { on := 6, ground := Ground.phase }, { on := 7, ground := Ground.phase }, { on := 8, ground := Ground.phase }, { on := 9, ground := Ground.phase }, { on := 10, ground := Ground.phase }], guard := none }) (v := ?v11a) rfl (by kernel_rfl) (by kernel_rfl) (by kernel_rfl) (fun _ _ _ h => h) (Or.inl ⟨by rfl, ?hy11a⟩) (by assumption) ?rest11a
          case hy11a =>
            intro w hSw
            try dsimp only at hSw
            go_simp
            try with_reducible rfl
          try simp only [Act.put, List.setIfInBounds_toArray, List.set_cons_zero, List.set_cons_succ]
          refine wpAnyH_done (by kernel_rfl) ?_ _
          have HF : Hid (DsAt w5 base v5 (X ++ [⟨n, ⟨p, o, l⟩⟩]) ∧ Below w.heap.size w w5) := by
            refine ⟨?_, HB2.out.trans (hb5.mono (by have := HB2.out.size; omega))⟩
            unfold DsAt
            have e1 : (X ++ [(⟨n, ⟨p, o, l⟩⟩ : Hd)]).length = 0 + m + 1 := by rw [List.length_append, ← HM2.out]; simp
            have e2 : rowD (X ++ [(⟨n, ⟨p, o, l⟩⟩ : Hd)]) = [] ++ rowD X ++ Hd.cells ⟨n, ⟨p, o, l⟩⟩ := by rw [rowD_app]; simp [rowD]
            rw [e1, e2]
            exact rowMono own5 (by have := HB2.out.size; omega)
          clear own5 gr5 hHeld hb5
          go_wp2
          go_ret3
          refine ⟨v5, k, ?ret, HFD.out, ?row, HF.out.2⟩
          case ret =>
            rw [HNK.out]
            rfl
          case row =>
            rw [HNK.out]
            exact HF.out.1
        case fourb =>
          refine AllReadyH.cons (o := { dst := some 27, op := Op.buildSlice 37 1 #[(0, Operand.tmp 26)], type := 37, pos := "ref.go:40", after := #[{ on := 5, ground := Ground.data }], guard := none }) rfl (fun KK9 hK9 => ?_) ?m
          case m => exact AllReadyH.nil
          go_simp
          have hX4 := bz (.cells #[.int .i64 n, .int .i64 p, .int .i64 o, .int .i64 l] 65) hX1
          refine hK9.out _ _ hX4 (fun hHeld => ?_)
          clear hK9 KK9
          try simp only [Act.put, List.setIfInBounds_toArray, List.set_cons_zero, List.set_cons_succ]
          have hown4 := hown1.alloc (.cells #[.int .i64 n, .int .i64 p, .int .i64 o, .int .i64 l] 65)
          have hnew := hd_one Y ⟨n, ⟨p, o, l⟩⟩
          have hs4 : (Y.alloc (.cells (Hd.cells ⟨n, ⟨p, o, l⟩⟩).toArray 65)).heap.size = Y.heap.size + 1 := by simp
          have hsY := hX1.size
          refine wpAnyH_ready (rs := [2]) (by kernel_rfl) (by simp) ?_
          refine AllReadyH.cons (o := { dst := some 23, op := Op.call { callee := Callee.builtin Builtin.append, args := #[Operand.tmp 21, Operand.tmp 22], argTypes := #[37, 37] }, type := 37, pos := "ref.go:40", after := #[{ on := 0, ground := Ground.data }, { on := 1, ground := Ground.data }], guard := none }) rfl (fun KK9 hK9 => ?_) ?m
          case m => exact AllReadyH.nil
          refine step_append_H rfl (.tmp 21) (.tmp 22) rfl W2.heap.size (by simp [Act.eval]) hown4 (by simp [Act.eval]) (HSR.out.later hX4) (rowD_one _) (by omega) hX4.size ?_
          intro v3 w3 own2 gr2
          have hX3 := hX4.grown gr2 hX4.size (fun i hi => (hown4.lt i hi).1)
          refine hK9.out _ _ hX3 (fun hHeld => ?_)
          clear hK9 KK9
          try simp only [Act.put, List.setIfInBounds_toArray, List.set_cons_zero, List.set_cons_succ]
          have hk3 : Keeps (fun i => i ≠ Z0.heap.size) (Y.alloc (.cells (Hd.cells ⟨n, ⟨p, o, l⟩⟩).toArray 65)) w3 := keeps_grown gr2 (fun i hi h => h (by simpa [Value.ownBlock] using hi.symm))
          refine wpAnyH_ready (rs := [7]) (by kernel_rfl) (by simp) ?_
          refine AllReadyH.cons (o := { dst := some 28, op := Op.call { callee := Callee.builtin Builtin.append, args := #[Operand.tmp 23, Operand.tmp 27], argTypes := #[37, 37] }, type := 37, pos := "ref.go:40", after := #[{ on := 2, ground := Ground.data }, { on := 6, ground := Ground.data }, { on := 2, ground := Ground.chain }], guard := none }) rfl (fun KK9 hK9 => ?_) ?moreDb
          case moreDb => exact AllReadyH.nil
          refine step_append_H rfl (.tmp 23) (.tmp 27) rfl W2.heap.size (by simp [Act.eval]) own2 (by simp [Act.eval]) (src_keeps hnew hk3 (by omega)) (cells_hd ⟨n, ⟨p, o, l⟩⟩) (by omega) hX3.size ?_
          intro v5 w5 own5 gr5
          have hb5 := hX3.grown gr5 hX3.size (fun i hi => (own2.lt i hi).1)
          refine hK9.out _ _ hb5 (fun hHeld => ?_)
          clear hK9 KK9
          try simp only [Act.put, List.setIfInBounds_toArray, List.set_cons_zero, List.set_cons_succ]
          refine wpAnyH_take (i := 9) (oi := { dst := some 4, op := Op.assign (Operand.tmp 28), type := 37, pos := "ref.go:40", after := #[{ on := 7, ground := Ground.data }, { on := 7, ground := Ground.chain }, { on := 0, ground := Ground.phase }, { on := 1, ground := Ground.phase }, { on := 2, ground := Ground.phase }, { on := 3, ground := Ground.phase }, { on := 4, ground := Ground.phase }, { on := 5, ground := Ground.phase }, { on := 6, ground := Ground.phase }, { on := 7, ground := Ground.phase }, { on := 8, ground := Ground.textOnly Departure.lateStores }], guard := none }) (v := ?v9b) rfl (by kernel_rfl) (by kernel_rfl) (by kernel_rfl) (fun _ _ _ h => h) (Or.inl ⟨by rfl, ?hy9b⟩) (by assumption) ?rest9b
          case hy9b =>
            intro w hSw
            try dsimp only at hSw
            go_simp
            try with_reducible rfl
          try simp only [Act.put, List.setIfInBounds_toArray, List.set_cons_zero, List.set_cons_succ]
          refine wpAnyH_take (i := 10) (oi := { dst := some 5, op := Op.assign (Operand.tmp 29), type := 3, pos := "ref.go:40", after := #[{ on := 8, ground := Ground.data }, { on := 9, ground := Ground.chain }, { on := 0, ground := Ground.phase }, { on := 1, ground := Ground.phase }, { on := 2, ground := Ground.phase }, { on := 3, ground := Ground.phase }, { on := 4, ground := Ground.phase }, { on := 5, ground := Ground.phase }, { on := 6, ground := Ground.phase }, { on := 7, ground := Ground.phase }, { on := 8, ground := Ground.phase }, { on := 9, ground := Ground.phase }], guard := none }) (v := ?v10b) rfl (by kernel_rfl) (by kernel_rfl) (by kernel_rfl) (fun _ _ _ h => h) (Or.inl ⟨by rfl, ?hy10b⟩) (by assumption) ?rest10b
          case hy10b =>
            intro w hSw
            try dsimp only at hSw
            go_simp
            try with_reducible rfl
          try simp only [Act.put, List.setIfInBounds_toArray, List.set_cons_zero, List.set_cons_succ]
          refine wpAnyH_take (i := 11) (oi := { dst := some 6, op := Op.assign (Operand.const (Value.int IntKind.i64 0)), type := 3, pos := "ref.go:40", after := #[{ on := 10, ground := Ground.chain }, { on := 0, ground := Ground.phase }, { on := 1, ground := Ground.phase }, { on := 2, ground := Ground.phase }, { on := 3, ground := Ground.phase }, { on := 4, ground := Ground.phase }, { on := 5, ground := Ground.phase }, { on := 6, ground := Ground.phase }, { on := 7, ground := Ground.phase }, { on := 8, ground := Ground.phase }, { on := 9, ground := Ground.phase }, { on := 10, ground := Ground.phase }], guard := none }) (v := ?v11b) rfl (by kernel_rfl) (by kernel_rfl) (by kernel_rfl) (fun _ _ _ h => h) (Or.inl ⟨by rfl, ?hy11b⟩) (by assumption) ?rest11b
          case hy11b =>
            intro w hSw
            try dsimp only at hSw
            go_simp
            try with_reducible rfl
          try simp only [Act.put, List.setIfInBounds_toArray, List.set_cons_zero, List.set_cons_succ]
          refine wpAnyH_done (by kernel_rfl) ?_ _
          have HF : Hid (DsAt w5 base v5 (X ++ [⟨n, ⟨p, o, l⟩⟩]) ∧ Below w.heap.size w w5) := by
            refine ⟨?_, HB2.out.trans (hb5.mono (by have := HB2.out.size; omega))⟩
            unfold DsAt
            have e1 : (X ++ [(⟨n, ⟨p, o, l⟩⟩ : Hd)]).length = 0 + m + 1 := by rw [List.length_append, ← HM2.out]; simp
            have e2 : rowD (X ++ [(⟨n, ⟨p, o, l⟩⟩ : Hd)]) = [] ++ rowD X ++ Hd.cells ⟨n, ⟨p, o, l⟩⟩ := by rw [rowD_app]; simp [rowD]
            rw [e1, e2]
            exact rowMono own5 (by have := HB2.out.size; omega)
          clear own5 gr5 hHeld hb5
          go_wp2
          go_ret3
          refine ⟨v5, k, ?ret, HFD.out, ?row, HF.out.2⟩
          case ret =>
            rw [HNK.out]
            rfl
          case row =>
            rw [HNK.out]
            exact HF.out.1
      case four =>
        refine AllReadyH.cons (o := { dst := some 27, op := Op.buildSlice 37 1 #[(0, Operand.tmp 26)], type := 37, pos := "ref.go:40", after := #[{ on := 5, ground := Ground.data }], guard := none }) rfl (fun KK9 hK9 => ?_) ?m
        case m => exact AllReadyH.nil
        go_simp
        have hX4 := bz (.cells #[.int .i64 n, .int .i64 p, .int .i64 o, .int .i64 l] 65) hX2
        refine hK9.out _ _ hX4 (fun hHeld => ?_)
        clear hK9 KK9
        try simp only [Act.put, List.setIfInBounds_toArray, List.set_cons_zero, List.set_cons_succ]
        have hnew := hd_one Z0 ⟨n, ⟨p, o, l⟩⟩
        have hs4 : (Z0.alloc (.cells (Hd.cells ⟨n, ⟨p, o, l⟩⟩).toArray 65)).heap.size = Z0.heap.size + 1 := by simp
        refine wpAnyH_ready (rs := [0]) (by kernel_rfl) (by simp) ?_
        refine AllReadyH.cons (o := { dst := some 21, op := Op.buildSlice 37 0 #[], type := 37, pos := "ref.go:40", after := #[], guard := none }) rfl (fun KK9 hK9 => ?_) ?m
        case m => exact AllReadyH.nil
        have hnew2 : SrcAt (Z0.alloc (.cells #[.int .i64 n, .int .i64 p, .int .i64 o, .int .i64 l] 65)) (.slice (some ⟨Z0.heap.size, 0, none⟩) 1 1) 1 4 (Hd.cells ⟨n, ⟨p, o, l⟩⟩) := hnew
        have hs5 : (Z0.alloc (.cells #[.int .i64 n, .int .i64 p, .int .i64 o, .int .i64 l] 65)).heap.size = Z0.heap.size + 1 := by simp
        clear hnew hs4
        generalize Z0.alloc (.cells #[.int .i64 n, .int .i64 p, .int .i64 o, .int .i64 l] 65) = Y at *
        go_simp
        have hX1 := bz (.cells #[] 65) hX4
        have hown1 := own0 Y hX4.size
        refine hK9.out _ _ hX1 (fun hHeld => ?_)
        clear hK9 KK9
        try simp only [Act.put, List.setIfInBounds_toArray, List.set_cons_zero, List.set_cons_succ]
        have hnew3 := hnew2.later ((Below.refl _ Y).alloc (Nat.le_refl _) (.cells #[] 65))
        have hs6 : (Y.alloc (.cells #[] 65)).heap.size = Y.heap.size + 1 := by simp
        clear hnew2
        generalize Y.alloc (.cells #[] 65) = Z at *
        refine wpAnyH_ready (rs := [2]) (by kernel_rfl) (by simp) ?_
        refine AllReadyH.cons (o := { dst := some 23, op := Op.call { callee := Callee.builtin Builtin.append, args := #[Operand.tmp 21, Operand.tmp 22], argTypes := #[37, 37] }, type := 37, pos := "ref.go:40", after := #[{ on := 0, ground := Ground.data }, { on := 1, ground := Ground.data }], guard := none }) rfl (fun KK9 hK9 => ?_) ?m
        case m => exact AllReadyH.nil
        refine step_append_H rfl (.tmp 21) (.tmp 22) rfl W2.heap.size (by simp [Act.eval]) hown1 (by simp [Act.eval]) (HSR.out.later hX1) (rowD_one _) (by omega) hX1.size ?_
        intro v3 w3 own2 gr2
        have hX3 := hX1.grown gr2 hX1.size (fun i hi => (hown1.lt i hi).1)
        refine hK9.out _ _ hX3 (fun hHeld => ?_)
        clear hK9 KK9
        try simp only [Act.put, List.setIfInBounds_toArray, List.set_cons_zero, List.set_cons_succ]
        have hk3 : Keeps (fun i => i ≠ Y.heap.size) Z w3 := keeps_grown gr2 (fun i hi h => h (by simpa [Value.ownBlock] using hi.symm))
        refine wpAnyH_ready (rs := [7]) (by kernel_rfl) (by simp) ?_
        refine AllReadyH.cons (o := { dst := some 28, op := Op.call { callee := Callee.builtin Builtin.append, args := #[Operand.tmp 23, Operand.tmp 27], argTypes := #[37, 37] }, type := 37, pos := "ref.go:40", after := #[{ on := 2, ground := Ground.data }, { on := 6, ground := Ground.data }, { on := 2, ground := Ground.chain }], guard := none }) rfl (fun KK9 hK9 => ?_) ?moreDc
        case moreDc => exact AllReadyH.nil
        refine step_append_H rfl (.tmp 23) (.tmp 27) rfl W2.heap.size (by simp [Act.eval]) own2 (by simp [Act.eval]) (src_keeps hnew3 hk3 (by omega)) (cells_hd ⟨n, ⟨p, o, l⟩⟩) (by omega) hX3.size ?_
        intro v5 w5 own5 gr5
        have hb5 := hX3.grown gr5 hX3.size (fun i hi => (own2.lt i hi).1)
        refine hK9.out _ _ hb5 (fun hHeld => ?_)
        clear hK9 KK9
        try simp only [Act.put, List.setIfInBounds_toArray, List.set_cons_zero, List.set_cons_succ]
        refine wpAnyH_take (i := 9) (oi := { dst := some 4, op := Op.assign (Operand.tmp 28), type := 37, pos := "ref.go:40", after := #[{ on := 7, ground := Ground.data }, { on := 7, ground := Ground.chain }, { on := 0, ground := Ground.phase }, { on := 1, ground := Ground.phase }, { on := 2, ground := Ground.phase }, { on := 3, ground := Ground.phase }, { on := 4, ground := Ground.phase }, { on := 5, ground := Ground.phase }, { on := 6, ground := Ground.phase }, { on := 7, ground := Ground.phase }, { on := 8, ground := Ground.textOnly Departure.lateStores }], guard := none }) (v := ?v9c) rfl (by kernel_rfl) (by kernel_rfl) (by kernel_rfl) (fun _ _ _ h => h) (Or.inl ⟨by rfl, ?hy9c⟩) (by assumption) ?rest9c
        case hy9c =>
          intro w hSw
          try dsimp only at hSw
          go_simp
          try with_reducible rfl
        try simp only [Act.put, List.setIfInBounds_toArray, List.set_cons_zero, List.set_cons_succ]
        refine wpAnyH_take (i := 10) (oi := { dst := some 5, op := Op.assign (Operand.tmp 29), type := 3, pos := "ref.go:40", after := #[{ on := 8, ground := Ground.data }, { on := 9, ground := Ground.chain }, { on := 0, ground := Ground.phase }, { on := 1, ground := Ground.phase }, { on := 2, ground := Ground.phase }, { on := 3, ground := Ground.phase }, { on := 4, ground := Ground.phase }, { on := 5, ground := Ground.phase }, { on := 6, ground := Ground.phase }, { on := 7, ground := Ground.phase }, { on := 8, ground := Ground.phase }, { on := 9, ground := Ground.phase }], guard := none }) (v := ?v10c) rfl (by kernel_rfl) (by kernel_rfl) (by kernel_rfl) (fun _ _ _ h => h) (Or.inl ⟨by rfl, ?hy10c⟩) (by assumption) ?rest10c
        case hy10c =>
          intro w hSw
          try dsimp only at hSw
          go_simp
          try with_reducible rfl
        try simp only [Act.put, List.setIfInBounds_toArray, List.set_cons_zero, List.set_cons_succ]
        refine wpAnyH_take (i := 11) (oi := { dst := some 6, op := Op.assign (Operand.const (Value.int IntKind.i64 0)), type := 3, pos := "ref.go:40", after := #[{ on := 10, ground := Ground.chain }, { on := 0, ground := Ground.phase }, { on := 1, ground := Ground.phase }, { on := 2, ground := Ground.phase }, { on := 3, ground := Ground.phase }, { on := 4, ground := Ground.phase }, { on := 5, ground := Ground.phase }, { on := 6, ground := Ground.phase }, { on := 7, ground := Ground.phase }, { on := 8, ground := Ground.phase }, { on := 9, ground := Ground.phase }, { on := 10, ground := Ground.phase }], guard := none }) (v := ?v11c) rfl (by kernel_rfl) (by kernel_rfl) (by kernel_rfl) (fun _ _ _ h => h) (Or.inl ⟨by rfl, ?hy11c⟩) (by assumption) ?rest11c
        case hy11c =>
          intro w hSw
          try dsimp only at hSw
          go_simp
          try with_reducible rfl
        try simp only [Act.put, List.setIfInBounds_toArray, List.set_cons_zero, List.set_cons_succ]
        refine wpAnyH_done (by kernel_rfl) ?_ _
        have HF : Hid (DsAt w5 base v5 (X ++ [⟨n, ⟨p, o, l⟩⟩]) ∧ Below w.heap.size w w5) := by
          refine ⟨?_, HB2.out.trans (hb5.mono (by have := HB2.out.size; omega))⟩
          unfold DsAt
          have e1 : (X ++ [(⟨n, ⟨p, o, l⟩⟩ : Hd)]).length = 0 + m + 1 := by rw [List.length_append, ← HM2.out]; simp
          have e2 : rowD (X ++ [(⟨n, ⟨p, o, l⟩⟩ : Hd)]) = [] ++ rowD X ++ Hd.cells ⟨n, ⟨p, o, l⟩⟩ := by rw [rowD_app]; simp [rowD]
          rw [e1, e2]
          exact rowMono own5 (by have := HB2.out.size; omega)
        clear own5 gr5 hHeld hb5
        go_wp2
        go_ret3
        refine ⟨v5, k, ?ret, HFD.out, ?row, HF.out.2⟩
        case ret =>
          rw [HNK.out]
          rfl
        case row =>
          rw [HNK.out]
          exact HF.out.1
end Go.Proofs.Ytlnkelhhemgibaa
