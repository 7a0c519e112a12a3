/- The walk of the document's Put. -/
import Derived.Test.YthjacjckobkhmaaURefD
import Derived.Test.YthjacjckobkhmaaUBook
import Derived.Test.YthjacjckobkhmaaGRange
namespace Go.Proofs.Ythjacjckobkhmaa
open Go.RowKit

theorem src_keeps {w w' : World} {g c n m : Nat} {news : List Value} {K : Nat → Prop} (h : SrcAt w (.slice (some ⟨g, 0, none⟩) n c) n m news) (hk : Keeps K w w') (hg : K g) : SrcAt w' (.slice (some ⟨g, 0, none⟩) n c) n m news := by
  rcases h with ⟨h, _⟩ | ⟨ad, c', h1, h2, h3⟩
  · simp at h
  · simp only [Value.slice.injEq, Option.some.injEq, true_and] at h1
    obtain ⟨rfl, rfl⟩ := h1
    refine .inr ⟨_, _, rfl, h2, fun j u hj => ?_⟩
    obtain ⟨h4, h5⟩ := h3 j u hj
    rw [add_lit'] at h5 ⊢
    exact ⟨Nat.lt_of_lt_of_le h4 hk.size, (hk.cell (p := ⟨g, 0 + j, none⟩) h4 hg).trans h5⟩
theorem cells_three {w : World} {g : Nat} {u0 u1 u2 : Value} {t : TypeId} (h : w.heap[g]? = some (.cells #[u0, u1, u2] t (0, 0))) : w.cell? ⟨g, 0, none⟩ = some u0 ∧ w.cell? ⟨g, 1, none⟩ = some u1 ∧ w.cell? ⟨g, 2, none⟩ = some u2 := by
  refine ⟨?_, ?_, ?_⟩ <;> simp [World.cell?, h]
set_option maxHeartbeats 1000000 in
theorem refPut_any {base : Nat} {v : Value} {L : List Gh} (n u m : Int) (w : World) (h : HsAt w base v L) (hG : Gok L) (hL : L.length ≤ 1000) (hbase : base ≤ w.heap.size) :
    Calls Try.prog 18 #[v, .agg #[.int .i64 n, .int .i64 u, .int .i64 m]] w fun e w' => ∃ v', e = .returned (.tuple #[v', .bool (okG ⟨n, u, m⟩)]) ∧ HsAt w' base v' (putR L ⟨n, u, m⟩) ∧ Below w.heap.size w w' := by
  obtain ⟨W1, hW1⟩ : ∃ W1, W1 = w.alloc (.cells #[.int .i64 n, .int .i64 u, .int .i64 m] 37) := ⟨_, rfl⟩
  have hb1 : Below w.heap.size w W1 := by rw [hW1]; exact (Below.refl _ w).alloc (Nat.le_refl _) _
  have hx1 : W1.heap[w.heap.size]? = some (.cells #[.int .i64 n, .int .i64 u, .int .i64 m] 37 (0, 0)) := by rw [hW1]; exact heap_alloc_new w _
  have hc := cells_three hx1
  rw [hW1] at hc
  obtain ⟨c0, c1, c2⟩ := hc
  obtain ⟨a, c, rfl⟩ := row_slice h
  obtain ⟨v, hv⟩ : ∃ v, Value.slice a L.length c = v := ⟨_, rfl⟩
  by_cases h1 : n < 0
  · rw [hv] at h
    rw [hv]
    have H : Hid _ := okG_no (x := ⟨n, u, m⟩) (by simp only; omega) L
    have HB : Hid (HsAt W1 base v L) := h.below hb1
    have HBB : Hid (Below w.heap.size w W1) := hb1
    clear h hG hb1
    go_enter Try.func18, Try.ntmps18
    go_wp2
    rw [← hW1]
    go_ret2
    exact ⟨_, by rw [H.out.1]; rfl, by rw [H.out.2]; exact HB.out, HBB.out⟩
  · by_cases h2 : 4095 < n
    · rw [hv] at h
      rw [hv]
      have H : Hid _ := okG_no (x := ⟨n, u, m⟩) (by simp only; omega) L
      have HB : Hid (HsAt W1 base v L) := h.below hb1
      have HBB : Hid (Below w.heap.size w W1) := hb1
      clear h hG hb1
      go_enter Try.func18, Try.ntmps18
      go_wp2
      rw [← hW1]
      go_ret2
      exact ⟨_, by rw [H.out.1]; rfl, by rw [H.out.2]; exact HB.out, HBB.out⟩
    · by_cases h3 : u < 0
      · rw [hv] at h
        rw [hv]
        have H : Hid _ := okG_no (x := ⟨n, u, m⟩) (by simp only; omega) L
        have HB : Hid (HsAt W1 base v L) := h.below hb1
        have HBB : Hid (Below w.heap.size w W1) := hb1
        clear h hG hb1
        go_enter Try.func18, Try.ntmps18
        go_wp2
        rw [← hW1]
        go_ret2
        exact ⟨_, by rw [H.out.1]; rfl, by rw [H.out.2]; exact HB.out, HBB.out⟩
      · by_cases h4 : m < u
        · rw [hv] at h
          rw [hv]
          have H : Hid _ := okG_no (x := ⟨n, u, m⟩) (by simp only; omega) L
          have HB : Hid (HsAt W1 base v L) := h.below hb1
          have HBB : Hid (Below w.heap.size w W1) := hb1
          clear h hG hb1
          go_enter Try.func18, Try.ntmps18
          go_wp2
          rw [← hW1]
          go_ret2
          exact ⟨_, by rw [H.out.1]; rfl, by rw [H.out.2]; exact HB.out, HBB.out⟩
        · rw [hv] at h
          rw [hv]
          have H : Hid _ := okG_yes (x := ⟨n, u, m⟩) (by simp only; omega) L
          have HDR : Hid _ := refDrop_any n W1 (h.below hb1) hG hL (Nat.le_trans hbase hb1.size)
          have hs1 : W1.heap.size = w.heap.size + 1 := by rw [hW1]; simp
          have HB1 : Hid (Below w.heap.size w W1) := hb1
          clear h hG hb1 hv
          go_enter Try.func18, Try.ntmps18
          go_wp2_with fail
          rw [← hW1]
          clear hW1 c0 c1 c2
          refine Calls.mono HDR.out ?_
          rintro e W2 ⟨v2, rfl, hh2, b2⟩
          have hx2 := (b2.block _ (by omega)).trans hx1
          obtain ⟨c0, c1, c2⟩ := cells_three hx2
          have hs2 := b2.size
          have HB2 : Hid (Below w.heap.size w W2) := HB1.out.trans (b2.mono (by omega))
          obtain ⟨k2, hk2⟩ : ∃ k2, (delG L n).length = k2 := ⟨_, rfl⟩
          have hk3 : k2 ≤ 1000 := by have := delG_len L n; omega
          have HK2 : Hid ((delG L n).length = k2) := hk2
          have hsrc : SrcAt W2 v2 k2 3 (rowH (delG L n)) := by rw [← hk2]; exact src_row hh2
          obtain ⟨av, cv, rfl⟩ := row_slice hh2
          rw [hk2] at hsrc ⊢
          have HSR : Hid (SrcAt W2 (.slice av k2 cv) k2 3 (rowH (delG L n))) := hsrc
          have hX2 : Below W2.heap.size W2 W2.drew := drew_below _ _
          clear hh2 b2 hx2 hx1 HDR hk2 hsrc
          go_wp2_with fail
          refine wp_region_held_drew (S := fun w' => Below W2.heap.size W2 w') (by kernel_rfl) hX2 (fun hHeld => ?_)
          generalize W2.drew = X at *
          refine wpAnyH_take (i := 1) (oi := { dst := some 37, op := Op.move (Operand.tmp 6), type := 26, pos := "ref.go:40", after := #[], guard := none }) (v := ?v1a) rfl (by kernel_rfl) (by kernel_rfl) (by kernel_rfl) (fun _ _ _ h => h) (Or.inl ⟨by rfl, ?hy1a⟩) (by assumption) ?rest1a
          case hy1a =>
            intro w hSw
            try dsimp only at hSw
            go_simp
            try with_reducible rfl
          try simp only [Act.put, List.setIfInBounds_toArray, List.set_cons_zero, List.set_cons_succ]
          refine wpAnyH_take (i := 3) (oi := { dst := some 39, op := Op.load 37 (Operand.tmp 3), type := 37, pos := "ref.go:40", after := #[], guard := none }) (v := .agg #[.int .i64 n, .int .i64 u, .int .i64 m]) rfl (by kernel_rfl) (by kernel_rfl) (by kernel_rfl) (fun _ _ _ h => h) (Or.inl ⟨by rfl, ?hy3⟩) (by assumption) ?rest3
          case hy3 =>
            intro wq hSw
            have z0 := (hSw.cell (p := ⟨w.heap.size, 0, none⟩) (by show w.heap.size < _; omega)).trans c0
            have z1 := (hSw.cell (p := ⟨w.heap.size, 1, none⟩) (by show w.heap.size < _; omega)).trans c1
            have z2 := (hSw.cell (p := ⟨w.heap.size, 2, none⟩) (by show w.heap.size < _; omega)).trans c2
            clear hHeld
            go_simp
          try simp only [Act.put, List.setIfInBounds_toArray, List.set_cons_zero, List.set_cons_succ]
          have own0 : ∀ Y : World, W2.heap.size ≤ Y.heap.size → (Y.alloc (.cells #[] 37)).ownsRow W2.heap.size 37 3 (.slice (some ⟨Y.heap.size, 0, none⟩) 0 0) 0 [] := fun Y hY => World.ownsRow_made Y #[] 0 hY (by unfold maxLen; omega) rfl
          have bz : ∀ {Y : World} (o : Obj), Below W2.heap.size W2 Y → Below W2.heap.size W2 (Y.alloc o) := fun o hY => hY.alloc hY.size o
          refine wpAnyH_ready (rs := [0, 4]) (by kernel_rfl) (by simp) ?_
          refine AllReadyH.cons (o := { dst := some 36, op := Op.buildSlice 26 0 #[], type := 26, pos := "ref.go:40", after := #[], guard := none }) rfl (fun KK9 hK9 => ?_) ?four
          · go_simp
            have hX1 := bz (.cells #[] 37) hX2
            have hown1 := own0 X hX2.size
            refine hK9.out _ _ hX1 (fun hHeld => ?_)
            clear hK9 KK9
            try simp only [Act.put, List.setIfInBounds_toArray, List.set_cons_zero, List.set_cons_succ]
            have hszX : (X.alloc (.cells #[] 37)).heap.size = X.heap.size + 1 := by simp
            generalize X.alloc (.cells #[] 37) = Y at *
            refine wpAnyH_ready (rs := [2, 4]) (by kernel_rfl) (by simp) ?_
            refine AllReadyH.cons (o := { dst := some 38, op := Op.call { callee := Callee.builtin Builtin.append, args := #[Operand.tmp 36, Operand.tmp 37], argTypes := #[26, 26] }, type := 26, pos := "ref.go:40", after := #[{ on := 0, ground := Ground.data }, { on := 1, ground := Ground.data }], guard := none }) rfl (fun KK9 hK9 => ?_) ?fourb
            · refine step_append_H rfl (.tmp 36) (.tmp 37) rfl W2.heap.size (by simp [Act.eval]) hown1 (by simp [Act.eval]) (HSR.out.later hX1) (rowH_one _) (by omega) hX1.size ?_
              intro v3 w3 own2 gr2
              have hX3 := hX1.grown gr2 hX1.size (fun i hi => (hown1.lt i hi).1)
              refine hK9.out _ _ hX3 (fun hHeld => ?_)
              clear hK9 KK9
              try simp only [Act.put, List.setIfInBounds_toArray, List.set_cons_zero, List.set_cons_succ]
              refine wpAnyH_ready (rs := [4]) (by kernel_rfl) (by simp) ?_
              refine AllReadyH.cons (o := { dst := some 40, op := Op.buildSlice 26 1 #[(0, Operand.tmp 39)], type := 26, pos := "ref.go:40", after := #[{ on := 3, ground := Ground.data }], guard := none }) rfl (fun KK9 hK9 => ?_) ?m
              case m => exact AllReadyH.nil
              go_simp
              have hX4 := bz (.cells #[.int .i64 n, .int .i64 u, .int .i64 m] 37) hX3
              refine hK9.out _ _ hX4 (fun hHeld => ?_)
              clear hK9 KK9
              try simp only [Act.put, List.setIfInBounds_toArray, List.set_cons_zero, List.set_cons_succ]
              refine wpAnyH_ready (rs := [5]) (by kernel_rfl) (by simp) ?_
              refine AllReadyH.cons (o := { dst := some 41, op := Op.call { callee := Callee.builtin Builtin.append, args := #[Operand.tmp 38, Operand.tmp 40], argTypes := #[26, 26] }, type := 26, pos := "ref.go:40", after := #[{ on := 2, ground := Ground.data }, { on := 4, ground := Ground.data }, { on := 2, ground := Ground.chain }], guard := none }) rfl (fun KK9 hK9 => ?_) ?moreDa
              case moreDa => exact AllReadyH.nil
              refine step_append_H rfl (.tmp 38) (.tmp 40) rfl W2.heap.size (by simp [Act.eval]) (own2.alloc (.cells #[.int .i64 n, .int .i64 u, .int .i64 m] 37)) (by simp [Act.eval]) (hk_one w3 ⟨n, u, m⟩) (cells_one ⟨n, u, m⟩) (by omega) hX4.size ?_
              intro v5 w5 own5 gr5
              have hb5 := hX4.grown gr5 hX4.size (fun i hi => ((own2.alloc (.cells #[.int .i64 n, .int .i64 u, .int .i64 m] 37)).lt i hi).1)
              refine hK9.out _ _ hb5 (fun hHeld => ?_)
              clear hK9 KK9
              try simp only [Act.put, List.setIfInBounds_toArray, List.set_cons_zero, List.set_cons_succ]
              refine wpAnyH_take (i := 6) (oi := { dst := some 4, op := Op.assign (Operand.tmp 41), type := 26, pos := "ref.go:40", after := #[{ on := 5, ground := Ground.data }, { on := 5, ground := Ground.chain }, { on := 0, ground := Ground.phase }, { on := 1, ground := Ground.phase }, { on := 2, ground := Ground.phase }, { on := 3, ground := Ground.phase }, { on := 4, ground := Ground.phase }, { on := 5, ground := Ground.phase }], guard := none }) (v := ?v6a) rfl (by kernel_rfl) (by kernel_rfl) (by kernel_rfl) (fun _ _ _ h => h) (Or.inl ⟨by rfl, ?hy6a⟩) (by assumption) ?rest6a
              case hy6a =>
                intro w hSw
                try dsimp only at hSw
                go_simp
                try with_reducible rfl
              try simp only [Act.put, List.setIfInBounds_toArray, List.set_cons_zero, List.set_cons_succ]
              refine wpAnyH_take (i := 7) (oi := { dst := some 5, op := Op.assign (Operand.const (Value.bool true)), type := 4, pos := "ref.go:40", after := #[{ on := 6, ground := Ground.chain }, { on := 0, ground := Ground.phase }, { on := 1, ground := Ground.phase }, { on := 2, ground := Ground.phase }, { on := 3, ground := Ground.phase }, { on := 4, ground := Ground.phase }, { on := 5, ground := Ground.phase }, { on := 6, ground := Ground.phase }], guard := none }) (v := ?v7a) rfl (by kernel_rfl) (by kernel_rfl) (by kernel_rfl) (fun _ _ _ h => h) (Or.inl ⟨by rfl, ?hy7a⟩) (by assumption) ?rest7a
              case hy7a =>
                intro w hSw
                try dsimp only at hSw
                go_simp
                try with_reducible rfl
              try simp only [Act.put, List.setIfInBounds_toArray, List.set_cons_zero, List.set_cons_succ]
              refine wpAnyH_done (by kernel_rfl) ?_ _
              have HF : Hid (HsAt w5 base v5 (putG L ⟨n, u, m⟩) ∧ Below w.heap.size w w5) := by
                refine ⟨?_, HB2.out.trans (hb5.mono (by have := HB2.out.size; omega))⟩
                unfold HsAt
                have e1 : (putG L ⟨n, u, m⟩).length = 0 + k2 + 1 := by unfold putG; rw [List.length_append, ← HK2.out]; simp
                rw [e1]
                have e2 : rowH (putG L ⟨n, u, m⟩) = [] ++ rowH (delG L n) ++ Gh.cells ⟨n, u, m⟩ := by unfold putG; rw [rowH_app]; simp [rowH]
                rw [e2]
                exact rowMono own5 (by have := HB2.out.size; omega)
              clear own5 gr5 hHeld hb5
              go_wp2
              go_ret2
              exact ⟨_, by rw [H.out.1]; rfl, by rw [H.out.2]; exact HF.out.1, HF.out.2⟩
            case fourb =>
              refine AllReadyH.cons (o := { dst := some 40, op := Op.buildSlice 26 1 #[(0, Operand.tmp 39)], type := 26, pos := "ref.go:40", after := #[{ on := 3, ground := Ground.data }], guard := none }) rfl (fun KK9 hK9 => ?_) ?m
              case m => exact AllReadyH.nil
              go_simp
              have hX4 := bz (.cells #[.int .i64 n, .int .i64 u, .int .i64 m] 37) hX1
              refine hK9.out _ _ hX4 (fun hHeld => ?_)
              clear hK9 KK9
              try simp only [Act.put, List.setIfInBounds_toArray, List.set_cons_zero, List.set_cons_succ]
              have hown4 := hown1.alloc (.cells #[.int .i64 n, .int .i64 u, .int .i64 m] 37)
              have hnew := hk_one Y ⟨n, u, m⟩
              have hs4 : (Y.alloc (.cells (Gh.cells ⟨n, u, m⟩).toArray 37)).heap.size = Y.heap.size + 1 := by simp
              have hsY := hX1.size
              refine wpAnyH_ready (rs := [2]) (by kernel_rfl) (by simp) ?_
              refine AllReadyH.cons (o := { dst := some 38, op := Op.call { callee := Callee.builtin Builtin.append, args := #[Operand.tmp 36, Operand.tmp 37], argTypes := #[26, 26] }, type := 26, pos := "ref.go:40", after := #[{ on := 0, ground := Ground.data }, { on := 1, ground := Ground.data }], guard := none }) rfl (fun KK9 hK9 => ?_) ?m
              case m => exact AllReadyH.nil
              refine step_append_H rfl (.tmp 36) (.tmp 37) rfl W2.heap.size (by simp [Act.eval]) hown4 (by simp [Act.eval]) (HSR.out.later hX4) (rowH_one _) (by omega) hX4.size ?_
              intro v3 w3 own2 gr2
              have hX3 := hX4.grown gr2 hX4.size (fun i hi => (hown4.lt i hi).1)
              refine hK9.out _ _ hX3 (fun hHeld => ?_)
              clear hK9 KK9
              try simp only [Act.put, List.setIfInBounds_toArray, List.set_cons_zero, List.set_cons_succ]
              have hk3 : Keeps (fun i => i ≠ X.heap.size) (Y.alloc (.cells (Gh.cells ⟨n, u, m⟩).toArray 37)) w3 := keeps_grown gr2 (fun i hi h => h (by simpa [Value.ownBlock] using hi.symm))
              refine wpAnyH_ready (rs := [5]) (by kernel_rfl) (by simp) ?_
              refine AllReadyH.cons (o := { dst := some 41, op := Op.call { callee := Callee.builtin Builtin.append, args := #[Operand.tmp 38, Operand.tmp 40], argTypes := #[26, 26] }, type := 26, pos := "ref.go:40", after := #[{ on := 2, ground := Ground.data }, { on := 4, ground := Ground.data }, { on := 2, ground := Ground.chain }], guard := none }) rfl (fun KK9 hK9 => ?_) ?moreDb
              case moreDb => exact AllReadyH.nil
              refine step_append_H rfl (.tmp 38) (.tmp 40) rfl W2.heap.size (by simp [Act.eval]) own2 (by simp [Act.eval]) (src_keeps hnew hk3 (by omega)) (cells_one ⟨n, u, m⟩) (by omega) hX3.size ?_
              intro v5 w5 own5 gr5
              have hb5 := hX3.grown gr5 hX3.size (fun i hi => (own2.lt i hi).1)
              refine hK9.out _ _ hb5 (fun hHeld => ?_)
              clear hK9 KK9
              try simp only [Act.put, List.setIfInBounds_toArray, List.set_cons_zero, List.set_cons_succ]
              refine wpAnyH_take (i := 6) (oi := { dst := some 4, op := Op.assign (Operand.tmp 41), type := 26, pos := "ref.go:40", after := #[{ on := 5, ground := Ground.data }, { on := 5, ground := Ground.chain }, { on := 0, ground := Ground.phase }, { on := 1, ground := Ground.phase }, { on := 2, ground := Ground.phase }, { on := 3, ground := Ground.phase }, { on := 4, ground := Ground.phase }, { on := 5, ground := Ground.phase }], guard := none }) (v := ?v6b) rfl (by kernel_rfl) (by kernel_rfl) (by kernel_rfl) (fun _ _ _ h => h) (Or.inl ⟨by rfl, ?hy6b⟩) (by assumption) ?rest6b
              case hy6b =>
                intro w hSw
                try dsimp only at hSw
                go_simp
                try with_reducible rfl
              try simp only [Act.put, List.setIfInBounds_toArray, List.set_cons_zero, List.set_cons_succ]
              refine wpAnyH_take (i := 7) (oi := { dst := some 5, op := Op.assign (Operand.const (Value.bool true)), type := 4, pos := "ref.go:40", after := #[{ on := 6, ground := Ground.chain }, { on := 0, ground := Ground.phase }, { on := 1, ground := Ground.phase }, { on := 2, ground := Ground.phase }, { on := 3, ground := Ground.phase }, { on := 4, ground := Ground.phase }, { on := 5, ground := Ground.phase }, { on := 6, ground := Ground.phase }], guard := none }) (v := ?v7b) rfl (by kernel_rfl) (by kernel_rfl) (by kernel_rfl) (fun _ _ _ h => h) (Or.inl ⟨by rfl, ?hy7b⟩) (by assumption) ?rest7b
              case hy7b =>
                intro w hSw
                try dsimp only at hSw
                go_simp
                try with_reducible rfl
              try simp only [Act.put, List.setIfInBounds_toArray, List.set_cons_zero, List.set_cons_succ]
              refine wpAnyH_done (by kernel_rfl) ?_ _
              have HF : Hid (HsAt w5 base v5 (putG L ⟨n, u, m⟩) ∧ Below w.heap.size w w5) := by
                refine ⟨?_, HB2.out.trans (hb5.mono (by have := HB2.out.size; omega))⟩
                unfold HsAt
                have e1 : (putG L ⟨n, u, m⟩).length = 0 + k2 + 1 := by unfold putG; rw [List.length_append, ← HK2.out]; simp
                rw [e1]
                have e2 : rowH (putG L ⟨n, u, m⟩) = [] ++ rowH (delG L n) ++ Gh.cells ⟨n, u, m⟩ := by unfold putG; rw [rowH_app]; simp [rowH]
                rw [e2]
                exact rowMono own5 (by have := HB2.out.size; omega)
              clear own5 gr5 hHeld hb5
              go_wp2
              go_ret2
              exact ⟨_, by rw [H.out.1]; rfl, by rw [H.out.2]; exact HF.out.1, HF.out.2⟩
          case four =>
            refine AllReadyH.cons (o := { dst := some 40, op := Op.buildSlice 26 1 #[(0, Operand.tmp 39)], type := 26, pos := "ref.go:40", after := #[{ on := 3, ground := Ground.data }], guard := none }) rfl (fun KK9 hK9 => ?_) ?m
            case m => exact AllReadyH.nil
            go_simp
            have hX4 := bz (.cells #[.int .i64 n, .int .i64 u, .int .i64 m] 37) hX2
            refine hK9.out _ _ hX4 (fun hHeld => ?_)
            clear hK9 KK9
            try simp only [Act.put, List.setIfInBounds_toArray, List.set_cons_zero, List.set_cons_succ]
            have hnew := hk_one X ⟨n, u, m⟩
            have hs4 : (X.alloc (.cells (Gh.cells ⟨n, u, m⟩).toArray 37)).heap.size = X.heap.size + 1 := by simp
            refine wpAnyH_ready (rs := [0]) (by kernel_rfl) (by simp) ?_
            refine AllReadyH.cons (o := { dst := some 36, op := Op.buildSlice 26 0 #[], type := 26, pos := "ref.go:40", after := #[], guard := none }) rfl (fun KK9 hK9 => ?_) ?m
            case m => exact AllReadyH.nil
            have hnew2 : SrcAt (X.alloc (.cells #[.int .i64 n, .int .i64 u, .int .i64 m] 37)) (.slice (some ⟨X.heap.size, 0, none⟩) 1 1) 1 3 (Gh.cells ⟨n, u, m⟩) := hnew
            have hs5 : (X.alloc (.cells #[.int .i64 n, .int .i64 u, .int .i64 m] 37)).heap.size = X.heap.size + 1 := by simp
            clear hnew hs4
            generalize X.alloc (.cells #[.int .i64 n, .int .i64 u, .int .i64 m] 37) = Y at *
            go_simp
            have hX1 := bz (.cells #[] 37) hX4
            have hown1 := own0 Y hX4.size
            refine hK9.out _ _ hX1 (fun hHeld => ?_)
            clear hK9 KK9
            try simp only [Act.put, List.setIfInBounds_toArray, List.set_cons_zero, List.set_cons_succ]
            have hnew3 := hnew2.later ((Below.refl _ Y).alloc (Nat.le_refl _) (.cells #[] 37))
            have hs6 : (Y.alloc (.cells #[] 37)).heap.size = Y.heap.size + 1 := by simp
            clear hnew2
            generalize Y.alloc (.cells #[] 37) = Z at *
            refine wpAnyH_ready (rs := [2]) (by kernel_rfl) (by simp) ?_
            refine AllReadyH.cons (o := { dst := some 38, op := Op.call { callee := Callee.builtin Builtin.append, args := #[Operand.tmp 36, Operand.tmp 37], argTypes := #[26, 26] }, type := 26, pos := "ref.go:40", after := #[{ on := 0, ground := Ground.data }, { on := 1, ground := Ground.data }], guard := none }) rfl (fun KK9 hK9 => ?_) ?m
            case m => exact AllReadyH.nil
            refine step_append_H rfl (.tmp 36) (.tmp 37) rfl W2.heap.size (by simp [Act.eval]) hown1 (by simp [Act.eval]) (HSR.out.later hX1) (rowH_one _) (by omega) hX1.size ?_
            intro v3 w3 own2 gr2
            have hX3 := hX1.grown gr2 hX1.size (fun i hi => (hown1.lt i hi).1)
            refine hK9.out _ _ hX3 (fun hHeld => ?_)
            clear hK9 KK9
            try simp only [Act.put, List.setIfInBounds_toArray, List.set_cons_zero, List.set_cons_succ]
            have hk3 : Keeps (fun i => i ≠ Y.heap.size) Z w3 := keeps_grown gr2 (fun i hi h => h (by simpa [Value.ownBlock] using hi.symm))
            refine wpAnyH_ready (rs := [5]) (by kernel_rfl) (by simp) ?_
            refine AllReadyH.cons (o := { dst := some 41, op := Op.call { callee := Callee.builtin Builtin.append, args := #[Operand.tmp 38, Operand.tmp 40], argTypes := #[26, 26] }, type := 26, pos := "ref.go:40", after := #[{ on := 2, ground := Ground.data }, { on := 4, ground := Ground.data }, { on := 2, ground := Ground.chain }], guard := none }) rfl (fun KK9 hK9 => ?_) ?moreDc
            case moreDc => exact AllReadyH.nil
            refine step_append_H rfl (.tmp 38) (.tmp 40) rfl W2.heap.size (by simp [Act.eval]) own2 (by simp [Act.eval]) (src_keeps hnew3 hk3 (by omega)) (cells_one ⟨n, u, m⟩) (by omega) hX3.size ?_
            intro v5 w5 own5 gr5
            have hb5 := hX3.grown gr5 hX3.size (fun i hi => (own2.lt i hi).1)
            refine hK9.out _ _ hb5 (fun hHeld => ?_)
            clear hK9 KK9
            try simp only [Act.put, List.setIfInBounds_toArray, List.set_cons_zero, List.set_cons_succ]
            refine wpAnyH_take (i := 6) (oi := { dst := some 4, op := Op.assign (Operand.tmp 41), type := 26, pos := "ref.go:40", after := #[{ on := 5, ground := Ground.data }, { on := 5, ground := Ground.chain }, { on := 0, ground := Ground.phase }, { on := 1, ground := Ground.phase }, { on := 2, ground := Ground.phase }, { on := 3, ground := Ground.phase }, { on := 4, ground := Ground.phase }, { on := 5, ground := Ground.phase }], guard := none }) (v := ?v6c) rfl (by kernel_rfl) (by kernel_rfl) (by kernel_rfl) (fun _ _ _ h => h) (Or.inl ⟨by rfl, ?hy6c⟩) (by assumption) ?rest6c
            case hy6c =>
              intro w hSw
              try dsimp only at hSw
              go_simp
              try with_reducible rfl
            try simp only [Act.put, List.setIfInBounds_toArray, List.set_cons_zero, List.set_cons_succ]
            refine wpAnyH_take (i := 7) (oi := { dst := some 5, op := Op.assign (Operand.const (Value.bool true)), type := 4, pos := "ref.go:40", after := #[{ on := 6, ground := Ground.chain }, { on := 0, ground := Ground.phase }, { on := 1, ground := Ground.phase }, { on := 2, ground := Ground.phase }, { on := 3, ground := Ground.phase }, { on := 4, ground := Ground.phase }, { on := 5, ground := Ground.phase }, { on := 6, ground := Ground.phase }], guard := none }) (v := ?v7c) rfl (by kernel_rfl) (by kernel_rfl) (by kernel_rfl) (fun _ _ _ h => h) (Or.inl ⟨by rfl, ?hy7c⟩) (by assumption) ?rest7c
            case hy7c =>
              intro w hSw
              try dsimp only at hSw
              go_simp
              try with_reducible rfl
            try simp only [Act.put, List.setIfInBounds_toArray, List.set_cons_zero, List.set_cons_succ]
            refine wpAnyH_done (by kernel_rfl) ?_ _
            have HF : Hid (HsAt w5 base v5 (putG L ⟨n, u, m⟩) ∧ Below w.heap.size w w5) := by
              refine ⟨?_, HB2.out.trans (hb5.mono (by have := HB2.out.size; omega))⟩
              unfold HsAt
              have e1 : (putG L ⟨n, u, m⟩).length = 0 + k2 + 1 := by unfold putG; rw [List.length_append, ← HK2.out]; simp
              rw [e1]
              have e2 : rowH (putG L ⟨n, u, m⟩) = [] ++ rowH (delG L n) ++ Gh.cells ⟨n, u, m⟩ := by unfold putG; rw [rowH_app]; simp [rowH]
              rw [e2]
              exact rowMono own5 (by have := HB2.out.size; omega)
            clear own5 gr5 hHeld hb5
            go_wp2
            go_ret2
            exact ⟨_, by rw [H.out.1]; rfl, by rw [H.out.2]; exact HF.out.1, HF.out.2⟩
end Go.Proofs.Ythjacjckobkhmaa
