/- The walks of the document's own New and There (layer 6). -/
import Derived.Test.YteebjeifbccbnaaMLog
namespace Go.Proofs.Yteebjeifbccbnaa
open Go.RowKit

theorem Try.sizeR : (Try.prog.info? 45).map (fun i => i.size) = some 4 := by kernel_rfl
theorem res4_kept {w : World} {rb : Nat} {v0 v1 v2 v3 u0 u1 u2 u3 : Value} {t : TypeId} (h : w.heap[rb]? = some (.cells #[v0, v1, v2, v3] t (0, 0))) :
    ((((w.setCell ⟨rb, 0, none⟩ u0).setCell ⟨rb, 1, none⟩ u1).setCell ⟨rb, 2, none⟩ u2).setCell ⟨rb, 3, none⟩ u3).heap[rb]? = some (.cells #[u0, u1, u2, u3] t (0, 0)) := by
  have h1 := heap_setCell_same w rb 0 _ _ u0 h
  have h2 := heap_setCell_same _ rb 1 _ _ u1 h1
  have h3 := heap_setCell_same _ rb 2 _ _ u2 h2
  have h4 := heap_setCell_same _ rb 3 _ _ u3 h3
  rw [h4]; rfl
theorem res4_below {B : Nat} {w0 w : World} {rb : Nat} {u0 u1 u2 u3 : Value} (hb : Below B w0 w) (hr : B ≤ rb) :
    Below B w0 ((((w.setCell ⟨rb, 0, none⟩ u0).setCell ⟨rb, 1, none⟩ u1).setCell ⟨rb, 2, none⟩ u2).setCell ⟨rb, 3, none⟩ u3) :=
  (((hb.setCell (p := ⟨rb, 0, none⟩) hr _).setCell (p := ⟨rb, 1, none⟩) hr _).setCell (p := ⟨rb, 2, none⟩) hr _).setCell (p := ⟨rb, 3, none⟩) hr _
theorem res4_block {w : World} {rb g : Nat} {u0 u1 u2 u3 : Value} (h : g ≠ rb) : ((((w.setCell ⟨rb, 0, none⟩ u0).setCell ⟨rb, 1, none⟩ u1).setCell ⟨rb, 2, none⟩ u2).setCell ⟨rb, 3, none⟩ u3).heap[g]? = w.heap[g]? := by
  rw [Below.heap_setCell _ _ _ _ h, Below.heap_setCell _ _ _ _ h, Below.heap_setCell _ _ _ _ h, Below.heap_setCell _ _ _ _ h]
/-- A row apart from a block that turns. -/
theorem row_apart {w w' : World} {base : Nat} {e : TypeId} {size n rb : Nat} {v : Value} {xs : List Value} (h : w.ownsRow base e size v n xs) (hk : ∀ g, g ≠ rb → w'.heap[g]? = w.heap[g]?) (hr : rb < base) : w'.ownsRow base e size v n xs := by
  refine ⟨h.1, ?_⟩
  rcases h.2 with h1 | ⟨g, cap, cur, h1, h2, h3, r⟩
  · exact .inl h1
  · exact .inr ⟨g, cap, cur, h1, h2, (hk g (by omega)).trans h3, r⟩
/-- A row apart from a block of another type. -/
theorem row_tag {w w' : World} {base : Nat} {e t : TypeId} {size n rb : Nat} {v : Value} {xs : List Value} {cs : Array Value} {fr : Nat × Nat} (h : w.ownsRow base e size v n xs) (hx : w.heap[rb]? = some (.cells cs t fr)) (hne : t ≠ e) (hk : ∀ g, g ≠ rb → w'.heap[g]? = w.heap[g]?) : w'.ownsRow base e size v n xs := by
  refine ⟨h.1, ?_⟩
  rcases h.2 with h1 | ⟨g, cap, cur, h1, h2, h3, r⟩
  · exact .inl h1
  · refine .inr ⟨g, cap, cur, h1, h2, (hk g ?_).trans h3, r⟩
    intro e2
    subst e2
    rw [hx] at h3
    simp at h3
    exact hne h3.2.1

set_option maxRecDepth 100000 in
set_option maxHeartbeats 1000000 in
theorem refNew6_any (m : Nat) (hm : m ≤ 96) (w : World) :
    Calls Try.prog 15 #[.int .i64 (m : Nat)] w fun e w' => ∃ vO vW, e = .returned (.agg #[vO, vW, .int .i64 (m : Int), .slice none 0 0]) ∧ DocAt w.heap.size w' vO vW m (List.replicate m 0) (dates m m) ∧ Below w.heap.size w w' := by
  go_enter Try.func15, Try.ntmps15
  go_wp2_with fail
  have HH : Hid ((w.alloc (.cells #[.slice none 0 0, .slice none 0 0, .int .i64 0, .slice none 0 0] 45)).heap[w.heap.size]? = some (.cells #[.slice none 0 0, .slice none 0 0, .int .i64 0, .slice none 0 0] 45 (0, 0))) := heap_alloc_new w _
  have HB : Hid (Below w.heap.size w (w.alloc (.cells #[.slice none 0 0, .slice none 0 0, .int .i64 0, .slice none 0 0] 45))) := (Below.refl _ w).alloc (Nat.le_refl _) _
  have HZ : Hid ((w.alloc (.cells #[.slice none 0 0, .slice none 0 0, .int .i64 0, .slice none 0 0] 45)).heap.size = w.heap.size + 1) := by show _ = _; simp
  generalize w.alloc (.cells #[.slice none 0 0, .slice none 0 0, .int .i64 0, .slice none 0 0] 45) = w1 at *
  refine (refNew_any m hm w1).mono ?_
  rintro e w2 ⟨vO, vW, rfl, hd, b2⟩
  obtain ⟨rb, hrb⟩ : ∃ rb, w.heap.size = rb := ⟨_, rfl⟩
  rw [hrb] at HH HZ
  rw [hrb]
  have HRB : Hid (w.heap.size = rb) := hrb
  have hres : w2.heap[rb]? = some (.cells #[.slice none 0 0, .slice none 0 0, .int .i64 0, .slice none 0 0] 45 (0, 0)) := (b2.block rb (by rw [HZ.out]; omega)).trans HH.out
  have r0 : w2.cell? ⟨rb, 0, none⟩ = some (.slice none 0 0) := by rw [cell_of_row w2 rb 0 _ _ _ hres]; rfl
  have r1 : w2.cell? ⟨rb, 1, none⟩ = some (.slice none 0 0) := by rw [cell_of_row w2 rb 1 _ _ _ hres]; rfl
  have r2 : w2.cell? ⟨rb, 2, none⟩ = some (.int .i64 0) := by rw [cell_of_row w2 rb 2 _ _ _ hres]; rfl
  have r3 : w2.cell? ⟨rb, 3, none⟩ = some (.slice none 0 0) := by rw [cell_of_row w2 rb 3 _ _ _ hres]; rfl
  have f0 : w2.frozen? ⟨rb, 0, none⟩ = false := frozen_of_row w2 rb 0 _ _ hres
  have f1 : w2.frozen? ⟨rb, 1, none⟩ = false := frozen_of_row w2 rb 1 _ _ hres
  have f2 : w2.frozen? ⟨rb, 2, none⟩ = false := frozen_of_row w2 rb 2 _ _ hres
  have f3 : w2.frozen? ⟨rb, 3, none⟩ = false := frozen_of_row w2 rb 3 _ _ hres
  have HR : Hid _ := hres
  have HD : Hid (DocAt w1.heap.size w2 vO vW m (List.replicate m 0) (dates m m)) := hd
  have HB2 : Hid (Below w1.heap.size w1 w2) := b2
  obtain ⟨aO, cO, rfl⟩ := row_slice hd.rO
  obtain ⟨aW, cW, rfl⟩ := row_slice hd.rW
  clear hrb hd b2 hres
  go_wp2
  have hb3 : Below w.heap.size w w2 := HB.out.trans (HB2.out.mono HB.out.size)
  refine bodyPost_ret (results_cell_row Try.results15 _ _ rb _ _ _ _ rfl (res4_kept HR.out) Try.underlying45 rfl Try.sizeR) rfl ⟨_, _, rfl, ⟨?_, ?_⟩, res4_below hb3 (Nat.le_of_eq HRB.out)⟩
  · exact rowMono (row_apart HD.out.rO (fun g hg => res4_block hg) (by rw [HZ.out]; omega)) (by have := HRB.out; rw [HZ.out]; omega)
  · exact rowMono (row_apart HD.out.rW (fun g hg => res4_block hg) (by rw [HZ.out]; omega)) (by have := HRB.out; rw [HZ.out]; omega)

set_option maxRecDepth 100000 in
set_option maxHeartbeats 2000000 in
theorem refThere6_any {C m now : Nat} {vO vW vL : Value} {O W : List Int} (n a s : Int) (w : World) (h : DocAt C w vO vW m O W) :
    Calls Try.prog 35 #[.agg #[vO, vW, .int .i64 (now : Int), vL], .int .i64 n, .int .i64 a, .int .i64 s] w fun e w' => e = .returned (.bool (thB O n a s)) ∧ Below w.heap.size w w' := by
  have HL : Hid (O.length = m) := h.lenO
  obtain ⟨aO, cO, rfl⟩ := row_slice h.rO
  have HB : Hid (Below w.heap.size w (w.alloc (.cells #[.slice aO m cO, vW, .int .i64 (now : Int), vL] 45))) := (Below.refl _ w).alloc (Nat.le_refl _) _
  by_cases n0 : 0 ≤ n
  · obtain ⟨k, rfl⟩ := Int.eq_ofNat_of_zero_le n0
    by_cases nm : k < m
    · have i1 : (k : Int) < (m : Int) := by omega
      obtain ⟨g1, rfl, cK, _, _, hg⟩ := row_at h.rO nm
      rw [zv_at O k (by rw [HL.out]; exact nm)] at cK
      obtain ⟨q, hq⟩ : ∃ q, O.getD k 0 = q := ⟨_, rfl⟩
      rw [hq] at cK
      have HQ : Hid (ownI O (k : Int) = q) := by show _ = _; rw [ownI_nat]; exact hq
      have n1 : g1 ≠ w.heap.size := by omega
      clear hq h
      by_cases q0 : q = 0
      · subst q0
        have HT : Hid (thB O (k : Int) a s = false) := decide_eq_false (by rw [HQ.out]; simp)
        go_enter Try.func35, Try.ntmps35
        go_wp2
        go_ret
        exact ⟨retBool HT.out.symm, HB.out⟩
      · have q1 : (q == 0) = false := by rw [beq_eq_false_iff_ne]; exact q0
        have q2 : (q != 0) = true := by rw [bne_iff_ne]; exact q0
        by_cases s0 : 0 ≤ s
        · by_cases s1 : s ≤ 4096
          · by_cases a0 : 0 ≤ a
            · have HT : Hid (thB O (k : Int) a s = decide (a ≤ 4096 - s)) := by
                show _ = _
                rw [thB, HQ.out]
                apply decide_eq_decide.2
                exact ⟨fun h => by omega, fun h => ⟨q0, by omega, by omega, by omega⟩⟩
              go_enter Try.func35, Try.ntmps35
              go_wp2
              go_ret
              exact ⟨retBool HT.out.symm, HB.out⟩
            · have HT : Hid (thB O (k : Int) a s = false) := decide_eq_false (by omega)
              go_enter Try.func35, Try.ntmps35
              go_wp2
              go_ret
              exact ⟨retBool HT.out.symm, HB.out⟩
          · have HT : Hid (thB O (k : Int) a s = false) := decide_eq_false (by omega)
            go_enter Try.func35, Try.ntmps35
            go_wp2
            go_ret
            exact ⟨retBool HT.out.symm, HB.out⟩
        · have HT : Hid (thB O (k : Int) a s = false) := decide_eq_false (by omega)
          go_enter Try.func35, Try.ntmps35
          go_wp2
          go_ret
          exact ⟨retBool HT.out.symm, HB.out⟩
    · have i1 : ¬ (k : Int) < (m : Int) := by omega
      have HT : Hid (thB O (k : Int) a s = false) := decide_eq_false (by rw [ownI_far (by rw [HL.out]; omega)]; simp)
      clear h
      go_enter Try.func35, Try.ntmps35
      go_wp2
      go_ret
      exact ⟨retBool HT.out.symm, HB.out⟩
  · have HT : Hid (thB O n a s = false) := decide_eq_false (by rw [ownI_neg (by omega)]; simp)
    clear h
    go_enter Try.func35, Try.ntmps35
    go_wp2
    go_ret
    exact ⟨retBool HT.out.symm, HB.out⟩
end Go.Proofs.Yteebjeifbccbnaa
