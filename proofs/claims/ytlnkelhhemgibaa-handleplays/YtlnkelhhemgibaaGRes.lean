/- General facts: answers that are a struct in a variable beside slots; a struct of four cells laid anew; rows apart from one block. -/
import Derived.Test.YtlnkelhhemgibaaGSrc
namespace Go.Proofs.Ytlnkelhhemgibaa
open Go.RowKit

theorem results_cell_tmp {P : Program} {fn : Func} {p b : Tmp} {ty : TypeId} (h : fn.results = #[.cell p ty, .tmp b]) (tmps : Array Value) (w : World) (g : Nat) (t : TypeId) (cs : Array Value) (fr : Nat × Nat) (d : TypeDesc)
    (hp : tmps.getD p undef = .pointer (some ⟨g, 0, none⟩)) (hg : w.heap[g]? = some (.cells cs t fr))
    (hu : P.underlying ty = some d) (hd : (match d with | .struct _ | .array _ _ => true | _ => false) = true) (hi : (P.info? ty).map (·.size) = some cs.size) :
    (results fn tmps).run P w = .ok (.tuple #[.agg cs, tmps.getD b undef]) w := by
  have hp' : tmps[p]?.getD undef = .pointer (some ⟨g, 0, none⟩) := by simpa using hp
  simp [results, h, hp', asAddr, run_loadVar_row w g t ty cs fr d hg hu hd hi]
theorem results_cell_tmp2 {P : Program} {fn : Func} {p b c : Tmp} {ty : TypeId} (h : fn.results = #[.cell p ty, .tmp b, .tmp c]) (tmps : Array Value) (w : World) (g : Nat) (t : TypeId) (cs : Array Value) (fr : Nat × Nat) (d : TypeDesc)
    (hp : tmps.getD p undef = .pointer (some ⟨g, 0, none⟩)) (hg : w.heap[g]? = some (.cells cs t fr))
    (hu : P.underlying ty = some d) (hd : (match d with | .struct _ | .array _ _ => true | _ => false) = true) (hi : (P.info? ty).map (·.size) = some cs.size) :
    (results fn tmps).run P w = .ok (.tuple #[.agg cs, tmps.getD b undef, tmps.getD c undef]) w := by
  have hp' : tmps[p]?.getD undef = .pointer (some ⟨g, 0, none⟩) := by simpa using hp
  simp [results, h, hp', asAddr, run_loadVar_row w g t ty cs fr d hg hu hd hi]
theorem res3_kept {w : World} {rb : Nat} {v0 v1 v2 u0 u1 u2 : Value} {t : TypeId} (h : w.heap[rb]? = some (.cells #[v0, v1, v2] t (0, 0))) :
    (((w.setCell ⟨rb, 0, none⟩ u0).setCell ⟨rb, 1, none⟩ u1).setCell ⟨rb, 2, none⟩ u2).heap[rb]? = some (.cells #[u0, u1, u2] t (0, 0)) := by
  have h1 := heap_setCell_same w rb 0 _ _ u0 h
  have h2 := heap_setCell_same _ rb 1 _ _ u1 h1
  have h3 := heap_setCell_same _ rb 2 _ _ u2 h2
  rw [h3]; rfl
theorem res3_below {B : Nat} {w0 w : World} {rb : Nat} {u0 u1 u2 : Value} (hb : Below B w0 w) (hr : B ≤ rb) :
    Below B w0 (((w.setCell ⟨rb, 0, none⟩ u0).setCell ⟨rb, 1, none⟩ u1).setCell ⟨rb, 2, none⟩ u2) :=
  ((hb.setCell (p := ⟨rb, 0, none⟩) hr _).setCell (p := ⟨rb, 1, none⟩) hr _).setCell (p := ⟨rb, 2, none⟩) hr _
theorem res3_block {w : World} {rb g : Nat} {u0 u1 u2 : Value} (h : g ≠ rb) : (((w.setCell ⟨rb, 0, none⟩ u0).setCell ⟨rb, 1, none⟩ u1).setCell ⟨rb, 2, none⟩ u2).heap[g]? = w.heap[g]? := by
  rw [Below.heap_setCell _ _ _ _ h, Below.heap_setCell _ _ _ _ h, Below.heap_setCell _ _ _ _ h]
theorem res4_kept {w : World} {rb : Nat} {v0 v1 v2 v3 u0 u1 u2 u3 : Value} {t : TypeId} (h : w.heap[rb]? = some (.cells #[v0, v1, v2, v3] t (0, 0))) :
    ((((w.setCell ⟨rb, 0, none⟩ u0).setCell ⟨rb, 1, none⟩ u1).setCell ⟨rb, 2, none⟩ u2).setCell ⟨rb, 3, none⟩ u3).heap[rb]? = some (.cells #[u0, u1, u2, u3] t (0, 0)) := by
  have h1 := heap_setCell_same w rb 0 _ _ u0 h
  have h2 := heap_setCell_same _ rb 1 _ _ u1 h1
  have h3 := heap_setCell_same _ rb 2 _ _ u2 h2
  have h4 := heap_setCell_same _ rb 3 _ _ u3 h3
  rw [h4]; rfl
theorem res4_below {B : Nat} {w0 w : World} {rb : Nat} {u0 u1 u2 u3 : Value} (hb : Below B w0 w) (hr : B ≤ rb) :
    Below B w0 ((((w.setCell ⟨rb, 0, none⟩ u0).setCell ⟨rb, 1, none⟩ u1).setCell ⟨rb, 2, none⟩ u2).setCell ⟨rb, 3, none⟩ u3) :=
  (((hb.setCell (p := ⟨rb, 0, none⟩) hr _).setCell (p := ⟨rb, 1, none⟩) hr _).setCell (p := ⟨rb, 2, none⟩) hr _).setCell (p := ⟨rb, 3, none⟩) hr _
theorem res4_block {w : World} {rb g : Nat} {u0 u1 u2 u3 : Value} (h : g ≠ rb) : ((((w.setCell ⟨rb, 0, none⟩ u0).setCell ⟨rb, 1, none⟩ u1).setCell ⟨rb, 2, none⟩ u2).setCell ⟨rb, 3, none⟩ u3).heap[g]? = w.heap[g]? := by
  rw [Below.heap_setCell _ _ _ _ h, Below.heap_setCell _ _ _ _ h, Below.heap_setCell _ _ _ _ h, Below.heap_setCell _ _ _ _ h]
theorem cell_res4 {w : World} {rb xb j : Nat} {u0 u1 u2 u3 : Value} (h : xb ≠ rb) : ((((w.setCell ⟨rb, 0, none⟩ u0).setCell ⟨rb, 1, none⟩ u1).setCell ⟨rb, 2, none⟩ u2).setCell ⟨rb, 3, none⟩ u3).cell? ⟨xb, j, none⟩ = w.cell? ⟨xb, j, none⟩ :=
  World.cell?_of_block (res4_block h)
/-- A row apart from a block that turns. -/
theorem row_apart {w w' : World} {base : Nat} {e : TypeId} {size n rb : Nat} {v : Value} {xs : List Value} (h : w.ownsRow base e size v n xs) (hk : ∀ g, g ≠ rb → w'.heap[g]? = w.heap[g]?) (hr : rb < base) : w'.ownsRow base e size v n xs := by
  refine ⟨h.1, ?_⟩
  rcases h.2 with h1 | ⟨g, cap, cur, h1, h2, h3, r⟩
  · exact .inl h1
  · exact .inr ⟨g, cap, cur, h1, h2, (hk g (by omega)).trans h3, r⟩
/-- A row apart from two blocks that turn. -/
theorem row_apart2 {w w' : World} {base : Nat} {e : TypeId} {size n fb rb : Nat} {v : Value} {xs : List Value} (h : w.ownsRow base e size v n xs) (hk : ∀ g, g ≠ fb → g ≠ rb → w'.heap[g]? = w.heap[g]?) (hr : fb < base ∧ rb < base) : w'.ownsRow base e size v n xs := by
  refine ⟨h.1, ?_⟩
  rcases h.2 with h1 | ⟨g, cap, cur, h1, h2, h3, r⟩
  · exact .inl h1
  · exact .inr ⟨g, cap, cur, h1, h2, (hk g (by omega) (by omega)).trans h3, r⟩
/-- A row apart from a block of another type. -/
theorem row_tag {w w' : World} {base : Nat} {e t : TypeId} {size n rb : Nat} {v : Value} {xs : List Value} {cs : Array Value} {fr : Nat × Nat} (h : w.ownsRow base e size v n xs) (hx : w.heap[rb]? = some (.cells cs t fr)) (hne : t ≠ e) (hk : ∀ g, g ≠ rb → w'.heap[g]? = w.heap[g]?) : w'.ownsRow base e size v n xs := by
  refine ⟨h.1, ?_⟩
  rcases h.2 with h1 | ⟨g, cap, cur, h1, h2, h3, r⟩
  · exact .inl h1
  · refine .inr ⟨g, cap, cur, h1, h2, (hk g ?_).trans h3, r⟩
    intro e2
    subst e2
    rw [hx] at h3
    simp at h3
    exact hne h3.2.1
theorem row_at2 {w : World} {base n c : Nat} {e : TypeId} {a : Option Addr} {xs : List Value} (h : w.ownsRow base e 2 (.slice a n c) n xs) {i : Nat} (hi : i < n) :
    ∃ g, a = some ⟨g, 0, none⟩ ∧ w.cell? ⟨g, i * 2, none⟩ = xs[i * 2]? ∧ w.cell? ⟨g, i * 2 + 1, none⟩ = xs[i * 2 + 1]? ∧ base ≤ g ∧ g < w.heap.size := by
  rcases h.2 with ⟨_, h2⟩ | ⟨g, cap, cur, h1, h2, h3, _⟩
  · omega
  · simp only [Value.slice.injEq, true_and] at h1
    obtain ⟨rfl, rfl⟩ := h1
    have hl := h.1
    exact ⟨g, rfl, h.cellAt (i * 2) (by omega), h.cellAt (i * 2 + 1) (by omega), h2, (Array.getElem?_eq_some_iff.1 h3).1⟩
theorem two_new (w : World) (a b : Value) (t : TypeId) : SrcAt (w.alloc (.cells #[a, b] t)) (.slice (some ⟨w.heap.size, 0, none⟩) 1 1) 1 2 [a, b] := by
  refine .inr ⟨_, _, rfl, rfl, fun j u hj => ⟨by simp, ?_⟩⟩
  rw [add_lit', Nat.zero_add, cell_of_row _ w.heap.size j _ _ _ (heap_alloc_new w _)]
  simpa using hj
end Go.Proofs.Ytlnkelhhemgibaa
