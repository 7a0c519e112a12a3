/- The walks of squeeze.takes and squeeze.unpack. -/
import Derived.Test.YtgninhecclinaaaQTakes
import Derived.Test.YtgninhecclinaaaQGrow
namespace Go.Proofs.Ytgninhecclinaaa
open Go.RowKit
attribute [local go_sem] Oper.semAt_some

set_option maxHeartbeats 1000000 in
theorem takes_any {p : Option Addr} {L c : Nat} (w : World) :
    Calls Try.prog 50 #[.slice p L c] w fun e w' => e = .returned (.func (.func 53) #[] #[.pointer (some ⟨w.heap.size, 0, none⟩)]) ∧ w' = w.alloc (.cells #[.slice p L c] 23) := by
  go_enter Try.func50, Try.ntmps50
  go_wp2
  go_ret
  exact ⟨rfl, rfl⟩

theorem run_loadVar_cell {P : Program} (w : World) (g : Nat) (ty : TypeId) (v : Value) (d : TypeDesc) (hc : w.cell? ⟨g, 0, none⟩ = some v) (hu : P.underlying ty = some d) (hd : (match d with | .struct _ | .array _ _ => true | _ => false) = false) :
    (loadVar ty ⟨g, 0, none⟩).run P w = .ok v w := by
  have hagg : (isAgg ty).run P w = .ok false w := by
    unfold isAgg
    rw [Sem.run_bind, run_underlying hu w]
    cases d <;> simp_all
  simp [loadVar, Sem.run_bind, hagg, hc, go_sem]
theorem results_cell3 {P : Program} {fn : Func} {p1 p2 p3 : Tmp} {t1 t2 t3 : TypeId} (h : fn.results = #[.cell p1 t1, .cell p2 t2, .cell p3 t3]) (tmps : Array Value) (w : World) (g1 g2 g3 : Nat) (v1 v2 v3 : Value) (d1 d2 d3 : TypeDesc)
    (h1 : tmps.getD p1 undef = .pointer (some ⟨g1, 0, none⟩)) (h2 : tmps.getD p2 undef = .pointer (some ⟨g2, 0, none⟩)) (h3 : tmps.getD p3 undef = .pointer (some ⟨g3, 0, none⟩))
    (c1 : w.cell? ⟨g1, 0, none⟩ = some v1) (c2 : w.cell? ⟨g2, 0, none⟩ = some v2) (c3 : w.cell? ⟨g3, 0, none⟩ = some v3) (u1 : P.underlying t1 = some d1) (u2 : P.underlying t2 = some d2) (u3 : P.underlying t3 = some d3)
    (e1 : (match d1 with | .struct _ | .array _ _ => true | _ => false) = false) (e2 : (match d2 with | .struct _ | .array _ _ => true | _ => false) = false) (e3 : (match d3 with | .struct _ | .array _ _ => true | _ => false) = false) :
    (results fn tmps).run P w = .ok (.tuple #[v1, v2, v3]) w := by
  have h1' : tmps[p1]?.getD undef = .pointer (some ⟨g1, 0, none⟩) := by simpa using h1
  have h2' : tmps[p2]?.getD undef = .pointer (some ⟨g2, 0, none⟩) := by simpa using h2
  have h3' : tmps[p3]?.getD undef = .pointer (some ⟨g3, 0, none⟩) := by simpa using h3
  simp [results, h, h1', h2', h3', asAddr, run_loadVar_cell w g1 t1 v1 d1 c1 u1 e1, run_loadVar_cell w g2 t2 v2 d2 c2 u2 e2, run_loadVar_cell w g3 t3 v3 d3 c3 u3 e3]
/-- Seven blocks newly laid. -/
theorem seven_new (w : World) (o0 o1 o2 o3 o4 o5 o6 : Obj) {W : World} (hW : W = ((((((w.alloc o0).alloc o1).alloc o2).alloc o3).alloc o4).alloc o5).alloc o6) :
    Below w.heap.size w W ∧ W.heap.size = w.heap.size + 7 ∧ W.heap[w.heap.size]? = some o0 ∧ W.heap[w.heap.size + 1]? = some o1 ∧ W.heap[w.heap.size + 2]? = some o2 ∧ W.heap[w.heap.size + 3]? = some o3 ∧ W.heap[w.heap.size + 4]? = some o4 ∧ W.heap[w.heap.size + 5]? = some o5 ∧ W.heap[w.heap.size + 6]? = some o6 := by
  subst hW
  refine ⟨((((((Below.refl _ w).alloc (Nat.le_refl _) _).alloc (by simp) _).alloc (by simp; omega) _).alloc (by simp; omega) _).alloc (by simp; omega) _).alloc (by simp; omega) _ |>.alloc (by simp; omega) _, by simp, ?_⟩
  show (((((((w.heap.push o0).push o1).push o2).push o3).push o4).push o5).push o6)[w.heap.size]? = some o0 ∧ (((((((w.heap.push o0).push o1).push o2).push o3).push o4).push o5).push o6)[w.heap.size + 1]? = some o1 ∧
    (((((((w.heap.push o0).push o1).push o2).push o3).push o4).push o5).push o6)[w.heap.size + 2]? = some o2 ∧ (((((((w.heap.push o0).push o1).push o2).push o3).push o4).push o5).push o6)[w.heap.size + 3]? = some o3 ∧
    (((((((w.heap.push o0).push o1).push o2).push o3).push o4).push o5).push o6)[w.heap.size + 4]? = some o4 ∧ (((((((w.heap.push o0).push o1).push o2).push o3).push o4).push o5).push o6)[w.heap.size + 5]? = some o5 ∧
    (((((((w.heap.push o0).push o1).push o2).push o3).push o4).push o5).push o6)[w.heap.size + 6]? = some o6
  simp only [Array.getElem?_push, Array.size_push]
  refine ⟨?_, ?_, ?_, ?_, ?_, ?_, ?_⟩
  all_goals repeat (first | rfl | rw [if_neg (by omega)] | rw [if_pos (by omega)])

/-- A page under way: what unpack has between two tokens. -/
structure Way (w : World) (B : Nat) (b : List Nat) (s : Pl) (M : Nat → Prop) (W : World) (q : List Nat) (n : Nat) (v : Value) : Prop where
  ok : s.ok = true
  und : Und b s.a q n
  len : q.length = s.m
  r0 : W.heap[B]? = some (.cells #[.slice none 0 0] 23 (0, 0))
  r1 : W.heap[B + 1]? = some (.cells #[.int .i64 0] 3 (0, 0))
  r2 : W.heap[B + 2]? = some (.cells #[.int .i64 0] 35 (0, 0))
  pg : W.heap[B + 3]? = some (.cells #[v] 23 (0, 0))
  many : W.heap[B + 4]? = some (.cells #[.int .i64 (n : Int)] 3 (0, 0))
  fin : W.heap[B + 5]? = some (.cells #[.int .i64 (s.a : Int)] 3 (0, 0))
  own : W.ownsRow (B + 7) 5 1 v q.length (bv q)
  bel : Below B w W
  siz : B + 7 ≤ W.heap.size
  out : ∀ k, M k → B + 7 ≤ k ∧ v.ownBlock ≠ some k
def WayI (w : World) (B : Nat) (b : List Nat) (s : Pl) (M : Nat → Prop) (W : World) : Prop := ∃ q n v, Way w B b s M W q n v
/-- A round has told an error. -/
structure Gone (w : World) (B : Nat) (b : List Nat) (M : Nat → Prop) (W : World) (e : Nat) : Prop where
  is : unpA b = noU e
  r0 : W.heap[B]? = some (.cells #[.slice none 0 0] 23 (0, 0))
  r1 : W.heap[B + 1]? = some (.cells #[.int .i64 0] 3 (0, 0))
  r2 : W.heap[B + 2]? = some (.cells #[.int .i64 (e : Int)] 35 (0, 0))
  bel : Below B w W
  siz : B + 7 ≤ W.heap.size
  out : ∀ k, M k → B + 7 ≤ k
def GoneI (w : World) (B : Nat) (b : List Nat) (_ : Pl) (M : Nat → Prop) (W : World) : Prop := ∃ e, Gone w B b M W e
theorem Way.kept {w W W' : World} {B n : Nat} {b q : List Nat} {s : Pl} {M M' : Nat → Prop} {v : Value} (h : Way w B b s M W q n v) (hk : Keeps (fun k => ¬ M k) W W') (hM : ∀ k, M' k → M k ∨ (W.heap.size ≤ k ∧ k < W'.heap.size)) : Way w B b s M' W' q n v := by
  have no : ∀ k, k < B + 7 → ¬ M k := fun k h1 h2 => by have := (h.out k h2).1; omega
  have hsz := h.siz
  refine ⟨h.ok, h.und, h.len, hk.at h.r0 (no _ (by omega)), hk.at h.r1 (no _ (by omega)), hk.at h.r2 (no _ (by omega)), hk.at h.pg (no _ (by omega)), hk.at h.many (no _ (by omega)), hk.at h.fin (no _ (by omega)), hk.row h.own fun g hg h1 => (h.out g h1).2 hg, h.bel.trans (hk.below (fun k hk2 => no k (by omega)) (by omega)), Nat.le_trans hsz hk.size, fun k h1 => ?_⟩
  rcases hM k h1 with h2 | h2
  · exact h.out k h2
  · refine ⟨by omega, fun h3 => ?_⟩
    have := h.own.lt k h3
    omega
theorem way_abides (w : World) (B : Nat) (b : List Nat) : Abides (WayI w B b) := by
  rintro s M M' W W' ⟨q, n, v, h⟩ hk hM
  exact ⟨q, n, v, h.kept hk hM⟩
theorem gone_abides (w : World) (B : Nat) (b : List Nat) : Abides (GoneI w B b) := by
  rintro s M M' W W' ⟨e, h⟩ hk hM
  have no : ∀ k, k < B + 7 → ¬ M k := fun k h1 h2 => by have := h.out k h2; omega
  have hsz := h.siz
  refine ⟨e, h.is, hk.at h.r0 (no _ (by omega)), hk.at h.r1 (no _ (by omega)), hk.at h.r2 (no _ (by omega)), h.bel.trans (hk.below (fun k hk2 => no k (by omega)) (by omega)), Nat.le_trans hsz hk.size, fun k h1 => ?_⟩
  rcases hM k h1 with h2 | h2
  · exact h.out k h2
  · omega
theorem gone_set {w W : World} {B e : Nat} {b : List Nat} {M : Nat → Prop} {v0 v1 v2 : Value} (he : unpA b = noU e) (h0 : W.heap[B]? = some (.cells #[v0] 23 (0, 0))) (h1 : W.heap[B + 1]? = some (.cells #[v1] 3 (0, 0)))
    (h2 : W.heap[B + 2]? = some (.cells #[v2] 35 (0, 0))) (hb : Below B w W) (hs : B + 7 ≤ W.heap.size) (ho : ∀ k, M k → B + 7 ≤ k) :
    Gone w B b M (((W.setCell ⟨B, 0, none⟩ (.slice none 0 0)).setCell ⟨B + 1, 0, none⟩ (.int .i64 0)).setCell ⟨B + 2, 0, none⟩ (.int .i64 (e : Int))) e := by
  refine ⟨he, ?_, ?_, ?_, ?_, by simpa using hs, ho⟩
  · rw [Below.heap_setCell _ _ _ _ (by show B ≠ B + 2; omega), Below.heap_setCell _ _ _ _ (by show B ≠ B + 1; omega)]
    exact one_setCell h0
  · rw [Below.heap_setCell _ _ _ _ (by show B + 1 ≠ B + 2; omega)]
    exact one_setCell (v := v1) (by rw [Below.heap_setCell _ _ _ _ (by show B + 1 ≠ B; omega)]; exact h1)
  · refine one_setCell (v := v2) ?_
    rw [Below.heap_setCell _ _ _ _ (by show B + 2 ≠ B + 1; omega), Below.heap_setCell _ _ _ _ (by show B + 2 ≠ B; omega)]
    exact h2
  · exact ((hb.setCell (p := ⟨B, 0, none⟩) (Nat.le_refl _) _).setCell (p := ⟨B + 1, 0, none⟩) (by show B ≤ B + 1; omega) _).setCell (p := ⟨B + 2, 0, none⟩) (by show B ≤ B + 2; omega) _

theorem set3_keeps {K : Nat → Prop} {W : World} {B : Nat} (u0 u1 u2 : Value) (h : ∀ k, K k → k ≠ B ∧ k ≠ B + 1 ∧ k ≠ B + 2) : Keeps K W (((W.setCell ⟨B, 0, none⟩ u0).setCell ⟨B + 1, 0, none⟩ u1).setCell ⟨B + 2, 0, none⟩ u2) := by
  refine ⟨rfl, rfl, rfl, by simp, fun k _ hk => ?_⟩
  obtain ⟨h0, h1, h2⟩ := h k hk
  rw [Below.heap_setCell _ _ _ _ h2, Below.heap_setCell _ _ _ _ h1, Below.heap_setCell _ _ _ _ h0]
theorem set3'_keeps {K : Nat → Prop} {W : World} {B : Nat} (u0 u1 u2 : Value) (h : ∀ k, K k → k ≠ B + 3 ∧ k ≠ B + 4 ∧ k ≠ B + 5) : Keeps K W ((((W.setCell ⟨B + 3, 0, none⟩ u0).setCell ⟨B + 4, 0, none⟩ u1).setCell ⟨B + 5, 0, none⟩ u2).drew) := by
  refine ⟨rfl, rfl, rfl, by simp, fun k _ hk => ?_⟩
  obtain ⟨h0, h1, h2⟩ := h k hk
  show ((((W.setCell ⟨B + 3, 0, none⟩ u0).setCell ⟨B + 4, 0, none⟩ u1).setCell ⟨B + 5, 0, none⟩ u2)).heap[k]? = _
  rw [Below.heap_setCell _ _ _ _ h2, Below.heap_setCell _ _ _ _ h1, Below.heap_setCell _ _ _ _ h0]
theorem way_next {w W W3 : World} {B n k3 cap3 g3 : Nat} {b q x : List Nat} {s s' : Pl} {M : Nat → Prop} {v : Value} {N : Int} (h : Way w B b s M W q n v) (hk : Keeps (fun j => v.ownBlock ≠ some j) W W3)
    (hown : W3.ownsRow (B + 7) 5 1 (.slice (some ⟨g3, 0, none⟩) k3 cap3) k3 (bv x)) (hg : v.ownBlock = some g3 ∨ W.heap.size ≤ g3) (hM : ∀ k, M k → k < W.heap.size) (hx : x.length = k3) (hok : s'.ok = true) (hu : Und b s'.a x (n + 1)) (hs : k3 = s'.m) (hN : N = ((n + 1 : Nat) : Int)) :
    Way w B b s' M ((((W3.setCell ⟨B + 3, 0, none⟩ (.slice (some ⟨g3, 0, none⟩) k3 cap3)).setCell ⟨B + 4, 0, none⟩ (.int .i64 N)).setCell ⟨B + 5, 0, none⟩ (.int .i64 (s'.a : Int))).drew) x (n + 1) (.slice (some ⟨g3, 0, none⟩) k3 cap3) := by
  subst hN hx
  have no : ∀ k, k < B + 7 → v.ownBlock ≠ some k := fun k h1 h2 => by have := (h.own.lt k h2).1; omega
  have hsz := h.siz
  have hs3 := hk.size
  have kp := set3'_keeps (K := fun k => k ≠ B + 3 ∧ k ≠ B + 4 ∧ k ≠ B + 5) (W := W3) (B := B) (.slice (some ⟨g3, 0, none⟩) x.length cap3) (.int .i64 ((n + 1 : Nat) : Int)) (.int .i64 (s'.a : Int)) (fun k h => h)
  refine ⟨hok, hu, hs, kp.at (hk.at h.r0 (no _ (by omega))) (by omega), kp.at (hk.at h.r1 (no _ (by omega))) (by omega), kp.at (hk.at h.r2 (no _ (by omega))) (by omega), ?_, ?_, ?_, ?_, ?_, ?_, fun k h1 => ?_⟩
  · have h3 := one_setCell (u := .slice (some ⟨g3, 0, none⟩) x.length cap3) (hk.at h.pg (no _ (by omega)))
    show ((((W3.setCell ⟨B + 3, 0, none⟩ _).setCell ⟨B + 4, 0, none⟩ _).setCell ⟨B + 5, 0, none⟩ _)).heap[B + 3]? = _
    rw [Below.heap_setCell _ _ _ _ (by show B + 3 ≠ B + 5; omega), Below.heap_setCell _ _ _ _ (by show B + 3 ≠ B + 4; omega)]
    exact h3
  · show ((((W3.setCell ⟨B + 3, 0, none⟩ _).setCell ⟨B + 4, 0, none⟩ _).setCell ⟨B + 5, 0, none⟩ _)).heap[B + 4]? = _
    rw [Below.heap_setCell _ _ _ _ (by show B + 4 ≠ B + 5; omega)]
    refine one_setCell (v := .int .i64 (n : Int)) ?_
    rw [Below.heap_setCell _ _ _ _ (by show B + 4 ≠ B + 3; omega)]
    exact hk.at h.many (no _ (by omega))
  · refine one_setCell (v := .int .i64 (s.a : Int)) ?_
    rw [Below.heap_setCell _ _ _ _ (by show B + 5 ≠ B + 4; omega), Below.heap_setCell _ _ _ _ (by show B + 5 ≠ B + 3; omega)]
    exact hk.at h.fin (no _ (by omega))
  · exact kp.row hown fun g hg2 => by
      have := (hown.lt g hg2).1
      omega
  · exact h.bel.trans ((hk.below (fun k hk2 => no k (by omega)) (by omega)).trans (kp.below (fun k hk2 => by omega) (by omega)))
  · have := kp.size
    omega
  · obtain ⟨h2, h3⟩ := h.out k h1
    refine ⟨h2, fun h4 => ?_⟩
    have h5 : g3 = k := by simpa [Value.ownBlock] using h4
    rcases hg with h6 | h6
    · rw [h5] at h6; exact h3 h6
    · have := hM k h1
      omega
/-- The function's end: the mark is taken, the results are read. -/
theorem unpack_end {R : Ending → World → Prop} {tmps : Array Value} {B D : Nat} {X : World} {v0 v1 v2 : Value} (h2 : tmps.getD 2 undef = .pointer (some ⟨B, 0, none⟩)) (h3 : tmps.getD 3 undef = .pointer (some ⟨B + 1, 0, none⟩)) (h4 : tmps.getD 4 undef = .pointer (some ⟨B + 2, 0, none⟩))
    (r0 : X.heap[B]? = some (.cells #[v0] 23 (0, 0))) (r1 : X.heap[B + 1]? = some (.cells #[v1] 3 (0, 0))) (r2 : X.heap[B + 2]? = some (.cells #[v2] 35 (0, 0))) (hD : X.heap[D]? = some (.deferred (some []))) (hBD : B + 7 ≤ D)
    (hR : R (.returned (.tuple #[v0, v1, v2])) (X.putObj D (.deferred none))) : bodyPostM Fence.wide 3 Try.prog Try.f41 R .ret { tmps := tmps, defers := [{ target := .collected D, args := #[] }] } X := by
  have hp := keeps_put X D (.deferred none)
  refine ⟨by simp, .inl ⟨D, _, rfl, run_takeDeferred hD, ?_⟩⟩
  exact ⟨_, results_cell3 Try.results41 _ _ B (B + 1) (B + 2) v0 v1 v2 _ _ _ h2 h3 h4 (cell_of_one (hp.at r0 (by omega))) (cell_of_one (hp.at r1 (by omega))) (cell_of_one (hp.at r2 (by omega))) Try.underlying23 Try.underlying3 Try.underlying35 rfl rfl rfl, hR⟩
theorem set3_drew {W : World} {B : Nat} {u0 u1 u2 v0 v1 v2 : Value} (h0 : W.heap[B]? = some (.cells #[v0] 23 (0, 0))) (h1 : W.heap[B + 1]? = some (.cells #[v1] 3 (0, 0)))
    (h2 : W.heap[B + 2]? = some (.cells #[v2] 35 (0, 0))) : ((((W.setCell ⟨B, 0, none⟩ u0).setCell ⟨B + 1, 0, none⟩ u1).setCell ⟨B + 2, 0, none⟩ u2).drew).heap[B]? = some (.cells #[u0] 23 (0, 0)) ∧
    ((((W.setCell ⟨B, 0, none⟩ u0).setCell ⟨B + 1, 0, none⟩ u1).setCell ⟨B + 2, 0, none⟩ u2).drew).heap[B + 1]? = some (.cells #[u1] 3 (0, 0)) ∧
    ((((W.setCell ⟨B, 0, none⟩ u0).setCell ⟨B + 1, 0, none⟩ u1).setCell ⟨B + 2, 0, none⟩ u2).drew).heap[B + 2]? = some (.cells #[u2] 35 (0, 0)) := by
  refine ⟨?_, ?_, ?_⟩
  · show (((W.setCell ⟨B, 0, none⟩ u0).setCell ⟨B + 1, 0, none⟩ u1).setCell ⟨B + 2, 0, none⟩ u2).heap[B]? = _
    rw [Below.heap_setCell _ _ _ _ (by show B ≠ B + 2; omega), Below.heap_setCell _ _ _ _ (by show B ≠ B + 1; omega)]
    exact one_setCell h0
  · show (((W.setCell ⟨B, 0, none⟩ u0).setCell ⟨B + 1, 0, none⟩ u1).setCell ⟨B + 2, 0, none⟩ u2).heap[B + 1]? = _
    rw [Below.heap_setCell _ _ _ _ (by show B + 1 ≠ B + 2; omega)]
    exact one_setCell (v := v1) (by rw [Below.heap_setCell _ _ _ _ (by show B + 1 ≠ B; omega)]; exact h1)
  · refine one_setCell (v := v2) ?_
    show ((W.setCell ⟨B, 0, none⟩ u0).setCell ⟨B + 1, 0, none⟩ u1).heap[B + 2]? = _
    rw [Below.heap_setCell _ _ _ _ (by show B + 2 ≠ B + 1; omega), Below.heap_setCell _ _ _ _ (by show B + 2 ≠ B; omega)]
    exact h2
set_option maxRecDepth 100000 in
set_option maxHeartbeats 1000000 in
theorem unpack_any {p : Option Addr} {L c : Nat} {b : List Nat} (w : World) (h : ByAt w p L c b) (hL : L ≤ 100000) :
    Calls Try.prog 41 #[.slice p L c] w fun e w' => ∃ v, e = .returned (.tuple #[v, .int .i64 ((unpA b).n : Nat), .int .i64 ((unpA b).e : Nat)]) ∧ w'.ownsRow w.heap.size 5 1 v (unpA b).q.length (bv (unpA b).q) ∧ Below w.heap.size w w' := by
  refine (callsIn_wide (n := 3)).1 ?_
  refine callsIn_of_wp_marks Try.func41 rfl trivial ?_ rfl
  simp only [Try.ntmps41, List.size_toArray, List.length_cons, List.length_nil, Nat.reduceAdd, Nat.reduceSub, Array.replicate_succ, Array.replicate_zero, List.push_toArray, List.append_toArray, List.nil_append, List.cons_append]
  gi_wp2_with fail
  refine ⟨trivial, CallsIn.mono (callsIn_wide.2 (takes_any _)) ?_⟩
  rintro e w1 ⟨rfl, rfl⟩
  gi_wp2_with fail
  simp only [Nat.add_assoc, Nat.reduceAdd]
  obtain ⟨W0, hW0⟩ : ∃ W0, W0 = ((((((w.alloc (.cells #[.slice none 0 0] 23)).alloc (.cells #[.int .i64 0] 3)).alloc (.cells #[.int .i64 0] 35)).alloc (.cells #[.slice none 0 0] 23)).alloc (.cells #[.int .i64 0] 3)).alloc (.cells #[.int .i64 0] 3)).alloc (.cells #[.slice p L c] 23) := ⟨_, rfl⟩
  obtain ⟨hb0, hs0, h0, h1, h2, h3, h4, h5, h6⟩ := seven_new w _ _ _ _ _ _ _ hW0
  rw [← hW0]
  have hbl : ∀ g o, p = some ⟨g, o, none⟩ → 0 < L → g < w.heap.size := fun g o e hL0 => by
    obtain ⟨g', o', e2, hg, _⟩ := h.at hL0
    rw [e] at e2
    cases e2
    exact hg
  have hby := h.later hb0
  have HBYL : Hid (b.length = L ∧ ∀ x ∈ b, x < 256) := ⟨h.len, h.byte⟩
  clear hW0 h
  generalize hB : w.heap.size = B at *
  have HB : Hid (w.heap.size = B) := hB
  refine range_wp (gf := 53) (lb := #[.pointer (some ⟨B + 6, 0, none⟩)]) rfl (enters_of Try.func53 (by kernel_rfl) rfl)
    (takes_iter (K0 := fun k => k < B ∨ k = B + 6) W0 (cell_of_one h6) hby hL (.inr rfl) (by omega) (fun g o e hL0 => .inl (hbl g o e hL0)))
    (fun k hk => by omega) (fun _ => rfl) (WayI w B b) (GoneI w B b) (way_abides w B b) (gone_abides w B b) ⟨[], 0, _, rfl, Und.start b, rfl, h0, h1, h2, h3, h4, h5, World.ownsRow_nil _ _ _ _, hb0, by omega, fun _ h => h.elim⟩
    (fun x W a1 W1 => W1 = W.alloc (.cells #[.slice x.p x.l x.c, .int .i64 (x.A.n : Nat), .int .i64 (x.A.d : Nat), .int .i64 (x.A.z : Nat)] 97) ∧ a1 = { tmps := #[.slice p L c, undef, .pointer (some ⟨B, 0, none⟩), .pointer (some ⟨B + 1, 0, none⟩), .pointer (some ⟨B + 2, 0, none⟩), .pointer (some ⟨B + 3, 0, none⟩), .pointer (some ⟨B + 4, 0, none⟩), .pointer (some ⟨B + 5, 0, none⟩), .pointer (some ⟨W.heap.size, 0, none⟩), .int .i64 (x.A.e : Nat), .slice p L c, .func (.func 53) #[] #[.pointer (some ⟨B + 6, 0, none⟩)], .agg #[.slice x.p x.l x.c, .int .i64 (x.A.n : Nat), .int .i64 (x.A.d : Nat), .int .i64 (x.A.z : Nat)], .int .i64 (x.A.e : Nat), undef, undef, undef, undef, undef, undef, undef, undef, undef, undef, undef, undef, undef, undef, undef, undef, undef, undef, undef, undef, undef, undef, undef, undef, undef, undef], defers := [] }) ?assign ?body ?done ?stop
  case assign =>
    intro m l x W K hK
    unfold takeV
    gi_wp2
    exact hK _ _ ((Below.refl _ W).alloc (Nat.le_refl _) _) ⟨rfl, rfl⟩
  case body =>
    rintro m l s M ⟨xp, xl, xc, ⟨ae, ab, an, ad, az⟩⟩ W a1 W1 W2 ⟨q, n, v, hw⟩ ⟨hok, hm, hA, hat⟩ hMl hl hM hbW ⟨rfl, rfl⟩ hlp hk hsz
    obtain ⟨r, hr⟩ := hlp
    have hlW := hM l hMl
    have hx := hk.at (heap_alloc_new W (.cells #[.slice xp xl xc, .int .i64 (an : Nat), .int .i64 (ad : Nat), .int .i64 (az : Nat)] 97)) (by omega : W.heap.size ≠ l)
    have hat2 := hk.by (hat.later hbW) (fun g o e hL0 => (hat.later hbW).apart hr g o e hL0)
    have hw2 := (hw.kept (keeps_all hbW) (fun k h => .inl h)).kept (hk.mono fun k _ h1 h2 => h1 (h2 ▸ hMl)) (fun k h => .inl h)
    have hlow : ∀ k, (k < B ∨ k = B + 6) ∨ M k → k ≠ B ∧ k ≠ B + 1 ∧ k ≠ B + 2 ∧ k ≠ B + 3 ∧ k ≠ B + 4 ∧ k ≠ B + 5 ∧ v.ownBlock ≠ some k := by
      intro k h7
      rcases h7 with h7 | h7
      · refine ⟨by omega, by omega, by omega, by omega, by omega, by omega, fun h8 => ?_⟩
        have := (hw.own.lt k h8).1
        omega
      · obtain ⟨h8, h9⟩ := hw.out k h7
        exact ⟨by omega, by omega, by omega, by omega, by omega, by omega, h9⟩
    generalize hG : W.heap.size = G at *
    have hGs : B + 7 ≤ G := hG ▸ hw.siz
    obtain ⟨av, cv, rfl⟩ := row_slice hw2.own
    have HW2 : Hid (Way w B b s M W2 q n (.slice av q.length cv)) := hw2
    have HLOW : Hid (∀ k, (k < B ∨ k = B + 6) ∨ M k → k ≠ B ∧ k ≠ B + 1 ∧ k ≠ B + 2 ∧ k ≠ B + 3 ∧ k ≠ B + 4 ∧ k ≠ B + 5 ∧ (Value.slice av q.length cv).ownBlock ≠ some k) := hlow
    have HOUT : Hid (∀ k, M k → B + 7 ≤ k) := fun k h7 => (hw.out k h7).1
    have HNO : Hid (∀ k, k < B + 7 ∨ k = G → (Value.slice av q.length cv).ownBlock ≠ some k) := by
      intro k h7 h8
      have := hw.own.lt k h8
      omega
    have HGW : Hid (G < W2.heap.size) := by
      show _ < _
      rw [hsz]
      simp [hG]
    have HMG : Hid (∀ k, M k → k < G) := hM
    have HAT2 : Hid (ByAt W2 xp xl xc ab) := hat2
    have HA : Hid (takeA b (s.a : Int) = ⟨ae, ab, an, ad, az⟩) := hA.symm
    have hqm : q.length < 4096 := by rw [hw2.len]; exact hm
    have c0 := cell_of_row W2 G 0 _ _ _ hx
    have c1 := cell_of_row W2 G 1 _ _ _ hx
    have c2 := cell_of_row W2 G 2 _ _ _ hx
    have c3 := cell_of_row W2 G 3 _ _ _ hx
    simp only [List.getElem?_toArray, List.getElem?_cons_zero, List.getElem?_cons_succ] at c0 c1 c2 c3
    have k0 := cell_of_one hw2.r0
    have k1 := cell_of_one hw2.r1
    have k2 := cell_of_one hw2.r2
    have k3 := cell_of_one hw2.pg
    have f0 := free_of_one hw2.r0
    have f1 := free_of_one hw2.r1
    have f2 := free_of_one hw2.r2
    have f3 := free_of_one hw2.pg
    clear hw hw2 hlow hat hat2 hA hk hbW hx hr hM
    by_cases he : ae = 0
    · subst he
      obtain ⟨o1, o2, o3⟩ := take_ok HBYL.out.2 HA.out rfl
      have HO1 : Hid (mayT ab.length (an : Int) (ad : Int) = true) := o1
      clear o1
      by_cases hd : ad ≤ q.length
      · gi_wp2_with fail
        refine ⟨trivial, fun h => (by cases h), CallsIn.mono (CallsIn.inRound l (callsIn_wide.2 (sgrow_yes W2 HW2.out.own HW2.out.und.byte HW2.out.siz (by omega) HAT2.out HO1.out hd))) ?_⟩
        rintro e W3 ⟨g3, cap3, rfl, own3, keep3, hat3⟩
        have hal : ab.length = xl := HAT2.out.len
        have x3 := cell_of_one (keep3.at HW2.out.pg (HNO.out _ (.inl (by omega))))
        have x4 := cell_of_one (keep3.at HW2.out.many (HNO.out _ (.inl (by omega))))
        have x5 := cell_of_one (keep3.at HW2.out.fin (HNO.out _ (.inl (by omega))))
        have y3 := free_of_one (keep3.at HW2.out.pg (HNO.out _ (.inl (by omega))))
        have y4 := free_of_one (keep3.at HW2.out.many (HNO.out _ (.inl (by omega))))
        have y5 := free_of_one (keep3.at HW2.out.fin (HNO.out _ (.inl (by omega))))
        have xg : W3.cell? ⟨G, 3, none⟩ = some (.int .i64 (az : Nat)) := (keep3.cell (p := ⟨G, 3, none⟩) HGW.out (HNO.out _ (.inr rfl))).trans c3
        have K3 : Hid (Keeps (fun j => (Value.slice av q.length cv).ownBlock ≠ some j) W2 W3) := keep3
        have OWN3 : Hid (W3.ownsRow (B + 7) 5 1 (.slice (some ⟨g3, 0, none⟩) (q.length + sizeT xl (an : Int) (ad : Int)) cap3) (q.length + sizeT xl (an : Int) (ad : Int)) (bv (growB q ab (an : Int) (ad : Int)))) := own3
        have HAT3 : Hid ((Value.slice av q.length cv).ownBlock = some g3 ∨ W2.heap.size ≤ g3) := hat3
        have hn4 : n ≤ 5000 := by have := HW2.out.und.many; omega
        clear own3 keep3 hat3 c0 c1 c2 c3 k0 k1 k2 k3 f0 f1 f2 f3
        have HGS : Hid (growB q ab (an : Int) (ad : Int) = growB q ab (an : Int) (ad : Int) ∧ (growB q ab (an : Int) (ad : Int)).length = q.length + sizeT xl (an : Int) (ad : Int)) := ⟨rfl, by rw [← hal]; exact grow_size HO1.out⟩
        generalize q.length + sizeT xl (an : Int) (ad : Int) = k3 at *
        have hne : B + 3 ≠ G ∧ B + 4 ≠ G ∧ B + 5 ≠ G := by omega
        obtain ⟨ne1, ne2, ne3⟩ := hne
        have hwr : IntKind.i64.wrap ((n : Int) + 1) = (n : Int) + 1 := IntWalk.i64_in _ (by omega)
        have HE : Hid (roundEnd (fun k => k < B ∨ k = B + 6) (WayI w B b) (GoneI w B b) (Pl.next s ⟨xp, xl, xc, ⟨0, ab, an, ad, az⟩⟩) M W2 .normal { tmps := #[], defers := [] } ((((W3.setCell ⟨B + 3, 0, none⟩ (.slice (some ⟨g3, 0, none⟩) k3 cap3)).setCell ⟨B + 4, 0, none⟩ (.int .i64 ((n : Int) + 1))).setCell ⟨B + 5, 0, none⟩ (.int .i64 (az : Nat))).drew)) := by
          have hnx : Pl.next s ⟨xp, xl, xc, ⟨0, ab, an, ad, az⟩⟩ = ⟨az, k3, true⟩ := by
            unfold Pl.next
            rw [if_pos rfl]
            have := HGS.out.2
            rw [grow_size HO1.out, HW2.out.len] at this
            rw [← this]
          refine ⟨(K3.out.mono fun k _ h7 => (HLOW.out k h7).2.2.2.2.2.2).trans (set3'_keeps _ _ _ fun k h7 => ⟨(HLOW.out k h7).2.2.2.1, (HLOW.out k h7).2.2.2.2.1, (HLOW.out k h7).2.2.2.2.2.1⟩), ?_⟩
          rw [hnx]
          exact ⟨_, _, _, way_next (s' := ⟨az, k3, true⟩) HW2.out K3.out OWN3.out HAT3.out (fun k h7 => Nat.lt_trans (HMG.out k h7) HGW.out) HGS.out.2 rfl (HW2.out.und.step HBYL.out.2 hqm HA.out rfl hd) rfl (by simp)⟩
        gi_wp2
        gi_region
        all_goals exact HE.out
      · gi_wp2_with fail
        refine ⟨trivial, fun h => (by cases h), CallsIn.mono (CallsIn.inRound l (callsIn_wide.2 (sgrow_no W2 HW2.out.own HW2.out.und.byte (by omega) HAT2.out HO1.out hd))) ?_⟩
        rintro e W3 ⟨rfl, b3⟩
        have x0 := cell_of_one ((b3.block _ (by have := HW2.out.siz; omega)).trans HW2.out.r0)
        have x1 := cell_of_one ((b3.block _ (by have := HW2.out.siz; omega)).trans HW2.out.r1)
        have x2 := cell_of_one ((b3.block _ (by have := HW2.out.siz; omega)).trans HW2.out.r2)
        have x3 := cell_of_one ((b3.block _ (by have := HW2.out.siz; omega)).trans HW2.out.pg)
        have y0 := free_of_one ((b3.block _ (by have := HW2.out.siz; omega)).trans HW2.out.r0)
        have y1 := free_of_one ((b3.block _ (by have := HW2.out.siz; omega)).trans HW2.out.r1)
        have y2 := free_of_one ((b3.block _ (by have := HW2.out.siz; omega)).trans HW2.out.r2)
        have y3 := free_of_one ((b3.block _ (by have := HW2.out.siz; omega)).trans HW2.out.pg)
        have B3 : Hid (Below W2.heap.size W2 W3) := b3
        clear b3 c0 c1 c2 c3 k0 k1 k2 k3 f0 f1 f2 f3
        have HF : Hid (unpA b = noU 3) := HW2.out.und.form hqm HA.out rfl hd
        have k3 : Keeps (fun k => k ≠ B + 3) W3 (W3.setCell ⟨B + 3, 0, none⟩ (.slice none 0 0)) := ⟨rfl, rfl, rfl, by simp, fun k _ hk => Below.heap_setCell _ _ _ _ hk⟩
        have hsz3 := B3.out.size
        have hsz2 := HW2.out.siz
        have HK3 : Hid _ := k3
        have HE : Hid (roundEnd (fun k => k < B ∨ k = B + 6) (WayI w B b) (GoneI w B b) (Pl.next s ⟨xp, xl, xc, ⟨0, ab, an, ad, az⟩⟩) M W2 .ret { tmps := #[], defers := [] } ((((W3.setCell ⟨B + 3, 0, none⟩ (.slice none 0 0)).setCell ⟨B, 0, none⟩ (.slice none 0 0)).setCell ⟨B + 1, 0, none⟩ (.int .i64 0)).setCell ⟨B + 2, 0, none⟩ (.int .i64 3))) := by
          refine ⟨(keeps_all B3.out).trans ((k3.mono fun k _ h7 => (HLOW.out k h7).2.2.2.1).trans (set3_keeps _ _ _ fun k h7 => ⟨(HLOW.out k h7).1, (HLOW.out k h7).2.1, (HLOW.out k h7).2.2.1⟩)), 3, ?_⟩
          refine gone_set HF.out (k3.at ((B3.out.block _ (by omega)).trans HW2.out.r0) (by omega)) (k3.at ((B3.out.block _ (by omega)).trans HW2.out.r1) (by omega)) (k3.at ((B3.out.block _ (by omega)).trans HW2.out.r2) (by omega)) ?_ (by simp; omega) HOUT.out
          exact HW2.out.bel.trans ((B3.out.mono (by omega)).trans (k3.below (fun k h7 => by omega) (by omega)))
        clear k3
        gi_wp2
        exact HE.out
    · have i2 : ((ae : Int) == 0) = false := by rw [beq_eq_false_iff_ne]; omega
      have i3 : ((ae : Int) != 0) = true := by rw [bne_iff_ne]; omega
      gi_wp2
      exact ⟨set3_keeps _ _ _ fun k h7 => ⟨(HLOW.out k h7).1, (HLOW.out k h7).2.1, (HLOW.out k h7).2.2.1⟩, ae, gone_set (HW2.out.und.err hqm HA.out he) HW2.out.r0 HW2.out.r1 HW2.out.r2 HW2.out.bel HW2.out.siz HOUT.out⟩
  case done =>
    rintro D s M W hD hdone hMD ⟨q, n, v, hw⟩ hK
    obtain ⟨av, cv, rfl⟩ := row_slice hw.own
    have hq4 : 4096 ≤ q.length := by
      rw [hw.len]
      rcases hdone with h7 | h7
      · rw [hw.ok] at h7; cases h7
      · exact h7
    have hu := hw.und.over hq4
    have hqs := hw.und.short
    have k0 := cell_of_one hw.r0
    have k1 := cell_of_one hw.r1
    have k2 := cell_of_one hw.r2
    have k3 := cell_of_one hw.pg
    have k4 := cell_of_one hw.many
    have k5 := cell_of_one hw.fin
    have f0 := free_of_one hw.r0
    have f1 := free_of_one hw.r1
    have f2 := free_of_one hw.r2
    have HW : Hid (Way w B b s M W q n (.slice av q.length cv)) := hw
    have HU : Hid (unpA b = endU b s.a q n) := hu
    have HK : Hid (W.heap[D]? = some (.deferred (some []))) := hK
    have HL : Hid (b.length = L) := HBYL.out.1
    have hDB : B + 7 ≤ D := by omega
    clear hw hu hK h0 h1 h2 h3 h4 h5 h6
    by_cases hq5 : 4096 < q.length
    · have i1 : (4096 : Int) < (q.length : Int) := by omega
      have HG : Hid (Gone w B b (fun _ => False) _ 5) := gone_set (HU.out.trans (if_pos hq5)) HW.out.r0 HW.out.r1 HW.out.r2 HW.out.bel HW.out.siz (fun _ h => h.elim)
      have HKD : Hid _ := (set3_keeps (B := B) (K := fun k => B + 3 ≤ k) (W := W) (.slice none 0 0) (.int .i64 0) (.int .i64 5) (fun k hk => by omega)).at HK.out (by omega)
      gi_wp2
      refine unpack_end (B := B) rfl rfl rfl HG.out.r0 HG.out.r1 HG.out.r2 HKD.out hDB ?_
      have hgi := HG.out.is
      rw [hgi]
      exact ⟨_, rfl, World.ownsRow_nil _ _ _ _, HB.out ▸ HG.out.bel.trans ((keeps_put _ D _).below (fun k hk => by omega) (by have := HG.out.siz; omega))⟩
    · have i1 : ¬ (4096 : Int) < (q.length : Int) := by omega
      by_cases ha : s.a < L
      · have i2 : (s.a : Int) < (L : Int) := by omega
        have HG : Hid (Gone w B b (fun _ => False) _ 3) := gone_set (HU.out.trans ((if_neg hq5).trans (if_pos (by rw [HL.out]; exact ha)))) HW.out.r0 HW.out.r1 HW.out.r2 HW.out.bel HW.out.siz (fun _ h => h.elim)
        have HKD : Hid _ := (set3_keeps (B := B) (K := fun k => B + 3 ≤ k) (W := W) (.slice none 0 0) (.int .i64 0) (.int .i64 3) (fun k hk => by omega)).at HK.out (by omega)
        gi_wp2
        refine unpack_end (B := B) rfl rfl rfl HG.out.r0 HG.out.r1 HG.out.r2 HKD.out hDB ?_
        have hgi := HG.out.is
        rw [hgi]
        exact ⟨_, rfl, World.ownsRow_nil _ _ _ _, HB.out ▸ HG.out.bel.trans ((keeps_put _ D _).below (fun k hk => by omega) (by have := HG.out.siz; omega))⟩
      · have i2 : ¬ (s.a : Int) < (L : Int) := by omega
        have HE : Hid (unpA b = ⟨0, q, n⟩) := HU.out.trans ((if_neg hq5).trans (if_neg (by rw [HL.out]; exact ha)))
        have HND : Hid ((Value.slice av q.length cv).ownBlock ≠ some D) := (HW.out.out D hMD).2
        gi_wp2
        gi_region
        all_goals gi_wp2
        obtain ⟨s0, s1, s2⟩ := set3_drew (u0 := .slice av q.length cv) (u1 := .int .i64 (n : Int)) (u2 := .int .i64 0) HW.out.r0 HW.out.r1 HW.out.r2
        have hs3 := set3_keeps (B := B) (K := fun k => k < B ∨ B + 3 ≤ k) (W := W) (.slice av q.length cv) (.int .i64 (n : Int)) (.int .i64 0) (fun k hk => by omega)
        have hs4 := hs3.trans ⟨rfl, rfl, rfl, Nat.le_refl _, fun _ _ _ => rfl⟩ (c := (((W.setCell ⟨B, 0, none⟩ (.slice av q.length cv)).setCell ⟨B + 1, 0, none⟩ (.int .i64 (n : Int))).setCell ⟨B + 2, 0, none⟩ (.int .i64 0)).drew)
        refine unpack_end (B := B) rfl rfl rfl s0 s1 s2 (hs4.at HK.out (.inr (by omega))) hDB ?_
        rw [HE.out, HB.out]
        have hsz := HW.out.siz
        have hs5 := hs4.size
        exact ⟨_, rfl, rowMono ((keeps_put _ D _).row (hs4.row HW.out.own fun g hg => .inr (by have := (HW.out.own.lt g hg).1; omega)) fun g hg h9 => HND.out (h9 ▸ hg)) (by omega), (HW.out.bel.trans (hs4.below (fun k hk => .inl hk) (by omega))).trans ((keeps_put _ D _).below (fun k hk => by omega) (by omega))⟩
  case stop =>
    rintro D s M W hD _ hMD ⟨e, hg⟩ hK
    have hDB : B + 7 ≤ D := by omega
    have HG : Hid (Gone w B b M W e) := hg
    have HKD : Hid (W.heap[D]? = some (.deferred (some []))) := hK
    clear hg hK
    gi_wp2
    refine unpack_end (B := B) rfl rfl rfl HG.out.r0 HG.out.r1 HG.out.r2 HKD.out hDB ?_
    have hgi := HG.out.is
    rw [hgi]
    exact ⟨_, rfl, World.ownsRow_nil _ _ _ _, HB.out ▸ HG.out.bel.trans ((keeps_put _ D _).below (fun k hk => by omega) (by have := HG.out.siz; omega))⟩
/-- What is told of bytes. -/
theorem unpack_is {p : Option Addr} {L c : Nat} {b : List Nat} {U : Un} (w : World) (h : ByAt w p L c b) (hL : L ≤ 100000) (hU : unpA b = U) :
    Calls Try.prog 41 #[.slice p L c] w fun e w' => ∃ a cp, e = .returned (.tuple #[.slice a U.q.length cp, .int .i64 (U.n : Nat), .int .i64 (U.e : Nat)]) ∧ w'.ownsRow w.heap.size 5 1 (.slice a U.q.length cp) U.q.length (bv U.q) ∧ Below w.heap.size w w' := by
  subst hU
  refine (unpack_any w h hL).mono ?_
  rintro e w' ⟨v, rfl, own, bel⟩
  obtain ⟨a, cp, rfl⟩ := row_slice own
  exact ⟨a, cp, rfl, own, bel⟩
set_option maxHeartbeats 1000000 in
theorem sunpack_any {p : Option Addr} {L c : Nat} {b : List Nat} {U : Un} (w : World) (h : ByAt w p L c b) (hL : L ≤ 100000) (hU : unpA b = U) :
    Calls Try.prog 24 #[.slice p L c] w fun e w' => ∃ a cp, e = .returned (.tuple #[.slice a U.q.length cp, .int .i64 (U.e : Nat)]) ∧ w'.ownsRow w.heap.size 5 1 (.slice a U.q.length cp) U.q.length (bv U.q) ∧ Below w.heap.size w w' := by
  have HC : Hid (Calls Try.prog 41 #[.slice p L c] w fun e w' => ∃ a cp, e = .returned (.tuple #[.slice a U.q.length cp, .int .i64 (U.n : Nat), .int .i64 (U.e : Nat)]) ∧ w'.ownsRow w.heap.size 5 1 (.slice a U.q.length cp) U.q.length (bv U.q) ∧ Below w.heap.size w w') := unpack_is w h hL hU
  clear h hU
  go_enter Try.func24, Try.ntmps24
  go_wp2_with fail
  refine Calls.mono HC.out ?_
  rintro e w' ⟨a, cp, rfl, own, bel⟩
  have HO : Hid _ := own
  have HB : Hid _ := bel
  clear own bel
  go_wp2
  go_ret2
  exact ⟨_, _, rfl, HO.out, HB.out⟩
end Go.Proofs.Ytgninhecclinaaa
