/- The document's own log of what was written: plain facts, and how it lies in memory. -/
import Derived.Test.YteebjeifbccbnaaMWas
import Derived.Test.YteebjeifbccbnaaFRefG
import Derived.Test.YteebjeifbccbnaaFRefN
namespace Go.Proofs.Yteebjeifbccbnaa
open Go.RowKit

/-- What was written: frame, place, the slice that holds it, its bytes. -/
structure Wt where
  n : Nat
  a : Nat
  v : Value
  b : List Nat
/-- Does t say what byte i of frame n is? -/
def Wt.on (t : Wt) (n i : Nat) : Bool := decide (t.n = n ∧ t.a ≤ i ∧ i < t.a + t.b.length)
/-- Byte i of frame n, by the log. -/
def rp (L : List Wt) (n i : Nat) : Nat := L.foldl (fun acc t => if t.on n i then t.b.getD (i - t.a) 0 else acc) 0
theorem rp_nil (n i : Nat) : rp [] n i = 0 := rfl
theorem rp_snoc (L : List Wt) (t : Wt) (n i : Nat) : rp (L ++ [t]) n i = if t.on n i then t.b.getD (i - t.a) 0 else rp L n i := by simp [rp, List.foldl_append]
theorem fold_off (n i : Nat) : ∀ (L : List Wt) (z : Nat), (∀ t ∈ L, t.on n i = false) → L.foldl (fun acc t => if t.on n i then t.b.getD (i - t.a) 0 else acc) z = z
  | [], _, _ => rfl
  | t :: L, z, h => by
    rw [List.foldl_cons, h t (by simp)]
    exact fold_off n i L z (fun t ht => h t (by simp [ht]))
theorem fold_cut (n i n0 : Nat) (hn : n ≠ n0) : ∀ (L : List Wt) (z : Nat), (L.filter fun t => decide (t.n ≠ n0)).foldl (fun acc t => if t.on n i then t.b.getD (i - t.a) 0 else acc) z = L.foldl (fun acc t => if t.on n i then t.b.getD (i - t.a) 0 else acc) z
  | [], _ => rfl
  | t :: L, z => by
    by_cases h : t.n = n0
    · have h1 : t.on n i = false := decide_eq_false (by omega)
      rw [List.filter_cons_of_neg (by simp [h]), List.foldl_cons, h1]
      exact fold_cut n i n0 hn L z
    · rw [List.filter_cons_of_pos (by simp [h]), List.foldl_cons, List.foldl_cons]
      exact fold_cut n i n0 hn L _
/-- The log without frame n0. -/
def cutL (L : List Wt) (n0 : Nat) : List Wt := L.filter fun t => decide (t.n ≠ n0)
theorem rp_cut (L : List Wt) (n0 n i : Nat) : rp (cutL L n0) n i = if n = n0 then 0 else rp L n i := by
  by_cases h : n = n0
  · subst h
    rw [if_pos rfl]
    refine fold_off n i _ 0 (fun t ht => ?_)
    have := (List.mem_filter.1 ht).2
    simp at this
    exact decide_eq_false (by omega)
  · rw [if_neg h]
    exact fold_cut n i n0 h L 0
/-- The memory is as the log says. -/
def AsLog (m : Nat) (P : List Nat) (L : List Wt) : Prop := ∀ n i, n < m → i < 4096 → P.getD (n * 4096 + i) 0 = rp L n i
theorem AsLog.start (m k : Nat) : AsLog m (List.replicate k 0) [] := fun n i _ _ => by rw [repN_getD, rp_nil]
theorem AsLog.take {m : Nat} {P : List Nat} {L : List Wt} (h : AsLog m P L) (hl : P.length = m * 4096) {n0 : Nat} (hn : n0 < m) : AsLog m (putAt P (n0 * 4096) (List.replicate 4096 0)) (cutL L n0) := by
  intro n i h1 h2
  have e := plc_le (a := 0) (s := 4096) hn (by omega)
  have e2 := plc_nat n0 0
  have hrl : (List.replicate 4096 (0 : Nat)).length = 4096 := List.length_replicate
  rw [putAt_getD (by rw [hrl]; omega), rp_cut, hrl]
  by_cases c : n = n0
  · subst c
    rw [if_pos (by omega), if_pos rfl, repN_getD]
  · rw [if_neg (by omega), if_neg c]
    exact h n i h1 h2
theorem AsLog.write {m : Nat} {P : List Nat} {L : List Wt} (h : AsLog m P L) (hl : P.length = m * 4096) {O : List Int} (ho : O.length = m) {nd ad : Nat} {b : List Nat} {v : Value} (ht : thB O nd ad b.length = true) :
    AsLog m (wrP O P nd ad b) (L ++ [⟨nd, ad, v, b⟩]) := by
  intro n i h1 h2
  rw [wr_at hl ho ht h2, rp_snoc]
  by_cases c : n = nd ∧ ad ≤ i ∧ i < ad + b.length
  · have hon : Wt.on ⟨nd, ad, v, b⟩ n i = true := decide_eq_true ⟨c.1.symm, c.2.1, c.2.2⟩
    rw [if_pos c, if_pos hon]
  · have hon : Wt.on ⟨nd, ad, v, b⟩ n i = false := decide_eq_false (fun h => c ⟨h.1.symm, h.2.1, h.2.2⟩)
    rw [if_neg c, if_neg (by rw [hon]; simp)]
    exact h n i h1 h2
/-- What the document reads. -/
def rpL (L : List Wt) (n a s : Nat) : List Nat := (List.range s).map fun i => rp L n (a + i)
theorem rpL_len (L : List Wt) (n a s : Nat) : (rpL L n a s).length = s := by simp [rpL]
theorem rpL_at (L : List Wt) (n a s i : Nat) (hi : i < s) : (rpL L n a s).getD i 0 = rp L n (a + i) := by simp [rpL, List.getD, hi]
theorem AsLog.read {m : Nat} {P : List Nat} {L : List Wt} (h : AsLog m P L) (hl : P.length = m * 4096) {n a s : Nat} (hn : n < m) (has : a + s ≤ 4096) : seg P (n * 4096 + a) s = rpL L n a s := by
  have e := plc_le (a := a) (s := s) hn has
  have e2 := plc_nat n a
  refine ext_getD (by rw [length_seg (by omega), rpL_len]) ?_
  intro i hi
  rw [length_seg (by omega)] at hi
  rw [seg_getD hi, rpL_at _ _ _ _ _ hi, Nat.add_assoc]
  exact h n (a + i) hn (by omega)

/-- The cells of a log. -/
def wc (L : List Wt) : List Value := L.flatMap fun t => [.int .i64 (t.n : Int), .int .i64 (t.a : Int), t.v]
theorem wc_len : ∀ L : List Wt, (wc L).length = L.length * 3
  | [] => rfl
  | t :: L => by
    have := wc_len L
    simp only [wc, List.flatMap_cons, List.length_append, List.length_cons, List.length_nil] at this ⊢
    omega
theorem wc_snoc (L : List Wt) (t : Wt) : wc (L ++ [t]) = wc L ++ [.int .i64 (t.n : Int), .int .i64 (t.a : Int), t.v] := by simp [wc]
theorem wc_at : ∀ (L : List Wt) (i : Nat) (hi : i < L.length), (wc L)[i * 3]? = some (.int .i64 (L[i].n : Int)) ∧ (wc L)[i * 3 + 1]? = some (.int .i64 (L[i].a : Int)) ∧ (wc L)[i * 3 + 2]? = some L[i].v
  | t :: L, 0, _ => by simp [wc]
  | t :: L, i + 1, hi => by
    have h := wc_at L i (by simpa using hi)
    have e : wc (t :: L) = [.int .i64 (t.n : Int), .int .i64 (t.a : Int), t.v] ++ wc L := by simp [wc]
    rw [e]
    refine ⟨?_, ?_, ?_⟩
    · rw [List.getElem?_append_right (by simp; omega)]
      have : (i + 1) * 3 - 3 = i * 3 := by omega
      simpa [this] using h.1
    · rw [List.getElem?_append_right (by simp; omega)]
      have : (i + 1) * 3 + 1 - 3 = i * 3 + 1 := by omega
      simpa [this] using h.2.1
    · rw [List.getElem?_append_right (by simp; omega)]
      have : (i + 1) * 3 + 2 - 3 = i * 3 + 2 := by omega
      simpa [this] using h.2.2
/-- A log in memory. -/
structure LogAt (C : Nat) (w : World) (vL : Value) (L : List Wt) : Prop where
  row : w.ownsRow C 86 3 vL L.length (wc L)
  each : ∀ t ∈ L, w.ownsRow C 5 1 t.v t.b.length (bv t.b) ∧ t.a + t.b.length ≤ 4096 ∧ t.n < 96
section
variable {B E C : Nat} {w w' : World} {vL : Value} {L : List Wt}
theorem LogAt.nil (C : Nat) (w : World) : LogAt C w (.slice none 0 0) [] := ⟨World.ownsRow_nil _ _ _ _, by simp⟩
theorem LogAt.below (h : LogAt C w vL L) (hb : Below w.heap.size w w') : LogAt C w' vL L := ⟨row_below h.row hb, fun t ht => ⟨row_below (h.each t ht).1 hb, (h.each t ht).2⟩⟩
theorem LogAt.turns (h : LogAt C w vL L) (hb : Turns B E w w') (hC : E ≤ C) : LogAt C w' vL L := ⟨hb.row h.row hC, fun t ht => ⟨hb.row (h.each t ht).1 hC, (h.each t ht).2⟩⟩
theorem DocAt.turns {vO vW : Value} {m : Nat} {O W : List Int} (h : DocAt C w vO vW m O W) (hb : Turns B E w w') (hC : E ≤ C) : DocAt C w' vO vW m O W := ⟨hb.row h.rO hC, hb.row h.rW hC⟩
end
theorem row_at3 {w : World} {base n c : Nat} {e : TypeId} {a : Option Addr} {xs : List Value} (h : w.ownsRow base e 3 (.slice a n c) n xs) {i : Nat} (hi : i < n) :
    ∃ g, a = some ⟨g, 0, none⟩ ∧ w.cell? ⟨g, i * 3, none⟩ = xs[i * 3]? ∧ w.cell? ⟨g, i * 3 + 1, none⟩ = xs[i * 3 + 1]? ∧ w.cell? ⟨g, i * 3 + 2, none⟩ = xs[i * 3 + 2]? ∧ base ≤ g ∧ g < w.heap.size := by
  rcases h.2 with ⟨_, h2⟩ | ⟨g, cap, cur, h1, h2, h3, _⟩
  · omega
  · simp only [Value.slice.injEq, true_and] at h1
    obtain ⟨rfl, rfl⟩ := h1
    have hl := h.1
    exact ⟨g, rfl, h.cellAt (i * 3) (by omega), h.cellAt (i * 3 + 1) (by omega), h.cellAt (i * 3 + 2) (by omega), h2, (Array.getElem?_eq_some_iff.1 h3).1⟩
end Go.Proofs.Yteebjeifbccbnaa
