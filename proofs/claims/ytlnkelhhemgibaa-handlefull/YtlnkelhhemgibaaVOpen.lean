/- Opening places and deeds, by value and in slices. -/
import Derived.Test.YtlnkelhhemgibaaVPlain
import Derived.Test.YtlnkelhhemgibaaBOpen
import Derived.Deep.Slices
import Derived.Deep.SlicePairs
import Derived.Lib.SmallJoins
namespace Go.Proofs.Ytlnkelhhemgibaa
open Go.ChangeShapes Go.WideShapes Go.ChangeAt Go.RowKit Go.Deep

/-- A deed: a call, a handle, a place. -/
structure Dd where
  k : Int
  h : Int
  q : Pl
/-- Places that lie in memory, read through a slice value. -/
def ArgP (w : World) (a : Option Addr) (T : List Pl) : Prop :=
  ∀ i x, T[i]? = some x → ∃ b off, a = some ⟨b, off, none⟩ ∧ b < w.heap.size ∧ w.cell? ⟨b, off + i * 3, none⟩ = some (.int .i64 x.p) ∧ w.cell? ⟨b, off + i * 3 + 1, none⟩ = some (.int .i64 x.o) ∧ w.cell? ⟨b, off + i * 3 + 2, none⟩ = some (.int .i64 x.l)
theorem ArgP.later {w w' : World} {a : Option Addr} {T : List Pl} (h : ArgP w a T) (hb : Below w.heap.size w w') : ArgP w' a T := by
  intro i x hx
  obtain ⟨b, off, h1, h2, c0, c1, c2⟩ := h i x hx
  exact ⟨b, off, h1, Nat.lt_of_lt_of_le h2 hb.size, (hb.cell (p := ⟨b, off + i * 3, none⟩) h2).trans c0, (hb.cell (p := ⟨b, off + i * 3 + 1, none⟩) h2).trans c1, (hb.cell (p := ⟨b, off + i * 3 + 2, none⟩) h2).trans c2⟩
/-- Deeds that lie in memory. -/
def ArgD (w : World) (a : Option Addr) (T : List Dd) : Prop :=
  ∀ i x, T[i]? = some x → ∃ b off, a = some ⟨b, off, none⟩ ∧ b < w.heap.size ∧ w.cell? ⟨b, off + i * 5, none⟩ = some (.int .i64 x.k) ∧ w.cell? ⟨b, off + i * 5 + 1, none⟩ = some (.int .i64 x.h) ∧ w.cell? ⟨b, off + i * 5 + 2, none⟩ = some (.int .i64 x.q.p) ∧ w.cell? ⟨b, off + i * 5 + 3, none⟩ = some (.int .i64 x.q.o) ∧ w.cell? ⟨b, off + i * 5 + 4, none⟩ = some (.int .i64 x.q.l)
theorem ArgD.later {w w' : World} {a : Option Addr} {T : List Dd} (h : ArgD w a T) (hb : Below w.heap.size w w') : ArgD w' a T := by
  intro i x hx
  obtain ⟨b, off, h1, h2, c0, c1, c2, c3, c4⟩ := h i x hx
  exact ⟨b, off, h1, Nat.lt_of_lt_of_le h2 hb.size, (hb.cell (p := ⟨b, off + i * 5, none⟩) h2).trans c0, (hb.cell (p := ⟨b, off + i * 5 + 1, none⟩) h2).trans c1, (hb.cell (p := ⟨b, off + i * 5 + 2, none⟩) h2).trans c2, (hb.cell (p := ⟨b, off + i * 5 + 3, none⟩) h2).trans c3, (hb.cell (p := ⟨b, off + i * 5 + 4, none⟩) h2).trans c4⟩
instance : Inhabited Pl := ⟨zP⟩
instance : Inhabited Dd := ⟨⟨0, 0, zP⟩⟩
theorem array5 {α : Type} {cs : Array α} (h : cs.size = 5) : ∃ c0 c1 c2 c3 c4, cs = #[c0, c1, c2, c3, c4] := by
  obtain ⟨l⟩ := cs
  match l, h with
  | [c0, c1, c2, c3, c4], _ => exact ⟨c0, c1, c2, c3, c4, rfl⟩

variable {H : Type} {enc : TypeId × Value → H} {P : Program} {w : World} {base : Nat}
/-- Three ints in three cells. -/
theorem threeInts {e : TypeId} {f0 f1 f2 : Field} {n : Nat} {v0 v1 v2 : Value} {x : DataW H × List MemPlace} (he : P.underlying e = some (.struct #[f0, f1, f2]))
    (o0 : f0.offset = 0) (o1 : f1.offset = 1) (o2 : f2.offset = 2) (c0 : P.cellsOf f0.type = 1) (c1 : P.cellsOf f1.type = 1) (c2 : P.cellsOf f2.type = 1)
    (u0 : P.underlying f0.type = some (.int .i64)) (u1 : P.underlying f1.type = some (.int .i64)) (u2 : P.underlying f2.type = some (.int .i64))
    (h : DataW.trod enc P w 0 (fun _ => true) true n e [v0, v1, v2] = some x) : ∃ q : Pl, v0 = .int .i64 q.p ∧ v1 = .int .i64 q.o ∧ v2 = .int .i64 q.l := by
  obtain ⟨xs, k, hk, hxy, _, hxl, hf⟩ := DataW.trod_struct he h
  match xs, hxl with
  | [y0, y1, y2], _ =>
    have g0 := hf 0 f0 rfl
    have g1 := hf 1 f1 rfl
    have g2 := hf 2 f2 rfl
    simp [o0, o1, o2, c0, c1, c2] at g0 g1 g2
    obtain ⟨z0, q0, _, w0⟩ := DataW.trod_int u0 g0
    obtain ⟨z1, q1, _, w1⟩ := DataW.trod_int u1 g1
    obtain ⟨z2, q2, _, w2⟩ := DataW.trod_int u2 g2
    simp at q0 q1 q2
    exact ⟨⟨z0, z1, z2⟩, q0, q1, q2⟩
/-- A place by value. -/
theorem openP1 {t : TypeId} {f0 f1 f2 : Field} {v : Value} {d : DataW H} {p : List MemPlace} (he : P.underlying t = some (.struct #[f0, f1, f2])) (ce : P.cellsOf t = 3)
    (o0 : f0.offset = 0) (o1 : f1.offset = 1) (o2 : f2.offset = 2) (c0 : P.cellsOf f0.type = 1) (c1 : P.cellsOf f1.type = 1) (c2 : P.cellsOf f2.type = 1)
    (u0 : P.underlying f0.type = some (.int .i64)) (u1 : P.underlying f1.type = some (.int .i64)) (u2 : P.underlying f2.type = some (.int .i64))
    (o : Value.okWide P w .any base t v) (h : DataW.Trod enc P w 0 (fun _ => true) true t v d p) :
    ∃ q : Pl, v = .agg #[.int .i64 q.p, .int .i64 q.o, .int .i64 q.l] := by
  obtain ⟨cs, rfl, hsz⟩ := okWide_struct he o
  obtain ⟨v0, v1, v2, rfl⟩ := Joins.array3 (hsz.trans ce)
  obtain ⟨fuel, hf⟩ := h
  obtain ⟨q, rfl, rfl, rfl⟩ := threeInts he o0 o1 o2 c0 c1 c2 u0 u1 u2 (by simpa [Value.cells] using hf)
  exact ⟨q, rfl⟩
/-- Five ints, three of them in a struct of their own. -/
theorem fiveInts {t : TypeId} {g0 g1 g2 f0 f1 f2 : Field} {n : Nat} {v0 v1 v2 v3 v4 : Value} {x : DataW H × List MemPlace} (ht : P.underlying t = some (.struct #[g0, g1, g2])) (he : P.underlying g2.type = some (.struct #[f0, f1, f2]))
    (i0 : g0.offset = 0) (i1 : g1.offset = 1) (i2 : g2.offset = 2) (j0 : P.cellsOf g0.type = 1) (j1 : P.cellsOf g1.type = 1) (j2 : P.cellsOf g2.type = 3)
    (m0 : P.underlying g0.type = some (.int .i64)) (m1 : P.underlying g1.type = some (.int .i64))
    (o0 : f0.offset = 0) (o1 : f1.offset = 1) (o2 : f2.offset = 2) (c0 : P.cellsOf f0.type = 1) (c1 : P.cellsOf f1.type = 1) (c2 : P.cellsOf f2.type = 1)
    (u0 : P.underlying f0.type = some (.int .i64)) (u1 : P.underlying f1.type = some (.int .i64)) (u2 : P.underlying f2.type = some (.int .i64))
    (h : DataW.trod enc P w 0 (fun _ => true) true n t [v0, v1, v2, v3, v4] = some x) : ∃ q : Dd, v0 = .int .i64 q.k ∧ v1 = .int .i64 q.h ∧ v2 = .int .i64 q.q.p ∧ v3 = .int .i64 q.q.o ∧ v4 = .int .i64 q.q.l := by
  obtain ⟨xs, k, hk, hxy, _, hxl, hf⟩ := DataW.trod_struct ht h
  match xs, hxl with
  | [y0, y1, y2], _ =>
    have b0 := hf 0 g0 rfl
    have b1 := hf 1 g1 rfl
    have b2 := hf 2 g2 rfl
    simp [i0, i1, i2, j0, j1, j2] at b0 b1 b2
    obtain ⟨z0, q0, _, w0⟩ := DataW.trod_int m0 b0
    obtain ⟨z1, q1, _, w1⟩ := DataW.trod_int m1 b1
    obtain ⟨q, q2, q3, q4⟩ := threeInts he o0 o1 o2 c0 c1 c2 u0 u1 u2 b2
    simp at q0 q1
    exact ⟨⟨z0, z1, q⟩, q0, q1, q2, q3, q4⟩
/-- A deed by value. -/
theorem openD1 {t : TypeId} {g0 g1 g2 f0 f1 f2 : Field} {v : Value} {d : DataW H} {p : List MemPlace} (ht : P.underlying t = some (.struct #[g0, g1, g2])) (he : P.underlying g2.type = some (.struct #[f0, f1, f2])) (ce : P.cellsOf t = 5)
    (i0 : g0.offset = 0) (i1 : g1.offset = 1) (i2 : g2.offset = 2) (j0 : P.cellsOf g0.type = 1) (j1 : P.cellsOf g1.type = 1) (j2 : P.cellsOf g2.type = 3)
    (m0 : P.underlying g0.type = some (.int .i64)) (m1 : P.underlying g1.type = some (.int .i64))
    (o0 : f0.offset = 0) (o1 : f1.offset = 1) (o2 : f2.offset = 2) (c0 : P.cellsOf f0.type = 1) (c1 : P.cellsOf f1.type = 1) (c2 : P.cellsOf f2.type = 1)
    (u0 : P.underlying f0.type = some (.int .i64)) (u1 : P.underlying f1.type = some (.int .i64)) (u2 : P.underlying f2.type = some (.int .i64))
    (o : Value.okWide P w .any base t v) (h : DataW.Trod enc P w 0 (fun _ => true) true t v d p) :
    ∃ q : Dd, v = .agg #[.int .i64 q.k, .int .i64 q.h, .int .i64 q.q.p, .int .i64 q.q.o, .int .i64 q.q.l] := by
  obtain ⟨cs, rfl, hsz⟩ := okWide_struct ht o
  obtain ⟨v0, v1, v2, v3, v4, rfl⟩ := array5 (hsz.trans ce)
  obtain ⟨fuel, hf⟩ := h
  obtain ⟨q, rfl, rfl, rfl, rfl, rfl⟩ := fiveInts ht he i0 i1 i2 j0 j1 j2 m0 m1 o0 o1 o2 c0 c1 c2 u0 u1 u2 (by simpa [Value.cells] using hf)
  exact ⟨q, rfl⟩
/-- A slice of places. -/
theorem openPs {t e : TypeId} {f0 f1 f2 : Field} {v : Value} {d : DataW H} {p : List MemPlace} (ht : P.underlying t = some (.slice e)) (he : P.underlying e = some (.struct #[f0, f1, f2])) (ce : P.cellsOf e = 3)
    (o0 : f0.offset = 0) (o1 : f1.offset = 1) (o2 : f2.offset = 2) (c0 : P.cellsOf f0.type = 1) (c1 : P.cellsOf f1.type = 1) (c2 : P.cellsOf f2.type = 1)
    (u0 : P.underlying f0.type = some (.int .i64)) (u1 : P.underlying f1.type = some (.int .i64)) (u2 : P.underlying f2.type = some (.int .i64))
    (o : Value.okWide P w .any base t v) (h : DataW.Trod enc P w 0 (fun _ => true) true t v d p) :
    ∃ (a : Option Addr) (c : Nat) (T : List Pl), v = .slice a T.length c ∧ T.length ≤ maxLen ∧ ArgP w a T := by
  obtain ⟨a, L, c, rfl⟩ := okWide_slice ht o
  obtain ⟨fuel, hf⟩ := h
  rcases open_slice ht hf with ⟨hcs, _⟩ | ⟨x, l, c', m, n, D, Pl', hcs, _, hl, hm, hmm, _, hx⟩
  · simp [Value.cells] at hcs
    obtain ⟨rfl, rfl, rfl⟩ := hcs
    exact ⟨none, 0, [], rfl, by unfold maxLen; simp, fun i x hx => by simp at hx⟩
  · simp [Value.cells] at hcs
    obtain ⟨rfl, rfl, rfl⟩ := hcs
    have hmc : m = c := by simpa using hmm
    subst hmc
    have each : ∀ i, i < m → ∃ q : Pl, w.cell? (x.add (i * 3)) = some (.int .i64 q.p) ∧ w.cell? (x.add (i * 3 + 1)) = some (.int .i64 q.o) ∧ w.cell? (x.add (i * 3 + 2)) = some (.int .i64 q.l) := by
      intro i hi
      obtain ⟨cs', h1, h2⟩ := hx i hi
      rw [ce] at h1
      obtain ⟨_, hlen, hcell⟩ := World.cells?_some h1
      match cs', hlen with
      | [v0, v1, v2], _ =>
        obtain ⟨q, rfl, rfl, rfl⟩ := threeInts he o0 o1 o2 c0 c1 c2 u0 u1 u2 h2
        have e0 := hcell 0 (by omega)
        have e1 := hcell 1 (by omega)
        have e2 := hcell 2 (by omega)
        rw [add_add] at e0 e1 e2
        exact ⟨q, by simpa using e0, by simpa using e1, by simpa using e2⟩
    obtain ⟨q, hq⟩ := choose_lt each
    have hget : ∀ i y, ((List.range L).map q)[i]? = some y → i < L ∧ y = q i := by
      intro i y hy
      have hi := (List.getElem?_eq_some_iff.1 hy).1
      rw [List.length_map, List.length_range] at hi
      rw [List.getElem?_map, List.getElem?_range hi] at hy
      exact ⟨hi, by simpa using hy.symm⟩
    refine ⟨some x, m, (List.range L).map q, by simp, by simp; exact Nat.le_trans hl hm, fun i y hy => ?_⟩
    obtain ⟨hi, rfl⟩ := hget i y hy
    obtain ⟨g0, g1, g2⟩ := hq i (by omega)
    obtain ⟨b, off, spot⟩ := x
    have hspot : spot = none := by simpa [Addr.add] using World.cell?_spot (hq 0 (by omega)).1
    subst hspot
    have hlt := World.block_lt_of_cell? w _ g0
    rw [Addr.add_lit] at g0 g1 g2 hlt
    exact ⟨b, off, rfl, hlt, g0, by rw [Nat.add_assoc]; exact g1, by rw [Nat.add_assoc]; exact g2⟩
/-- A slice of deeds. -/
theorem openDs {t s : TypeId} {g0 g1 g2 f0 f1 f2 : Field} {v : Value} {d : DataW H} {p : List MemPlace} (hs : P.underlying s = some (.slice t)) (ht : P.underlying t = some (.struct #[g0, g1, g2])) (he : P.underlying g2.type = some (.struct #[f0, f1, f2])) (ce : P.cellsOf t = 5)
    (i0 : g0.offset = 0) (i1 : g1.offset = 1) (i2 : g2.offset = 2) (j0 : P.cellsOf g0.type = 1) (j1 : P.cellsOf g1.type = 1) (j2 : P.cellsOf g2.type = 3)
    (m0 : P.underlying g0.type = some (.int .i64)) (m1 : P.underlying g1.type = some (.int .i64))
    (o0 : f0.offset = 0) (o1 : f1.offset = 1) (o2 : f2.offset = 2) (c0 : P.cellsOf f0.type = 1) (c1 : P.cellsOf f1.type = 1) (c2 : P.cellsOf f2.type = 1)
    (u0 : P.underlying f0.type = some (.int .i64)) (u1 : P.underlying f1.type = some (.int .i64)) (u2 : P.underlying f2.type = some (.int .i64))
    (o : Value.okWide P w .any base s v) (h : DataW.Trod enc P w 0 (fun _ => true) true s v d p) :
    ∃ (a : Option Addr) (c : Nat) (T : List Dd), v = .slice a T.length c ∧ T.length ≤ maxLen ∧ ArgD w a T := by
  obtain ⟨a, L, c, rfl⟩ := okWide_slice hs o
  obtain ⟨fuel, hf⟩ := h
  rcases open_slice hs hf with ⟨hcs, _⟩ | ⟨x, l, c', m, n, D, Pl', hcs, _, hl, hm, hmm, _, hx⟩
  · simp [Value.cells] at hcs
    obtain ⟨rfl, rfl, rfl⟩ := hcs
    exact ⟨none, 0, [], rfl, by unfold maxLen; simp, fun i x hx => by simp at hx⟩
  · simp [Value.cells] at hcs
    obtain ⟨rfl, rfl, rfl⟩ := hcs
    have hmc : m = c := by simpa using hmm
    subst hmc
    have each : ∀ i, i < m → ∃ q : Dd, w.cell? (x.add (i * 5)) = some (.int .i64 q.k) ∧ w.cell? (x.add (i * 5 + 1)) = some (.int .i64 q.h) ∧ w.cell? (x.add (i * 5 + 2)) = some (.int .i64 q.q.p) ∧ w.cell? (x.add (i * 5 + 3)) = some (.int .i64 q.q.o) ∧ w.cell? (x.add (i * 5 + 4)) = some (.int .i64 q.q.l) := by
      intro i hi
      obtain ⟨cs', h1, h2⟩ := hx i hi
      rw [ce] at h1
      obtain ⟨_, hlen, hcell⟩ := World.cells?_some h1
      match cs', hlen with
      | [v0, v1, v2, v3, v4], _ =>
        obtain ⟨q, rfl, rfl, rfl, rfl, rfl⟩ := fiveInts ht he i0 i1 i2 j0 j1 j2 m0 m1 o0 o1 o2 c0 c1 c2 u0 u1 u2 h2
        have e0 := hcell 0 (by omega)
        have e1 := hcell 1 (by omega)
        have e2 := hcell 2 (by omega)
        have e3 := hcell 3 (by omega)
        have e4 := hcell 4 (by omega)
        rw [add_add] at e0 e1 e2 e3 e4
        exact ⟨q, by simpa using e0, by simpa using e1, by simpa using e2, by simpa using e3, by simpa using e4⟩
    obtain ⟨q, hq⟩ := choose_lt each
    have hget : ∀ i y, ((List.range L).map q)[i]? = some y → i < L ∧ y = q i := by
      intro i y hy
      have hi := (List.getElem?_eq_some_iff.1 hy).1
      rw [List.length_map, List.length_range] at hi
      rw [List.getElem?_map, List.getElem?_range hi] at hy
      exact ⟨hi, by simpa using hy.symm⟩
    refine ⟨some x, m, (List.range L).map q, by simp, by simp; exact Nat.le_trans hl hm, fun i y hy => ?_⟩
    obtain ⟨hi, rfl⟩ := hget i y hy
    obtain ⟨g0, g1, g2, g3, g4⟩ := hq i (by omega)
    obtain ⟨b, off, spot⟩ := x
    have hspot : spot = none := by simpa [Addr.add] using World.cell?_spot (hq 0 (by omega)).1
    subst hspot
    have hlt := World.block_lt_of_cell? w _ g0
    rw [Addr.add_lit] at g0 g1 g2 g3 g4 hlt
    exact ⟨b, off, rfl, hlt, g0, by rw [Nat.add_assoc]; exact g1, by rw [Nat.add_assoc]; exact g2, by rw [Nat.add_assoc]; exact g3, by rw [Nat.add_assoc]; exact g4⟩
end Go.Proofs.Ytlnkelhhemgibaa
