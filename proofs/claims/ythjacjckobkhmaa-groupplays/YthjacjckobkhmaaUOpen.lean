/- Opening a slice of structs of three ints. -/
import Derived.Test.YthjacjckobkhmaaURef
import Derived.Test.YthjacjckobkhmaaBOpen
import Derived.Deep.Slices
import Derived.Deep.SlicePairs
import Derived.Lib.SmallJoins
namespace Go.Proofs.Ythjacjckobkhmaa
open Go.ChangeShapes Go.WideShapes Go.ChangeAt Go.RowKit Go.Deep

def Int64 (n : Int) : Prop := -9223372036854775808 ≤ n ∧ n ≤ 9223372036854775807
/-- Numbers that lie in memory, read through a slice value. -/
structure ArgH (w : World) (a : Option Addr) (T : List Gh) : Prop where
  at_ : ∀ i x, T[i]? = some x → ∃ b off, a = some ⟨b, off, none⟩ ∧ b < w.heap.size ∧ w.cell? ⟨b, off + i * 3, none⟩ = some (.int .i64 x.n) ∧ w.cell? ⟨b, off + i * 3 + 1, none⟩ = some (.int .i64 x.u) ∧ w.cell? ⟨b, off + i * 3 + 2, none⟩ = some (.int .i64 x.m)
  ok : ∀ x ∈ T, Int64 x.n ∧ Int64 x.u ∧ Int64 x.m
theorem ArgH.later {w w' : World} {a : Option Addr} {T : List Gh} (h : ArgH w a T) (hb : Below w.heap.size w w') : ArgH w' a T := by
  refine ⟨fun i x hx => ?_, h.ok⟩
  obtain ⟨b, off, h1, h2, c0, c1, c2⟩ := h.at_ i x hx
  exact ⟨b, off, h1, Nat.lt_of_lt_of_le h2 hb.size, (hb.cell (p := ⟨b, off + i * 3, none⟩) h2).trans c0, (hb.cell (p := ⟨b, off + i * 3 + 1, none⟩) h2).trans c1, (hb.cell (p := ⟨b, off + i * 3 + 2, none⟩) h2).trans c2⟩
theorem wf_64 {n : Int} (h : (Lit.int .i64 n).wf = true) : Int64 n := by
  simp only [Lit.wf, Bool.and_eq_true, decide_eq_true_eq] at h
  exact h
variable {H : Type} {enc : TypeId × Value → H} {P : Program} {w : World} {base : Nat}
theorem openHs {t e : TypeId} {f0 f1 f2 : Field} {v : Value} {d : DataW H} {p : List MemPlace} (ht : P.underlying t = some (.slice e)) (he : P.underlying e = some (.struct #[f0, f1, f2]))
    (ce : P.cellsOf e = 3) (o0 : f0.offset = 0) (o1 : f1.offset = 1) (o2 : f2.offset = 2) (c0 : P.cellsOf f0.type = 1) (c1 : P.cellsOf f1.type = 1) (c2 : P.cellsOf f2.type = 1)
    (u0 : P.underlying f0.type = some (.int .i64)) (u1 : P.underlying f1.type = some (.int .i64)) (u2 : P.underlying f2.type = some (.int .i64))
    (o : Value.okWide P w .any base t v) (h : DataW.Trod enc P w 0 (fun _ => true) true t v d p) :
    ∃ (a : Option Addr) (c : Nat) (T : List Gh), v = .slice a T.length c ∧ T.length ≤ maxLen ∧ ArgH w a T := by
  obtain ⟨a, L, c, rfl⟩ := okWide_slice ht o
  obtain ⟨fuel, hf⟩ := h
  rcases open_slice ht hf with ⟨hcs, _⟩ | ⟨x, l, c', m, n, D, Pl, hcs, _, hl, hm, hmm, _, hx⟩
  · simp [Value.cells] at hcs
    obtain ⟨rfl, rfl, rfl⟩ := hcs
    exact ⟨none, 0, [], rfl, by unfold maxLen; simp, ⟨fun i x hx => by simp at hx, fun _ h => (by cases h)⟩⟩
  · simp [Value.cells] at hcs
    obtain ⟨rfl, rfl, rfl⟩ := hcs
    have hmc : m = c := by simpa using hmm
    subst hmc
    have each : ∀ i, i < m → ∃ q : Int × Int × Int, w.cell? (x.add (i * 3)) = some (.int .i64 q.1) ∧ w.cell? (x.add (i * 3 + 1)) = some (.int .i64 q.2.1) ∧ w.cell? (x.add (i * 3 + 2)) = some (.int .i64 q.2.2) ∧ Int64 q.1 ∧ Int64 q.2.1 ∧ Int64 q.2.2 := by
      intro i hi
      obtain ⟨cs', h1, h2⟩ := hx i hi
      rw [ce] at h1
      obtain ⟨_, hlen, hcell⟩ := World.cells?_some h1
      obtain ⟨xs, k, hk, hxy, _, hxl, hf⟩ := DataW.trod_struct he h2
      match xs, hxl, cs', hlen with
      | [y0, y1, y2], _, [v0, v1, v2], _ =>
        have g0 := hf 0 f0 rfl
        have g1 := hf 1 f1 rfl
        have g2 := hf 2 f2 rfl
        simp [o0, o1, o2, c0, c1, c2] at g0 g1 g2
        have e0 := hcell 0 (by omega)
        have e1 := hcell 1 (by omega)
        have e2 := hcell 2 (by omega)
        rw [add_add] at e0 e1 e2
        obtain ⟨z0, q0, _, w0⟩ := DataW.trod_int u0 g0
        obtain ⟨z1, q1, _, w1⟩ := DataW.trod_int u1 g1
        obtain ⟨z2, q2, _, w2⟩ := DataW.trod_int u2 g2
        simp at q0 q1 q2
        exact ⟨(z0, z1, z2), by simpa [q0] using e0, by simpa [q1] using e1, by simpa [q2] using e2, wf_64 w0, wf_64 w1, wf_64 w2⟩
    obtain ⟨qq, hq⟩ := choose_lt each
    obtain ⟨q, hqq⟩ : ∃ q : Nat → Gh, q = fun i => ⟨(qq i).1, (qq i).2.1, (qq i).2.2⟩ := ⟨_, rfl⟩
    have hTl : ((List.range L).map q).length = L := by simp
    have hget : ∀ i y, ((List.range L).map q)[i]? = some y → i < L ∧ y = q i := by
      intro i y hy
      have hi := (List.getElem?_eq_some_iff.1 hy).1
      rw [hTl] at hi
      rw [List.getElem?_map, List.getElem?_range hi] at hy
      exact ⟨hi, by simpa using hy.symm⟩
    refine ⟨some x, m, (List.range L).map q, by rw [hTl], by rw [hTl]; exact Nat.le_trans hl hm, ⟨fun i y hy => ?_, fun y hy => ?_⟩⟩
    · obtain ⟨hi, rfl⟩ := hget i y hy
      obtain ⟨g0, g1, g2, _⟩ := hq i (by omega)
      rw [hqq]
      obtain ⟨b, off, spot⟩ := x
      have hspot : spot = none := by simpa [Addr.add] using World.cell?_spot (hq 0 (by omega)).1
      subst hspot
      have hlt := World.block_lt_of_cell? w _ g0
      rw [Addr.add_lit] at g0 g1 g2 hlt
      exact ⟨b, off, rfl, hlt, g0, by rw [Nat.add_assoc]; exact g1, by rw [Nat.add_assoc]; exact g2⟩
    · obtain ⟨i, hi⟩ := List.getElem?_of_mem hy
      obtain ⟨h1, rfl⟩ := hget i y hi
      rw [hqq]
      exact (hq i (by omega)).2.2.2
end Go.Proofs.Ythjacjckobkhmaa
