/- Opening a slice of structs of two ints. -/
import Derived.Test.YtngehhpaegljcaaBOpen
import Derived.Deep.SlicePairs
namespace Go.Proofs.Ytngehhpaegljcaa
open Go.ChangeShapes Go.WideShapes Go.ChangeAt Go.RowKit Go.Deep

/-- L pairs of ints that lie in memory, read through a slice value. -/
def PairsAt (w : World) (a : Option Addr) (L : Nat) (K N : Nat → Int) : Prop :=
  L = 0 ∨ ∃ b off, a = some ⟨b, off, none⟩ ∧ b < w.heap.size ∧ ∀ i, i < L → w.cell? ⟨b, off + i * 2, none⟩ = some (.int .i64 (K i)) ∧ w.cell? ⟨b, off + i * 2 + 1, none⟩ = some (.int .i64 (N i))
theorem PairsAt.later {w w' : World} {a : Option Addr} {L : Nat} {K N : Nat → Int} (h : PairsAt w a L K N) (hb : Below w.heap.size w w') {i : Nat} (hi : i < L) :
    ∃ b off, a = some ⟨b, off, none⟩ ∧ b < w.heap.size ∧ w'.cell? ⟨b, off + i * 2, none⟩ = some (.int .i64 (K i)) ∧ w'.cell? ⟨b, off + i * 2 + 1, none⟩ = some (.int .i64 (N i)) := by
  rcases h with rfl | ⟨b, off, rfl, hlt, hc⟩
  · omega
  · exact ⟨b, off, rfl, hlt, by rw [hb.cell (p := ⟨b, off + i * 2, none⟩) hlt]; exact (hc i hi).1, by rw [hb.cell (p := ⟨b, off + i * 2 + 1, none⟩) hlt]; exact (hc i hi).2⟩

variable {H : Type} {enc : TypeId × Value → H} {P : Program} {w : World} {base : Nat}
theorem openPairs {t e : TypeId} {f0 f1 : Field} {v : Value} {d : DataW H} {p : List MemPlace} (ht : P.underlying t = some (.slice e)) (he : P.underlying e = some (.struct #[f0, f1]))
    (ce : P.cellsOf e = 2) (o0 : f0.offset = 0) (o1 : f1.offset = 1) (c0 : P.cellsOf f0.type = 1) (c1 : P.cellsOf f1.type = 1) (u0 : P.underlying f0.type = some (.int .i64)) (u1 : P.underlying f1.type = some (.int .i64))
    (o : Value.okWide P w .any base t v) (h : DataW.Trod enc P w 0 (fun _ => true) true t v d p) :
    ∃ (a : Option Addr) (L c : Nat) (K N : Nat → Int), v = .slice a L c ∧ L ≤ maxLen ∧ PairsAt w a L K N := by
  obtain ⟨a, L, c, rfl⟩ := okWide_slice ht o
  obtain ⟨fuel, hf⟩ := h
  rcases open_slice_pairs ht he ce o0 o1 c0 c1 hf with ⟨hcs, _⟩ | ⟨x, l, c', m, n, V0, V1, D0, D1, P0, P1, hcs, _, hl, hm, hmm, _, hx⟩
  · simp [Value.cells] at hcs
    obtain ⟨rfl, rfl, rfl⟩ := hcs
    exact ⟨none, 0, 0, fun _ => 0, fun _ => 0, rfl, by unfold maxLen; omega, .inl rfl⟩
  · simp [Value.cells] at hcs
    obtain ⟨rfl, rfl, rfl⟩ := hcs
    have hmc : m = c := by simpa using hmm
    subst hmc
    refine ⟨_, L, m, fun i => intOf (V0 i), fun i => intOf (V1 i), rfl, Nat.le_trans hl hm, ?_⟩
    by_cases h0 : L = 0
    · exact .inl h0
    · right
      obtain ⟨b, off, spot⟩ := x
      have hc0 := (hx 0 (by omega)).1
      have hspot : spot = none := by simpa [Addr.add] using World.cell?_spot hc0
      subst hspot
      refine ⟨b, off, rfl, ?_, ?_⟩
      · have := World.block_lt_of_cell? w _ hc0
        simpa [Addr.add] using this
      · intro i hi
        obtain ⟨g0, g1, t0, t1⟩ := hx i (by omega)
        obtain ⟨z0, e0, _⟩ := DataW.trod_int u0 t0
        obtain ⟨z1, e1, _⟩ := DataW.trod_int u1 t1
        simp at e0 e1
        rw [Addr.add_lit] at g0 g1
        have q0 : intOf (V0 i) = z0 := by rw [e0]; rfl
        have q1 : intOf (V1 i) = z1 := by rw [e1]; rfl
        refine ⟨?_, ?_⟩
        · show _ = some (Value.int .i64 (intOf (V0 i)))
          rw [q0, g0, e0]
        · show _ = some (Value.int .i64 (intOf (V1 i)))
          rw [q1, Nat.add_assoc, g1, e1]
end Go.Proofs.Ytngehhpaegljcaa
