/- Opening a slice of structs of a slice of bytes and a uint16. -/
import Derived.Test.YtgninhecclinaaaGOpen
import Derived.Test.YtgninhecclinaaaGBy
namespace Go.Proofs.Ytgninhecclinaaa
open Go.ChangeShapes Go.WideShapes Go.ChangeAt Go.RowKit Go.Deep

/-- A piece. -/
structure Pc where
  p : Option Addr
  l : Nat
  c : Nat
  b : List Nat
  M : Nat
structure PcOk (w : World) (d : Pc) : Prop where
  by_ : ByAt w d.p d.l d.c d.b
  m : d.M < 65536
def Pc.cells (d : Pc) : List Value := [.slice d.p d.l d.c, .int .u16 (d.M : Int)]
theorem PcOk.below {w w' : World} {d : Pc} (h : PcOk w d) (hb : Below w.heap.size w w') : PcOk w' d := ⟨h.by_.later hb, h.m⟩

/-- L pieces that lie in memory, read through a slice value. -/
def PcsAt (w : World) (a : Option Addr) (L : Nat) (D : Nat → Pc) : Prop :=
  L = 0 ∨ ∃ b off, a = some ⟨b, off, none⟩ ∧ b < w.heap.size ∧ ∀ i, i < L → PcOk w (D i) ∧ ∀ j, j < 2 → w.cell? ⟨b, off + i * 2 + j, none⟩ = (D i).cells[j]?
theorem PcsAt.ok {w : World} {a : Option Addr} {L : Nat} {D : Nat → Pc} (h : PcsAt w a L D) {i : Nat} (hi : i < L) : PcOk w (D i) := by
  rcases h with rfl | ⟨b, off, rfl, hlt, hc⟩
  · omega
  · exact (hc i hi).1
theorem PcsAt.later {w w' : World} {a : Option Addr} {L : Nat} {D : Nat → Pc} (h : PcsAt w a L D) (hb : Below w.heap.size w w') {i : Nat} (hi : i < L) :
    ∃ b off, a = some ⟨b, off, none⟩ ∧ b < w.heap.size ∧ w'.cell? ⟨b, off + i * 2, none⟩ = some (.slice (D i).p (D i).l (D i).c) ∧ w'.cell? ⟨b, off + i * 2 + 1, none⟩ = some (.int .u16 ((D i).M : Int)) := by
  rcases h with rfl | ⟨b, off, rfl, hlt, hc⟩
  · omega
  · obtain ⟨_, h2⟩ := hc i hi
    refine ⟨b, off, rfl, hlt, ?_, ?_⟩
    · rw [hb.cell (p := ⟨b, off + i * 2, none⟩) hlt]; exact h2 0 (by omega)
    · rw [hb.cell (p := ⟨b, off + i * 2 + 1, none⟩) hlt]; exact h2 1 (by omega)

variable {H : Type} {enc : TypeId × Value → H} {P : Program} {w : World} {base : Nat}
theorem pc_two {t e : TypeId} {f0 f1 : Field} {fuel : Nat} {cs : List Value} {x : DataW H × List MemPlace} (he : P.underlying t = some (.struct #[f0, f1])) (hone : oneCellFields P #[f0, f1] = true) (ce : P.cellsOf t = 2)
    (u0 : P.underlying f0.type = some (.slice e)) (ue : P.underlying e = some (.int .u8)) (hce : P.cellsOf e = 1) (u1 : P.underlying f1.type = some (.int .u16))
    (h : DataW.trod enc P w 0 (fun _ => true) true fuel t cs = some x) : ∃ d : Pc, cs = d.cells ∧ PcOk w d := by
  obtain ⟨xs, k, _, _, hl, hxl, hf⟩ := DataW.trod_struct he h
  rw [ce] at hl
  match xs, hxl, cs, hl with
  | [y0, y1], _, [v0, v1], _ =>
    have hone' := hone_of hone
    have g0 := hf 0 f0 rfl
    have g1 := hf 1 f1 rfl
    simp [(hone' 0 f0 rfl).1, (hone' 0 f0 rfl).2] at g0
    simp [(hone' 1 f1 rfl).1, (hone' 1 f1 rfl).2] at g1
    obtain ⟨p, l, c, b, rfl, hlm, hcp, hs, h8⟩ := bytes_cap u0 ue hce g0
    obtain ⟨z1, q1, _, w1⟩ := DataW.trod_int u1 g1
    simp at q1
    have b1 := bounds_u16 w1
    refine ⟨⟨p, l, c, b, z1.toNat⟩, ?_, ⟨⟨hs, hcp.2, hcp.1, h8⟩, ?_⟩⟩
    · simp only [Pc.cells, q1, Int.toNat_of_nonneg b1.1]
    · show z1.toNat < _
      omega
theorem openPcs {t e s : TypeId} {f0 f1 : Field} {v : Value} {d : DataW H} {p : List MemPlace} (ht : P.underlying t = some (.slice s)) (he : P.underlying s = some (.struct #[f0, f1])) (hone : oneCellFields P #[f0, f1] = true) (ce : P.cellsOf s = 2)
    (u0 : P.underlying f0.type = some (.slice e)) (ue : P.underlying e = some (.int .u8)) (hce : P.cellsOf e = 1) (u1 : P.underlying f1.type = some (.int .u16))
    (o : Value.okWide P w .any base t v) (h : DataW.Trod enc P w 0 (fun _ => true) true t v d p) :
    ∃ (a : Option Addr) (L c : Nat) (D : Nat → Pc), v = .slice a L c ∧ L ≤ maxLen ∧ PcsAt w a L D := by
  obtain ⟨a, L, c, rfl⟩ := okWide_slice ht o
  obtain ⟨fuel, hf⟩ := h
  rcases open_slice ht hf with ⟨hcs, _⟩ | ⟨x, l, c', m, n, Dx, Pl, hcs, _, hl, hm, hmm, _, hx⟩
  · simp [Value.cells] at hcs
    obtain ⟨rfl, rfl, rfl⟩ := hcs
    exact ⟨none, 0, 0, fun _ => ⟨none, 0, 0, [], 0⟩, rfl, by unfold maxLen; omega, .inl rfl⟩
  · simp [Value.cells] at hcs
    obtain ⟨rfl, rfl, rfl⟩ := hcs
    have hmc : m = c := by simpa using hmm
    subst hmc
    have each : ∀ i, i < m → ∃ q : Pc, PcOk w q ∧ ∀ j, j < 2 → w.cell? ((x.add (i * 2)).add j) = q.cells[j]? := by
      intro i hi
      obtain ⟨cs', h1, h2⟩ := hx i hi
      rw [ce] at h1
      obtain ⟨_, hlen, hcell⟩ := World.cells?_some h1
      obtain ⟨q, hq, hok⟩ := pc_two he hone ce u0 ue hce u1 h2
      exact ⟨q, hok, fun j hj => by rw [hcell j hj, hq]⟩
    have inh : Inhabited Pc := ⟨⟨none, 0, 0, [], 0⟩⟩
    obtain ⟨q, hq⟩ := choose_lt each
    refine ⟨_, L, m, q, rfl, Nat.le_trans hl hm, ?_⟩
    by_cases h0 : L = 0
    · exact .inl h0
    · right
      obtain ⟨b, off, spot⟩ := x
      have hc0 := (hq 0 (by omega)).2 0 (by omega)
      rw [show (q 0).cells[0]? = some (.slice (q 0).p (q 0).l (q 0).c) from rfl] at hc0
      have hspot : spot = none := by simpa [Addr.add] using World.cell?_spot hc0
      subst hspot
      refine ⟨b, off, rfl, ?_, ?_⟩
      · have := World.block_lt_of_cell? w _ hc0
        simpa [Addr.add] using this
      · intro i hi
        obtain ⟨g0, g1⟩ := hq i (by omega)
        refine ⟨g0, fun j hj => ?_⟩
        have := g1 j hj
        rwa [Addr.add_lit, Addr.add_lit] at this
end Go.Proofs.Ytgninhecclinaaa
