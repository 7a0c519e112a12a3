/- Opening a slice of structs of two ints, a uint8 and a slice of bytes, and one such struct. -/
import Derived.Test.YtacggabopdoijaaGOpen
namespace Go.Proofs.Ytacggabopdoijaa
open Go.ChangeShapes Go.WideShapes Go.ChangeAt Go.RowKit Go.Deep

/-- A deed. -/
structure Dd where
  K : Int
  N : Int
  V : Nat
  p : Option Addr
  l : Nat
  c : Nat
  b : List Nat
structure DeedOk (w : World) (d : Dd) : Prop where
  n : -9223372036854775808 ≤ d.N ∧ d.N ≤ 9223372036854775807
  v : d.V < 256
  l : d.l ≤ maxLen
  src : SrcAt w (.slice d.p d.l d.c) d.l 1 (bv d.b)
  byte : ∀ x ∈ d.b, x < 256
  cap : d.l ≤ d.c ∧ d.c ≤ maxLen
def Dd.cells (d : Dd) : List Value := [.int .i64 d.K, .int .i64 d.N, .int .u8 (d.V : Int), .slice d.p d.l d.c]
theorem DeedOk.below {w w' : World} {d : Dd} (h : DeedOk w d) (hb : Below w.heap.size w w') : DeedOk w' d := ⟨h.n, h.v, h.l, h.src.later hb, h.byte, h.cap⟩
theorem DeedOk.apart {w : World} {d : Dd} {B E : Nat} (h : DeedOk w d) (hB : w.heap.size ≤ B) : Apart B E (.slice d.p d.l d.c) d.b := by
  intro ad m c e hne
  left
  rcases h.src with ⟨h1, h2, h3⟩ | ⟨ad', c', h1, h2, h3⟩
  · exact absurd (by simpa [bv] using h3) hne
  · rw [h1] at e
    simp only [Value.slice.injEq, Option.some.injEq] at e
    obtain ⟨rfl, _⟩ := e
    obtain ⟨x, r, hx⟩ := List.exists_cons_of_ne_nil hne
    have := (h3 0 (.int .u8 (x : Nat)) (by rw [hx]; rfl)).1
    omega

/-- L deeds that lie in memory, read through a slice value. -/
def DeedsAt (w : World) (a : Option Addr) (L : Nat) (D : Nat → Dd) : Prop :=
  L = 0 ∨ ∃ b off, a = some ⟨b, off, none⟩ ∧ b < w.heap.size ∧ ∀ i, i < L → DeedOk w (D i) ∧ ∀ j, j < 4 → w.cell? ⟨b, off + i * 4 + j, none⟩ = (D i).cells[j]?
theorem DeedsAt.ok {w : World} {a : Option Addr} {L : Nat} {D : Nat → Dd} (h : DeedsAt w a L D) {i : Nat} (hi : i < L) : DeedOk w (D i) := by
  rcases h with rfl | ⟨b, off, rfl, hlt, hc⟩
  · omega
  · exact (hc i hi).1
theorem DeedsAt.later {w w' : World} {a : Option Addr} {L : Nat} {D : Nat → Dd} (h : DeedsAt w a L D) (hb : Below w.heap.size w w') {i : Nat} (hi : i < L) :
    ∃ b off, a = some ⟨b, off, none⟩ ∧ b < w.heap.size ∧ w'.cell? ⟨b, off + i * 4, none⟩ = some (.int .i64 (D i).K) ∧ w'.cell? ⟨b, off + i * 4 + 1, none⟩ = some (.int .i64 (D i).N) ∧
      w'.cell? ⟨b, off + i * 4 + 2, none⟩ = some (.int .u8 ((D i).V : Int)) ∧ w'.cell? ⟨b, off + i * 4 + 3, none⟩ = some (.slice (D i).p (D i).l (D i).c) := by
  rcases h with rfl | ⟨b, off, rfl, hlt, hc⟩
  · omega
  · obtain ⟨_, h2⟩ := hc i hi
    refine ⟨b, off, rfl, hlt, ?_, ?_, ?_, ?_⟩
    · rw [hb.cell (p := ⟨b, off + i * 4, none⟩) hlt]; exact h2 0 (by omega)
    · rw [hb.cell (p := ⟨b, off + i * 4 + 1, none⟩) hlt]; exact h2 1 (by omega)
    · rw [hb.cell (p := ⟨b, off + i * 4 + 2, none⟩) hlt]; exact h2 2 (by omega)
    · rw [hb.cell (p := ⟨b, off + i * 4 + 3, none⟩) hlt]; exact h2 3 (by omega)
theorem DeedsAt.below {w w' : World} {a : Option Addr} {L : Nat} {D : Nat → Dd} (h : DeedsAt w a L D) (hb : Below w.heap.size w w') : DeedsAt w' a L D := by
  rcases h with rfl | ⟨b, off, rfl, hlt, hc⟩
  · exact .inl rfl
  · refine .inr ⟨b, off, rfl, Nat.lt_of_lt_of_le hlt hb.size, fun i hi => ⟨(hc i hi).1.below hb, fun j hj => ?_⟩⟩
    rw [hb.cell (p := ⟨b, off + i * 4 + j, none⟩) hlt]
    exact (hc i hi).2 j hj

variable {H : Type} {enc : TypeId × Value → H} {P : Program} {w : World} {base : Nat}
theorem four {t e : TypeId} {f0 f1 f2 f3 : Field} {fuel : Nat} {cs : List Value} {x : DataW H × List MemPlace} (he : P.underlying t = some (.struct #[f0, f1, f2, f3])) (hone : oneCellFields P #[f0, f1, f2, f3] = true) (ce : P.cellsOf t = 4)
    (u0 : P.underlying f0.type = some (.int .i64)) (u1 : P.underlying f1.type = some (.int .i64)) (u2 : P.underlying f2.type = some (.int .u8))
    (u3 : P.underlying f3.type = some (.slice e)) (ue : P.underlying e = some (.int .u8)) (hce : P.cellsOf e = 1)
    (h : DataW.trod enc P w 0 (fun _ => true) true fuel t cs = some x) : ∃ d : Dd, cs = d.cells ∧ DeedOk w d := by
  obtain ⟨xs, k, _, _, hl, hxl, hf⟩ := DataW.trod_struct he h
  rw [ce] at hl
  match xs, hxl, cs, hl with
  | [y0, y1, y2, y3], _, [v0, v1, v2, v3], _ =>
    have hone' := hone_of hone
    have g0 := hf 0 f0 rfl
    have g1 := hf 1 f1 rfl
    have g2 := hf 2 f2 rfl
    have g3 := hf 3 f3 rfl
    simp [(hone' 0 f0 rfl).1, (hone' 0 f0 rfl).2] at g0
    simp [(hone' 1 f1 rfl).1, (hone' 1 f1 rfl).2] at g1
    simp [(hone' 2 f2 rfl).1, (hone' 2 f2 rfl).2] at g2
    simp [(hone' 3 f3 rfl).1, (hone' 3 f3 rfl).2] at g3
    obtain ⟨z0, q0, _⟩ := DataW.trod_int u0 g0
    obtain ⟨z1, q1, _, w1⟩ := DataW.trod_int u1 g1
    obtain ⟨z2, q2, _, w2⟩ := DataW.trod_int u2 g2
    obtain ⟨p, l, c, b, rfl, hlm, hcp, hs, h8⟩ := bytes_cap u3 ue hce g3
    simp at q0 q1 q2
    have b2 := bounds_u8 w2
    refine ⟨⟨z0, z1, z2.toNat, p, l, c, b⟩, ?_, ⟨?_, ?_, hlm, hs, h8, hcp⟩⟩
    · simp only [Dd.cells, q0, q1, q2, Int.toNat_of_nonneg b2.1]
    · exact bounds_i64 w1
    · show z2.toNat < _
      omega
theorem openDeeds {t e s : TypeId} {f0 f1 f2 f3 : Field} {v : Value} {d : DataW H} {p : List MemPlace} (ht : P.underlying t = some (.slice s)) (he : P.underlying s = some (.struct #[f0, f1, f2, f3])) (hone : oneCellFields P #[f0, f1, f2, f3] = true) (ce : P.cellsOf s = 4)
    (u0 : P.underlying f0.type = some (.int .i64)) (u1 : P.underlying f1.type = some (.int .i64)) (u2 : P.underlying f2.type = some (.int .u8))
    (u3 : P.underlying f3.type = some (.slice e)) (ue : P.underlying e = some (.int .u8)) (hce : P.cellsOf e = 1)
    (o : Value.okWide P w .any base t v) (h : DataW.Trod enc P w 0 (fun _ => true) true t v d p) :
    ∃ (a : Option Addr) (L c : Nat) (D : Nat → Dd), v = .slice a L c ∧ L ≤ maxLen ∧ DeedsAt w a L D := by
  obtain ⟨a, L, c, rfl⟩ := okWide_slice ht o
  obtain ⟨fuel, hf⟩ := h
  rcases open_slice ht hf with ⟨hcs, _⟩ | ⟨x, l, c', m, n, Dx, Pl, hcs, _, hl, hm, hmm, _, hx⟩
  · simp [Value.cells] at hcs
    obtain ⟨rfl, rfl, rfl⟩ := hcs
    exact ⟨none, 0, 0, fun _ => ⟨0, 0, 0, none, 0, 0, []⟩, rfl, by unfold maxLen; omega, .inl rfl⟩
  · simp [Value.cells] at hcs
    obtain ⟨rfl, rfl, rfl⟩ := hcs
    have hmc : m = c := by simpa using hmm
    subst hmc
    have each : ∀ i, i < m → ∃ q : Dd, DeedOk w q ∧ ∀ j, j < 4 → w.cell? ((x.add (i * 4)).add j) = q.cells[j]? := by
      intro i hi
      obtain ⟨cs', h1, h2⟩ := hx i hi
      rw [ce] at h1
      obtain ⟨_, hlen, hcell⟩ := World.cells?_some h1
      obtain ⟨q, hq, hok⟩ := four he hone ce u0 u1 u2 u3 ue hce h2
      exact ⟨q, hok, fun j hj => by rw [hcell j hj, hq]⟩
    have inh : Inhabited Dd := ⟨⟨0, 0, 0, none, 0, 0, []⟩⟩
    obtain ⟨q, hq⟩ := choose_lt each
    refine ⟨_, L, m, q, rfl, Nat.le_trans hl hm, ?_⟩
    by_cases h0 : L = 0
    · exact .inl h0
    · right
      obtain ⟨b, off, spot⟩ := x
      have hc0 := (hq 0 (by omega)).2 0 (by omega)
      rw [show (q 0).cells[0]? = some (.int .i64 (q 0).K) from rfl] at hc0
      have hspot : spot = none := by simpa [Addr.add] using World.cell?_spot hc0
      subst hspot
      refine ⟨b, off, rfl, ?_, ?_⟩
      · have := World.block_lt_of_cell? w _ hc0
        simpa [Addr.add] using this
      · intro i hi
        obtain ⟨g0, g1⟩ := hq i (by omega)
        refine ⟨g0, fun j hj => ?_⟩
        have := g1 j hj
        rwa [Addr.add_lit, Addr.add_lit] at this
theorem openDeed {t e : TypeId} {f0 f1 f2 f3 : Field} {v : Value} {d : DataW H} {p : List MemPlace} (he : P.underlying t = some (.struct #[f0, f1, f2, f3])) (hone : oneCellFields P #[f0, f1, f2, f3] = true) (ce : P.cellsOf t = 4)
    (u0 : P.underlying f0.type = some (.int .i64)) (u1 : P.underlying f1.type = some (.int .i64)) (u2 : P.underlying f2.type = some (.int .u8))
    (u3 : P.underlying f3.type = some (.slice e)) (ue : P.underlying e = some (.int .u8)) (hce : P.cellsOf e = 1)
    (o : Value.okWide P w .any base t v) (h : DataW.Trod enc P w 0 (fun _ => true) true t v d p) : ∃ q : Dd, v = .agg q.cells.toArray ∧ DeedOk w q := by
  obtain ⟨cs, rfl, _⟩ := okWide_struct he o
  obtain ⟨fuel, hf⟩ := h
  obtain ⟨q, hq, hok⟩ := four he hone ce u0 u1 u2 u3 ue hce hf
  refine ⟨q, ?_, hok⟩
  simp only [Value.cells] at hq
  rw [← hq]
end Go.Proofs.Ytacggabopdoijaa
