/- Opening a slice of structs of four ints, a uint64 and a slice of bytes, and one such struct. -/
import Derived.Test.YteebjeifbccbnaaMNum
import Derived.Test.YteebjeifbccbnaaBOpen
import Derived.Deep.Slices
import Derived.Deep.SlicePairs
import Derived.Deep.Fields
import Derived.Lib.SmallJoins
namespace Go.Proofs.Yteebjeifbccbnaa
open Go.ChangeShapes Go.WideShapes Go.ChangeAt Go.RowKit Go.Deep

/-- A deed. -/
structure Dd where
  K : Int
  N : Int
  A : Int
  Z : Int
  V : Nat
  p : Option Addr
  l : Nat
  c : Nat
  b : List Nat
structure DeedOk (w : World) (d : Dd) : Prop where
  n : -9223372036854775808 ≤ d.N ∧ d.N ≤ 9223372036854775807
  a : -9223372036854775808 ≤ d.A ∧ d.A ≤ 9223372036854775807
  z : -9223372036854775808 ≤ d.Z ∧ d.Z ≤ 9223372036854775807
  v : d.V < 18446744073709551616
  bl : d.b.length = d.l
  l : d.l ≤ maxLen
  nums : NumsAt .u8 w d.p d.b
  old : ∀ q, d.p = some q → d.b ≠ [] → q.block < w.heap.size
  byte : ∀ x ∈ d.b, x < 256
  gone : d.p = none → d.l = 0 ∧ d.c = 0
def Dd.cells (d : Dd) : List Value := [.int .i64 d.K, .int .i64 d.N, .int .i64 d.A, .int .i64 d.Z, .int .u64 (d.V : Int), .slice d.p d.l d.c]
theorem nums_later {k : IntKind} {w w' : World} {p : Option Addr} {b : List Nat} (h : NumsAt k w p b) (hb : Below w.heap.size w w') : NumsAt k w' p b := by
  rcases h with h | ⟨bb, off, rfl, hlt, hc⟩
  · exact .inl h
  · exact .inr ⟨bb, off, rfl, Nat.lt_of_lt_of_le hlt hb.size, fun i hi => by rw [hb.cell (p := ⟨bb, off + i, none⟩) hlt]; exact hc i hi⟩
theorem DeedOk.later {w w' : World} {d : Dd} (h : DeedOk w d) (hb : Below w.heap.size w w') : NumsAt .u8 w' d.p d.b := nums_later h.nums hb

/-- L deeds that lie in memory, read through a slice value. -/
def DeedsAt (w : World) (a : Option Addr) (L : Nat) (D : Nat → Dd) : Prop :=
  L = 0 ∨ ∃ b off, a = some ⟨b, off, none⟩ ∧ b < w.heap.size ∧ ∀ i, i < L → DeedOk w (D i) ∧ ∀ j, j < 6 → w.cell? ⟨b, off + i * 6 + j, none⟩ = (D i).cells[j]?
theorem DeedsAt.ok {w : World} {a : Option Addr} {L : Nat} {D : Nat → Dd} (h : DeedsAt w a L D) {i : Nat} (hi : i < L) : DeedOk w (D i) := by
  rcases h with rfl | ⟨b, off, rfl, hlt, hc⟩
  · omega
  · exact (hc i hi).1
theorem DeedsAt.later {w w' : World} {a : Option Addr} {L : Nat} {D : Nat → Dd} (h : DeedsAt w a L D) (hb : Below w.heap.size w w') {i : Nat} (hi : i < L) :
    ∃ b off, a = some ⟨b, off, none⟩ ∧ b < w.heap.size ∧ w'.cell? ⟨b, off + i * 6, none⟩ = some (.int .i64 (D i).K) ∧ w'.cell? ⟨b, off + i * 6 + 1, none⟩ = some (.int .i64 (D i).N) ∧ w'.cell? ⟨b, off + i * 6 + 2, none⟩ = some (.int .i64 (D i).A) ∧
      w'.cell? ⟨b, off + i * 6 + 3, none⟩ = some (.int .i64 (D i).Z) ∧ w'.cell? ⟨b, off + i * 6 + 4, none⟩ = some (.int .u64 ((D i).V : Int)) ∧ w'.cell? ⟨b, off + i * 6 + 5, none⟩ = some (.slice (D i).p (D i).l (D i).c) := by
  rcases h with rfl | ⟨b, off, rfl, hlt, hc⟩
  · omega
  · obtain ⟨_, h2⟩ := hc i hi
    refine ⟨b, off, rfl, hlt, ?_, ?_, ?_, ?_, ?_, ?_⟩
    · rw [hb.cell (p := ⟨b, off + i * 6, none⟩) hlt]; exact h2 0 (by omega)
    · rw [hb.cell (p := ⟨b, off + i * 6 + 1, none⟩) hlt]; exact h2 1 (by omega)
    · rw [hb.cell (p := ⟨b, off + i * 6 + 2, none⟩) hlt]; exact h2 2 (by omega)
    · rw [hb.cell (p := ⟨b, off + i * 6 + 3, none⟩) hlt]; exact h2 3 (by omega)
    · rw [hb.cell (p := ⟨b, off + i * 6 + 4, none⟩) hlt]; exact h2 4 (by omega)
    · rw [hb.cell (p := ⟨b, off + i * 6 + 5, none⟩) hlt]; exact h2 5 (by omega)

theorem DeedOk.below {w w' : World} {d : Dd} (h : DeedOk w d) (hb : Below w.heap.size w w') : DeedOk w' d :=
  ⟨h.n, h.a, h.z, h.v, h.bl, h.l, h.later hb, fun q hq hne => Nat.lt_of_lt_of_le (h.old q hq hne) hb.size, h.byte, h.gone⟩
theorem DeedsAt.below {w w' : World} {a : Option Addr} {L : Nat} {D : Nat → Dd} (h : DeedsAt w a L D) (hb : Below w.heap.size w w') : DeedsAt w' a L D := by
  rcases h with rfl | ⟨b, off, rfl, hlt, hc⟩
  · exact .inl rfl
  · refine .inr ⟨b, off, rfl, Nat.lt_of_lt_of_le hlt hb.size, fun i hi => ⟨(hc i hi).1.below hb, fun j hj => ?_⟩⟩
    rw [hb.cell (p := ⟨b, off + i * 6 + j, none⟩) hlt]
    exact (hc i hi).2 j hj

variable {H : Type} {enc : TypeId × Value → H} {P : Program} {w : World} {base : Nat}
/-- Bytes that were handed in. -/
theorem bytes_in {t e : TypeId} {fuel : Nat} {v : Value} {x : DataW H × List MemPlace} (ht : P.underlying t = some (.slice e)) (he : P.underlying e = some (.int .u8)) (hce : P.cellsOf e = 1)
    (hf : DataW.trod enc P w 0 (fun _ => true) true fuel t [v] = some x) :
    ∃ (p : Option Addr) (l c : Nat) (b : List Nat), v = .slice p l c ∧ b.length = l ∧ l ≤ maxLen ∧ NumsAt .u8 w p b ∧ (∀ q, p = some q → b ≠ [] → q.block < w.heap.size) ∧ (∀ x ∈ b, x < 256) ∧ (p = none → l = 0 ∧ c = 0) := by
  rcases open_ints ht he hce hf with ⟨hcs, _⟩ | ⟨a, l, c, zs, hcs, _, hl, hm, hz, _, hcell, hwz⟩
  · simp at hcs
    subst hcs
    exact ⟨none, 0, 0, [], rfl, rfl, by unfold maxLen; omega, .inl rfl, by simp, by simp, fun _ => ⟨rfl, rfl⟩⟩
  · simp at hcs
    subst hcs
    have hzl : zs.length = c := by simpa using hz
    have hb8 : ∀ z ∈ zs, 0 ≤ z ∧ z < 256 := fun z hz => by have := bounds_u8 (hwz z hz); omega
    have hnat : ∀ i, i < zs.length → ((zs.getD i 0).toNat : Int) = zs.getD i 0 := by
      intro i hi
      have := hb8 (zs.getD i 0) (by rw [List.getD_eq_getElem?_getD, List.getElem?_eq_getElem hi]; exact List.getElem_mem _)
      omega
    have hlen : ((zs.take l).map Int.toNat).length = l := by simp; omega
    have hN : NumsAt .u8 w (some a) ((zs.take l).map Int.toNat) ∧ ((zs.take l).map Int.toNat ≠ [] → a.block < w.heap.size) := by
      by_cases h0 : l = 0
      · subst h0; exact ⟨.inl (by simp), by simp⟩
      · obtain ⟨b, off, spot⟩ := a
        have hc0 := hcell 0 (by omega)
        have hspot : spot = none := by simpa [Addr.add] using World.cell?_spot hc0
        subst hspot
        have hlt : b < w.heap.size := by
          have := World.block_lt_of_cell? w _ hc0
          simpa [Addr.add] using this
        refine ⟨.inr ⟨b, off, rfl, hlt, ?_⟩, fun _ => hlt⟩
        intro i hi
        rw [hlen] at hi
        have hi' : i < zs.length := by omega
        have hci := hcell i hi'
        rw [show (⟨b, off, none⟩ : Addr).add i = ⟨b, off + i, none⟩ by unfold Addr.add; split <;> simp_all] at hci
        rw [hci, ← hnat i hi']
        congr 3
        simp [List.getD, hi', hi]
    refine ⟨_, l, c, (zs.take l).map Int.toNat, rfl, hlen, Nat.le_trans hl hm, hN.1, ?_, ?_, by simp⟩
    · intro q hq hne
      simp only [Option.some.injEq] at hq
      subst hq
      exact hN.2 hne
    · intro x hx
      obtain ⟨z, hz, rfl⟩ := List.mem_map.1 hx
      have := hb8 z (List.mem_of_mem_take hz)
      omega
theorem six {t e : TypeId} {f0 f1 f2 f3 f4 f5 : Field} {fuel : Nat} {cs : List Value} {x : DataW H × List MemPlace} (he : P.underlying t = some (.struct #[f0, f1, f2, f3, f4, f5])) (hone : oneCellFields P #[f0, f1, f2, f3, f4, f5] = true) (ce : P.cellsOf t = 6)
    (u0 : P.underlying f0.type = some (.int .i64)) (u1 : P.underlying f1.type = some (.int .i64)) (u2 : P.underlying f2.type = some (.int .i64)) (u3 : P.underlying f3.type = some (.int .i64)) (u4 : P.underlying f4.type = some (.int .u64))
    (u5 : P.underlying f5.type = some (.slice e)) (ue : P.underlying e = some (.int .u8)) (hce : P.cellsOf e = 1)
    (h : DataW.trod enc P w 0 (fun _ => true) true fuel t cs = some x) : ∃ d : Dd, cs = d.cells ∧ DeedOk w d := by
  obtain ⟨xs, k, _, _, hl, hxl, hf⟩ := DataW.trod_struct he h
  rw [ce] at hl
  match xs, hxl, cs, hl with
  | [y0, y1, y2, y3, y4, y5], _, [v0, v1, v2, v3, v4, v5], _ =>
    have hone' := hone_of hone
    have g0 := hf 0 f0 rfl
    have g1 := hf 1 f1 rfl
    have g2 := hf 2 f2 rfl
    have g3 := hf 3 f3 rfl
    have g4 := hf 4 f4 rfl
    have g5 := hf 5 f5 rfl
    simp [(hone' 0 f0 rfl).1, (hone' 0 f0 rfl).2] at g0
    simp [(hone' 1 f1 rfl).1, (hone' 1 f1 rfl).2] at g1
    simp [(hone' 2 f2 rfl).1, (hone' 2 f2 rfl).2] at g2
    simp [(hone' 3 f3 rfl).1, (hone' 3 f3 rfl).2] at g3
    simp [(hone' 4 f4 rfl).1, (hone' 4 f4 rfl).2] at g4
    simp [(hone' 5 f5 rfl).1, (hone' 5 f5 rfl).2] at g5
    obtain ⟨z0, q0, _⟩ := DataW.trod_int u0 g0
    obtain ⟨z1, q1, _, w1⟩ := DataW.trod_int u1 g1
    obtain ⟨z2, q2, _, w2⟩ := DataW.trod_int u2 g2
    obtain ⟨z3, q3, _, w3⟩ := DataW.trod_int u3 g3
    obtain ⟨z4, q4, _, w4⟩ := DataW.trod_int u4 g4
    obtain ⟨p, l, c, b, rfl, hbl, hlm, hn, hold, h8, hgone⟩ := bytes_in u5 ue hce g5
    simp at q0 q1 q2 q3 q4
    have b4 := bounds_u64 w4
    refine ⟨⟨z0, z1, z2, z3, z4.toNat, p, l, c, b⟩, ?_, ⟨?_, ?_, ?_, ?_, hbl, hlm, hn, hold, h8, hgone⟩⟩
    · simp only [Dd.cells, q0, q1, q2, q3, q4, Int.toNat_of_nonneg b4.1]
    · exact bounds_i64 w1
    · exact bounds_i64 w2
    · exact bounds_i64 w3
    · show z4.toNat < _
      omega
theorem openDeeds {t e s : TypeId} {f0 f1 f2 f3 f4 f5 : Field} {v : Value} {d : DataW H} {p : List MemPlace} (ht : P.underlying t = some (.slice s)) (he : P.underlying s = some (.struct #[f0, f1, f2, f3, f4, f5])) (hone : oneCellFields P #[f0, f1, f2, f3, f4, f5] = true) (ce : P.cellsOf s = 6)
    (u0 : P.underlying f0.type = some (.int .i64)) (u1 : P.underlying f1.type = some (.int .i64)) (u2 : P.underlying f2.type = some (.int .i64)) (u3 : P.underlying f3.type = some (.int .i64)) (u4 : P.underlying f4.type = some (.int .u64))
    (u5 : P.underlying f5.type = some (.slice e)) (ue : P.underlying e = some (.int .u8)) (hce : P.cellsOf e = 1)
    (o : Value.okWide P w .any base t v) (h : DataW.Trod enc P w 0 (fun _ => true) true t v d p) :
    ∃ (a : Option Addr) (L c : Nat) (D : Nat → Dd), v = .slice a L c ∧ L ≤ maxLen ∧ DeedsAt w a L D := by
  obtain ⟨a, L, c, rfl⟩ := okWide_slice ht o
  obtain ⟨fuel, hf⟩ := h
  rcases open_slice ht hf with ⟨hcs, _⟩ | ⟨x, l, c', m, n, Dx, Pl, hcs, _, hl, hm, hmm, _, hx⟩
  · simp [Value.cells] at hcs
    obtain ⟨rfl, rfl, rfl⟩ := hcs
    exact ⟨none, 0, 0, fun _ => ⟨0, 0, 0, 0, 0, none, 0, 0, []⟩, rfl, by unfold maxLen; omega, .inl rfl⟩
  · simp [Value.cells] at hcs
    obtain ⟨rfl, rfl, rfl⟩ := hcs
    have hmc : m = c := by simpa using hmm
    subst hmc
    have each : ∀ i, i < m → ∃ q : Dd, DeedOk w q ∧ ∀ j, j < 6 → w.cell? ((x.add (i * 6)).add j) = q.cells[j]? := by
      intro i hi
      obtain ⟨cs', h1, h2⟩ := hx i hi
      rw [ce] at h1
      obtain ⟨_, hlen, hcell⟩ := World.cells?_some h1
      obtain ⟨q, hq, hok⟩ := six he hone ce u0 u1 u2 u3 u4 u5 ue hce h2
      exact ⟨q, hok, fun j hj => by rw [hcell j hj, hq]⟩
    have inh : Inhabited Dd := ⟨⟨0, 0, 0, 0, 0, none, 0, 0, []⟩⟩
    obtain ⟨q, hq⟩ := choose_lt each
    refine ⟨_, L, m, q, rfl, Nat.le_trans hl hm, ?_⟩
    by_cases h0 : L = 0
    · exact .inl h0
    · right
      obtain ⟨b, off, spot⟩ := x
      have hc0 := (hq 0 (by omega)).2 0 (by omega)
      rw [show (q 0).cells[0]? = some (.int .i64 (q 0).K) from rfl] at hc0
      have hspot : spot = none := by simpa [Addr.add] using World.cell?_spot hc0
      subst hspot
      refine ⟨b, off, rfl, ?_, ?_⟩
      · have := World.block_lt_of_cell? w _ hc0
        simpa [Addr.add] using this
      · intro i hi
        obtain ⟨g0, g1⟩ := hq i (by omega)
        refine ⟨g0, fun j hj => ?_⟩
        have := g1 j hj
        rwa [Addr.add_lit, Addr.add_lit] at this
theorem openDeed {t e : TypeId} {f0 f1 f2 f3 f4 f5 : Field} {v : Value} {d : DataW H} {p : List MemPlace} (he : P.underlying t = some (.struct #[f0, f1, f2, f3, f4, f5])) (hone : oneCellFields P #[f0, f1, f2, f3, f4, f5] = true) (ce : P.cellsOf t = 6)
    (u0 : P.underlying f0.type = some (.int .i64)) (u1 : P.underlying f1.type = some (.int .i64)) (u2 : P.underlying f2.type = some (.int .i64)) (u3 : P.underlying f3.type = some (.int .i64)) (u4 : P.underlying f4.type = some (.int .u64))
    (u5 : P.underlying f5.type = some (.slice e)) (ue : P.underlying e = some (.int .u8)) (hce : P.cellsOf e = 1)
    (o : Value.okWide P w .any base t v) (h : DataW.Trod enc P w 0 (fun _ => true) true t v d p) : ∃ q : Dd, v = .agg q.cells.toArray ∧ DeedOk w q := by
  obtain ⟨cs, rfl, _⟩ := okWide_struct he o
  obtain ⟨fuel, hf⟩ := h
  obtain ⟨q, hq, hok⟩ := six he hone ce u0 u1 u2 u3 u4 u5 ue hce hf
  refine ⟨q, ?_, hok⟩
  simp only [Value.cells] at hq
  rw [← hq]
end Go.Proofs.Yteebjeifbccbnaa
