/- Opening a slice of structs of a slice of bytes and two ints, and one such struct. -/
import Derived.Test.YtdnmkbncdiggfaaGOpen
import Derived.Test.YtdnmkbncdiggfaaKTk
namespace Go.Proofs.Ytdnmkbncdiggfaa
open Go.ChangeShapes Go.WideShapes Go.ChangeAt Go.RowKit Go.Deep

variable {H : Type} {enc : TypeId × Value → H} {P : Program} {w : World} {base : Nat}
theorem tk_three {t e : TypeId} {f0 f1 f2 : Field} {fuel : Nat} {cs : List Value} {x : DataW H × List MemPlace} (he : P.underlying t = some (.struct #[f0, f1, f2])) (hone : oneCellFields P #[f0, f1, f2] = true) (ce : P.cellsOf t = 3)
    (u0 : P.underlying f0.type = some (.slice e)) (ue : P.underlying e = some (.int .u8)) (hce : P.cellsOf e = 1) (u1 : P.underlying f1.type = some (.int .i64)) (u2 : P.underlying f2.type = some (.int .i64))
    (h : DataW.trod enc P w 0 (fun _ => true) true fuel t cs = some x) : ∃ d : Tk, cs = d.cells ∧ TkOk w d := by
  obtain ⟨xs, k, _, _, hl, hxl, hf⟩ := DataW.trod_struct he h
  rw [ce] at hl
  match xs, hxl, cs, hl with
  | [y0, y1, y2], _, [v0, v1, v2], _ =>
    have hone' := hone_of hone
    have g0 := hf 0 f0 rfl
    have g1 := hf 1 f1 rfl
    have g2 := hf 2 f2 rfl
    simp [(hone' 0 f0 rfl).1, (hone' 0 f0 rfl).2] at g0
    simp [(hone' 1 f1 rfl).1, (hone' 1 f1 rfl).2] at g1
    simp [(hone' 2 f2 rfl).1, (hone' 2 f2 rfl).2] at g2
    obtain ⟨p, l, c, b, rfl, hlm, hcp, hs, h8⟩ := bytes_cap u0 ue hce g0
    obtain ⟨z1, q1, _, w1⟩ := DataW.trod_int u1 g1
    obtain ⟨z2, q2, _, w2⟩ := DataW.trod_int u2 g2
    simp at q1 q2
    have b1 := bounds_i64 w1
    have b2 := bounds_i64 w2
    refine ⟨⟨p, l, c, b, z1, z2⟩, ?_, ⟨⟨hs, hcp.2, hcp.1, h8⟩, b1, b2⟩⟩
    simp only [Tk.cells, q1, q2]
theorem openTks {t e s : TypeId} {f0 f1 f2 : Field} {v : Value} {d : DataW H} {p : List MemPlace} (ht : P.underlying t = some (.slice s)) (he : P.underlying s = some (.struct #[f0, f1, f2])) (hone : oneCellFields P #[f0, f1, f2] = true) (ce : P.cellsOf s = 3)
    (u0 : P.underlying f0.type = some (.slice e)) (ue : P.underlying e = some (.int .u8)) (hce : P.cellsOf e = 1) (u1 : P.underlying f1.type = some (.int .i64)) (u2 : P.underlying f2.type = some (.int .i64))
    (o : Value.okWide P w .any base t v) (h : DataW.Trod enc P w 0 (fun _ => true) true t v d p) :
    ∃ (a : Option Addr) (L c : Nat) (D : Nat → Tk), v = .slice a L c ∧ L ≤ maxLen ∧ TksAt w a L D := by
  obtain ⟨a, L, c, rfl⟩ := okWide_slice ht o
  obtain ⟨fuel, hf⟩ := h
  rcases open_slice ht hf with ⟨hcs, _⟩ | ⟨x, l, c', m, n, Dx, Pl, hcs, _, hl, hm, hmm, _, hx⟩
  · simp [Value.cells] at hcs
    obtain ⟨rfl, rfl, rfl⟩ := hcs
    exact ⟨none, 0, 0, fun _ => ⟨none, 0, 0, [], 0, 0⟩, rfl, by unfold maxLen; omega, .inl rfl⟩
  · simp [Value.cells] at hcs
    obtain ⟨rfl, rfl, rfl⟩ := hcs
    have hmc : m = c := by simpa using hmm
    subst hmc
    have each : ∀ i, i < m → ∃ q : Tk, TkOk w q ∧ ∀ j, j < 3 → w.cell? ((x.add (i * 3)).add j) = q.cells[j]? := by
      intro i hi
      obtain ⟨cs', h1, h2⟩ := hx i hi
      rw [ce] at h1
      obtain ⟨_, hlen, hcell⟩ := World.cells?_some h1
      obtain ⟨q, hq, hok⟩ := tk_three he hone ce u0 ue hce u1 u2 h2
      exact ⟨q, hok, fun j hj => by rw [hcell j hj, hq]⟩
    have inh : Inhabited Tk := ⟨⟨none, 0, 0, [], 0, 0⟩⟩
    obtain ⟨q, hq⟩ := choose_lt each
    refine ⟨_, L, m, q, rfl, Nat.le_trans hl hm, ?_⟩
    by_cases h0 : L = 0
    · exact .inl h0
    · right
      obtain ⟨b, off, spot⟩ := x
      have hc0 := (hq 0 (by omega)).2 0 (by omega)
      rw [show (q 0).cells[0]? = some (.slice (q 0).p (q 0).l (q 0).c) from rfl] at hc0
      have hspot : spot = none := by simpa [Addr.add] using World.cell?_spot hc0
      subst hspot
      refine ⟨b, off, rfl, ?_, ?_⟩
      · have := World.block_lt_of_cell? w _ hc0
        simpa [Addr.add] using this
      · intro i hi
        obtain ⟨g0, g1⟩ := hq i (by omega)
        refine ⟨g0, fun j hj => ?_⟩
        have := g1 j hj
        rwa [Addr.add_lit, Addr.add_lit] at this
theorem openTk {t e : TypeId} {f0 f1 f2 : Field} {v : Value} {d : DataW H} {p : List MemPlace} (he : P.underlying t = some (.struct #[f0, f1, f2])) (hone : oneCellFields P #[f0, f1, f2] = true) (ce : P.cellsOf t = 3)
    (u0 : P.underlying f0.type = some (.slice e)) (ue : P.underlying e = some (.int .u8)) (hce : P.cellsOf e = 1) (u1 : P.underlying f1.type = some (.int .i64)) (u2 : P.underlying f2.type = some (.int .i64))
    (o : Value.okWide P w .any base t v) (h : DataW.Trod enc P w 0 (fun _ => true) true t v d p) : ∃ q : Tk, v = .agg q.cells.toArray ∧ TkOk w q := by
  obtain ⟨cs, rfl, _⟩ := okWide_struct he o
  obtain ⟨fuel, hf⟩ := h
  obtain ⟨q, hq, hok⟩ := tk_three he hone ce u0 ue hce u1 u2 hf
  refine ⟨q, ?_, hok⟩
  simp only [Value.cells] at hq
  rw [← hq]
theorem openBy {t e : TypeId} {v : Value} {d : DataW H} {p : List MemPlace} (ht : P.underlying t = some (.slice e)) (he : P.underlying e = some (.int .u8)) (hce : P.cellsOf e = 1)
    (o : Value.okWide P w .any base t v) (h : DataW.Trod enc P w 0 (fun _ => true) true t v d p) : ∃ (q : Option Addr) (L c : Nat) (b : List Nat), v = .slice q L c ∧ ByAt w q L c b := by
  obtain ⟨q, L, c, rfl⟩ := okWide_slice ht o
  obtain ⟨fuel, hf⟩ := h
  obtain ⟨q', l', c2, b, e, hl, hcp, hs, h8⟩ := bytes_cap (v := .slice q L c) ht he hce hf
  cases e
  exact ⟨q, L, c, b, rfl, hs, hcp.2, hcp.1, h8⟩
end Go.Proofs.Ytdnmkbncdiggfaa
