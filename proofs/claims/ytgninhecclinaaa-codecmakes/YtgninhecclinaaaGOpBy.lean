/- Opening a slice of bytes that was handed in: general. -/
import Derived.Test.YtgninhecclinaaaGOpen
import Derived.Test.YtgninhecclinaaaGBy
namespace Go.Proofs.Ytgninhecclinaaa
open Go.ChangeShapes Go.WideShapes Go.ChangeAt Go.RowKit Go.Deep

variable {H : Type} {enc : TypeId × Value → H} {P : Program} {w : World} {base : Nat}
theorem openBy {t e : TypeId} {v : Value} {d : DataW H} {p : List MemPlace} (ht : P.underlying t = some (.slice e)) (he : P.underlying e = some (.int .u8)) (hce : P.cellsOf e = 1)
    (o : Value.okWide P w .any base t v) (h : DataW.Trod enc P w 0 (fun _ => true) true t v d p) : ∃ (q : Option Addr) (L c : Nat) (b : List Nat), v = .slice q L c ∧ ByAt w q L c b := by
  obtain ⟨q, L, c, rfl⟩ := okWide_slice ht o
  obtain ⟨fuel, hf⟩ := h
  obtain ⟨q', l', c2, b, e, hl, hcp, hs, h8⟩ := bytes_cap (v := .slice q L c) ht he hce hf
  cases e
  exact ⟨q, L, c, b, rfl, hs, hcp.2, hcp.1, h8⟩
end Go.Proofs.Ytgninhecclinaaa
