/-
  No cell of these rows narrows 'for every input' (looked for: loops, veiled, ifaces, maps, wideKeys, modest, calm, conditions, laid).
  DERIVED. THE GIVEN ROWS OF THIS SEAT. 3 by the template 'for every input the law returns true; each argument reads behind the call as it read before'; 0 by the template 'total and deterministic' (their statements: YtoehokhpdcccjaaTotals.lean).
  GIVEN WITH THE SEED: the statements are not yours to turn. If you find one false, say at which input.
  Laid BY PROGRAM, IN A SANDBOX (cutbox-rows.mjs): the forced cells as the released guide's own fill.sh prints them over the translation abd0621c661a70c5… (all of the seat's roots in one cut). By AI agents, Wed Nov 11 2026. No macro, syntax, notation, axiom, sorry.
-/
import Derived.Test.YtoehokhpdcccjaaChecked
import GoSem.Claim
import GoSem.ClaimJoined
import GoSem.ClaimMapViews
import Derived.JoinedTies
import Derived.KernelRfl
namespace Go.Proofs.Ytoehokhpdcccjaa
/- THE CELL 'sum', in the pinned program and in every row, IS THE sha256 OF THE DUMP (.gsa) THAT YtoehokhpdcccjaaProg.lean LOADS. Nothing in Lean hashes anything: it is a label: what it is worth is what the hold of that sum in a sandbox is worth. -/
noncomputable def Try.pinned : Pinned := { name := "ytoehokhpdcccjaa", sum := "abd0621c661a70c5fe826b4afcc3096e346c6cc8da619b9d3e44bc164a3bb7f9", checked := Try.checked }
namespace Rows
def none {H : Type} : Left H := { results := [], args := [] }

/-- 'gunnylaw10.SameOf': WHATEVER THE INPUT: true; the input reads as it did. -/
def sameOfSpec : ChangeSpec := { name := "sameOf", fn := fun _ => fun
  | [d1, d2] => { results := [.lit (.bool true)], args := [d1, d2] }
  | _ => none }
def sameOfRow : OpenClaim := { program := "ytoehokhpdcccjaa", sum := "abd0621c661a70c5fe826b4afcc3096e346c6cc8da619b9d3e44bc164a3bb7f9", func := "gunny/gunnylaw10.SameOf", spec := "sameOf", apart := false }
def SameOfSaid : Prop := sameOfRow.holds Try.pinned (OpenSpec.ofChange sameOfSpec)

/-- ITS FALSE NEIGHBOUR: 'it returns false'. Refute it at one input. -/
def sameOfWrong : ChangeSpec := { name := "sameOf", fn := fun _ => fun
  | [d1, d2] => { results := [.lit (.bool false)], args := [d1, d2] }
  | _ => none }
def SameOfWrongFalsely : Prop := sameOfRow.holds Try.pinned (OpenSpec.ofChange sameOfWrong)

/-- 'gunnylaw10.SamePage': WHATEVER THE INPUT: true; the input reads as it did. -/
def samePageSpec : ChangeSpec := { name := "samePage", fn := fun _ => fun
  | [d] => { results := [.lit (.bool true)], args := [d] }
  | _ => none }
def samePageRow : OpenClaim := { program := "ytoehokhpdcccjaa", sum := "abd0621c661a70c5fe826b4afcc3096e346c6cc8da619b9d3e44bc164a3bb7f9", func := "gunny/gunnylaw10.SamePage", spec := "samePage", apart := false }
def SamePageSaid : Prop := samePageRow.holds Try.pinned (OpenSpec.ofChange samePageSpec)

/-- ITS FALSE NEIGHBOUR: 'it returns false'. Refute it at one input. -/
def samePageWrong : ChangeSpec := { name := "samePage", fn := fun _ => fun
  | [d] => { results := [.lit (.bool false)], args := [d] }
  | _ => none }
def SamePageWrongFalsely : Prop := samePageRow.holds Try.pinned (OpenSpec.ofChange samePageWrong)

/-- 'gunnylaw10.SameBack': WHATEVER THE INPUT: true; the input reads as it did. -/
def sameBackSpec : ChangeSpec := { name := "sameBack", fn := fun _ => fun
  | [d1, d2, d3] => { results := [.lit (.bool true)], args := [d1, d2, d3] }
  | _ => none }
def sameBackRow : OpenClaim := { program := "ytoehokhpdcccjaa", sum := "abd0621c661a70c5fe826b4afcc3096e346c6cc8da619b9d3e44bc164a3bb7f9", func := "gunny/gunnylaw10.SameBack", spec := "sameBack", apart := false }
def SameBackSaid : Prop := sameBackRow.holds Try.pinned (OpenSpec.ofChange sameBackSpec)

/-- ITS FALSE NEIGHBOUR: 'it returns false'. Refute it at one input. -/
def sameBackWrong : ChangeSpec := { name := "sameBack", fn := fun _ => fun
  | [d1, d2, d3] => { results := [.lit (.bool false)], args := [d1, d2, d3] }
  | _ => none }
def SameBackWrongFalsely : Prop := sameBackRow.holds Try.pinned (OpenSpec.ofChange sameBackWrong)

/- THE SECOND FORM. 'bulk': how many values and letters a reading holds, each counted each time it is reached (what is shared counts as often as it is met; a slice's spare places count too). A statement '..UptoSaid' is the law's where the arguments, and the package variables that the reading takes, are together of bulk at most 1048576: NARROWER than '..Said'. Prove '..Said' where nothing that the law and all that it calls make is longer than what came in: it says more and counts as full. Else prove '..UptoSaid'. A law counts once. -/
mutual
def uptoBulk {H : Type} : DataW H → Nat
  | .lit (.string bytes) => bytes.length + 1
  | .lit _ => 1
  | .nil => 1
  | .ptr d => uptoBulk d + 1
  | .slice elems spare => uptoBulkAll elems + uptoBulkAll spare + 1
  | .agg parts => uptoBulkAll parts + 1
  | .iface _ d => uptoBulk d + 1
  | .map entries => uptoBulkEntries entries + 1
  | .held _ => 1
def uptoBulkAll {H : Type} : List (DataW H) → Nat
  | [] => 0
  | d :: r => uptoBulk d + uptoBulkAll r
def uptoBulkEntries {H : Type} : List (Lit × DataW H) → Nat
  | [] => 0
  | x :: r => uptoBulkEntry x + uptoBulkEntries r
def uptoBulkEntry {H : Type} : Lit × DataW H → Nat
  | (.string bytes, d) => bytes.length + uptoBulk d + 1
  | (_, d) => uptoBulk d + 1
 end
def uptoSmall : (H : Type) → List (DataW H) → Bool := fun _ ds => decide (uptoBulkAll ds ≤ 1048576)
def OpenSpec.upto (s : _root_.Go.ChangeSpec) : _root_.Go.OpenSpec := { _root_.Go.OpenSpec.ofChange s with cond := some uptoSmall }

/-- 'gunnylaw10.SameOf', WHERE WHAT IT READS IS OF BULK AT MOST 1048576: true; the input reads as it did. -/
def sameOfUptoRow : OpenClaim := { program := "ytoehokhpdcccjaa", sum := "abd0621c661a70c5fe826b4afcc3096e346c6cc8da619b9d3e44bc164a3bb7f9", func := "gunny/gunnylaw10.SameOf", spec := "sameOf", apart := false, narrowed := true }
def SameOfUptoSaid : Prop := sameOfUptoRow.holds Try.pinned (OpenSpec.upto sameOfSpec)

/-- 'gunnylaw10.SamePage', WHERE WHAT IT READS IS OF BULK AT MOST 1048576: true; the input reads as it did. -/
def samePageUptoRow : OpenClaim := { program := "ytoehokhpdcccjaa", sum := "abd0621c661a70c5fe826b4afcc3096e346c6cc8da619b9d3e44bc164a3bb7f9", func := "gunny/gunnylaw10.SamePage", spec := "samePage", apart := false, narrowed := true }
def SamePageUptoSaid : Prop := samePageUptoRow.holds Try.pinned (OpenSpec.upto samePageSpec)

/-- 'gunnylaw10.SameBack', WHERE WHAT IT READS IS OF BULK AT MOST 1048576: true; the input reads as it did. -/
def sameBackUptoRow : OpenClaim := { program := "ytoehokhpdcccjaa", sum := "abd0621c661a70c5fe826b4afcc3096e346c6cc8da619b9d3e44bc164a3bb7f9", func := "gunny/gunnylaw10.SameBack", spec := "sameBack", apart := false, narrowed := true }
def SameBackUptoSaid : Prop := sameBackUptoRow.holds Try.pinned (OpenSpec.upto sameBackSpec)

end Rows
end Go.Proofs.Ytoehokhpdcccjaa
