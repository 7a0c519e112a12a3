/-
  No cell of these rows narrows 'for every input' (looked for: loops, veiled, ifaces, maps, wideKeys, modest, calm, conditions, laid).
  DERIVED. THE GIVEN ROWS OF THIS SEAT. 3 by the template 'for every input the law returns true; each argument reads behind the call as it read before'; 0 by the template 'total and deterministic' (their statements: YtjgkhckcoknnfaaTotals.lean).
  GIVEN WITH THE SEED: the statements are not yours to turn. If you find one false, say at which input.
  Laid BY PROGRAM, IN A SANDBOX (cutbox-rows.mjs): the forced cells as the released guide's own fill.sh prints them over the translation 98b87c579861c541… (all of the seat's roots in one cut). By AI agents, Wed Nov 11 2026. No macro, syntax, notation, axiom, sorry.
-/
import Derived.Test.YtjgkhckcoknnfaaChecked
import GoSem.Claim
import GoSem.ClaimJoined
import GoSem.ClaimMapViews
import Derived.JoinedTies
import Derived.KernelRfl
namespace Go.Proofs.Ytjgkhckcoknnfaa
/- THE CELL 'sum', in the pinned program and in every row, IS THE sha256 OF THE DUMP (.gsa) THAT YtjgkhckcoknnfaaProg.lean LOADS. Nothing in Lean hashes anything: it is a label: what it is worth is what the hold of that sum in a sandbox is worth. -/
noncomputable def Try.pinned : Pinned := { name := "ytjgkhckcoknnfaa", sum := "98b87c579861c541d580a3ecd90fda776240997dafbe41d841afcb327c95fa21", checked := Try.checked }
namespace Rows
def none {H : Type} : Left H := { results := [], args := [] }

/-- 'gunnylaw17.InnerMakes': WHATEVER THE INPUT: true; the input reads as it did. -/
def innerMakesSpec : ChangeSpec := { name := "innerMakes", fn := fun _ => fun
  | [d1, d2, d3] => { results := [.lit (.bool true)], args := [d1, d2, d3] }
  | _ => none }
def innerMakesRow : OpenClaim := { program := "ytjgkhckcoknnfaa", sum := "98b87c579861c541d580a3ecd90fda776240997dafbe41d841afcb327c95fa21", func := "gunny/gunnylaw17.InnerMakes", spec := "innerMakes", unfollowed := true, recurses := true, apart := false }
def InnerMakesSaid : Prop := innerMakesRow.holds Try.pinned (OpenSpec.ofChange innerMakesSpec)

/-- ITS FALSE NEIGHBOUR: 'it returns false'. Refute it at one input. -/
def innerMakesWrong : ChangeSpec := { name := "innerMakes", fn := fun _ => fun
  | [d1, d2, d3] => { results := [.lit (.bool false)], args := [d1, d2, d3] }
  | _ => none }
def InnerMakesWrongFalsely : Prop := innerMakesRow.holds Try.pinned (OpenSpec.ofChange innerMakesWrong)

/-- 'gunnylaw17.InnerKeeps': WHATEVER THE INPUT: true; the input reads as it did. -/
def innerKeepsSpec : ChangeSpec := { name := "innerKeeps", fn := fun _ => fun
  | [d1, d2] => { results := [.lit (.bool true)], args := [d1, d2] }
  | _ => none }
def innerKeepsRow : OpenClaim := { program := "ytjgkhckcoknnfaa", sum := "98b87c579861c541d580a3ecd90fda776240997dafbe41d841afcb327c95fa21", func := "gunny/gunnylaw17.InnerKeeps", spec := "innerKeeps", unfollowed := true, recurses := true, apart := false }
def InnerKeepsSaid : Prop := innerKeepsRow.holds Try.pinned (OpenSpec.ofChange innerKeepsSpec)

/-- ITS FALSE NEIGHBOUR: 'it returns false'. Refute it at one input. -/
def innerKeepsWrong : ChangeSpec := { name := "innerKeeps", fn := fun _ => fun
  | [d1, d2] => { results := [.lit (.bool false)], args := [d1, d2] }
  | _ => none }
def InnerKeepsWrongFalsely : Prop := innerKeepsRow.holds Try.pinned (OpenSpec.ofChange innerKeepsWrong)

/-- 'gunnylaw17.InnerLists': WHATEVER THE INPUT: true; the input reads as it did. -/
def innerListsSpec : ChangeSpec := { name := "innerLists", fn := fun _ => fun
  | [d1, d2, d3] => { results := [.lit (.bool true)], args := [d1, d2, d3] }
  | _ => none }
def innerListsRow : OpenClaim := { program := "ytjgkhckcoknnfaa", sum := "98b87c579861c541d580a3ecd90fda776240997dafbe41d841afcb327c95fa21", func := "gunny/gunnylaw17.InnerLists", spec := "innerLists", unfollowed := true, recurses := true, apart := false }
def InnerListsSaid : Prop := innerListsRow.holds Try.pinned (OpenSpec.ofChange innerListsSpec)

/-- ITS FALSE NEIGHBOUR: 'it returns false'. Refute it at one input. -/
def innerListsWrong : ChangeSpec := { name := "innerLists", fn := fun _ => fun
  | [d1, d2, d3] => { results := [.lit (.bool false)], args := [d1, d2, d3] }
  | _ => none }
def InnerListsWrongFalsely : Prop := innerListsRow.holds Try.pinned (OpenSpec.ofChange innerListsWrong)

/- THE SECOND FORM. 'bulk': how many values and letters a reading holds, each counted each time it is reached (what is shared counts as often as it is met; a slice's spare places count too). A statement '..UptoSaid' is the law's where the arguments, and the package variables that the reading takes, are together of bulk at most 1048576: NARROWER than '..Said'. Prove '..Said' where nothing that the law and all that it calls make is longer than what came in: it says more and counts as full. Else prove '..UptoSaid'. A law counts once. -/
mutual
def uptoBulk {H : Type} : DataW H → Nat
  | .lit (.string bytes) => bytes.length + 1
  | .lit _ => 1
  | .nil => 1
  | .ptr d => uptoBulk d + 1
  | .slice elems spare => uptoBulkAll elems + uptoBulkAll spare + 1
  | .agg parts => uptoBulkAll parts + 1
  | .iface _ d => uptoBulk d + 1
  | .map entries => uptoBulkEntries entries + 1
  | .held _ => 1
def uptoBulkAll {H : Type} : List (DataW H) → Nat
  | [] => 0
  | d :: r => uptoBulk d + uptoBulkAll r
def uptoBulkEntries {H : Type} : List (Lit × DataW H) → Nat
  | [] => 0
  | x :: r => uptoBulkEntry x + uptoBulkEntries r
def uptoBulkEntry {H : Type} : Lit × DataW H → Nat
  | (.string bytes, d) => bytes.length + uptoBulk d + 1
  | (_, d) => uptoBulk d + 1
 end
def uptoSmall : (H : Type) → List (DataW H) → Bool := fun _ ds => decide (uptoBulkAll ds ≤ 1048576)
def OpenSpec.upto (s : _root_.Go.ChangeSpec) : _root_.Go.OpenSpec := { _root_.Go.OpenSpec.ofChange s with cond := some uptoSmall }

/-- 'gunnylaw17.InnerMakes', WHERE WHAT IT READS IS OF BULK AT MOST 1048576: true; the input reads as it did. -/
def innerMakesUptoRow : OpenClaim := { program := "ytjgkhckcoknnfaa", sum := "98b87c579861c541d580a3ecd90fda776240997dafbe41d841afcb327c95fa21", func := "gunny/gunnylaw17.InnerMakes", spec := "innerMakes", unfollowed := true, recurses := true, apart := false, narrowed := true }
def InnerMakesUptoSaid : Prop := innerMakesUptoRow.holds Try.pinned (OpenSpec.upto innerMakesSpec)

/-- 'gunnylaw17.InnerKeeps', WHERE WHAT IT READS IS OF BULK AT MOST 1048576: true; the input reads as it did. -/
def innerKeepsUptoRow : OpenClaim := { program := "ytjgkhckcoknnfaa", sum := "98b87c579861c541d580a3ecd90fda776240997dafbe41d841afcb327c95fa21", func := "gunny/gunnylaw17.InnerKeeps", spec := "innerKeeps", unfollowed := true, recurses := true, apart := false, narrowed := true }
def InnerKeepsUptoSaid : Prop := innerKeepsUptoRow.holds Try.pinned (OpenSpec.upto innerKeepsSpec)

/-- 'gunnylaw17.InnerLists', WHERE WHAT IT READS IS OF BULK AT MOST 1048576: true; the input reads as it did. -/
def innerListsUptoRow : OpenClaim := { program := "ytjgkhckcoknnfaa", sum := "98b87c579861c541d580a3ecd90fda776240997dafbe41d841afcb327c95fa21", func := "gunny/gunnylaw17.InnerLists", spec := "innerLists", unfollowed := true, recurses := true, apart := false, narrowed := true }
def InnerListsUptoSaid : Prop := innerListsUptoRow.holds Try.pinned (OpenSpec.upto innerListsSpec)

end Rows
end Go.Proofs.Ytjgkhckcoknnfaa
