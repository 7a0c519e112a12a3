/-
  No cell of these rows narrows 'for every input' (looked for: loops, veiled, ifaces, maps, wideKeys, modest, calm, conditions, laid).
  DERIVED. THE GIVEN ROWS OF THIS SEAT. 4 by the template 'for every input the law returns true; each argument reads behind the call as it read before'; 0 by the template 'total and deterministic' (their statements: YtmpocmfnpipehaaTotals.lean).
  GIVEN WITH THE SEED: the statements are not yours to turn. If you find one false, say at which input.
  Laid BY PROGRAM, IN A SANDBOX (cutbox-rows.mjs): the forced cells as the released guide's own fill.sh prints them over the translation 68bc87fd004bc314… (all of the seat's roots in one cut). By AI agents, Wed Nov 11 2026. No macro, syntax, notation, axiom, sorry.
-/
import Derived.Test.YtmpocmfnpipehaaChecked
import GoSem.Claim
import GoSem.ClaimJoined
import GoSem.ClaimMapViews
import Derived.JoinedTies
import Derived.KernelRfl
namespace Go.Proofs.Ytmpocmfnpipehaa
/- THE CELL 'sum', in the pinned program and in every row, IS THE sha256 OF THE DUMP (.gsa) THAT YtmpocmfnpipehaaProg.lean LOADS. Nothing in Lean hashes anything: it is a label: what it is worth is what the hold of that sum in a sandbox is worth. -/
noncomputable def Try.pinned : Pinned := { name := "ytmpocmfnpipehaa", sum := "68bc87fd004bc3145ae12c361a05104ecd600623d3ee25cd523ce8c4ca463209", checked := Try.checked }
namespace Rows
def none {H : Type} : Left H := { results := [], args := [] }

/-- 'gunnylaw13.SqueezeUnpacks': WHATEVER THE INPUT: true; the input reads as it did. -/
def squeezeUnpacksSpec : ChangeSpec := { name := "squeezeUnpacks", fn := fun _ => fun
  | [d] => { results := [.lit (.bool true)], args := [d] }
  | _ => none }
def squeezeUnpacksRow : OpenClaim := { program := "ytmpocmfnpipehaa", sum := "68bc87fd004bc3145ae12c361a05104ecd600623d3ee25cd523ce8c4ca463209", func := "gunny/gunnylaw13.SqueezeUnpacks", spec := "squeezeUnpacks", unfollowed := true, recurses := true, apart := false }
def SqueezeUnpacksSaid : Prop := squeezeUnpacksRow.holds Try.pinned (OpenSpec.ofChange squeezeUnpacksSpec)

/-- ITS FALSE NEIGHBOUR: 'it returns false'. Refute it at one input. -/
def squeezeUnpacksWrong : ChangeSpec := { name := "squeezeUnpacks", fn := fun _ => fun
  | [d] => { results := [.lit (.bool false)], args := [d] }
  | _ => none }
def SqueezeUnpacksWrongFalsely : Prop := squeezeUnpacksRow.holds Try.pinned (OpenSpec.ofChange squeezeUnpacksWrong)

/-- 'gunnylaw13.SqueezeSpoilt': WHATEVER THE INPUT: true; the input reads as it did. -/
def squeezeSpoiltSpec : ChangeSpec := { name := "squeezeSpoilt", fn := fun _ => fun
  | [d1, d2, d3] => { results := [.lit (.bool true)], args := [d1, d2, d3] }
  | _ => none }
def squeezeSpoiltRow : OpenClaim := { program := "ytmpocmfnpipehaa", sum := "68bc87fd004bc3145ae12c361a05104ecd600623d3ee25cd523ce8c4ca463209", func := "gunny/gunnylaw13.SqueezeSpoilt", spec := "squeezeSpoilt", unfollowed := true, recurses := true, apart := false }
def SqueezeSpoiltSaid : Prop := squeezeSpoiltRow.holds Try.pinned (OpenSpec.ofChange squeezeSpoiltSpec)

/-- ITS FALSE NEIGHBOUR: 'it returns false'. Refute it at one input. -/
def squeezeSpoiltWrong : ChangeSpec := { name := "squeezeSpoilt", fn := fun _ => fun
  | [d1, d2, d3] => { results := [.lit (.bool false)], args := [d1, d2, d3] }
  | _ => none }
def SqueezeSpoiltWrongFalsely : Prop := squeezeSpoiltRow.holds Try.pinned (OpenSpec.ofChange squeezeSpoiltWrong)

/-- 'gunnylaw13.SqueezeBack': WHATEVER THE INPUT: true; the input reads as it did. -/
def squeezeBackSpec : ChangeSpec := { name := "squeezeBack", fn := fun _ => fun
  | [d1, d2] => { results := [.lit (.bool true)], args := [d1, d2] }
  | _ => none }
def squeezeBackRow : OpenClaim := { program := "ytmpocmfnpipehaa", sum := "68bc87fd004bc3145ae12c361a05104ecd600623d3ee25cd523ce8c4ca463209", func := "gunny/gunnylaw13.SqueezeBack", spec := "squeezeBack", unfollowed := true, recurses := true, apart := false }
def SqueezeBackSaid : Prop := squeezeBackRow.holds Try.pinned (OpenSpec.ofChange squeezeBackSpec)

/-- ITS FALSE NEIGHBOUR: 'it returns false'. Refute it at one input. -/
def squeezeBackWrong : ChangeSpec := { name := "squeezeBack", fn := fun _ => fun
  | [d1, d2] => { results := [.lit (.bool false)], args := [d1, d2] }
  | _ => none }
def SqueezeBackWrongFalsely : Prop := squeezeBackRow.holds Try.pinned (OpenSpec.ofChange squeezeBackWrong)

/-- 'gunnylaw13.SqueezeRuns': WHATEVER THE INPUT: true; the input reads as it did. -/
def squeezeRunsSpec : ChangeSpec := { name := "squeezeRuns", fn := fun _ => fun
  | [d] => { results := [.lit (.bool true)], args := [d] }
  | _ => none }
def squeezeRunsRow : OpenClaim := { program := "ytmpocmfnpipehaa", sum := "68bc87fd004bc3145ae12c361a05104ecd600623d3ee25cd523ce8c4ca463209", func := "gunny/gunnylaw13.SqueezeRuns", spec := "squeezeRuns", unfollowed := true, recurses := true, apart := false }
def SqueezeRunsSaid : Prop := squeezeRunsRow.holds Try.pinned (OpenSpec.ofChange squeezeRunsSpec)

/-- ITS FALSE NEIGHBOUR: 'it returns false'. Refute it at one input. -/
def squeezeRunsWrong : ChangeSpec := { name := "squeezeRuns", fn := fun _ => fun
  | [d] => { results := [.lit (.bool false)], args := [d] }
  | _ => none }
def SqueezeRunsWrongFalsely : Prop := squeezeRunsRow.holds Try.pinned (OpenSpec.ofChange squeezeRunsWrong)

/- THE SECOND FORM. 'bulk': how many values and letters a reading holds, each counted each time it is reached (what is shared counts as often as it is met; a slice's spare places count too). A statement '..UptoSaid' is the law's where the arguments, and the package variables that the reading takes, are together of bulk at most 1048576: NARROWER than '..Said'. Prove '..Said' where nothing that the law and all that it calls make is longer than what came in: it says more and counts as full. Else prove '..UptoSaid'. A law counts once. -/
mutual
def uptoBulk {H : Type} : DataW H → Nat
  | .lit (.string bytes) => bytes.length + 1
  | .lit _ => 1
  | .nil => 1
  | .ptr d => uptoBulk d + 1
  | .slice elems spare => uptoBulkAll elems + uptoBulkAll spare + 1
  | .agg parts => uptoBulkAll parts + 1
  | .iface _ d => uptoBulk d + 1
  | .map entries => uptoBulkEntries entries + 1
  | .held _ => 1
def uptoBulkAll {H : Type} : List (DataW H) → Nat
  | [] => 0
  | d :: r => uptoBulk d + uptoBulkAll r
def uptoBulkEntries {H : Type} : List (Lit × DataW H) → Nat
  | [] => 0
  | x :: r => uptoBulkEntry x + uptoBulkEntries r
def uptoBulkEntry {H : Type} : Lit × DataW H → Nat
  | (.string bytes, d) => bytes.length + uptoBulk d + 1
  | (_, d) => uptoBulk d + 1
 end
def uptoSmall : (H : Type) → List (DataW H) → Bool := fun _ ds => decide (uptoBulkAll ds ≤ 1048576)
def OpenSpec.upto (s : _root_.Go.ChangeSpec) : _root_.Go.OpenSpec := { _root_.Go.OpenSpec.ofChange s with cond := some uptoSmall }

/-- 'gunnylaw13.SqueezeUnpacks', WHERE WHAT IT READS IS OF BULK AT MOST 1048576: true; the input reads as it did. -/
def squeezeUnpacksUptoRow : OpenClaim := { program := "ytmpocmfnpipehaa", sum := "68bc87fd004bc3145ae12c361a05104ecd600623d3ee25cd523ce8c4ca463209", func := "gunny/gunnylaw13.SqueezeUnpacks", spec := "squeezeUnpacks", unfollowed := true, recurses := true, apart := false, narrowed := true }
def SqueezeUnpacksUptoSaid : Prop := squeezeUnpacksUptoRow.holds Try.pinned (OpenSpec.upto squeezeUnpacksSpec)

/-- 'gunnylaw13.SqueezeSpoilt', WHERE WHAT IT READS IS OF BULK AT MOST 1048576: true; the input reads as it did. -/
def squeezeSpoiltUptoRow : OpenClaim := { program := "ytmpocmfnpipehaa", sum := "68bc87fd004bc3145ae12c361a05104ecd600623d3ee25cd523ce8c4ca463209", func := "gunny/gunnylaw13.SqueezeSpoilt", spec := "squeezeSpoilt", unfollowed := true, recurses := true, apart := false, narrowed := true }
def SqueezeSpoiltUptoSaid : Prop := squeezeSpoiltUptoRow.holds Try.pinned (OpenSpec.upto squeezeSpoiltSpec)

/-- 'gunnylaw13.SqueezeBack', WHERE WHAT IT READS IS OF BULK AT MOST 1048576: true; the input reads as it did. -/
def squeezeBackUptoRow : OpenClaim := { program := "ytmpocmfnpipehaa", sum := "68bc87fd004bc3145ae12c361a05104ecd600623d3ee25cd523ce8c4ca463209", func := "gunny/gunnylaw13.SqueezeBack", spec := "squeezeBack", unfollowed := true, recurses := true, apart := false, narrowed := true }
def SqueezeBackUptoSaid : Prop := squeezeBackUptoRow.holds Try.pinned (OpenSpec.upto squeezeBackSpec)

/-- 'gunnylaw13.SqueezeRuns', WHERE WHAT IT READS IS OF BULK AT MOST 1048576: true; the input reads as it did. -/
def squeezeRunsUptoRow : OpenClaim := { program := "ytmpocmfnpipehaa", sum := "68bc87fd004bc3145ae12c361a05104ecd600623d3ee25cd523ce8c4ca463209", func := "gunny/gunnylaw13.SqueezeRuns", spec := "squeezeRuns", unfollowed := true, recurses := true, apart := false, narrowed := true }
def SqueezeRunsUptoSaid : Prop := squeezeRunsUptoRow.holds Try.pinned (OpenSpec.upto squeezeRunsSpec)

end Rows
end Go.Proofs.Ytmpocmfnpipehaa
