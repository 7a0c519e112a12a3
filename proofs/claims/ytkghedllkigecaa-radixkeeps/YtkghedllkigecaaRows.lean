/-
  No cell of these rows narrows 'for every input' (looked for: loops, veiled, ifaces, maps, wideKeys, modest, calm, conditions, laid).
  DERIVED. THE GIVEN ROWS OF THIS SEAT. 3 by the template 'for every input the law returns true; each argument reads behind the call as it read before'; 0 by the template 'total and deterministic' (their statements: YtkghedllkigecaaTotals.lean).
  GIVEN WITH THE SEED: the statements are not yours to turn. If you find one false, say at which input.
  Laid BY PROGRAM, IN A SANDBOX (cutbox-rows.mjs): the forced cells as the released guide's own fill.sh prints them over the translation 1159d0be52598620… (all of the seat's roots in one cut). By AI agents, Wed Nov 11 2026. No macro, syntax, notation, axiom, sorry.
-/
import Derived.Test.YtkghedllkigecaaChecked
import GoSem.Claim
import GoSem.ClaimJoined
import GoSem.ClaimMapViews
import Derived.JoinedTies
import Derived.KernelRfl
namespace Go.Proofs.Ytkghedllkigecaa
/- THE CELL 'sum', in the pinned program and in every row, IS THE sha256 OF THE DUMP (.gsa) THAT YtkghedllkigecaaProg.lean LOADS. Nothing in Lean hashes anything: it is a label: what it is worth is what the hold of that sum in a sandbox is worth. -/
noncomputable def Try.pinned : Pinned := { name := "ytkghedllkigecaa", sum := "1159d0be52598620ee461fb23b2e002635907310983c648219cc980654fb2f8c", checked := Try.checked }
namespace Rows
def none {H : Type} : Left H := { results := [], args := [] }

/-- 'gunnylaw04.RadixPlays': WHATEVER THE INPUT: true; the input reads as it did. -/
def radixPlaysSpec : ChangeSpec := { name := "radixPlays", fn := fun _ => fun
  | [d1, d2] => { results := [.lit (.bool true)], args := [d1, d2] }
  | _ => none }
def radixPlaysRow : OpenClaim := { program := "ytkghedllkigecaa", sum := "1159d0be52598620ee461fb23b2e002635907310983c648219cc980654fb2f8c", func := "gunny/gunnylaw04.RadixPlays", spec := "radixPlays", unfollowed := true, recurses := true, apart := false }
def RadixPlaysSaid : Prop := radixPlaysRow.holds Try.pinned (OpenSpec.ofChange radixPlaysSpec)

/-- ITS FALSE NEIGHBOUR: 'it returns false'. Refute it at one input. -/
def radixPlaysWrong : ChangeSpec := { name := "radixPlays", fn := fun _ => fun
  | [d1, d2] => { results := [.lit (.bool false)], args := [d1, d2] }
  | _ => none }
def RadixPlaysWrongFalsely : Prop := radixPlaysRow.holds Try.pinned (OpenSpec.ofChange radixPlaysWrong)

/-- 'gunnylaw04.RadixStops': WHATEVER THE INPUT: true; the input reads as it did. -/
def radixStopsSpec : ChangeSpec := { name := "radixStops", fn := fun _ => fun
  | [d1, d2, d3] => { results := [.lit (.bool true)], args := [d1, d2, d3] }
  | _ => none }
def radixStopsRow : OpenClaim := { program := "ytkghedllkigecaa", sum := "1159d0be52598620ee461fb23b2e002635907310983c648219cc980654fb2f8c", func := "gunny/gunnylaw04.RadixStops", spec := "radixStops", unfollowed := true, recurses := true, apart := false }
def RadixStopsSaid : Prop := radixStopsRow.holds Try.pinned (OpenSpec.ofChange radixStopsSpec)

/-- ITS FALSE NEIGHBOUR: 'it returns false'. Refute it at one input. -/
def radixStopsWrong : ChangeSpec := { name := "radixStops", fn := fun _ => fun
  | [d1, d2, d3] => { results := [.lit (.bool false)], args := [d1, d2, d3] }
  | _ => none }
def RadixStopsWrongFalsely : Prop := radixStopsRow.holds Try.pinned (OpenSpec.ofChange radixStopsWrong)

/-- 'gunnylaw04.RadixKeeps': WHATEVER THE INPUT: true; the input reads as it did. -/
def radixKeepsSpec : ChangeSpec := { name := "radixKeeps", fn := fun _ => fun
  | [d1, d2] => { results := [.lit (.bool true)], args := [d1, d2] }
  | _ => none }
def radixKeepsRow : OpenClaim := { program := "ytkghedllkigecaa", sum := "1159d0be52598620ee461fb23b2e002635907310983c648219cc980654fb2f8c", func := "gunny/gunnylaw04.RadixKeeps", spec := "radixKeeps", unfollowed := true, recurses := true, apart := false }
def RadixKeepsSaid : Prop := radixKeepsRow.holds Try.pinned (OpenSpec.ofChange radixKeepsSpec)

/-- ITS FALSE NEIGHBOUR: 'it returns false'. Refute it at one input. -/
def radixKeepsWrong : ChangeSpec := { name := "radixKeeps", fn := fun _ => fun
  | [d1, d2] => { results := [.lit (.bool false)], args := [d1, d2] }
  | _ => none }
def RadixKeepsWrongFalsely : Prop := radixKeepsRow.holds Try.pinned (OpenSpec.ofChange radixKeepsWrong)

/- THE SECOND FORM. 'bulk': how many values and letters a reading holds, each counted each time it is reached (what is shared counts as often as it is met; a slice's spare places count too). A statement '..UptoSaid' is the law's where the arguments, and the package variables that the reading takes, are together of bulk at most 1048576: NARROWER than '..Said'. Prove '..Said' where nothing that the law and all that it calls make is longer than what came in: it says more and counts as full. Else prove '..UptoSaid'. A law counts once. -/
mutual
def uptoBulk {H : Type} : DataW H → Nat
  | .lit (.string bytes) => bytes.length + 1
  | .lit _ => 1
  | .nil => 1
  | .ptr d => uptoBulk d + 1
  | .slice elems spare => uptoBulkAll elems + uptoBulkAll spare + 1
  | .agg parts => uptoBulkAll parts + 1
  | .iface _ d => uptoBulk d + 1
  | .map entries => uptoBulkEntries entries + 1
  | .held _ => 1
def uptoBulkAll {H : Type} : List (DataW H) → Nat
  | [] => 0
  | d :: r => uptoBulk d + uptoBulkAll r
def uptoBulkEntries {H : Type} : List (Lit × DataW H) → Nat
  | [] => 0
  | x :: r => uptoBulkEntry x + uptoBulkEntries r
def uptoBulkEntry {H : Type} : Lit × DataW H → Nat
  | (.string bytes, d) => bytes.length + uptoBulk d + 1
  | (_, d) => uptoBulk d + 1
 end
def uptoSmall : (H : Type) → List (DataW H) → Bool := fun _ ds => decide (uptoBulkAll ds ≤ 1048576)
def OpenSpec.upto (s : _root_.Go.ChangeSpec) : _root_.Go.OpenSpec := { _root_.Go.OpenSpec.ofChange s with cond := some uptoSmall }

/-- 'gunnylaw04.RadixPlays', WHERE WHAT IT READS IS OF BULK AT MOST 1048576: true; the input reads as it did. -/
def radixPlaysUptoRow : OpenClaim := { program := "ytkghedllkigecaa", sum := "1159d0be52598620ee461fb23b2e002635907310983c648219cc980654fb2f8c", func := "gunny/gunnylaw04.RadixPlays", spec := "radixPlays", unfollowed := true, recurses := true, apart := false, narrowed := true }
def RadixPlaysUptoSaid : Prop := radixPlaysUptoRow.holds Try.pinned (OpenSpec.upto radixPlaysSpec)

/-- 'gunnylaw04.RadixStops', WHERE WHAT IT READS IS OF BULK AT MOST 1048576: true; the input reads as it did. -/
def radixStopsUptoRow : OpenClaim := { program := "ytkghedllkigecaa", sum := "1159d0be52598620ee461fb23b2e002635907310983c648219cc980654fb2f8c", func := "gunny/gunnylaw04.RadixStops", spec := "radixStops", unfollowed := true, recurses := true, apart := false, narrowed := true }
def RadixStopsUptoSaid : Prop := radixStopsUptoRow.holds Try.pinned (OpenSpec.upto radixStopsSpec)

/-- 'gunnylaw04.RadixKeeps', WHERE WHAT IT READS IS OF BULK AT MOST 1048576: true; the input reads as it did. -/
def radixKeepsUptoRow : OpenClaim := { program := "ytkghedllkigecaa", sum := "1159d0be52598620ee461fb23b2e002635907310983c648219cc980654fb2f8c", func := "gunny/gunnylaw04.RadixKeeps", spec := "radixKeeps", unfollowed := true, recurses := true, apart := false, narrowed := true }
def RadixKeepsUptoSaid : Prop := radixKeepsUptoRow.holds Try.pinned (OpenSpec.upto radixKeepsSpec)

end Rows
end Go.Proofs.Ytkghedllkigecaa
