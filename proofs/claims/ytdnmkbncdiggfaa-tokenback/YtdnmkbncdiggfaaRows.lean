/-
  No cell of these rows narrows 'for every input' (looked for: loops, veiled, ifaces, maps, wideKeys, modest, calm, conditions, laid).
  DERIVED. THE GIVEN ROWS OF THIS SEAT. 4 by the template 'for every input the law returns true; each argument reads behind the call as it read before'; 0 by the template 'total and deterministic' (their statements: YtdnmkbncdiggfaaTotals.lean).
  GIVEN WITH THE SEED: the statements are not yours to turn. If you find one false, say at which input.
  Laid BY PROGRAM, IN A SANDBOX (cutbox-rows.mjs): the forced cells as the released guide's own fill.sh prints them over the translation 3cee0fd4a07e4c23… (all of the seat's roots in one cut). By AI agents, Wed Nov 11 2026. No macro, syntax, notation, axiom, sorry.
-/
import Derived.Test.YtdnmkbncdiggfaaChecked
import GoSem.Claim
import GoSem.ClaimJoined
import GoSem.ClaimMapViews
import Derived.JoinedTies
import Derived.KernelRfl
namespace Go.Proofs.Ytdnmkbncdiggfaa
/- THE CELL 'sum', in the pinned program and in every row, IS THE sha256 OF THE DUMP (.gsa) THAT YtdnmkbncdiggfaaProg.lean LOADS. Nothing in Lean hashes anything: it is a label: what it is worth is what the hold of that sum in a sandbox is worth. -/
noncomputable def Try.pinned : Pinned := { name := "ytdnmkbncdiggfaa", sum := "3cee0fd4a07e4c233d9632252b285038827539c3f18898c029d77c05e5ea4f59", checked := Try.checked }
namespace Rows
def none {H : Type} : Left H := { results := [], args := [] }

/-- 'gunnylaw11.TokenPuts': WHATEVER THE INPUT: true; the input reads as it did. -/
def tokenPutsSpec : ChangeSpec := { name := "tokenPuts", fn := fun _ => fun
  | [d] => { results := [.lit (.bool true)], args := [d] }
  | _ => none }
def tokenPutsRow : OpenClaim := { program := "ytdnmkbncdiggfaa", sum := "3cee0fd4a07e4c233d9632252b285038827539c3f18898c029d77c05e5ea4f59", func := "gunny/gunnylaw11.TokenPuts", spec := "tokenPuts", apart := false }
def TokenPutsSaid : Prop := tokenPutsRow.holds Try.pinned (OpenSpec.ofChange tokenPutsSpec)

/-- ITS FALSE NEIGHBOUR: 'it returns false'. Refute it at one input. -/
def tokenPutsWrong : ChangeSpec := { name := "tokenPuts", fn := fun _ => fun
  | [d] => { results := [.lit (.bool false)], args := [d] }
  | _ => none }
def TokenPutsWrongFalsely : Prop := tokenPutsRow.holds Try.pinned (OpenSpec.ofChange tokenPutsWrong)

/-- 'gunnylaw11.TokenTakes': WHATEVER THE INPUT: true; the input reads as it did. -/
def tokenTakesSpec : ChangeSpec := { name := "tokenTakes", fn := fun _ => fun
  | [d1, d2] => { results := [.lit (.bool true)], args := [d1, d2] }
  | _ => none }
def tokenTakesRow : OpenClaim := { program := "ytdnmkbncdiggfaa", sum := "3cee0fd4a07e4c233d9632252b285038827539c3f18898c029d77c05e5ea4f59", func := "gunny/gunnylaw11.TokenTakes", spec := "tokenTakes", apart := false }
def TokenTakesSaid : Prop := tokenTakesRow.holds Try.pinned (OpenSpec.ofChange tokenTakesSpec)

/-- ITS FALSE NEIGHBOUR: 'it returns false'. Refute it at one input. -/
def tokenTakesWrong : ChangeSpec := { name := "tokenTakes", fn := fun _ => fun
  | [d1, d2] => { results := [.lit (.bool false)], args := [d1, d2] }
  | _ => none }
def TokenTakesWrongFalsely : Prop := tokenTakesRow.holds Try.pinned (OpenSpec.ofChange tokenTakesWrong)

/-- 'gunnylaw11.TokenGrows': WHATEVER THE INPUT: true; the input reads as it did. -/
def tokenGrowsSpec : ChangeSpec := { name := "tokenGrows", fn := fun _ => fun
  | [d1, d2] => { results := [.lit (.bool true)], args := [d1, d2] }
  | _ => none }
def tokenGrowsRow : OpenClaim := { program := "ytdnmkbncdiggfaa", sum := "3cee0fd4a07e4c233d9632252b285038827539c3f18898c029d77c05e5ea4f59", func := "gunny/gunnylaw11.TokenGrows", spec := "tokenGrows", apart := false }
def TokenGrowsSaid : Prop := tokenGrowsRow.holds Try.pinned (OpenSpec.ofChange tokenGrowsSpec)

/-- ITS FALSE NEIGHBOUR: 'it returns false'. Refute it at one input. -/
def tokenGrowsWrong : ChangeSpec := { name := "tokenGrows", fn := fun _ => fun
  | [d1, d2] => { results := [.lit (.bool false)], args := [d1, d2] }
  | _ => none }
def TokenGrowsWrongFalsely : Prop := tokenGrowsRow.holds Try.pinned (OpenSpec.ofChange tokenGrowsWrong)

/-- 'gunnylaw11.TokenBack': WHATEVER THE INPUT: true; the input reads as it did. -/
def tokenBackSpec : ChangeSpec := { name := "tokenBack", fn := fun _ => fun
  | [d1, d2] => { results := [.lit (.bool true)], args := [d1, d2] }
  | _ => none }
def tokenBackRow : OpenClaim := { program := "ytdnmkbncdiggfaa", sum := "3cee0fd4a07e4c233d9632252b285038827539c3f18898c029d77c05e5ea4f59", func := "gunny/gunnylaw11.TokenBack", spec := "tokenBack", apart := false }
def TokenBackSaid : Prop := tokenBackRow.holds Try.pinned (OpenSpec.ofChange tokenBackSpec)

/-- ITS FALSE NEIGHBOUR: 'it returns false'. Refute it at one input. -/
def tokenBackWrong : ChangeSpec := { name := "tokenBack", fn := fun _ => fun
  | [d1, d2] => { results := [.lit (.bool false)], args := [d1, d2] }
  | _ => none }
def TokenBackWrongFalsely : Prop := tokenBackRow.holds Try.pinned (OpenSpec.ofChange tokenBackWrong)

/- THE SECOND FORM. 'bulk': how many values and letters a reading holds, each counted each time it is reached (what is shared counts as often as it is met; a slice's spare places count too). A statement '..UptoSaid' is the law's where the arguments, and the package variables that the reading takes, are together of bulk at most 1048576: NARROWER than '..Said'. Prove '..Said' where nothing that the law and all that it calls make is longer than what came in: it says more and counts as full. Else prove '..UptoSaid'. A law counts once. -/
mutual
def uptoBulk {H : Type} : DataW H → Nat
  | .lit (.string bytes) => bytes.length + 1
  | .lit _ => 1
  | .nil => 1
  | .ptr d => uptoBulk d + 1
  | .slice elems spare => uptoBulkAll elems + uptoBulkAll spare + 1
  | .agg parts => uptoBulkAll parts + 1
  | .iface _ d => uptoBulk d + 1
  | .map entries => uptoBulkEntries entries + 1
  | .held _ => 1
def uptoBulkAll {H : Type} : List (DataW H) → Nat
  | [] => 0
  | d :: r => uptoBulk d + uptoBulkAll r
def uptoBulkEntries {H : Type} : List (Lit × DataW H) → Nat
  | [] => 0
  | x :: r => uptoBulkEntry x + uptoBulkEntries r
def uptoBulkEntry {H : Type} : Lit × DataW H → Nat
  | (.string bytes, d) => bytes.length + uptoBulk d + 1
  | (_, d) => uptoBulk d + 1
 end
def uptoSmall : (H : Type) → List (DataW H) → Bool := fun _ ds => decide (uptoBulkAll ds ≤ 1048576)
def OpenSpec.upto (s : _root_.Go.ChangeSpec) : _root_.Go.OpenSpec := { _root_.Go.OpenSpec.ofChange s with cond := some uptoSmall }

/-- 'gunnylaw11.TokenPuts', WHERE WHAT IT READS IS OF BULK AT MOST 1048576: true; the input reads as it did. -/
def tokenPutsUptoRow : OpenClaim := { program := "ytdnmkbncdiggfaa", sum := "3cee0fd4a07e4c233d9632252b285038827539c3f18898c029d77c05e5ea4f59", func := "gunny/gunnylaw11.TokenPuts", spec := "tokenPuts", apart := false, narrowed := true }
def TokenPutsUptoSaid : Prop := tokenPutsUptoRow.holds Try.pinned (OpenSpec.upto tokenPutsSpec)

/-- 'gunnylaw11.TokenTakes', WHERE WHAT IT READS IS OF BULK AT MOST 1048576: true; the input reads as it did. -/
def tokenTakesUptoRow : OpenClaim := { program := "ytdnmkbncdiggfaa", sum := "3cee0fd4a07e4c233d9632252b285038827539c3f18898c029d77c05e5ea4f59", func := "gunny/gunnylaw11.TokenTakes", spec := "tokenTakes", apart := false, narrowed := true }
def TokenTakesUptoSaid : Prop := tokenTakesUptoRow.holds Try.pinned (OpenSpec.upto tokenTakesSpec)

/-- 'gunnylaw11.TokenGrows', WHERE WHAT IT READS IS OF BULK AT MOST 1048576: true; the input reads as it did. -/
def tokenGrowsUptoRow : OpenClaim := { program := "ytdnmkbncdiggfaa", sum := "3cee0fd4a07e4c233d9632252b285038827539c3f18898c029d77c05e5ea4f59", func := "gunny/gunnylaw11.TokenGrows", spec := "tokenGrows", apart := false, narrowed := true }
def TokenGrowsUptoSaid : Prop := tokenGrowsUptoRow.holds Try.pinned (OpenSpec.upto tokenGrowsSpec)

/-- 'gunnylaw11.TokenBack', WHERE WHAT IT READS IS OF BULK AT MOST 1048576: true; the input reads as it did. -/
def tokenBackUptoRow : OpenClaim := { program := "ytdnmkbncdiggfaa", sum := "3cee0fd4a07e4c233d9632252b285038827539c3f18898c029d77c05e5ea4f59", func := "gunny/gunnylaw11.TokenBack", spec := "tokenBack", apart := false, narrowed := true }
def TokenBackUptoSaid : Prop := tokenBackUptoRow.holds Try.pinned (OpenSpec.upto tokenBackSpec)

end Rows
end Go.Proofs.Ytdnmkbncdiggfaa
