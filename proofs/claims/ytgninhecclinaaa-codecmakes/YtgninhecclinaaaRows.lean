/-
  No cell of these rows narrows 'for every input' (looked for: loops, veiled, ifaces, maps, wideKeys, modest, calm, conditions, laid).
  DERIVED. THE GIVEN ROWS OF THIS SEAT. 3 by the template 'for every input the law returns true; each argument reads behind the call as it read before'; 0 by the template 'total and deterministic' (their statements: YtgninhecclinaaaTotals.lean).
  GIVEN WITH THE SEED: the statements are not yours to turn. If you find one false, say at which input.
  Laid BY PROGRAM, IN A SANDBOX (cutbox-rows.mjs): the forced cells as the released guide's own fill.sh prints them over the translation fa6d79581bca7ca4… (all of the seat's roots in one cut). By AI agents, Wed Nov 11 2026. No macro, syntax, notation, axiom, sorry.
-/
import Derived.Test.YtgninhecclinaaaChecked
import GoSem.Claim
import GoSem.ClaimJoined
import GoSem.ClaimMapViews
import Derived.JoinedTies
import Derived.KernelRfl
namespace Go.Proofs.Ytgninhecclinaaa
/- THE CELL 'sum', in the pinned program and in every row, IS THE sha256 OF THE DUMP (.gsa) THAT YtgninhecclinaaaProg.lean LOADS. Nothing in Lean hashes anything: it is a label: what it is worth is what the hold of that sum in a sandbox is worth. -/
noncomputable def Try.pinned : Pinned := { name := "ytgninhecclinaaa", sum := "fa6d79581bca7ca41d1619e7ca623b80f35747546a5de1791bfaeff19af55a7c", checked := Try.checked }
namespace Rows
def none {H : Type} : Left H := { results := [], args := [] }

/-- 'gunnylaw14.CodecMakes': WHATEVER THE INPUT: true; the input reads as it did. -/
def codecMakesSpec : ChangeSpec := { name := "codecMakes", fn := fun _ => fun
  | [d1, d2] => { results := [.lit (.bool true)], args := [d1, d2] }
  | _ => none }
def codecMakesRow : OpenClaim := { program := "ytgninhecclinaaa", sum := "fa6d79581bca7ca41d1619e7ca623b80f35747546a5de1791bfaeff19af55a7c", func := "gunny/gunnylaw14.CodecMakes", spec := "codecMakes", unfollowed := true, recurses := true, apart := false }
def CodecMakesSaid : Prop := codecMakesRow.holds Try.pinned (OpenSpec.ofChange codecMakesSpec)

/-- ITS FALSE NEIGHBOUR: 'it returns false'. Refute it at one input. -/
def codecMakesWrong : ChangeSpec := { name := "codecMakes", fn := fun _ => fun
  | [d1, d2] => { results := [.lit (.bool false)], args := [d1, d2] }
  | _ => none }
def CodecMakesWrongFalsely : Prop := codecMakesRow.holds Try.pinned (OpenSpec.ofChange codecMakesWrong)

/-- 'gunnylaw14.CodecBacks': WHATEVER THE INPUT: true; the input reads as it did. -/
def codecBacksSpec : ChangeSpec := { name := "codecBacks", fn := fun _ => fun
  | [d1, d2] => { results := [.lit (.bool true)], args := [d1, d2] }
  | _ => none }
def codecBacksRow : OpenClaim := { program := "ytgninhecclinaaa", sum := "fa6d79581bca7ca41d1619e7ca623b80f35747546a5de1791bfaeff19af55a7c", func := "gunny/gunnylaw14.CodecBacks", spec := "codecBacks", unfollowed := true, recurses := true, apart := false }
def CodecBacksSaid : Prop := codecBacksRow.holds Try.pinned (OpenSpec.ofChange codecBacksSpec)

/-- ITS FALSE NEIGHBOUR: 'it returns false'. Refute it at one input. -/
def codecBacksWrong : ChangeSpec := { name := "codecBacks", fn := fun _ => fun
  | [d1, d2] => { results := [.lit (.bool false)], args := [d1, d2] }
  | _ => none }
def CodecBacksWrongFalsely : Prop := codecBacksRow.holds Try.pinned (OpenSpec.ofChange codecBacksWrong)

/-- 'gunnylaw14.CodecBack': WHATEVER THE INPUT: true; the input reads as it did. -/
def codecBackSpec : ChangeSpec := { name := "codecBack", fn := fun _ => fun
  | [d] => { results := [.lit (.bool true)], args := [d] }
  | _ => none }
def codecBackRow : OpenClaim := { program := "ytgninhecclinaaa", sum := "fa6d79581bca7ca41d1619e7ca623b80f35747546a5de1791bfaeff19af55a7c", func := "gunny/gunnylaw14.CodecBack", spec := "codecBack", unfollowed := true, recurses := true, apart := false }
def CodecBackSaid : Prop := codecBackRow.holds Try.pinned (OpenSpec.ofChange codecBackSpec)

/-- ITS FALSE NEIGHBOUR: 'it returns false'. Refute it at one input. -/
def codecBackWrong : ChangeSpec := { name := "codecBack", fn := fun _ => fun
  | [d] => { results := [.lit (.bool false)], args := [d] }
  | _ => none }
def CodecBackWrongFalsely : Prop := codecBackRow.holds Try.pinned (OpenSpec.ofChange codecBackWrong)

/- THE SECOND FORM. 'bulk': how many values and letters a reading holds, each counted each time it is reached (what is shared counts as often as it is met; a slice's spare places count too). A statement '..UptoSaid' is the law's where the arguments, and the package variables that the reading takes, are together of bulk at most 1048576: NARROWER than '..Said'. Prove '..Said' where nothing that the law and all that it calls make is longer than what came in: it says more and counts as full. Else prove '..UptoSaid'. A law counts once. -/
mutual
def uptoBulk {H : Type} : DataW H → Nat
  | .lit (.string bytes) => bytes.length + 1
  | .lit _ => 1
  | .nil => 1
  | .ptr d => uptoBulk d + 1
  | .slice elems spare => uptoBulkAll elems + uptoBulkAll spare + 1
  | .agg parts => uptoBulkAll parts + 1
  | .iface _ d => uptoBulk d + 1
  | .map entries => uptoBulkEntries entries + 1
  | .held _ => 1
def uptoBulkAll {H : Type} : List (DataW H) → Nat
  | [] => 0
  | d :: r => uptoBulk d + uptoBulkAll r
def uptoBulkEntries {H : Type} : List (Lit × DataW H) → Nat
  | [] => 0
  | x :: r => uptoBulkEntry x + uptoBulkEntries r
def uptoBulkEntry {H : Type} : Lit × DataW H → Nat
  | (.string bytes, d) => bytes.length + uptoBulk d + 1
  | (_, d) => uptoBulk d + 1
 end
def uptoSmall : (H : Type) → List (DataW H) → Bool := fun _ ds => decide (uptoBulkAll ds ≤ 1048576)
def OpenSpec.upto (s : _root_.Go.ChangeSpec) : _root_.Go.OpenSpec := { _root_.Go.OpenSpec.ofChange s with cond := some uptoSmall }

/-- 'gunnylaw14.CodecMakes', WHERE WHAT IT READS IS OF BULK AT MOST 1048576: true; the input reads as it did. -/
def codecMakesUptoRow : OpenClaim := { program := "ytgninhecclinaaa", sum := "fa6d79581bca7ca41d1619e7ca623b80f35747546a5de1791bfaeff19af55a7c", func := "gunny/gunnylaw14.CodecMakes", spec := "codecMakes", unfollowed := true, recurses := true, apart := false, narrowed := true }
def CodecMakesUptoSaid : Prop := codecMakesUptoRow.holds Try.pinned (OpenSpec.upto codecMakesSpec)

/-- 'gunnylaw14.CodecBacks', WHERE WHAT IT READS IS OF BULK AT MOST 1048576: true; the input reads as it did. -/
def codecBacksUptoRow : OpenClaim := { program := "ytgninhecclinaaa", sum := "fa6d79581bca7ca41d1619e7ca623b80f35747546a5de1791bfaeff19af55a7c", func := "gunny/gunnylaw14.CodecBacks", spec := "codecBacks", unfollowed := true, recurses := true, apart := false, narrowed := true }
def CodecBacksUptoSaid : Prop := codecBacksUptoRow.holds Try.pinned (OpenSpec.upto codecBacksSpec)

/-- 'gunnylaw14.CodecBack', WHERE WHAT IT READS IS OF BULK AT MOST 1048576: true; the input reads as it did. -/
def codecBackUptoRow : OpenClaim := { program := "ytgninhecclinaaa", sum := "fa6d79581bca7ca41d1619e7ca623b80f35747546a5de1791bfaeff19af55a7c", func := "gunny/gunnylaw14.CodecBack", spec := "codecBack", unfollowed := true, recurses := true, apart := false, narrowed := true }
def CodecBackUptoSaid : Prop := codecBackUptoRow.holds Try.pinned (OpenSpec.upto codecBackSpec)

end Rows
end Go.Proofs.Ytgninhecclinaaa
