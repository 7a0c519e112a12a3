/- SlotsPlays' test behind each step (a region whose order Go leaves open), by itself: what the slots tell is what the document's are. -/
import Derived.Test.YtacggabopdoijaaSStepQ
namespace Go.Proofs.Ytacggabopdoijaa
open Go.RowKit
set_option linter.unusedVariables false

theorem slInB {B E r m k : Nat} {zs : List Bool} {x : List Bool} {pg : Nat → List Nat} (n : Int) (w : World) (h : SlotsAt B E w r m zs k x pg) {b : Bool} (hb : hasB x n = b) :
    Calls Try.prog 11 #[.pointer (some ⟨r, 0, none⟩), .int .i64 n] w fun e w' => e = .returned (.bool b) ∧ Below w.heap.size w w' :=
  (slIn n w h hb).mono fun e w' ⟨h1, q, h2⟩ => ⟨h1, by rw [h2]; exact drewN_below _ _ _⟩
theorem dMany8 {B E r m k : Nat} {zs : List Bool} {P : List Nat} (w : World) (h : DiskAt B E w r (m * 8) zs k P) :
    Calls Try.prog 20 #[.pointer (some ⟨r, 0, none⟩)] w fun e w' => e = .returned (.int .i64 (8 * (m : Int))) ∧ w = w' :=
  (dMany_any w h).mono fun e w' ⟨h1, h2⟩ => ⟨by rw [h1, show ((m * 8 : Nat) : Int) = 8 * (m : Int) by omega], h2⟩
/-- What the test reads. -/
structure Ten (Q E : Nat) (w0 w : World) (xb bz r d m : Nat) (zs : List Bool) (k : Nat) (x : List Bool) (pg : Nat → List Nat) (vz vL : Value) (L : List Pt) (of : Nat) (N : Int) (M : Nat) (P : List Nat) : Prop where
  both : Both Q E E w0 w r m zs k x pg vL L
  var : Yat w xb #[.int .i64 (m : Int), vz, .int .i64 (k : Int), vL]
  num : w.cell? ⟨bz, of, none⟩ = some (.int .i64 N)
  disk : DiskAt Q M w d (m * 8) zs k P
  ptr : w.cell? ⟨r, 0, none⟩ = some (.pointer (some ⟨d, 0, none⟩))
theorem Ten.below {Q E : Nat} {w0 w w' : World} {xb bz r d m : Nat} {zs : List Bool} {k : Nat} {x : List Bool} {pg : Nat → List Nat} {vz vL : Value} {L : List Pt} {of : Nat} {N : Int} {M : Nat} {P : List Nat} (h : Ten Q E w0 w xb bz r d m zs k x pg vz vL L of N M P) (hb : Below w.heap.size w w') : Ten Q E w0 w' xb bz r d m zs k x pg vz vL L of N M P := by
  have h1 : bz < w.heap.size := by simpa using World.block_lt_of_cell? w _ h.num
  have h2 : r < w.heap.size := by simpa using World.block_lt_of_cell? w _ h.ptr
  exact ⟨h.both.below hb, h.var.below hb, by rw [hb.cell (p := ⟨bz, of, none⟩) h1]; exact h.num, h.disk.below hb, by rw [hb.cell (p := ⟨r, 0, none⟩) h2]; exact h.ptr⟩
end Go.Proofs.Ytacggabopdoijaa
