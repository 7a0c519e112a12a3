/- The walk of the law's own 'lives': the chapter's examples are answered as the chapter says. -/
import Derived.Test.YtkmgjjjlbpapeaaMask
import Derived.Laws.BytesArg
namespace Go.Proofs.Ytkmgjjjlbpapeaa
open Go.RowKit

def strB (l : List Nat) : ByteArray := strOfNums (l.map fun x : Nat => (x : Int))
theorem conv_own {w : World} {B g n cap : Nat} {l : List Nat} (h : w.ownsRow B 5 1 (.slice (some ⟨g, 0, none⟩) n cap) n (bv l)) :
    (convert 22 9 (.slice (some ⟨g, 0, none⟩) n cap)).run Try.prog w = .ok (.string (strB l)) w := by
  have hl : l.length = n := by have := h.1; simpa using this
  refine run_convert_bytes_arg (P := Try.prog) w 22 5 Try.underlying22 Try.underlying5 g 0 n cap (l.map fun x : Nat => (x : Int)) (by simpa using hl) ?_ 9 Try.underlying9
  intro i hi
  rw [Nat.zero_add, h.cellAt i (by omega)]
  have : i < l.length := by omega
  simp [bv, this]

theorem data_strB (l : List Nat) : (strB l).data = (l.map UInt8.ofNat).toArray := by
  simp [strB, strOfNums]
theorem size_strB (l : List Nat) : (strB l).size = l.length := by simp [strB, strOfNums_size]
theorem strB_append (l r : List Nat) : strB (l ++ r) = strB l ++ strB r := by
  apply ByteArray.ext
  rw [ByteArray.data_append, data_strB, data_strB, data_strB]
  simp
theorem strB_extract (l : List Nat) (i j : Nat) : (strB l).extract i j = strB ((l.take j).drop i) := by
  apply ByteArray.ext
  rw [ByteArray.data_extract, data_strB, data_strB]
  simp [List.map_drop, List.map_take, List.drop_take]

theorem putEx : putAll 2 [1, 258] = [1, 0, 2, 1] := by decide
theorem cutEx : cutZ 4080 4 8 = 255 := by decide
theorem upEx : upZ 65 64 = 128 := by decide

set_option maxHeartbeats 400000 in
theorem lives_any (w : World) :
    Calls Try.prog 7 #[] w fun e w' => e = .returned (.bool true) ∧ Below w.heap.size w w' := by
  go_enter Try.func7, Try.ntmps7
  go_wp2_with fail
  refine (put_any 2 2 2 2 rfl _ [1, 258] _ (by omega) (by omega) rfl ?_).mono ?_
  · refine .inr ⟨w.heap.size, 0, rfl, by simp, ?_⟩
    intro i hi
    match i, hi with
    | 0, _ => simp
    | 1, _ => simp
  rintro e w1 ⟨rfl, hown, hb⟩
  rw [putEx] at hown
  have es : strB [1, 0, 2, 1] = ⟨#[1, 0, 2, 1]⟩ := by decide
  have hc : (convert 22 9 (.slice (some ⟨w.heap.size + 1, 0, none⟩) 4 4)).run Try.prog w1 = .ok (.string ⟨#[1, 0, 2, 1]⟩) w1 := by
    rw [← es]
    have h := conv_own hown
    rw [show (w.alloc (Obj.cells #[Value.int IntKind.u64 1, Value.int IntKind.u64 258] 27)).heap.size = w.heap.size + 1 by simp] at h
    exact h
  have hb' : Below w.heap.size w w1 := ((Below.refl w.heap.size w).alloc (Nat.le_refl _) _).trans (hb.mono (by simp))
  clear hown hb es
  go_wp2_with fail
  refine (cut_any 4080 4080 rfl _ _ _ (by omega) (by omega)).mono ?_
  rintro e w2 ⟨rfl, rfl⟩
  rw [cutEx]
  go_wp2_with fail
  refine (up_any _ _ _ (by omega) (by omega)).mono ?_
  rintro e w2 ⟨rfl, rfl⟩
  rw [upEx]
  go_wp2
  go_ret
  exact ⟨rfl, hb'⟩
end Go.Proofs.Ytkmgjjjlbpapeaa
