/- Set in one contract for all numbers; the walk of the law's lives. -/
import Derived.Test.YtkghedllkigecaaRPut
namespace Go.Proofs.Ytkghedllkigecaa
open Go.RowKit

def setL (l : List KV) (z v : Int) : List KV := if isK z then ins l z.toNat v else l
theorem setL_nat {l : List KV} {k : Nat} (h : k < 65536) (v : Int) : setL l (k : Nat) v = ins l k v := by rw [setL, if_pos (isK_nat h)]; rfl
theorem setL_bad {l : List KV} {z : Int} (h : isK z = false) (v : Int) : setL l z v = l := by rw [setL, if_neg (by simp [h])]
theorem Fine.setL {l : List KV} (h : Fine l) (z v : Int) : Fine (setL l z v) := by
  cases e : isK z with
  | false => rw [setL_bad e]; exact h
  | true =>
    obtain ⟨k, rfl, hk⟩ := isK_of e
    rw [setL_nat hk]; exact h.ins hk v
theorem set_any {B : Nat} {a : Addr} {l : List KV} (z v : Int) (w : World) (h : TreeP B w (some a) l) :
    Calls Try.prog 8 #[.pointer (some a), .int .i64 z, .int .u64 v] w fun e w' => e = .returned (.bool (isK z)) ∧ TreeP B w' (some a) (setL l z v) ∧ Kept B w w' := by
  cases e : isK z with
  | false =>
    refine (set_none z v w h (.inr e)).mono ?_
    rintro e' w' ⟨rfl, hb⟩
    rw [setL_bad e]
    exact ⟨rfl, h.below hb, .of_below hb⟩
  | true =>
    obtain ⟨k, rfl, hk⟩ := isK_of e
    rw [setL_nat hk]
    rcases h with ⟨h1, _⟩ | ⟨b, ad, vl, h1, h2⟩
    · cases h1
    · cases h1
      exact set_key hk v w h2
set_option maxHeartbeats 400000 in
theorem lives_any (w : World) : Calls Try.prog 11 #[] w fun e w' => e = .returned (.bool true) ∧ Below w.heap.size w w' := by
  go_enter Try.func11, Try.ntmps11
  go_wp2_with fail
  refine (new_any w).mono ?_
  rintro e w1 ⟨rfl, h1, b1⟩
  generalize hB : w.heap.size = B at *
  have HB : Hid (w.heap.size = B) := hB
  clear hB
  have H1 : Hid (TreeP B w1 (some ⟨B, 0, none⟩) []) := h1
  have B1 : Hid (Below B w w1) := b1
  have S1 : Hid (B ≤ w1.heap.size) := by
    rcases h1 with ⟨h, _⟩ | ⟨b, ad, vl, e, h⟩
    · cases h
    · exact Nat.le_of_lt (Nat.lt_of_le_of_lt h.tr.hb h.tr.ltB)
  clear h1 b1
  go_wp2_with fail
  refine (set_any 3 1 w1 H1.out).mono ?_
  rintro e w2 ⟨rfl, h2, k2⟩
  rw [show isK 3 = true from rfl]
  have H2 : Hid (TreeP B w2 (some ⟨B, 0, none⟩) [(3, 1)]) := h2
  have K2 : Hid (Kept B w1 w2) := k2
  clear h2 k2
  go_wp2_with fail
  refine (set_any 20 2 w2 H2.out).mono ?_
  rintro e w3 ⟨rfl, h3, k3⟩
  rw [show isK 20 = true from rfl]
  have H3 : Hid (TreeP B w3 (some ⟨B, 0, none⟩) [(3, 1), (20, 2)]) := h3
  have K3 : Hid (Kept B w2 w3) := k3
  clear h3 k3
  go_wp2_with fail
  refine (len_any w3 H3.out).mono ?_
  rintro e w4 ⟨rfl, rfl⟩
  rw [show (([(3, 1), (20, 2)] : List KV).length : Int) = 2 from rfl]
  go_wp2_with fail
  refine (nodes_any w3 H3.out).mono ?_
  rintro e w4 ⟨rfl, rfl⟩
  rw [show (nodesOf [(3, 1), (20, 2)] : Int) = 5 by decide]
  go_wp2
  go_ret
  rw [HB.out]
  exact ⟨rfl, B1.out.trans ((K2.out.trans K3.out).below S1.out)⟩
end Go.Proofs.Ytkghedllkigecaa
