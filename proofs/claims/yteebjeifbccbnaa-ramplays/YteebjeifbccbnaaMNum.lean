/- Bytes as strings, and the walks of the document's Put and Bytes (layer 1). -/
import Derived.Test.YteebjeifbccbnaaGet
import Derived.Laws.BytesArg
import Derived.Laws.AppendOwnNone
namespace Go.Proofs.Yteebjeifbccbnaa
open Go.RowKit

def strB (l : List Nat) : ByteArray := strOfNums (l.map fun x : Nat => (x : Int))
theorem conv_own {w : World} {B g n cap : Nat} {l : List Nat} (h : w.ownsRow B 5 1 (.slice (some ⟨g, 0, none⟩) n cap) n (bv l)) :
    (convert 24 9 (.slice (some ⟨g, 0, none⟩) n cap)).run Try.prog w = .ok (.string (strB l)) w := by
  have hl : l.length = n := by have := h.1; simpa using this
  refine run_convert_bytes_arg (P := Try.prog) w 24 5 Try.underlying24 Try.underlying5 g 0 n cap (l.map fun x : Nat => (x : Int)) (by simpa using hl) ?_ 9 Try.underlying9
  intro i hi
  rw [Nat.zero_add, h.cellAt i (by omega)]
  have : i < l.length := by omega
  simp [bv, this]

theorem data_strB (l : List Nat) : (strB l).data = (l.map UInt8.ofNat).toArray := by
  simp [strB, strOfNums]
theorem size_strB (l : List Nat) : (strB l).size = l.length := by simp [strB, strOfNums_size]
theorem strB_append (l r : List Nat) : strB (l ++ r) = strB l ++ strB r := by
  apply ByteArray.ext
  rw [ByteArray.data_append, data_strB, data_strB, data_strB]
  simp
theorem strB_extract (l : List Nat) (i j : Nat) : (strB l).extract i j = strB ((l.take j).drop i) := by
  apply ByteArray.ext
  rw [ByteArray.data_extract, data_strB, data_strB]
  simp [List.map_drop, List.map_take, List.drop_take]

theorem own_row {w : World} {B g L : Nat} {e : TypeId} {xs : List Value} (h : w.ownsRow B e 1 (.slice (some ⟨g, 0, none⟩) L L) L xs) : w.heap[g]? = some (.cells xs.toArray e (0, 0)) := by
  rcases h.2 with ⟨h', _⟩ | ⟨g', cap', cur, h', _, hg, _, _, hcs, htake⟩
  · simp at h'
  · simp only [Value.slice.injEq, Option.some.injEq, Addr.mk.injEq, and_true, true_and] at h'
    obtain ⟨rfl, rfl⟩ := h'
    rw [hg, ← htake, List.take_of_length_le (by simp; omega)]
theorem row_own {w : World} {B g L : Nat} {e : TypeId} {xs : List Value} (hB : B ≤ g) (hL : L ≤ maxLen) (hl : xs.length = L) (h : w.heap[g]? = some (.cells xs.toArray e (0, 0))) : w.ownsRow B e 1 (.slice (some ⟨g, 0, none⟩) L L) L xs :=
  ⟨by simpa using hl, .inr ⟨g, L, xs.toArray, rfl, hB, h, Nat.le_refl _, hL, by simpa using hl, by rw [List.take_of_length_le (by simp [hl])]⟩⟩

/-- A slice value of bytes that reads as b, converted to a string. -/
theorem conv_any {w : World} {B n : Nat} {v : Value} {l : List Nat} (h : w.ownsRow B 5 1 v n (bv l)) : (convert 24 9 v).run Try.prog w = .ok (.string (strB l)) w := by
  rcases h.2 with ⟨rfl, rfl⟩ | ⟨g, cap, cur, rfl, _⟩
  · have hl : l = [] := by have := h.1; simpa using this
    subst hl
    exact run_convert_bytes_nil w 24 5 Try.underlying24 Try.underlying5 0 0 9 Try.underlying9
  · exact conv_own h
theorem conv_nums {w : World} {p : Option Addr} {L c : Nat} {b : List Nat} (hl : b.length = L) (h : NumsAt .u8 w p b) (hn : p = none → L = 0) : (convert 24 9 (.slice p L c)).run Try.prog w = .ok (.string (strB b)) w := by
  cases p with
  | none =>
    have := hn rfl
    subst this
    obtain rfl : b = [] := List.eq_nil_of_length_eq_zero hl
    exact run_convert_bytes_nil w 24 5 Try.underlying24 Try.underlying5 0 c 9 Try.underlying9
  | some a =>
    rcases h with rfl | ⟨bb, off, ha, _, hcell⟩
    · obtain rfl : L = 0 := by simpa using hl.symm
      rw [run_convert_bytes_string w 24 9 5 (some a) 0 c Try.underlying24 Try.underlying5 Try.underlying9]
      have hlo : (loadCells a 0).run Try.prog w = .ok (([] : List Int).map (Value.int .u8)).toArray w := by
        have := run_loadCells_list (P := Try.prog) w a [] (by simp)
        simpa using this
      rw [run_bytesToString w a 0 c [] hlo]
      rfl
    · simp only [Option.some.injEq] at ha
      subst ha
      refine run_convert_bytes_arg (P := Try.prog) w 24 5 Try.underlying24 Try.underlying5 bb off L c (b.map fun x : Nat => (x : Int)) (by simpa using hl) ?_ 9 Try.underlying9
      intro i hi
      have : i < b.length := by omega
      rw [hcell i this]
      simp [List.getD, this]

set_option maxHeartbeats 400000 in
theorem refPut_any (s n : Nat) (S N : Int) (hS : S = s) (hN : N = n) (w : World) (hs : s ≤ 8) (hn : n < 18446744073709551616) :
    Calls Try.prog 37 #[.int .i64 S, .int .u64 N] w fun e w' => ∃ v, e = .returned v ∧ w'.ownsRow w.heap.size 5 1 v s (bv (putN s n)) ∧ Below w.heap.size w w' := by
  subst hS hN
  obtain ⟨i0, hi, hz0, hz1, hz2⟩ := info_parts Try.info5
  go_enter Try.func37, Try.ntmps37
  go_wp2
  go_loopw [1, 5, 6] (fun t v i wr => ∃ k : Nat, k ≤ s ∧ i = .int .i64 k ∧ t = .int .u64 (n / 256 ^ k : Nat) ∧ wr.ownsRow w.heap.size 5 1 v k (bv (putN k n)) ∧ Below w.heap.size w wr) (fun _ _ i _ => s - (intOf i).toNat)
  case atStart => exact ⟨0, Nat.zero_le _, rfl, by simp, World.ownsRow_nil _ _ _ _, Below.refl _ _⟩
  case round =>
    obtain ⟨k, hk, rfl, rfl, hown, hb⟩ := hrel
    by_cases hlt : k < s
    · have hq : n / 256 ^ k < 18446744073709551616 := Nat.lt_of_le_of_lt (Nat.div_le_self _ _) hn
      have HS : Hid (n / 256 ^ (k + 1) = n / 256 ^ k / 256) := by show _ = _; rw [Nat.pow_succ, Nat.div_div_eq_div_mul]
      have HP : Hid _ := putN_succ k n
      generalize n / 256 ^ k = q at *
      go_wp2_with (at_builtin; refine wpList_append_own _ rfl _ _ 24 rfl w.heap.size 5 i0 (.int .u8 0) 1 1 Try.underlying24 hi hz0 hz1 hz2 rfl (by decide) _ _ _ rfl (hown.alloc _) ⟨wr.heap.size, 0, none⟩ 1 1 [.int .u8 ((q % 256 : Nat) : Int)] ?c0 rfl ?c1 ?c2 ?c3 ?c4 ?c5 ?_)
      case c0 => rfl
      case c1 =>
        intro j u hj
        match j, hj with
        | 0, hj => simp at hj; subst hj; simp [Addr.add]
      case c2 => intro u hu; simp at hu; subst hu; rfl
      case c3 => unfold maxLen; omega
      case c4 => omega
      case c5 => have := hb.size; simp; omega
      · intro v' w1 hown' hgr _
        have hb1 : Below w.heap.size w w1 := (hb.alloc hb.size _).grown hgr (by have := hb.size; simp; omega) (fun j hj => (hown.lt j hj).1)
        have hown1 : w1.ownsRow w.heap.size 5 1 v' (k + 1) (bv (putN (k + 1) n)) := by rw [HP.out]; simpa [bv] using hown'
        clear hown' hgr hown hb
        go_wp2
        go_roundw
        case rel => exact ⟨k + 1, by omega, by go_num, by rw [HS.out]; simp, hown1, hb1⟩
        case measure => simp [intOf]; omega
    · have e : k = s := by omega
      subst e
      go_wp2
      go_ret
      exact ⟨_, rfl, hown, hb⟩

set_option maxHeartbeats 400000 in
theorem refBytes_same (v1 v2 : Value) (l : List Nat) (w : World) (h1 : (convert 24 9 v1).run Try.prog w = .ok (.string (strB l)) w) (h2 : (convert 24 9 v2).run Try.prog w = .ok (.string (strB l)) w) :
    Calls Try.prog 19 #[v1, v2] w fun e w' => e = .returned (.bool true) ∧ w = w' := by
  generalize strB l = t at *
  go_enter Try.func19, Try.ntmps19
  go_wp2
  go_ret
  exact ⟨rfl, rfl⟩

end Go.Proofs.Yteebjeifbccbnaa
