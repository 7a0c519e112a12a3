/- The walks of num.Lay, and of the document's Put and Bytes (layer 1). -/
import Derived.Test.YtkmgjjjlbpapeaaGet
import Derived.Test.YtkmgjjjlbpapeaaLives
import Derived.Laws.AppendOwnNone
namespace Go.Proofs.Ytkmgjjjlbpapeaa
open Go.RowKit

theorem own_row {w : World} {B g L : Nat} {e : TypeId} {xs : List Value} (h : w.ownsRow B e 1 (.slice (some ⟨g, 0, none⟩) L L) L xs) : w.heap[g]? = some (.cells xs.toArray e (0, 0)) := by
  rcases h.2 with ⟨h', _⟩ | ⟨g', cap', cur, h', _, hg, _, _, hcs, htake⟩
  · simp at h'
  · simp only [Value.slice.injEq, Option.some.injEq, Addr.mk.injEq, and_true, true_and] at h'
    obtain ⟨rfl, rfl⟩ := h'
    rw [hg, ← htake, List.take_of_length_le (by simp; omega)]
theorem row_own {w : World} {B g L : Nat} {e : TypeId} {xs : List Value} (hB : B ≤ g) (hL : L ≤ maxLen) (hl : xs.length = L) (h : w.heap[g]? = some (.cells xs.toArray e (0, 0))) : w.ownsRow B e 1 (.slice (some ⟨g, 0, none⟩) L L) L xs :=
  ⟨by simpa using hl, .inr ⟨g, L, xs.toArray, rfl, hB, h, Nat.le_refl _, hL, by simpa using hl, by rw [List.take_of_length_le (by simp [hl])]⟩⟩

theorem run_copy_all {P : Program} (w : World) (dT e ty : TypeId) (hu : P.underlying dT = some (.slice e)) (hsz : (P.info? e).map (·.size) = some 1) (g L c : Nat) (ad : Addr) (old b : List Value) (t : TypeId)
    (hg : w.heap[g]? = some (.cells old.toArray t (0, 0))) (ho : old.length = L) (hl : b.length = L) (hsrc : ∀ j v, b[j]? = some v → w.cell? (ad.add j) = some v) (h1 : ∀ v ∈ b, v.oneCell' = true) :
    ∃ w2, (Builtin.copy_ #[dT, dT] ty #[.slice (some ⟨g, 0, none⟩) L L, .slice (some ad) L c]).run P w = .ok (.int .i64 (L : Int)) w2 ∧ w2.heap[g]? = some (.cells b.toArray t (0, 0)) ∧ ∀ B w0, Below B w0 w → B ≤ g → Below B w0 w2 := by
  have hr := run_copy_row (P := P) w dT dT ty e g 0 L L ad L c old.toArray t b hu hsz hg (by simp [hl]) hsrc (by simp [hl, ho]) h1
  refine ⟨_, by rw [hr, hl]; rfl, ?_, fun B w0 hb hBg => below_setRow hb hBg _⟩
  rw [setRow_heap w g _ _ t _ hg]
  simp [← ho]

set_option maxHeartbeats 400000 in
theorem lay_no (p : Option Addr) (L c : Nat) (a s n : Int) (w : World) (hL : L ≤ maxLen) (ha : a ≤ 9223372036854775807) (hno : thereB L a s = false) :
    Calls Try.prog 12 #[.slice p L c, .int .i64 a, .int .i64 s, .int .u64 n] w fun e w' => e = .returned (.tuple #[.slice none 0 0, .bool false]) ∧ w = w' := by
  have H : Hid _ := hno
  clear hno
  go_enter Try.func12, Try.ntmps12
  go_wp2_with (go_at_call 26; refine (isThere_any _ _ _ _ _ _ hL ha).mono ?_; rintro e w' ⟨rfl, rfl⟩; rw [H.out])
  go_ret2
  exact ⟨rfl, rfl⟩

set_option maxHeartbeats 1000000 in
theorem lay_yes (p : Option Addr) (L c a s n : Nat) (A S N : Int) (hA : A = a) (hS : S = s) (hN : N = n) (b : List Nat) (w : World) (hL : L ≤ 4294967296) (hl : b.length = L) (hb : NumsAt .u8 w p b) (hs : 1 ≤ s ∧ s ≤ 8) (has : a + s ≤ L) :
    Calls Try.prog 12 #[.slice p L c, .int .i64 A, .int .i64 S, .int .u64 N] w fun e w' => e = .returned (.tuple #[.slice (some ⟨w.heap.size, 0, none⟩) L L, .bool true]) ∧
      w'.ownsRow w.heap.size 5 1 (.slice (some ⟨w.heap.size, 0, none⟩) L L) L (bv (layN b a s n)) ∧ Below w.heap.size w w' := by
  subst hA hS hN
  have H : Hid _ := thereB_yes (L := L) (a := a) (s := s) (by omega)
  have hLm : L ≤ maxLen := by unfold maxLen; omega
  obtain ⟨i0, hi, hz0, hz1, hz2⟩ := info_parts Try.info5
  rcases hb with rfl | ⟨bb, off, rfl, hbl, hcell⟩
  · simp at hl; omega
  have HL : Hid _ := hl
  have HC : Hid _ := hcell
  clear hl hcell
  go_enter Try.func12, Try.ntmps12
  go_wp2_with (first | (go_at_call 26; refine (isThere_any _ _ _ _ _ _ hLm (by omega)).mono ?_; rintro e w' ⟨rfl, rfl⟩; rw [H.out]) | (at_make; refine wpList_make_full _ rfl _ _ 22 rfl w.heap.size 5 i0 (.int .u8 0) 1 Try.underlying22 hi hz0 hz1 .i64 .i64 _ _ L rfl rfl rfl rfl (by rw [hz2]; omega) hLm (Nat.le_refl _) ?_))
  intro w1 hown hgr
  have hb1 : Below w.heap.size w w1 := (Below.refl _ _).grown hgr (Nat.le_refl _) (by intro k hk; simp at hk)
  have hown1 : w1.ownsRow w.heap.size 5 1 (.slice (some ⟨w.heap.size, 0, none⟩) L L) L (bv (List.replicate L 0)) := by rw [← made_bytes]; exact hown
  clear hown hgr
  have hg1 := own_row hown1
  have hsrc : ∀ j v, (bv b)[j]? = some v → w1.cell? ((⟨bb, off, none⟩ : Addr).add j) = some v := by
    intro j v hj
    have hjl : j < b.length := by
      rcases Nat.lt_or_ge j b.length with h | h
      · exact h
      · rw [List.getElem?_eq_none (by simpa using h)] at hj; simp at hj
    rw [show (⟨bb, off, none⟩ : Addr).add j = ⟨bb, off + j, none⟩ by unfold Addr.add; split <;> simp_all, hb1.cell (p := ⟨bb, off + j, none⟩) hbl, HC.out j hjl]
    simp [bv, hjl] at hj
    simp [List.getD, hjl, hj]
  have hlen : (bv b).length = L := by simpa using HL.out
  have hone : ∀ v ∈ bv b, v.oneCell' = true := by intro v hv; obtain ⟨x, _, rfl⟩ := List.mem_map.1 hv; rfl
  have HS : Hid _ := hsrc
  have HG : Hid _ := hg1
  have HN : Hid _ := hlen
  have H1 : Hid _ := hone
  clear hsrc hg1 hlen hone hown1
  obtain ⟨w2, hrun, hg2, hb2'⟩ := run_copy_all (P := Try.prog) w1 22 5 3 Try.underlying22 (by rw [hi]; simp [hz1]) w.heap.size L c ⟨bb, off, none⟩ (bv (List.replicate L 0)) (bv b) 5 HG.out (by simp [bv]) HN.out HS.out H1.out
  have hb2 := hb2' w.heap.size w hb1 (Nat.le_refl _)
  have hown2 : w2.ownsRow w.heap.size 5 1 (.slice (some ⟨w.heap.size, 0, none⟩) L L) L (bv b) := by
    refine row_own (Nat.le_refl _) hLm HN.out ?_
    exact hg2
  clear HG HS hb1 hg2 hb2'
  go_wp2_with (go_at_call 25; refine (write_any w.heap.size w.heap.size L L a s n _ _ _ rfl rfl rfl b _ hLm hs.2 has (by exact hown2)).mono ?_; rintro e w3 ⟨rfl, hown3, hgr3⟩)
  go_ret2
  exact ⟨rfl, hown3, hb2.grown hgr3 hb2.size (by intro j hj; simp at hj; omega)⟩

/-- A slice value of bytes that reads as b, converted to a string. -/
theorem conv_any {w : World} {B n : Nat} {v : Value} {l : List Nat} (h : w.ownsRow B 5 1 v n (bv l)) : (convert 22 9 v).run Try.prog w = .ok (.string (strB l)) w := by
  rcases h.2 with ⟨rfl, rfl⟩ | ⟨g, cap, cur, rfl, _⟩
  · have hl : l = [] := by have := h.1; simpa using this
    subst hl
    exact run_convert_bytes_nil w 22 5 Try.underlying22 Try.underlying5 0 0 9 Try.underlying9
  · exact conv_own h
theorem conv_nums {w : World} {p : Option Addr} {L c : Nat} {b : List Nat} (hl : b.length = L) (h : NumsAt .u8 w p b) (hn : p = none → L = 0) : (convert 22 9 (.slice p L c)).run Try.prog w = .ok (.string (strB b)) w := by
  cases p with
  | none =>
    have := hn rfl
    subst this
    obtain rfl : b = [] := List.eq_nil_of_length_eq_zero hl
    exact run_convert_bytes_nil w 22 5 Try.underlying22 Try.underlying5 0 c 9 Try.underlying9
  | some a =>
    rcases h with rfl | ⟨bb, off, ha, _, hcell⟩
    · obtain rfl : L = 0 := by simpa using hl.symm
      rw [run_convert_bytes_string w 22 9 5 (some a) 0 c Try.underlying22 Try.underlying5 Try.underlying9]
      have hlo : (loadCells a 0).run Try.prog w = .ok (([] : List Int).map (Value.int .u8)).toArray w := by
        have := run_loadCells_list (P := Try.prog) w a [] (by simp)
        simpa using this
      rw [run_bytesToString w a 0 c [] hlo]
      rfl
    · simp only [Option.some.injEq] at ha
      subst ha
      refine run_convert_bytes_arg (P := Try.prog) w 22 5 Try.underlying22 Try.underlying5 bb off L c (b.map fun x : Nat => (x : Int)) (by simpa using hl) ?_ 9 Try.underlying9
      intro i hi
      have : i < b.length := by omega
      rw [hcell i this]
      simp [List.getD, this]

set_option maxHeartbeats 400000 in
theorem refPut_any (s n : Nat) (S N : Int) (hS : S = s) (hN : N = n) (w : World) (hs : s ≤ 8) (hn : n < 18446744073709551616) :
    Calls Try.prog 8 #[.int .i64 S, .int .u64 N] w fun e w' => ∃ v, e = .returned v ∧ w'.ownsRow w.heap.size 5 1 v s (bv (putN s n)) ∧ Below w.heap.size w w' := by
  subst hS hN
  obtain ⟨i0, hi, hz0, hz1, hz2⟩ := info_parts Try.info5
  go_enter Try.func8, Try.ntmps8
  go_wp2
  go_loopw [1, 5, 6] (fun t v i wr => ∃ k : Nat, k ≤ s ∧ i = .int .i64 k ∧ t = .int .u64 (n / 256 ^ k : Nat) ∧ wr.ownsRow w.heap.size 5 1 v k (bv (putN k n)) ∧ Below w.heap.size w wr) (fun _ _ i _ => s - (intOf i).toNat)
  case atStart => exact ⟨0, Nat.zero_le _, rfl, by simp, World.ownsRow_nil _ _ _ _, Below.refl _ _⟩
  case round =>
    obtain ⟨k, hk, rfl, rfl, hown, hb⟩ := hrel
    by_cases hlt : k < s
    · have hq : n / 256 ^ k < 18446744073709551616 := Nat.lt_of_le_of_lt (Nat.div_le_self _ _) hn
      have HS : Hid (n / 256 ^ (k + 1) = n / 256 ^ k / 256) := by show _ = _; rw [Nat.pow_succ, Nat.div_div_eq_div_mul]
      have HP : Hid _ := putN_succ k n
      generalize n / 256 ^ k = q at *
      go_wp2_with (at_builtin; refine wpList_append_own _ rfl _ _ 22 rfl w.heap.size 5 i0 (.int .u8 0) 1 1 Try.underlying22 hi hz0 hz1 hz2 rfl (by decide) _ _ _ rfl (hown.alloc _) ⟨wr.heap.size, 0, none⟩ 1 1 [.int .u8 ((q % 256 : Nat) : Int)] ?c0 rfl ?c1 ?c2 ?c3 ?c4 ?c5 ?_)
      case c0 => rfl
      case c1 =>
        intro j u hj
        match j, hj with
        | 0, hj => simp at hj; subst hj; simp [Addr.add]
      case c2 => intro u hu; simp at hu; subst hu; rfl
      case c3 => unfold maxLen; omega
      case c4 => omega
      case c5 => have := hb.size; simp; omega
      · intro v' w1 hown' hgr _
        have hb1 : Below w.heap.size w w1 := (hb.alloc hb.size _).grown hgr (by have := hb.size; simp; omega) (fun j hj => (hown.lt j hj).1)
        have hown1 : w1.ownsRow w.heap.size 5 1 v' (k + 1) (bv (putN (k + 1) n)) := by rw [HP.out]; simpa [bv] using hown'
        clear hown' hgr hown hb
        go_wp2
        go_roundw
        case rel => exact ⟨k + 1, by omega, by go_num, by rw [HS.out]; simp, hown1, hb1⟩
        case measure => simp [intOf]; omega
    · have e : k = s := by omega
      subst e
      go_wp2
      go_ret
      exact ⟨_, rfl, hown, hb⟩

set_option maxHeartbeats 400000 in
theorem refBytes_same (v1 v2 : Value) (l : List Nat) (w : World) (h1 : (convert 22 9 v1).run Try.prog w = .ok (.string (strB l)) w) (h2 : (convert 22 9 v2).run Try.prog w = .ok (.string (strB l)) w) :
    Calls Try.prog 9 #[v1, v2] w fun e w' => e = .returned (.bool true) ∧ w = w' := by
  generalize strB l = t at *
  go_enter Try.func9, Try.ntmps9
  go_wp2
  go_ret
  exact ⟨rfl, rfl⟩

/-- What Put answers, of any size. -/
def wantOf (s : Int) (ns : List Nat) : List Nat := if 1 ≤ s ∧ s ≤ 8 then putAll s.toNat ns else []
theorem put_all (s : Int) (p : Option Addr) (m c : Nat) (ns : List Nat) (w : World) (hm : m ≤ 1099511627776) (hl : ns.length = m) (hns : NumsAt .u64 w p ns) :
    Calls Try.prog 10 #[.int .i64 s, .slice p m c] w fun e w' => ∃ v n, e = .returned v ∧ w'.ownsRow w.heap.size 5 1 v n (bv (wantOf s ns)) ∧ Below w.heap.size w w' := by
  by_cases h : 1 ≤ s ∧ s ≤ 8
  · refine (put_any s.toNat m c s (by omega) p ns w (by omega) hm hl hns).mono ?_
    rintro e w' ⟨rfl, h1, h2⟩
    exact ⟨_, _, rfl, by rw [wantOf, if_pos h]; exact h1, h2⟩
  · refine (put_bad s _ w h).mono ?_
    rintro e w' ⟨rfl, rfl⟩
    exact ⟨_, 0, rfl, by rw [wantOf, if_neg h]; exact World.ownsRow_nil _ _ _ _, Below.refl _ _⟩
end Go.Proofs.Ytkmgjjjlbpapeaa
