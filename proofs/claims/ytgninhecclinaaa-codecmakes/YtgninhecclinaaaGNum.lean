/- The walks of num's sizeMayBe, isThere, Put and Get, and of the document's Put and Get (layer 1), over bytes that a slice value reads: general (Put, Get and MNum of stage 1, over GKit and GBytes). -/
import Derived.Test.YtgninhecclinaaaWrite
import Derived.Test.YtgninhecclinaaaGBytes
namespace Go.Proofs.Ytgninhecclinaaa
open Go.RowKit

set_option maxHeartbeats 400000 in
theorem sizeMayBe_any (s : Int) (w : World) :
    Calls Try.prog 37 #[.int .i64 s] w fun e w' => e = .returned (.bool (decide (1 ≤ s ∧ s ≤ 8))) ∧ w = w' := by
  by_cases h1 : 1 ≤ s
  · by_cases h2 : s ≤ 8
    · go_enter Try.func37, Try.ntmps37
      go_wp2
      go_ret
      exact ⟨retBool (by simp [h1, h2]), rfl⟩
    · go_enter Try.func37, Try.ntmps37
      go_wp2
      go_ret
      exact ⟨retBool (by simp [h2]), rfl⟩
  · go_enter Try.func37, Try.ntmps37
    go_wp2
    go_ret
    exact ⟨retBool (by simp; omega), rfl⟩

set_option maxHeartbeats 400000 in
theorem put_bad (s : Int) (v : Value) (w : World) (hs : ¬ (1 ≤ s ∧ s ≤ 8)) :
    Calls Try.prog 20 #[.int .i64 s, v] w fun e w' => e = .returned (.slice none 0 0) ∧ w = w' := by
  have hd : decide (1 ≤ s ∧ s ≤ 8) = false := by simp [hs]
  have H : Hid _ := hd
  clear hd hs
  go_enter Try.func20, Try.ntmps20
  go_wp2_with (go_at_call 37; refine (sizeMayBe_any _ _).mono ?_; rintro e w' ⟨rfl, rfl⟩; rw [H.out])
  go_ret
  exact ⟨rfl, rfl⟩

set_option maxHeartbeats 400000 in
theorem put_any (s m c : Nat) (S : Int) (hS : S = s) (a : Option Addr) (ns : List Nat) (w : World) (hs : 1 ≤ s ∧ s ≤ 8) (hm : m ≤ 1099511627776) (hl : ns.length = m) (hns : NumsAt .u64 w a ns) :
    Calls Try.prog 20 #[.int .i64 S, .slice a m c] w fun e w' => e = .returned (.slice (some ⟨w.heap.size, 0, none⟩) (m * s) (m * s)) ∧
      w'.ownsRow w.heap.size 5 1 (.slice (some ⟨w.heap.size, 0, none⟩) (m * s) (m * s)) (m * s) (bv (putAll s ns)) ∧ Below w.heap.size w w' := by
  subst hS
  obtain ⟨hs1, hs2⟩ := hs
  obtain ⟨i0, hi, hz0, hz1, hz2⟩ := info_parts Try.info5
  have hd : decide (1 ≤ (s : Int) ∧ (s : Int) ≤ 8) = true := by simp; omega
  have H : Hid _ := hd
  have hms : m * s ≤ 8796093022208 := by have := Nat.mul_le_mul hm hs2; omega
  have e1 : (s : Int) * (m : Int) = ((m * s : Nat) : Int) := by rw [Nat.mul_comm]; simp
  have hms' : (s : Int) * (m : Int) ≤ 8796093022208 := by rw [e1]; omega
  have hms0 : 0 ≤ (s : Int) * (m : Int) := by rw [e1]; omega
  have HL : Hid _ := hl
  have E1 : Hid _ := e1
  clear hd hl e1
  go_enter Try.func20, Try.ntmps20
  go_wp2_with (first | (go_at_call 37; refine (sizeMayBe_any _ _).mono ?_; rintro e w' ⟨rfl, rfl⟩; rw [H.out]) | (at_make; refine wpList_make_full _ rfl _ _ 23 rfl w.heap.size 5 i0 (.int .u8 0) 1 Try.underlying23 hi hz0 hz1 .i64 .i64 _ _ (m * s) rfl rfl E1.out E1.out (by rw [hz2]; omega) (by unfold maxLen; omega) (Nat.le_refl _) ?_))
  intro w1 hown hgr
  have hown1 : w1.ownsRow w.heap.size 5 1 (.slice (some ⟨w.heap.size, 0, none⟩) (m * s) (m * s)) (m * s) (bv (putTo s ns 0)) := by
    rw [putTo_zero, HL.out]
    rw [← made_bytes]
    exact hown
  have hb1 : Below w.heap.size w w1 := (Below.refl _ _).grown hgr (Nat.le_refl _) (by intro k hk; simp at hk)
  clear hown hgr
  go_wp2
  go_loopw [18] (fun i wr => ∃ k : Nat, k ≤ m ∧ i = .int .i64 k ∧ wr.ownsRow w.heap.size 5 1 (.slice (some ⟨w.heap.size, 0, none⟩) (m * s) (m * s)) (m * s) (bv (putTo s ns k)) ∧ Below w.heap.size w wr) (fun i _ => m - (intOf i).toNat)
  case atStart => exact ⟨0, Nat.zero_le _, rfl, hown1, hb1⟩
  case round =>
    obtain ⟨k, hk, rfl, hown', hb⟩ := hrel
    by_cases hlt : k < m
    · rcases hns with rfl | ⟨b, off, rfl, hbl, hcell⟩
      · have := HL.out; simp at this; omega
      have hkn : k < ns.length := by have := HL.out; omega
      have hc : wr.cell? ⟨b, off + k, none⟩ = some (.int .u64 ((ns[k] : Nat) : Int)) := by
        rw [hb.cell (p := ⟨b, off + k, none⟩) hbl, hcell k hkn]; simp [List.getD, hkn]
      have hks : k * s + s ≤ m * s := by have := Nat.mul_le_mul_right s hlt; rw [Nat.succ_mul] at this; omega
      have e2 : (k : Int) * (s : Int) = ((k * s : Nat) : Int) := by simp
      have hk1 : (k : Int) * (s : Int) ≤ 8796093022208 := by rw [e2]; omega
      have hk0 : 0 ≤ (k : Int) * (s : Int) := by rw [e2]; omega
      have E2 : Hid _ := e2
      clear e2
      go_wp2_with (go_at_call 38; refine (write_any w.heap.size w.heap.size (m * s) (m * s) (k * s) s (ns[k]) _ _ _ E2.out rfl rfl (putTo s ns k) _ (by unfold maxLen; omega) hs2 hks (by exact hown')).mono ?_; rintro e w2 ⟨rfl, hown2, hgr2⟩)
      go_roundw
      case rel =>
        refine ⟨k + 1, by omega, by go_num, ?_, hb.grown hgr2 hb.size (by intro j hj; simp at hj; omega)⟩
        rw [putTo_succ s ns k hkn] at hown2
        exact hown2
      case measure => simp [intOf]; omega
    · have e : k = m := by omega
      subst e
      go_wp2
      go_ret
      refine ⟨rfl, ?_, hb⟩
      have e2 : putTo s ns k = putAll s ns := by rw [← putTo_all s ns, HL.out]
      rw [← e2]
      exact hown'
def thereB (L : Nat) (a s : Int) : Bool := decide (1 ≤ s ∧ s ≤ 8 ∧ 0 ≤ a ∧ a + s ≤ L)
theorem thereB_no {L : Nat} {a s : Int} (h : ¬ (1 ≤ s ∧ s ≤ 8 ∧ 0 ≤ a ∧ a + s ≤ L)) : thereB L a s = false := decide_eq_false h
theorem thereB_yes {L : Nat} {a s : Int} (h : 1 ≤ s ∧ s ≤ 8 ∧ 0 ≤ a ∧ a + s ≤ L) : thereB L a s = true := decide_eq_true h
theorem thereB_iff {L : Nat} {a s : Int} (h : thereB L a s = true) : 1 ≤ s ∧ s ≤ 8 ∧ 0 ≤ a ∧ a + s ≤ L := of_decide_eq_true h

set_option maxHeartbeats 400000 in
theorem isThere_any (p : Option Addr) (L c : Nat) (a s : Int) (w : World) (hL : L ≤ maxLen) (_ha : a ≤ 9223372036854775807) :
    Calls Try.prog 49 #[.slice p L c, .int .i64 a, .int .i64 s] w fun e w' => e = .returned (.bool (thereB L a s)) ∧ w = w' := by
  unfold maxLen at hL
  by_cases h1 : 1 ≤ s ∧ s ≤ 8
  · have H1 : Hid _ := decide_eq_true h1
    obtain ⟨g1, g2⟩ := h1
    by_cases h2 : 0 ≤ a
    · by_cases h3 : a ≤ L - s
      · have E : Hid _ := thereB_yes (L := L) (a := a) (s := s) (by omega)
        go_enter Try.func49, Try.ntmps49
        go_wp2_with (go_at_call 37; refine (sizeMayBe_any _ _).mono ?_; rintro e w' ⟨rfl, rfl⟩; rw [H1.out])
        go_ret
        exact ⟨retBool E.out.symm, rfl⟩
      · have E : Hid _ := thereB_no (L := L) (a := a) (s := s) (by omega)
        go_enter Try.func49, Try.ntmps49
        go_wp2_with (go_at_call 37; refine (sizeMayBe_any _ _).mono ?_; rintro e w' ⟨rfl, rfl⟩; rw [H1.out])
        go_ret
        exact ⟨retBool (by rw [E.out]; exact decide_eq_false (by omega)), rfl⟩
    · have E : Hid _ := thereB_no (L := L) (a := a) (s := s) (by omega)
      go_enter Try.func49, Try.ntmps49
      go_wp2_with (go_at_call 37; refine (sizeMayBe_any _ _).mono ?_; rintro e w' ⟨rfl, rfl⟩; rw [H1.out])
      go_ret
      exact ⟨retBool E.out.symm, rfl⟩
  · have H1 : Hid _ := decide_eq_false h1
    have E : Hid _ := thereB_no (L := L) (a := a) (s := s) (by omega)
    clear h1
    go_enter Try.func49, Try.ntmps49
    go_wp2_with (go_at_call 37; refine (sizeMayBe_any _ _).mono ?_; rintro e w' ⟨rfl, rfl⟩; rw [H1.out])
    go_ret
    exact ⟨retBool E.out.symm, rfl⟩

set_option maxHeartbeats 400000 in
theorem get_no (p : Option Addr) (L c : Nat) (a s : Int) (w : World) (hL : L ≤ maxLen) (ha : a ≤ 9223372036854775807) (hno : thereB L a s = false) :
    Calls Try.prog 39 #[.slice p L c, .int .i64 a, .int .i64 s] w fun e w' => e = .returned (.tuple #[.int .u64 0, .bool false]) ∧ w = w' := by
  have H : Hid _ := hno
  clear hno
  go_enter Try.func39, Try.ntmps39
  go_wp2_with (go_at_call 49; refine (isThere_any _ _ _ _ _ _ hL ha).mono ?_; rintro e w' ⟨rfl, rfl⟩; rw [H.out])
  go_ret2
  exact ⟨rfl, rfl⟩

set_option maxHeartbeats 400000 in
theorem get_yes (p : Option Addr) (L c a s : Nat) (A S : Int) (hA : A = a) (hS : S = s) (b : List Nat) (w : World) (hL : L ≤ maxLen) (hl : b.length = L) (hb : NumsAt .u8 w p b) (h8 : ∀ x ∈ b, x < 256) (hs : 1 ≤ s ∧ s ≤ 8) (has : a + s ≤ L) :
    Calls Try.prog 39 #[.slice p L c, .int .i64 A, .int .i64 S] w fun e w' => e = .returned (.tuple #[.int .u64 (getTo b a s : Nat), .bool true]) ∧ w = w' := by
  subst hA hS
  have hL' := hL
  unfold maxLen at hL'
  have H : Hid _ := thereB_yes (L := L) (a := a) (s := s) (by omega)
  rcases hb with rfl | ⟨bb, off, rfl, hbl, hcell⟩
  · simp at hl; omega
  have HL : Hid _ := hl
  have HC : Hid _ := hcell
  clear hl hcell
  go_enter Try.func39, Try.ntmps39
  go_wp2_with (go_at_call 49; refine (isThere_any _ _ _ _ _ _ hL (by omega)).mono ?_; rintro e w' ⟨rfl, rfl⟩; rw [H.out])
  go_loop [8, 16] (fun t i => ∃ k : Nat, k ≤ s ∧ i = .int .i64 k ∧ t = .int .u64 (getTo b a k : Nat)) (fun _ i => s - (intOf i).toNat)
  case atStart => exact ⟨0, Nat.zero_le _, rfl, by simp [getTo, getL]⟩
  case round =>
    obtain ⟨k, hk, rfl, rfl⟩ := hrel
    by_cases hlt : k < s
    · have hbk : a + k < b.length := by have := HL.out; omega
      have hc : w.cell? ⟨bb, off + (a + k), none⟩ = some (.int .u8 ((b[a + k] : Nat) : Int)) := by
        rw [HC.out (a + k) hbk]; simp [List.getD, hbk]
      have hx : b[a + k] < 256 := h8 _ (List.getElem_mem _)
      have HO : Hid _ := or_byte (getTo_lt (a := a) (k := k) h8) hx (show k < 8 by omega)
      have HT : Hid _ := getTo_succ hbk
      generalize b[a + k] = x at *
      generalize getTo b a k = q at *
      clear hbk
      go_wp2
      go_round
      case rel => exact ⟨k + 1, by omega, by go_num, by rw [HT.out, HO.out]⟩
      case measure => simp [intOf]; omega
    · have e : k = s := by omega
      subst e
      go_wp2
      go_ret2
      exact ⟨rfl, rfl⟩

set_option maxHeartbeats 400000 in
theorem refGet_any (p : Option Addr) (L c a s : Nat) (A S : Int) (hA : A = a) (hS : S = s) (b : List Nat) (w : World) (hL : L ≤ maxLen) (hl : b.length = L) (hb : NumsAt .u8 w p b) (h8 : ∀ x ∈ b, x < 256) (hs : 1 ≤ s ∧ s ≤ 8) (has : a + s ≤ L) :
    Calls Try.prog 26 #[.slice p L c, .int .i64 A, .int .i64 S] w fun e w' => e = .returned (.int .u64 (getTo b a s : Nat)) ∧ w = w' := by
  subst hA hS
  unfold maxLen at hL
  rcases hb with rfl | ⟨bb, off, rfl, hbl, hcell⟩
  · simp at hl; omega
  have HL : Hid _ := hl
  have HC : Hid _ := hcell
  clear hl hcell
  go_enter Try.func26, Try.ntmps26
  go_wp2
  go_loop [7, 8] (fun t i => ∃ k : Nat, k ≤ s ∧ i = .int .i64 ((s : Int) - 1 - k) ∧ t = .int .u64 (getTo b (a + (s - k)) k : Nat)) (fun _ i => (intOf i + 1).toNat)
  case atStart => exact ⟨0, Nat.zero_le _, by simp, by simp [getTo, getL]⟩
  case round =>
    obtain ⟨k, hk, rfl, rfl⟩ := hrel
    by_cases hlt : k < s
    · have hbk : a + (s - 1 - k) < b.length := by have := HL.out; omega
      have hc : w.cell? ⟨bb, off + (a + (s - 1 - k)), none⟩ = some (.int .u8 ((b[a + (s - 1 - k)] : Nat) : Int)) := by
        rw [HC.out (a + (s - 1 - k)) hbk]; simp [List.getD, hbk]
      have hx : b[a + (s - 1 - k)] < 256 := h8 _ (List.getElem_mem _)
      have ht := getTo_head (a := a + (s - (k + 1))) k hbk (by omega)
      rw [show a + (s - (k + 1)) + 1 = a + (s - k) by omega] at ht
      have hq := getTo_lt (a := a + (s - k)) (k := k) h8
      have hp := pow256_lt (show k < 8 by omega)
      have HT : Hid _ := ht
      clear ht
      generalize b[a + (s - 1 - k)] = x at *
      generalize getTo b (a + (s - k)) k = q at *
      have hq' : q < 72057594037927936 := by omega
      clear hbk hq hp
      go_wp2
      go_round
      case rel => exact ⟨k + 1, by omega, by go_num, by rw [HT.out]; go_num⟩
      case measure => simp [intOf]; omega
    · have e : k = s := by omega
      subst e
      go_wp2
      go_ret
      exact ⟨retInt (by simp), rfl⟩
set_option maxHeartbeats 400000 in
theorem refPut_any (s n : Nat) (S N : Int) (hS : S = s) (hN : N = n) (w : World) (hs : s ≤ 8) (hn : n < 18446744073709551616) :
    Calls Try.prog 42 #[.int .i64 S, .int .u64 N] w fun e w' => ∃ v, e = .returned v ∧ w'.ownsRow w.heap.size 5 1 v s (bv (putN s n)) ∧ Below w.heap.size w w' := by
  subst hS hN
  obtain ⟨i0, hi, hz0, hz1, hz2⟩ := info_parts Try.info5
  go_enter Try.func42, Try.ntmps42
  go_wp2
  go_loopw [1, 5, 6] (fun t v i wr => ∃ k : Nat, k ≤ s ∧ i = .int .i64 k ∧ t = .int .u64 (n / 256 ^ k : Nat) ∧ wr.ownsRow w.heap.size 5 1 v k (bv (putN k n)) ∧ Below w.heap.size w wr) (fun _ _ i _ => s - (intOf i).toNat)
  case atStart => exact ⟨0, Nat.zero_le _, rfl, by simp, World.ownsRow_nil _ _ _ _, Below.refl _ _⟩
  case round =>
    obtain ⟨k, hk, rfl, rfl, hown, hb⟩ := hrel
    by_cases hlt : k < s
    · have hq : n / 256 ^ k < 18446744073709551616 := Nat.lt_of_le_of_lt (Nat.div_le_self _ _) hn
      have HS : Hid (n / 256 ^ (k + 1) = n / 256 ^ k / 256) := by show _ = _; rw [Nat.pow_succ, Nat.div_div_eq_div_mul]
      have HP : Hid _ := putN_succ k n
      generalize n / 256 ^ k = q at *
      go_wp2_with (at_builtin; refine wpList_append_own _ rfl _ _ 23 rfl w.heap.size 5 i0 (.int .u8 0) 1 1 Try.underlying23 hi hz0 hz1 hz2 rfl (by decide) _ _ _ rfl (hown.alloc _) ⟨wr.heap.size, 0, none⟩ 1 1 [.int .u8 ((q % 256 : Nat) : Int)] ?c0 rfl ?c1 ?c2 ?c3 ?c4 ?c5 ?_)
      case c0 => rfl
      case c1 =>
        intro j u hj
        match j, hj with
        | 0, hj => simp at hj; subst hj; simp [Addr.add]
      case c2 => intro u hu; simp at hu; subst hu; rfl
      case c3 => unfold maxLen; omega
      case c4 => omega
      case c5 => have := hb.size; simp; omega
      · intro v' w1 hown' hgr _
        have hb1 : Below w.heap.size w w1 := (hb.alloc hb.size _).grown hgr (by have := hb.size; simp; omega) (fun j hj => (hown.lt j hj).1)
        have hown1 : w1.ownsRow w.heap.size 5 1 v' (k + 1) (bv (putN (k + 1) n)) := by rw [HP.out]; simpa [bv] using hown'
        clear hown' hgr hown hb
        go_wp2
        go_roundw
        case rel => exact ⟨k + 1, by omega, by go_num, by rw [HS.out]; simp, hown1, hb1⟩
        case measure => simp [intOf]; omega
    · have e : k = s := by omega
      subst e
      go_wp2
      go_ret
      exact ⟨_, rfl, hown, hb⟩
end Go.Proofs.Ytgninhecclinaaa
