/- The walks of num.sizeMayBe, num.isThere and num.Put: Put answers the numbers' bytes in new memory. -/
import Derived.Test.YteebjeifbccbnaaWrite
import Derived.Test.YteebjeifbccbnaaFSet
namespace Go.Proofs.Yteebjeifbccbnaa
open Go.RowKit


set_option maxHeartbeats 400000 in
theorem sizeMayBe_any (s : Int) (w : World) :
    Calls Try.prog 46 #[.int .i64 s] w fun e w' => e = .returned (.bool (decide (1 ≤ s ∧ s ≤ 8))) ∧ w = w' := by
  by_cases h1 : 1 ≤ s
  · by_cases h2 : s ≤ 8
    · go_enter Try.func46, Try.ntmps46
      go_wp2
      go_ret
      exact ⟨retBool (by simp [h1, h2]), rfl⟩
    · go_enter Try.func46, Try.ntmps46
      go_wp2
      go_ret
      exact ⟨retBool (by simp [h2]), rfl⟩
  · go_enter Try.func46, Try.ntmps46
    go_wp2
    go_ret
    exact ⟨retBool (by simp; omega), rfl⟩

/-- A list of numbers that lies in memory, read through a slice value. -/
def NumsAt (k : IntKind) (w : World) (a : Option Addr) (zs : List Nat) : Prop :=
  zs = [] ∨ ∃ b off, a = some ⟨b, off, none⟩ ∧ b < w.heap.size ∧ ∀ i, i < zs.length → w.cell? ⟨b, off + i, none⟩ = some (.int k (zs.getD i 0 : Nat))

theorem Try.info5 : (Try.prog.info? 5).map (fun i => (i.zero, i.size, i.bytes)) = some (some (.int .u8 0), 1, 1) := by kernel_rfl

set_option maxHeartbeats 400000 in
theorem put_bad (s : Int) (v : Value) (w : World) (hs : ¬ (1 ≤ s ∧ s ≤ 8)) :
    Calls Try.prog 30 #[.int .i64 s, v] w fun e w' => e = .returned (.slice none 0 0) ∧ w = w' := by
  have hd : decide (1 ≤ s ∧ s ≤ 8) = false := by simp [hs]
  have H : Hid _ := hd
  clear hd hs
  go_enter Try.func30, Try.ntmps30
  go_wp2_with (go_at_call 46; refine (sizeMayBe_any _ _).mono ?_; rintro e w' ⟨rfl, rfl⟩; rw [H.out])
  go_ret
  exact ⟨rfl, rfl⟩

set_option maxHeartbeats 400000 in
theorem put_any (s m c : Nat) (S : Int) (hS : S = s) (a : Option Addr) (ns : List Nat) (w : World) (hs : 1 ≤ s ∧ s ≤ 8) (hm : m ≤ 1099511627776) (hl : ns.length = m) (hns : NumsAt .u64 w a ns) :
    Calls Try.prog 30 #[.int .i64 S, .slice a m c] w fun e w' => e = .returned (.slice (some ⟨w.heap.size, 0, none⟩) (m * s) (m * s)) ∧
      w'.ownsRow w.heap.size 5 1 (.slice (some ⟨w.heap.size, 0, none⟩) (m * s) (m * s)) (m * s) (bv (putAll s ns)) ∧ Below w.heap.size w w' := by
  subst hS
  obtain ⟨hs1, hs2⟩ := hs
  obtain ⟨i0, hi, hz0, hz1, hz2⟩ := info_parts Try.info5
  have hd : decide (1 ≤ (s : Int) ∧ (s : Int) ≤ 8) = true := by simp; omega
  have H : Hid _ := hd
  have hms : m * s ≤ 8796093022208 := by have := Nat.mul_le_mul hm hs2; omega
  have e1 : (s : Int) * (m : Int) = ((m * s : Nat) : Int) := by rw [Nat.mul_comm]; simp
  have hms' : (s : Int) * (m : Int) ≤ 8796093022208 := by rw [e1]; omega
  have hms0 : 0 ≤ (s : Int) * (m : Int) := by rw [e1]; omega
  have HL : Hid _ := hl
  have E1 : Hid _ := e1
  clear hd hl e1
  go_enter Try.func30, Try.ntmps30
  go_wp2_with (first | (go_at_call 46; refine (sizeMayBe_any _ _).mono ?_; rintro e w' ⟨rfl, rfl⟩; rw [H.out]) | (at_make; refine wpList_make_full _ rfl _ _ 24 rfl w.heap.size 5 i0 (.int .u8 0) 1 Try.underlying24 hi hz0 hz1 .i64 .i64 _ _ (m * s) rfl rfl E1.out E1.out (by rw [hz2]; omega) (by unfold maxLen; omega) (Nat.le_refl _) ?_))
  intro w1 hown hgr
  have hown1 : w1.ownsRow w.heap.size 5 1 (.slice (some ⟨w.heap.size, 0, none⟩) (m * s) (m * s)) (m * s) (bv (putTo s ns 0)) := by
    rw [putTo_zero, HL.out]
    rw [← made_bytes]
    exact hown
  have hb1 : Below w.heap.size w w1 := (Below.refl _ _).grown hgr (Nat.le_refl _) (by intro k hk; simp at hk)
  clear hown hgr
  go_wp2
  go_loopw [18] (fun i wr => ∃ k : Nat, k ≤ m ∧ i = .int .i64 k ∧ wr.ownsRow w.heap.size 5 1 (.slice (some ⟨w.heap.size, 0, none⟩) (m * s) (m * s)) (m * s) (bv (putTo s ns k)) ∧ Below w.heap.size w wr) (fun i _ => m - (intOf i).toNat)
  case atStart => exact ⟨0, Nat.zero_le _, rfl, hown1, hb1⟩
  case round =>
    obtain ⟨k, hk, rfl, hown', hb⟩ := hrel
    by_cases hlt : k < m
    · rcases hns with rfl | ⟨b, off, rfl, hbl, hcell⟩
      · have := HL.out; simp at this; omega
      have hkn : k < ns.length := by have := HL.out; omega
      have hc : wr.cell? ⟨b, off + k, none⟩ = some (.int .u64 ((ns[k] : Nat) : Int)) := by
        rw [hb.cell (p := ⟨b, off + k, none⟩) hbl, hcell k hkn]; simp [List.getD, hkn]
      have hks : k * s + s ≤ m * s := by have := Nat.mul_le_mul_right s hlt; rw [Nat.succ_mul] at this; omega
      have e2 : (k : Int) * (s : Int) = ((k * s : Nat) : Int) := by simp
      have hk1 : (k : Int) * (s : Int) ≤ 8796093022208 := by rw [e2]; omega
      have hk0 : 0 ≤ (k : Int) * (s : Int) := by rw [e2]; omega
      have E2 : Hid _ := e2
      clear e2
      go_wp2_with (go_at_call 47; refine (write_any w.heap.size w.heap.size (m * s) (m * s) (k * s) s (ns[k]) _ _ _ E2.out rfl rfl (putTo s ns k) _ (by unfold maxLen; omega) hs2 hks (by exact hown')).mono ?_; rintro e w2 ⟨rfl, hown2, hgr2⟩)
      go_roundw
      case rel =>
        refine ⟨k + 1, by omega, by go_num, ?_, hb.grown hgr2 hb.size (by intro j hj; simp at hj; omega)⟩
        rw [putTo_succ s ns k hkn] at hown2
        exact hown2
      case measure => simp [intOf]; omega
    · have e : k = m := by omega
      subst e
      go_wp2
      go_ret
      refine ⟨rfl, ?_, hb⟩
      have e2 : putTo s ns k = putAll s ns := by rw [← putTo_all s ns, HL.out]
      rw [← e2]
      exact hown'
end Go.Proofs.Yteebjeifbccbnaa
