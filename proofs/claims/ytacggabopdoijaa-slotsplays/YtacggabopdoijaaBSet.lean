/- A set in memory (SetAt, SetP), and the walks of Size, mayHave, bitOf and Has: they tell what the list of bools tells, and turn nothing. -/
import Derived.Test.YtacggabopdoijaaGKit
import Derived.Test.YtacggabopdoijaaBPlain
import Derived.WalkKit
import Derived.WalkSpells
import Derived.WalkLawsBesides
import Derived.Maps.AppendAt
import Derived.OneCell
import Derived.Deep.QuietTactic
import Derived.BigQuiet
import Derived.Deep.Draws
namespace Go.Proofs.Ytacggabopdoijaa
open Go.RowKit

def wv (ws : List Nat) : List Value := ws.map fun q : Nat => Value.int .u64 (q : Int)

/-- A set that is there: its struct in block b, its words in block g, both from B on. -/
structure SetAt (B : Nat) (w : World) (b g : Nat) (x : List Bool) : Prop where
  small : x.length ≤ 4096
  lo : B ≤ b
  ne : b ≠ g
  head : w.heap[b]? = some (.cells #[.int .i64 (x.length : Nat), .slice (some ⟨g, 0, none⟩) ((x.length + 63) / 64) ((x.length + 63) / 64)] 83 (0, 0))
  row : ∃ ws, Fits ws x ∧ w.ownsRow B 80 1 (.slice (some ⟨g, 0, none⟩) ((x.length + 63) / 64) ((x.length + 63) / 64)) ((x.length + 63) / 64) (wv ws)

/-- A set, or none (which has nothing): p the pointer, r the block of its words. -/
def SetP (B : Nat) (w : World) (p : Option Addr) (r : Option Nat) (x : List Bool) : Prop :=
  (p = none ∧ r = none ∧ x = []) ∨ ∃ b g, p = some ⟨b, 0, none⟩ ∧ r = some g ∧ SetAt B w b g x

theorem SetAt.size0 {B b g : Nat} {w : World} {x : List Bool} (h : SetAt B w b g x) : w.cell? ⟨b, 0, none⟩ = some (.int .i64 (x.length : Nat)) := by
  rw [cell_of_row w b 0 _ _ _ h.head]; rfl
theorem SetAt.words0 {B b g : Nat} {w : World} {x : List Bool} (h : SetAt B w b g x) : w.cell? ⟨b, 1, none⟩ = some (.slice (some ⟨g, 0, none⟩) ((x.length + 63) / 64) ((x.length + 63) / 64)) := by
  rw [cell_of_row w b 1 _ _ _ h.head]; rfl
theorem SetAt.bltg {B b g : Nat} {w : World} {x : List Bool} (h : SetAt B w b g x) : b < w.heap.size ∧ g < w.heap.size ∧ B ≤ g := by
  obtain ⟨ws, _, ho⟩ := h.row
  have := ho.lt g rfl
  exact ⟨(Array.getElem?_eq_some_iff.1 h.head).1, this.2, this.1⟩
theorem SetAt.of_blocks {B b g : Nat} {w w' : World} {x : List Bool} (h : SetAt B w b g x) (h1 : w'.heap[b]? = w.heap[b]?) (h2 : w'.heap[g]? = w.heap[g]?) : SetAt B w' b g x := by
  refine ⟨h.small, h.lo, h.ne, h1.trans h.head, ?_⟩
  obtain ⟨ws, hf, hl, ho⟩ := h.row
  refine ⟨ws, hf, hl, ?_⟩
  rcases ho with ⟨he, _⟩ | ⟨g', cap, cur, he, hb, hh, r⟩
  · simp at he
  · simp only [Value.slice.injEq, Option.some.injEq, Addr.mk.injEq, and_true, true_and] at he
    obtain ⟨rfl, rfl⟩ := he
    exact .inr ⟨g, _, cur, rfl, hb, h2.trans hh, r⟩
theorem SetP.of_blocks {B : Nat} {w w' : World} {p : Option Addr} {r : Option Nat} {x : List Bool} (h : SetP B w p r x) (hk : ∀ k, k < w.heap.size → w'.heap[k]? = w.heap[k]?) : SetP B w' p r x := by
  rcases h with h | ⟨b, g, h1, h2, h3⟩
  · exact .inl h
  · have := h3.bltg
    exact .inr ⟨b, g, h1, h2, h3.of_blocks (hk b this.1) (hk g this.2.1)⟩
theorem SetP.below {B : Nat} {w w' : World} {p : Option Addr} {r : Option Nat} {x : List Bool} (h : SetP B w p r x) (hb : Below w.heap.size w w') : SetP B w' p r x := h.of_blocks hb.block
theorem SetP.drewN {B : Nat} {w : World} {p : Option Addr} {r : Option Nat} {x : List Bool} (h : SetP B w p r x) (n : Nat) : SetP B (w.drewN n) p r x := h.of_blocks fun k _ => by rw [heap_drewN]
theorem SetP.lt {B : Nat} {w : World} {p : Option Addr} {r : Option Nat} {x : List Bool} (h : SetP B w p r x) : ∀ k, r = some k → B ≤ k ∧ k < w.heap.size := by
  intro k hk
  rcases h with ⟨_, rfl, _⟩ | ⟨b, g, h1, rfl, h3⟩
  · cases hk
  · cases hk
    have := h3.bltg
    exact ⟨this.2.2, this.2.1⟩
theorem SetP.small {B : Nat} {w : World} {p : Option Addr} {r : Option Nat} {x : List Bool} (h : SetP B w p r x) : x.length ≤ 4096 := by
  rcases h with ⟨_, _, rfl⟩ | ⟨b, g, h1, rfl, h3⟩
  · simp
  · exact h3.small

set_option maxHeartbeats 400000 in
theorem size_any {B : Nat} {p : Option Addr} {r : Option Nat} {x : List Bool} (w : World) (h : SetP B w p r x) :
    Calls Try.prog 31 #[.pointer p] w fun e w' => e = .returned (.int .i64 (x.length : Nat)) ∧ w = w' := by
  rcases h with ⟨rfl, _, rfl⟩ | ⟨b, g, rfl, _, h⟩
  · go_enter Try.func31, Try.ntmps31
    go_wp2
    go_ret
    exact ⟨rfl, rfl⟩
  · have h0 := h.size0
    clear h
    go_enter Try.func31, Try.ntmps31
    go_wp2
    go_ret
    exact ⟨rfl, rfl⟩

set_option maxHeartbeats 400000 in
theorem mayHave_any {B : Nat} {p : Option Addr} {r : Option Nat} {x : List Bool} (n : Int) (w : World) (h : SetP B w p r x) :
    Calls Try.prog 43 #[.pointer p, .int .i64 n] w fun e w' => e = .returned (.bool (mayB x n)) ∧ w = w' := by
  have hs := h.small
  by_cases h1 : 0 ≤ n
  · by_cases h2 : n < x.length
    · have E : Hid (mayB x n = true) := by simp [Hid, mayB, h1, h2]
      go_enter Try.func43, Try.ntmps43
      go_wp2_with (go_at_call 31; refine (size_any _ h).mono ?_; rintro e w' ⟨rfl, rfl⟩)
      go_ret
      exact ⟨retBool E.out.symm, rfl⟩
    · have E : Hid (mayB x n = false) := by simp [Hid, mayB]; omega
      go_enter Try.func43, Try.ntmps43
      go_wp2_with (go_at_call 31; refine (size_any _ h).mono ?_; rintro e w' ⟨rfl, rfl⟩)
      go_ret
      exact ⟨retBool (by rw [E.out, decide_eq_false (by omega)]), rfl⟩
  · have E : Hid (mayB x n = false) := by simp [Hid, mayB]; omega
    go_enter Try.func43, Try.ntmps43
    go_wp2_with (go_at_call 31; refine (size_any _ h).mono ?_; rintro e w' ⟨rfl, rfl⟩)
    go_ret
    exact ⟨retBool E.out.symm, rfl⟩

set_option maxHeartbeats 400000 in
theorem bitOf_any (n : Nat) (w : World) (hn : n ≤ 4096) :
    Calls Try.prog 44 #[.int .i64 n] w fun e w' => e = .returned (.int .u64 ((2 ^ (n % 64) : Nat) : Int)) ∧ w = w' := by
  go_enter Try.func44, Try.ntmps44
  go_wp2
  go_ret
  refine ⟨retInt ?_, rfl⟩
  have hp : (2 : Nat) ^ (n % 64) < 2 ^ 64 := Nat.pow_lt_pow_right (by omega) (by omega)
  have e : (2 : Int) ^ (n % 64) = ((2 ^ (n % 64) : Nat) : Int) := by simp
  rw [e, IntKind.wrap_u64]
  generalize 2 ^ (n % 64) = q at *
  omega

theorem bitOf_is (n : Nat) (w : World) (hn : n ≤ 4096) {q : Nat} (hq : 2 ^ (n % 64) = q) :
    Calls Try.prog 44 #[.int .i64 n] w fun e w' => e = .returned (.int .u64 (q : Int)) ∧ w = w' := by
  rw [← hq]; exact bitOf_any n w hn
theorem mayHave_is {B : Nat} {p : Option Addr} {r : Option Nat} {x : List Bool} (n : Int) (w : World) (h : SetP B w p r x) {b : Bool} (hb : mayB x n = b) :
    Calls Try.prog 43 #[.pointer p, .int .i64 n] w fun e w' => e = .returned (.bool b) ∧ w = w' := by
  rw [← hb]; exact mayHave_any n w h

set_option maxHeartbeats 400000 in
theorem has_any {B : Nat} {p : Option Addr} {r : Option Nat} {x : List Bool} (n : Int) (w : World) (h : SetP B w p r x) :
    Calls Try.prog 30 #[.pointer p, .int .i64 n] w fun e w' => e = .returned (.bool (hasB x n)) ∧ ∃ m, w' = w.drewN m := by
  cases hm : mayB x n
  · have E : Hid (hasB x n = false) := hasB_no hm
    have HM : Hid (mayB x n = false) := hm
    clear hm
    go_enter Try.func30, Try.ntmps30
    go_wp2_with fail
    go_quiet ((go_at_call 43; exact quietSame (mayHave_is _ _ (h.drewN _) HM.out)))
    go_wp2
    go_ret
    exact ⟨retBool E.out.symm, _, rfl⟩
  · have HM : Hid (mayB x n = true) := hm
    simp only [mayB, decide_eq_true_eq] at hm
    obtain ⟨k, rfl⟩ := Int.eq_ofNat_of_zero_le hm.1
    have hk : k < x.length := by omega
    rcases h with ⟨_, _, rfl⟩ | ⟨b, g, rfl, rfl, h⟩
    · simp at hk
    have hs := h.small
    have h1 := h.words0
    obtain ⟨ws, hf, ho⟩ := h.row
    have hwl := hf.word hk
    have hlen := hf.len
    have hc : w.cell? ⟨g, k / 64, none⟩ = some (.int .u64 ((ws.getD (k / 64) 0 : Nat) : Int)) := by
      rw [ho.cellAt (k / 64) (by omega)]
      simp [wv, List.getD, hwl]
    have hq := hf.wlt (k / 64)
    have hp : (2 : Nat) ^ (k % 64) < 18446744073709551616 := Nat.pow_lt_pow_right (n := 64) (by omega) (by omega)
    have E : Hid ((bits .and .u64 ((ws.getD (k / 64) 0 : Nat) : Int) ((2 ^ (k % 64) : Nat) : Int) != 0) = hasB x k) := by
      show _ = _
      rw [u64_and_nat _ _ hq hp, and_pow_ne, hf.at hk, hasB_nat]
    have hw : k / 64 < (x.length + 63) / 64 := by omega
    have hi : IntKind.i64.wrap ((k : Int) / 64) = ((k / 64 : Nat) : Int) := by rw [IntKind.wrap_i64]; omega
    generalize hq0 : ws.getD (k / 64) 0 = q at *
    generalize hp0 : 2 ^ (k % 64) = pw at *
    generalize k / 64 = j at *
    generalize hW0 : (x.length + 63) / 64 = W at *
    have HP : Hid _ := hp0
    have HW : Hid _ := hW0
    clear hq0 hp0 ho hf hlen hwl hm hW0
    go_enter Try.func30, Try.ntmps30
    go_wp2_with fail
    go_quiet (first | (go_at_call 43; exact quietSame (mayHave_is _ _ (SetP.drewN (.inr ⟨b, g, rfl, rfl, h⟩) _) HM.out)) | (go_at_call 44; exact quietSame (bitOf_is k _ (by omega) HP.out)))
    go_wp2
    go_ret
    exact ⟨retBool E.out, _, rfl⟩
end Go.Proofs.Ytacggabopdoijaa
