/- The walks of the document's Set and Cut (layer 1). -/
import Derived.Test.YtkmgjjjlbpapeaaRefBits
namespace Go.Proofs.Ytkmgjjjlbpapeaa
open Go.RowKit

theorem arrB_set (f : Nat → Bool) (k : Nat) (b : Bool) : (arrB f).setIfInBounds k (.bool b) = arrB (fun i => if i = k then b else f i) := by
  apply Array.ext
  · simp [arrB]
  · intro i h1 h2
    simp only [Array.size_setIfInBounds, size_arrB] at h1
    rw [Array.getElem_setIfInBounds (by simpa [size_arrB] using h1)]
    by_cases h : k = i
    · subst h; simp [arrB]
    · have h' : ¬ i = k := fun e => h e.symm
      simp [arrB, h, h']
theorem arrB_congr {f g : Nat → Bool} (h : ∀ i, i < 64 → f i = g i) : arrB f = arrB g := by
  unfold arrB
  congr 1
  apply List.map_congr_left
  intro i hi
  rw [h i (by simpa using hi)]

def ArrAt (w : World) (g : Nat) (f : Nat → Bool) : Prop := w.heap[g]? = some (.cells (arrB f) 48 (0, 0))
theorem ArrAt.cell {w : World} {g : Nat} {f : Nat → Bool} (h : ArrAt w g f) {i : Nat} (hi : i < 64) : w.cell? ⟨g, i, none⟩ = some (.bool (f i)) := by
  rw [cell_of_row w g i (arrB f) 48 (0, 0) h, arrB_get f i hi]
theorem ArrAt.frozen {w : World} {g : Nat} {f : Nat → Bool} (h : ArrAt w g f) (i : Nat) : w.frozen? ⟨g, i, none⟩ = false := frozen_of_row w g i (arrB f) 48 h
theorem ArrAt.set {w : World} {g : Nat} {f : Nat → Bool} (h : ArrAt w g f) (k : Nat) (b : Bool) : ArrAt (w.setCell ⟨g, k, none⟩ (.bool b)) g (fun i => if i = k then b else f i) := by
  unfold ArrAt
  rw [heap_setCell_same w g k (arrB f) 48 (.bool b) h, arrB_set]
theorem ArrAt.congr {w : World} {g : Nat} {f f' : Nat → Bool} (h : ArrAt w g f) (e : ∀ i, i < 64 → f i = f' i) : ArrAt w g f' := by
  unfold ArrAt at *; rw [h, arrB_congr e]
theorem ArrAt.new (w : World) : ArrAt (w.alloc (.cells (arrB fun _ => false) 48)) w.heap.size (fun _ => false) := heap_alloc_new w _
theorem Try.size48 (f : Nat → Bool) : (Try.prog.info? 48).map (·.size) = some (arrB f).size := by rw [size_arrB]; kernel_rfl

def setTo (x : Nat) (a v : Int) (n : Nat) (k : Nat) (i : Nat) : Bool := if i < k then (if inZ a v i then n.testBit (i - a.toNat) else x.testBit i) else false

theorem bitIn (x k : Nat) (hk : k < 64) : (decide (0 ≤ (k : Int) ∧ (k : Int) < 64) && x.testBit (k : Int).toNat) = x.testBit k := by
  rw [decide_eq_true (by omega), Int.toNat_natCast]; simp
theorem bitIn' (x k : Nat) (a : Int) (h0 : 0 ≤ a) (hk : a ≤ k) (h : k < 64) : (decide (0 ≤ (k : Int) - a ∧ (k : Int) - a < 64) && x.testBit ((k : Int) - a).toNat) = x.testBit (k - a.toNat) := by
  rw [decide_eq_true (by omega), show ((k : Int) - a).toNat = k - a.toNat by omega]; simp
theorem inZ_le {a v : Int} {i : Nat} (hi : i < 64) (h : inZ a v i = true) : 0 ≤ a ∧ a ≤ i := by
  rw [inZ_eq hi, decide_eq_true_eq] at h; omega
theorem setTo_out {x : Nat} {a v : Int} {n k : Nat} (h : inZ a v k = false) (i : Nat) : (if i = k then x.testBit k else setTo x a v n k i) = setTo x a v n (k + 1) i := by
  unfold setTo
  by_cases e : i = k
  · subst e; simp [h]
  · by_cases l : i < k
    · simp [e, l, Nat.lt_succ_of_lt l]
    · have : ¬ i < k + 1 := by omega
      simp [e, l, this]
theorem setTo_in {x : Nat} {a v : Int} {n k : Nat} (h : inZ a v k = true) (b : Bool) (i : Nat) : (if i = k then n.testBit (k - a.toNat) else if i = k then b else setTo x a v n k i) = setTo x a v n (k + 1) i := by
  unfold setTo
  by_cases e : i = k
  · subst e; simp [h]
  · by_cases l : i < k
    · simp [e, l, Nat.lt_succ_of_lt l]
    · have : ¬ i < k + 1 := by omega
      simp [e, l, this]

theorem setTo_all (x : Nat) (a v : Int) (n : Nat) : nb (setTo x a v n 64) 64 = setZ x a v n := by
  unfold setZ
  exact nb_congr (fun i hi => by unfold setTo; rw [if_pos hi])

set_option maxHeartbeats 1000000 in
theorem refSet_any (x : Nat) (X : Int) (hX : X = x) (a v : Int) (n : Nat) (N : Int) (hN : N = n) (w : World) (hx : x < 18446744073709551616) (hn : n < 18446744073709551616) (hv : -9223372036854775808 ≤ a ∧ a ≤ 9223372036854775807) :
    Calls Try.prog 16 #[.int .u64 X, .int .i64 a, .int .i64 v, .int .u64 N] w fun e w' => e = .returned (.int .u64 (setZ x a v n : Nat)) ∧ Below w.heap.size w w' := by
  subst hX hN
  obtain ⟨hv1, hv2⟩ := hv
  go_enter Try.func16, Try.ntmps16
  go_wp2
  go_loopw [10] (fun i wr => ∃ k : Nat, k ≤ 64 ∧ i = .int .i64 k ∧ ArrAt wr w.heap.size (setTo x a v n k) ∧ Below w.heap.size w wr) (fun i _ => 64 - (intOf i).toNat)
  case atStart => exact ⟨0, by omega, rfl, (ArrAt.new w).congr (by simp [setTo]), (Below.refl _ _).alloc (Nat.le_refl _) _⟩
  case round =>
    obtain ⟨k, hk, rfl, harr, hb⟩ := hrel
    by_cases hlt : k < 64
    · have hc := harr.cell hlt
      have hf := harr.frozen k
      go_wp2_with fail
      refine (refBit_any x _ rfl _ _ hx).mono ?_
      rintro e w1 ⟨rfl, rfl⟩
      rw [bitIn x k hlt]
      go_wp2_with fail
      have h2 := harr.set k (x.testBit k)
      have hb2 := hb.setCell (p := ⟨w.heap.size, k, none⟩) (Nat.le_refl _) (.bool (x.testBit k))
      generalize wr.setCell ⟨w.heap.size, k, none⟩ (.bool (x.testBit k)) = w2 at *
      clear hc hf harr hb
      refine (refIn_any a v k _ hlt).mono ?_
      rintro e w1 ⟨rfl, rfl⟩
      cases hin : inZ a v k
      · go_wp2_with fail
        go_roundw
        case rel => exact ⟨k + 1, by omega, by go_num, h2.congr (fun i _ => setTo_out hin i), hb2⟩
        case measure => simp [intOf]; omega
      · have hle := inZ_le hlt hin
        obtain ⟨hl1, hl2⟩ := hle
        have hc2 := h2.cell hlt
        have hf2 := h2.frozen k
        have HI : Hid _ := hin
        clear hin
        go_wp2_with fail
        refine (refBit_any n _ rfl _ _ hn).mono ?_
        rintro e w1 ⟨rfl, rfl⟩
        rw [bitIn' n k a hl1 hl2 hlt]
        go_wp2_with fail
        go_roundw
        case rel => exact ⟨k + 1, by omega, by go_num, (h2.set k (n.testBit (k - a.toNat))).congr (fun i _ => setTo_in HI.out _ i), hb2.setCell (Nat.le_refl _) _⟩
        case measure => simp [intOf]; omega
    · have e : k = 64 := by omega
      subst e
      go_wp2_with (refine wpList_load_row rfl 48 _ rfl w.heap.size rfl 48 (arrB (setTo x a v n 64)) (0, 0) _ harr Try.underlying48 rfl (Try.size48 _) ?_)
      refine (refOf_any _ _).mono ?_
      rintro e w1 ⟨rfl, hb1⟩
      go_wp2
      go_ret
      exact ⟨retInt (by rw [setTo_all]), hb.trans (hb1.mono hb.size)⟩

def cutTo (x : Nat) (a v : Int) (k : Nat) (j : Nat) : Bool := inZ a v (j + a.toNat) && decide (j + a.toNat < k) && x.testBit (j + a.toNat)
theorem cutTo_out {x : Nat} {a v : Int} {k : Nat} (h : inZ a v k = false) (j : Nat) : cutTo x a v k j = cutTo x a v (k + 1) j := by
  unfold cutTo
  by_cases e : j + a.toNat = k
  · rw [e, h]; simp
  · by_cases l : j + a.toNat < k
    · simp [l, Nat.lt_succ_of_lt l]
    · have : ¬ j + a.toNat < k + 1 := by omega
      simp [l, this]
theorem cutTo_in {x : Nat} {a v : Int} {k : Nat} (hk : a.toNat ≤ k) (h : inZ a v k = true) (j : Nat) : (if j = k - a.toNat then x.testBit k else cutTo x a v k j) = cutTo x a v (k + 1) j := by
  unfold cutTo
  by_cases e : j = k - a.toNat
  · have e' : j + a.toNat = k := by omega
    rw [if_pos e, e', h]; simp
  · have e' : ¬ j + a.toNat = k := by omega
    rw [if_neg e]
    by_cases l : j + a.toNat < k
    · simp [l, Nat.lt_succ_of_lt l]
    · have : ¬ j + a.toNat < k + 1 := by omega
      simp [l, this]
theorem cutTo_all (x : Nat) (a v : Int) (hx : x < 18446744073709551616) : nb (cutTo x a v 64) 64 = cutZ x a v := by
  refine (nb_eq _ 64 _ (cut_lt x a v hx) ?_).symm
  intro i _
  unfold cutTo cutZ
  cases hp : partOk a v
  · simp [inZ, hp]
  · have hw := wide_le a v
    have hp' := hp
    simp only [partOk, decide_eq_true_eq] at hp'
    rw [if_pos rfl, Nat.testBit_mod_two_pow, Nat.testBit_div_two_pow]
    simp only [inZ, hp, Bool.true_and]
    by_cases h : i < wideN a v
    · have h1 : i + a.toNat < a.toNat + wideN a v := by omega
      have h2 : a.toNat ≤ i + a.toNat := by omega
      have h3 : i + a.toNat < 64 := by omega
      simp only [h, h1, h2, h3, decide_true, Bool.true_and]
    · have h1 : ¬ i + a.toNat < a.toNat + wideN a v := by omega
      simp only [h, h1, decide_false, Bool.false_and, Bool.and_false]

set_option maxHeartbeats 1000000 in
theorem refCut_any (x : Nat) (X : Int) (hX : X = x) (a v : Int) (w : World) (hx : x < 18446744073709551616) (hv : -9223372036854775808 ≤ a ∧ a ≤ 9223372036854775807) :
    Calls Try.prog 18 #[.int .u64 X, .int .i64 a, .int .i64 v] w fun e w' => e = .returned (.int .u64 (cutZ x a v : Nat)) ∧ Below w.heap.size w w' := by
  subst hX
  obtain ⟨hv1, hv2⟩ := hv
  go_enter Try.func18, Try.ntmps18
  go_wp2
  go_loopw [8] (fun i wr => ∃ k : Nat, k ≤ 64 ∧ i = .int .i64 k ∧ ArrAt wr w.heap.size (cutTo x a v k) ∧ Below w.heap.size w wr) (fun i _ => 64 - (intOf i).toNat)
  case atStart => exact ⟨0, by omega, rfl, (ArrAt.new w).congr (by simp [cutTo]), (Below.refl _ _).alloc (Nat.le_refl _) _⟩
  case round =>
    obtain ⟨k, hk, rfl, harr, hb⟩ := hrel
    by_cases hlt : k < 64
    · go_wp2_with fail
      refine (refIn_any a v k _ hlt).mono ?_
      rintro e w1 ⟨rfl, rfl⟩
      cases hin : inZ a v k
      · go_wp2_with fail
        go_roundw
        case rel => exact ⟨k + 1, by omega, by go_num, harr.congr (fun i _ => cutTo_out hin i), hb⟩
        case measure => simp [intOf]; omega
      · have hle := inZ_le hlt hin
        obtain ⟨hl1, hl2⟩ := hle
        obtain ⟨m, rfl⟩ := Int.eq_ofNat_of_zero_le hl1
        have hc := harr.cell (i := k - m) (by omega)
        have hf := harr.frozen (k - m)
        have HI : Hid _ := hin
        clear hin
        go_wp2_with fail
        refine (refBit_any x _ rfl _ _ hx).mono ?_
        rintro e w1 ⟨rfl, rfl⟩
        rw [bitIn x k hlt]
        go_wp2_with fail
        go_roundw
        case rel => exact ⟨k + 1, by omega, by go_num, (harr.set (k - m) (x.testBit k)).congr (fun i _ => cutTo_in (by omega) HI.out i), hb.setCell (Nat.le_refl _) _⟩
        case measure => simp [intOf]; omega
    · have e : k = 64 := by omega
      subst e
      go_wp2_with (refine wpList_load_row rfl 48 _ rfl w.heap.size rfl 48 (arrB (cutTo x a v 64)) (0, 0) _ harr Try.underlying48 rfl (Try.size48 _) ?_)
      refine (refOf_any _ _).mono ?_
      rintro e w1 ⟨rfl, hb1⟩
      go_wp2
      go_ret
      exact ⟨retInt (by rw [cutTo_all x a v hx]), hb.trans (hb1.mono hb.size)⟩
end Go.Proofs.Ytkmgjjjlbpapeaa
