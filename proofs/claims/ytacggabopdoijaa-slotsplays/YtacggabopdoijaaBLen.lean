/- The walk of Len: how many numbers are in it. -/
import Derived.Test.YtacggabopdoijaaBPop
namespace Go.Proofs.Ytacggabopdoijaa
open Go.RowKit

/-- The numbers below k that are in it, rising. -/
def allTo (x : List Bool) (k : Nat) : List Nat := (List.range k).filter fun i => x.getD i false
def allL (x : List Bool) : List Nat := allTo x x.length
theorem allTo_succ (x : List Bool) (k : Nat) : allTo x (k + 1) = allTo x k ++ if x.getD k false then [k] else [] := by
  unfold allTo
  rw [List.range_succ, List.filter_append]
  simp only [List.getD_eq_getElem?_getD]
  cases h : x[k]?.getD false <;> simp [h]
theorem allTo_len (x : List Bool) (k : Nat) : (allTo x k).length ≤ k := by
  have := List.length_filter_le (fun i => x.getD i false) (List.range k)
  simpa [allTo] using this
theorem allTo_past (x : List Bool) (k m : Nat) (h : x.length ≤ k) : allTo x (k + m) = allTo x k := by
  induction m with
  | zero => rfl
  | succ m ih =>
    rw [← Nat.add_assoc, allTo_succ, ih]
    have : x.getD (k + m) false = false := by simp [List.getD, List.getElem?_eq_none (show x.length ≤ k + m by omega)]
    rw [this]
    simp
theorem allTo_ge (x : List Bool) (k : Nat) (h : x.length ≤ k) : allTo x k = allL x := by
  have := allTo_past x x.length (k - x.length) (Nat.le_refl _)
  rw [show x.length + (k - x.length) = k by omega] at this
  exact this

def sumPop (ws : List Nat) : Nat → Nat
  | 0 => 0
  | k + 1 => sumPop ws k + pop (ws.getD k 0)
theorem sumPop_le (ws : List Nat) (k : Nat) : sumPop ws k ≤ 64 * k := by
  induction k with
  | zero => simp [sumPop]
  | succ k ih =>
    have := pop_le (ws.getD k 0)
    rw [sumPop]
    omega
theorem sumPop_all {ws : List Nat} {x : List Bool} (h : Fits ws x) (k : Nat) (hk : k ≤ ws.length) : sumPop ws k = (allTo x (64 * k)).length := by
  induction k with
  | zero => simp [sumPop, allTo]
  | succ k ih =>
    rw [sumPop, ih (by omega)]
    unfold allTo
    rw [show 64 * (k + 1) = 64 * k + 64 by omega, List.range_add, List.filter_append, List.length_append]
    congr 1
    unfold pop
    rw [← List.countP_eq_length_filter, List.countP_map]
    apply List.countP_congr
    intro i hi
    have hi' : i < 64 := by simpa using hi
    rw [h.bit k i (by omega) hi']
    rfl
theorem sumPop_end {ws : List Nat} {x : List Bool} (h : Fits ws x) : sumPop ws ws.length = (allL x).length := by
  rw [sumPop_all h _ (Nat.le_refl _), allTo_ge]
  have := h.len
  omega

set_option maxHeartbeats 400000 in
theorem len_any {B : Nat} {p : Option Addr} {r : Option Nat} {x : List Bool} (w : World) (h : SetP B w p r x) :
    Calls Try.prog 32 #[.pointer p] w fun e w' => e = .returned (.int .i64 ((allL x).length : Nat)) ∧ w = w' := by
  rcases h with ⟨rfl, _, rfl⟩ | ⟨b, g, rfl, _, h⟩
  · go_enter Try.func32, Try.ntmps32
    go_wp2
    go_ret
    exact ⟨rfl, rfl⟩
  · have hs := h.small
    have h1 := h.words0
    obtain ⟨ws, hf, ho⟩ := h.row
    have hlen := hf.len
    have hc : ∀ j, j < ws.length → w.cell? ⟨g, j, none⟩ = some (.int .u64 ((ws.getD j 0 : Nat) : Int)) := by
      intro j hj
      rw [ho.cellAt j (by omega)]
      simp [wv, List.getD, hj]
    rw [← hlen] at h1
    have hW : ws.length ≤ 64 := by omega
    have HC : Hid _ := hc
    have HF : Hid _ := hf
    generalize hL : ws.length = W at *
    have HL : Hid _ := hL
    clear hc ho h hL hlen hf
    go_enter Try.func32, Try.ntmps32
    go_wp2
    go_loop [3, 5, 13] (fun t _ i => ∃ k : Nat, k ≤ W ∧ i = .int .i64 k ∧ t = .int .i64 (sumPop ws k : Nat)) (fun _ _ i => W - (intOf i).toNat)
    case atStart => exact ⟨0, Nat.zero_le _, rfl, rfl⟩
    case round =>
      obtain ⟨k, hk, rfl, rfl⟩ := hrel
      have hle := sumPop_le ws k
      have HS : Hid (sumPop ws (k + 1) = sumPop ws k + pop (ws.getD k 0)) := rfl
      by_cases hlt : k < W
      · have hcell := HC.out k hlt
        have hp := pop_le (ws.getD k 0)
        have hq := HF.out.wlt k
        generalize ws.getD k 0 = q at *
        generalize sumPop ws k = s at *
        go_wp2_with (go_at_call 47; refine (ones_any q _ hq).mono ?_; rintro e w' ⟨rfl, rfl⟩)
        go_round
        case rel => exact ⟨k + 1, by omega, by go_num, by rw [HS.out]; go_num⟩
        case measure => simp [intOf]; omega
      · have e : k = W := by omega
        subst e
        go_wp2
        go_ret
        refine ⟨retInt ?_, rfl⟩
        rw [← sumPop_end HF.out, HL.out]
end Go.Proofs.Ytacggabopdoijaa
