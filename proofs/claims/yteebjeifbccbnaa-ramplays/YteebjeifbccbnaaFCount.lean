/- The walk of Count: each frame is counted once, however often its owner is told. -/
import Derived.Test.YteebjeifbccbnaaFSet
import Derived.Test.YteebjeifbccbnaaBOpen
import Derived.BigRegion
namespace Go.Proofs.Yteebjeifbccbnaa
open Go.RowKit

def askCells (p : Nat → Bool) : Array Value := #[.bool (p 0), .bool (p 1), .bool (p 2), .bool (p 3)]
theorem askCells_at (p : Nat → Bool) : ∀ {j : Nat}, j < 4 → (askCells p)[j]? = some (.bool (p j))
  | 0, _ | 1, _ | 2, _ | 3, _ => rfl
theorem askCells_set (p : Nat → Bool) : ∀ {j : Nat}, j < 4 → (askCells p).setIfInBounds j (.bool true) = askCells (fun i => if i = j then true else p i)
  | 0, _ | 1, _ | 2, _ | 3, _ => rfl
theorem askCells_congr {p q : Nat → Bool} (h : ∀ j, j < 4 → p j = q j) : askCells p = askCells q := by
  unfold askCells; rw [h 0 (by omega), h 1 (by omega), h 2 (by omega), h 3 (by omega)]
def askP (zs : List Int) (k j : Nat) : Bool := decide ((j : Int) ∈ zs.take k)
theorem take_next {zs : List Int} {k : Nat} (hk : k < zs.length) : zs.take (k + 1) = zs.take k ++ [zs.getD k 0] := by
  rw [List.take_add_one, List.getElem?_eq_getElem hk, List.getD_eq_getElem?_getD, List.getElem?_eq_getElem hk]; rfl
theorem askP_yes {zs : List Int} {k z : Nat} (hk : k < zs.length) (hz : zs.getD k 0 = (z : Int)) (j : Nat) : askP zs (k + 1) j = if j = z then true else askP zs k j := by
  unfold askP
  rw [take_next hk, hz]
  by_cases e : j = z
  · subst e; simp
  · rw [if_neg e]
    have : ¬ (j : Int) = (z : Int) := by omega
    simp [this]
theorem askP_no {zs : List Int} {k j : Nat} (hk : k < zs.length) (hz : isO (zs.getD k 0) = false) (hj : j < 4) : askP zs (k + 1) j = askP zs k j := by
  unfold askP
  rw [take_next hk]
  have h1 := of_decide_eq_false hz
  have : ¬ (j : Int) = zs.getD k 0 := by omega
  simp only [List.mem_append, List.mem_singleton, this, or_false]

set_option maxHeartbeats 1000000 in
theorem count_any {B E m t : Nat} {p : Option Addr} {O : List Int} {S : List Nat} (a : Option Addr) (L c : Nat) (zs : List Int) (w : World) (h : FramesP B E w p m t O S) (hz : IntsAt .i64 w a zs) (hzl : zs.length = L) (hL : L ≤ 1000) :
    Calls Try.prog 39 #[.pointer p, .slice a L c] w fun e w' => e = .returned (.int .i64 (cnt O zs : Nat)) ∧ Below w.heap.size w w' := by
  have hsm := h.small
  have HL : Hid (O.length = m) := h.good.len
  have HOW : Hid _ := h.good.own
  have H : Hid (FramesP B E w p m t O S) := h
  have HZ : Hid (IntsAt .i64 w a zs) := hz
  have HZL : Hid (zs.length = L) := hzl
  clear h hz hzl
  go_enter Try.func39, Try.ntmps39
  go_wp2_with fail
  go_loopw [7, 12] (fun _ i wr => ∃ k : Nat, k ≤ L ∧ i = .int .i64 k ∧ wr.heap[w.heap.size]? = some (.cells (askCells (askP zs k)) 95 (0, 0)) ∧ Below w.heap.size w wr) (fun _ i _ => L - (intOf i).toNat)
  case atStart => exact ⟨0, Nat.zero_le _, rfl, by rw [heap_alloc_new]; simp [askCells, askP], (Below.refl _ _).alloc (Nat.le_refl _) _⟩
  case round =>
    obtain ⟨k, hk, rfl, hc, hb⟩ := hrel
    have HC : Hid (wr.heap[w.heap.size]? = some (.cells (askCells (askP zs k)) 95 (0, 0))) := hc
    by_cases hlt : k < L
    · obtain ⟨bz, off, rfl, cz⟩ := HZ.out.later hb (i := k) (by have := HZL.out; omega)
      have hkz : k < zs.length := by have := HZL.out; omega
      have i1 : (k : Int) < (L : Int) := by omega
      cases hO : isO (zs.getD k 0) with
      | true =>
        obtain ⟨z1, z2⟩ := of_decide_eq_true hO
        obtain ⟨z, hz⟩ := Int.eq_ofNat_of_zero_le z1
        rw [hz] at cz hO z2
        have z4 : z < 4 := by omega
        have cA := cell_of_row wr w.heap.size z _ _ _ hc
        rw [askCells_at _ z4] at cA
        have fA := frozen_of_row wr w.heap.size z _ _ hc
        have HO : Hid (isO (z : Int) = true) := hO
        have HV : Hid (zs.getD k 0 = (z : Int)) := hz
        generalize askP zs k z = q at *
        clear hO z1 hz hc hkz
        go_wp2_with (go_at_call 49; refine (isOwner_is _ _ HO.out).mono ?_; rintro e w' ⟨rfl, rfl⟩)
        go_roundw
        case rel =>
          refine ⟨k + 1, by omega, by go_num, ?_, hb.setCell (p := ⟨w.heap.size, z, none⟩) (Nat.le_refl _) _⟩
          rw [heap_setCell_same _ _ _ _ _ _ HC.out, askCells_set _ z4]
          congr 2
          apply askCells_congr
          intro j _
          exact (askP_yes (by have := HZL.out; omega) HV.out j).symm
        case measure => simp [intOf]; omega
      | false =>
        have HO : Hid (isO (zs.getD k 0) = false) := hO
        generalize hz : zs.getD k 0 = z at *
        have HV : Hid _ := hz
        clear hO hz hc hkz
        go_wp2_with (go_at_call 49; refine (isOwner_is _ _ HO.out).mono ?_; rintro e w' ⟨rfl, rfl⟩)
        go_roundw
        case rel =>
          refine ⟨k + 1, by omega, by go_num, ?_, hb⟩
          rw [HC.out]
          congr 2
          apply askCells_congr
          intro j hj
          exact (askP_no (by have := HZL.out; omega) (by rw [HV.out]; exact HO.out) hj).symm
        case measure => simp [intOf]; omega
    · have e : k = L := by omega
      subst e
      have HA : Hid (wr.heap[w.heap.size]? = some (.cells (askCells (fun j => decide ((j : Int) ∈ zs))) 95 (0, 0))) := by
        show _ = _
        rw [HC.out]
        congr 2
        apply askCells_congr
        intro j _
        rw [askP, List.take_of_length_le (by rw [HZL.out]; omega)]
      have H2 : Hid (FramesP B E wr p m t O S) := H.out.below hb
      clear hc
      go_wp2_with (go_at_call 42; refine (many_any _ H2.out).mono ?_; rintro e w' ⟨rfl, rfl⟩)
      go_loopw [8, 9, 23] (fun n _ i wq => ∃ j : Nat, j ≤ m ∧ i = .int .i64 j ∧ n = .int .i64 (cntTo O zs j : Nat) ∧ wr = wq) (fun _ _ i _ => m - (intOf i).toNat)
      case atStart => exact ⟨0, Nat.zero_le _, rfl, rfl, rfl⟩
      case round =>
        obtain ⟨j, hj, rfl, rfl, rfl⟩ := hrel
        have hcl := cntTo_le O zs j
        by_cases hlt : j < m
        · rcases H2.out.2 with ⟨_, rfl, _⟩ | ⟨b, g1, g2, rfl, hp⟩
          · omega
          have c0 := hp.cell0
          have cO := hp.cellO hlt
          have i1 : (j : Int) < (m : Int) := by omega
          obtain ⟨o1, o2⟩ := HOW.out j
          obtain ⟨q, hq⟩ := Int.eq_ofNat_of_zero_le o1
          have hq4 : q < 4 := by omega
          have hq4' : (q : Int) < 4 := by omega
          have cA := cell_of_row wr w.heap.size q _ _ _ HA.out
          rw [askCells_at _ hq4] at cA
          rw [hq] at cO
          by_cases hin : (q : Int) ∈ zs
          · have HT : Hid _ := cntTo_yes (O := O) (zs := zs) (k := j) (by rw [hq]; exact hin)
            rw [decide_eq_true hin] at cA
            generalize hN : cntTo O zs j = N at *
            clear hN hp hq hin o1 o2
            go_wp2
            go_roundw
            case rel => exact ⟨j + 1, by omega, by go_num, by rw [HT.out]; go_num, trivial⟩
            case measure => simp [intOf]; omega
          · have HT : Hid _ := cntTo_no (O := O) (zs := zs) (k := j) (by rw [hq]; exact hin)
            rw [decide_eq_false hin] at cA
            generalize hN : cntTo O zs j = N at *
            clear hN hp hq hin o1 o2
            go_wp2
            go_roundw
            case rel => exact ⟨j + 1, by omega, by go_num, by rw [HT.out], trivial⟩
            case measure => simp [intOf]; omega
        · have e : j = m := by omega
          subst e
          go_wp2
          go_ret
          exact ⟨retInt (by rw [cnt, HL.out]), hb⟩
theorem IntsAt.made (w : World) (zs : List Int) (c : Array Value) (hc : c = (zv zs).toArray) : IntsAt .i64 (w.alloc (.cells c 3)) (some ⟨w.heap.size, 0, none⟩) zs := by
  subst hc
  by_cases h0 : zs = []
  · exact .inl h0
  · refine .inr ⟨w.heap.size, 0, rfl, by simp, fun i hi => ?_⟩
    rw [Nat.zero_add, cell_of_row _ w.heap.size i _ _ _ (heap_alloc_new w _)]
    have := zv_at zs i hi
    simpa using this
theorem count_is {B E m t : Nat} {p : Option Addr} {O : List Int} {S : List Nat} {a : Option Addr} {L c : Nat} {zs : List Int} (w : World) (h : FramesP B E w p m t O S) (hz : IntsAt .i64 w a zs) (hzl : zs.length = L) (hL : L ≤ 1000) {n : Nat} (hn : cnt O zs = n) :
    Calls Try.prog 39 #[.pointer p, .slice a L c] w fun e w' => e = .returned (.int .i64 (n : Nat)) ∧ Below w.heap.size w w' := by
  rw [← hn]; exact count_any a L c zs w h hz hzl hL
end Go.Proofs.Yteebjeifbccbnaa
