/- The walk of New: a chain without numbers, in new memory. -/
import Derived.Test.YtbdffiomciogiaaCSet
import Derived.Deep.OwnRows
import Derived.BigRegion
namespace Go.Proofs.Ytbdffiomciogiaa
open Go.RowKit

def szN (n : Int) : Nat := if n < 0 then 0 else if 4096 < n then 4096 else n.toNat
theorem szN_le (n : Int) : szN n ≤ 4096 := by unfold szN; split <;> (try split) <;> omega
theorem szN_is (n : Int) : (if 4096 < (if 0 > n then (0 : Int) else n) then (4096 : Int) else (if 0 > n then (0 : Int) else n)) = (szN n : Nat) := by
  unfold szN
  by_cases h : n < 0
  · rw [if_pos (show 0 > n from h), if_pos h, if_neg (by omega)]; rfl
  · rw [if_neg (show ¬ 0 > n from h), if_neg h]
    by_cases h2 : 4096 < n
    · rw [if_pos h2, if_pos h2]; rfl
    · rw [if_neg h2, if_neg h2]; omega
theorem Try.info3 : (Try.prog.info? 3).map (fun i => (i.zero, i.size, i.bytes)) = some (some (.int .i64 0), 1, 8) := by kernel_rfl
theorem Ring.start {m : Nat} {N O : List Int} (hN : N.length = m + 1) (hO : O.length = m + 1) (h : ∀ n, n < m → N.getD n 0 = -1) : Ring m (N.set m m) (O.set m m) [] := by
  refine ⟨by simp [hN], by simp [hO], ⟨?_, ?_⟩, List.nodup_nil, by simp, ?_⟩
  · rw [getD_set _ _ _ _ (by omega), if_pos rfl]
  · rw [getD_set _ _ _ _ (by omega), if_pos rfl]
  · intro n hn _
    rw [getD_set _ _ _ _ (by omega), if_neg (by omega)]
    exact h n hn

theorem made_row (w : World) (m : Nat) (hm : m ≤ 4096) {B : Nat} (hB : B ≤ w.heap.size) :
    (w.alloc (.cells (madeCells #[Value.int .i64 0] (m + 1)) 3)).ownsRow B 3 1 (.slice (some ⟨w.heap.size, 0, none⟩) (m + 1) (m + 1)) (m + 1) (zv (List.replicate (m + 1) 0)) := by
  have h := World.ownsRow_lit (base := B) (e := 3) (size := 1) w (madeCells #[Value.int .i64 0] (m + 1)) (m + 1) hB (by unfold maxLen; omega) (by simp [madeCells])
  rw [toList_madeCells_one] at h
  have e : zv (List.replicate (m + 1) 0) = List.replicate (m + 1) (Value.int .i64 0) := by simp [zv]
  rw [e]
  exact h
theorem Parts.made (w : World) (m : Nat) (hm : m ≤ 4096) {g1 g2 : Nat} (hg : (g1 = w.heap.size ∧ g2 = w.heap.size + 1) ∨ (g1 = w.heap.size + 1 ∧ g2 = w.heap.size)) :
    Parts w.heap.size (w.heap.size + 3) (((w.alloc (.cells (madeCells #[Value.int .i64 0] (m + 1)) 3)).alloc (.cells (madeCells #[Value.int .i64 0] (m + 1)) 3)).alloc (.cells #[.slice (some ⟨g1, 0, none⟩) (m + 1) (m + 1), .slice (some ⟨g2, 0, none⟩) (m + 1) (m + 1), .int .i64 0] 45)).drew
      (w.heap.size + 1 + 1) g1 g2 m 0 (List.replicate (m + 1) 0) (List.replicate (m + 1) 0) := by
  have hw := heap_alloc_new ((w.alloc (.cells (madeCells #[Value.int .i64 0] (m + 1)) 3)).alloc (.cells (madeCells #[Value.int .i64 0] (m + 1)) 3)) (.cells #[.slice (some ⟨g1, 0, none⟩) (m + 1) (m + 1), .slice (some ⟨g2, 0, none⟩) (m + 1) (m + 1), .int .i64 0] 45)
  have r1 := (((made_row w m hm (Nat.le_refl _)).alloc (.cells (madeCells #[Value.int .i64 0] (m + 1)) 3)).alloc (.cells #[.slice (some ⟨g1, 0, none⟩) (m + 1) (m + 1), .slice (some ⟨g2, 0, none⟩) (m + 1) (m + 1), .int .i64 0] 45)).drew
  have r2 := ((made_row (w.alloc (.cells (madeCells #[Value.int .i64 0] (m + 1)) 3)) m hm (B := w.heap.size) (by simp)).alloc (.cells #[.slice (some ⟨g1, 0, none⟩) (m + 1) (m + 1), .slice (some ⟨g2, 0, none⟩) (m + 1) (m + 1), .int .i64 0] 45)).drew
  simp only [World.size_alloc] at hw r2
  refine ⟨hm, by omega, by omega, by omega, by simp [World.drew], by omega, by omega, by omega, ?_, ?_, ?_⟩
  · exact hw
  · rcases hg with ⟨rfl, rfl⟩ | ⟨rfl, rfl⟩
    · exact r1
    · exact r2
  · rcases hg with ⟨rfl, rfl⟩ | ⟨rfl, rfl⟩
    · exact r2
    · exact r1

set_option maxHeartbeats 1000000 in
theorem new_any (n : Int) (w : World) :
    Calls Try.prog 12 #[.int .i64 n] w fun e w' => ∃ p, e = .returned (.pointer p) ∧ ChainP w.heap.size w'.heap.size w' p (szN n) [] ∧ Below w.heap.size w w' := by
  have hm := szN_le n
  have hsz := szN_is n
  obtain ⟨a, ha⟩ : ∃ a, a = if 0 > n then (0 : Int) else n := ⟨_, rfl⟩
  have hmax : ∀ (ts : Array TypeId) (t : TypeId) (w : World), (Builtin.max_ ts t #[.int .i64 n, .int .i64 0]).run Try.prog w = .ok (.int .i64 a) w := by
    intro ts t w
    rw [run_max_int2, ← ha]
  rw [← ha] at hsz
  generalize szN n = m at *
  have hmin : ∀ (ts : Array TypeId) (t : TypeId) (w : World), (Builtin.min_ ts t #[.int .i64 a, .int .i64 4096]).run Try.prog w = .ok (.int .i64 m) w := by
    intro ts t w
    rw [run_min_int2, hsz]
  have hmk := fun w => run_make_row' (P := Try.prog) 22 3 (.int .i64 0) 8 Try.underlying22 Try.info3 rfl .i64 .i64 (m + 1) (by omega) (by omega) w
  rw [show ((m + 1 : Nat) : Int) = (m : Int) + 1 from by simp] at hmk
  clear ha hsz
  go_enter Try.func12, Try.ntmps12
  go_wp2_with fail
  go_region
  · have hp := Parts.made w m hm (g1 := w.heap.size) (g2 := w.heap.size + 1) (.inl ⟨rfl, rfl⟩)
    have hb : Below w.heap.size w (((w.alloc (.cells (madeCells #[Value.int .i64 0] (m + 1)) 3)).alloc (.cells (madeCells #[Value.int .i64 0] (m + 1)) 3)).alloc (.cells #[.slice (some ⟨w.heap.size, 0, none⟩) (m + 1) (m + 1), .slice (some ⟨w.heap.size + 1, 0, none⟩) (m + 1) (m + 1), .int .i64 0] 45)).drew :=
      ((((Below.refl _ w).alloc (Nat.le_refl _) _).alloc (by simp) _).alloc (by simp; omega) _).drew
    have hz : ((((w.alloc (.cells (madeCells #[Value.int .i64 0] (m + 1)) 3)).alloc (.cells (madeCells #[Value.int .i64 0] (m + 1)) 3)).alloc (.cells #[.slice (some ⟨w.heap.size, 0, none⟩) (m + 1) (m + 1), .slice (some ⟨w.heap.size + 1, 0, none⟩) (m + 1) (m + 1), .int .i64 0] 45)).drew).heap.size = w.heap.size + 3 := by simp [World.drew]
    generalize (((w.alloc (.cells (madeCells #[Value.int .i64 0] (m + 1)) 3)).alloc (.cells (madeCells #[Value.int .i64 0] (m + 1)) 3)).alloc (.cells #[.slice (some ⟨w.heap.size, 0, none⟩) (m + 1) (m + 1), .slice (some ⟨w.heap.size + 1, 0, none⟩) (m + 1) (m + 1), .int .i64 0] 45)).drew = w1 at *
    obtain ⟨b, hbb⟩ : ∃ b, b = w.heap.size + 1 + 1 := ⟨_, rfl⟩
    obtain ⟨g1, hg1⟩ : ∃ g, g = w.heap.size := ⟨_, rfl⟩
    obtain ⟨g2, hg2⟩ : ∃ g, g = w.heap.size + 1 := ⟨_, rfl⟩
    have HP : Hid (Parts w.heap.size (w.heap.size + 3) w1 b g1 g2 m 0 (List.replicate (m + 1) 0) (List.replicate (m + 1) 0)) := by
      subst hbb hg1 hg2
      exact hp
    rw [← hbb]
    have HB : Hid (Below w.heap.size w w1) := hb
    have HZ : Hid _ := hz
    clear hp hb hz hmk hmax hmin hbb hg1 hg2
    go_wp2_with fail
    go_loopw [4, 17] (fun _ i wr => ∃ (k : Nat) (N : List Int), k ≤ m ∧ i = .int .i64 k ∧ Parts w.heap.size (w.heap.size + 3) wr b g1 g2 m 0 N (List.replicate (m + 1) 0) ∧ (∀ j, j < k → N.getD j 0 = -1) ∧ Turns w.heap.size (w.heap.size + 3) w1 wr) (fun _ i _ => m - (intOf i).toNat)
    case atStart => exact ⟨0, _, Nat.zero_le _, rfl, HP.out, by intro j hj; omega, Turns.refl _ _ _⟩
    case round =>
      obtain ⟨k, N, hk, rfl, hpr, hl, ht⟩ := hrel
      have HL : Hid _ := hl
      have HPR : Hid (Parts w.heap.size (w.heap.size + 3) wr b g1 g2 m 0 N (List.replicate (m + 1) 0)) := hpr
      have c0 := hpr.cell0
      have c1 := hpr.cell1
      have n1 := hpr.ne1
      have n2 := hpr.ne2
      have n3 := hpr.ne3
      by_cases hlt : k < m
      · have cN := hpr.cellN (Nat.le_of_lt hlt)
        have fN := hpr.frozenN k
        generalize N.getD k 0 = vN at *
        have i1 : (k : Int) < ((m + 1 : Nat) : Int) := by omega
        clear hl hpr
        go_wp2
        go_roundw
        case rel =>
          refine ⟨k + 1, N.set k (-1), by omega, by go_num, HPR.out.setN k (-1), ?_, ht.setCell HPR.out.g1s.1 HPR.out.g1s.2 _⟩
          intro j hj
          rw [getD_set _ _ _ _ (by rw [HPR.out.nl]; omega)]
          by_cases e : k = j
          · rw [if_pos e]
          · rw [if_neg e]; exact HL.out j (by omega)
        case measure => simp [intOf]; omega
      · have e : k = m := by omega
        subst e
        have cN := hpr.cellN (Nat.le_refl k)
        have cO := hpr.cellO (Nat.le_refl k)
        have fN := hpr.frozenN k
        have fO := hpr.frozenO k
        have i1 : (k : Int) < ((k + 1 : Nat) : Int) := by omega
        generalize N.getD k 0 = vN at *
        generalize (List.replicate (k + 1) (0 : Int)).getD k 0 = vO at *
        clear hl hpr
        go_wp2_with fail
        go_region
        all_goals
          go_wp2
          go_ret
          have ht2 := ((ht.setCell (p := ⟨g1, k, none⟩) HPR.out.g1s.1 HPR.out.g1s.2 (.int .i64 k)).setCell (p := ⟨g2, k, none⟩) HPR.out.g2s.1 HPR.out.g2s.2 (.int .i64 k)).drew
          refine ⟨_, rfl, .inr ⟨b, g1, g2, rfl, _, _, Ring.start HPR.out.nl HPR.out.ol HL.out, ?_⟩, HB.out.trans ht2.below⟩
          have e : ((wr.setCell ⟨g1, k, none⟩ (.int .i64 k)).setCell ⟨g2, k, none⟩ (.int .i64 k)).drew.heap.size = w.heap.size + 3 := ht2.size.trans HZ.out
          rw [e]
          exact ((HPR.out.setN k k).setO k k).drew
  · have hp := Parts.made w m hm (g1 := w.heap.size + 1) (g2 := w.heap.size) (.inr ⟨rfl, rfl⟩)
    have hb : Below w.heap.size w (((w.alloc (.cells (madeCells #[Value.int .i64 0] (m + 1)) 3)).alloc (.cells (madeCells #[Value.int .i64 0] (m + 1)) 3)).alloc (.cells #[.slice (some ⟨w.heap.size + 1, 0, none⟩) (m + 1) (m + 1), .slice (some ⟨w.heap.size, 0, none⟩) (m + 1) (m + 1), .int .i64 0] 45)).drew :=
      ((((Below.refl _ w).alloc (Nat.le_refl _) _).alloc (by simp) _).alloc (by simp; omega) _).drew
    have hz : ((((w.alloc (.cells (madeCells #[Value.int .i64 0] (m + 1)) 3)).alloc (.cells (madeCells #[Value.int .i64 0] (m + 1)) 3)).alloc (.cells #[.slice (some ⟨w.heap.size + 1, 0, none⟩) (m + 1) (m + 1), .slice (some ⟨w.heap.size, 0, none⟩) (m + 1) (m + 1), .int .i64 0] 45)).drew).heap.size = w.heap.size + 3 := by simp [World.drew]
    generalize (((w.alloc (.cells (madeCells #[Value.int .i64 0] (m + 1)) 3)).alloc (.cells (madeCells #[Value.int .i64 0] (m + 1)) 3)).alloc (.cells #[.slice (some ⟨w.heap.size + 1, 0, none⟩) (m + 1) (m + 1), .slice (some ⟨w.heap.size, 0, none⟩) (m + 1) (m + 1), .int .i64 0] 45)).drew = w1 at *
    obtain ⟨b, hbb⟩ : ∃ b, b = w.heap.size + 1 + 1 := ⟨_, rfl⟩
    obtain ⟨g1, hg1⟩ : ∃ g, g = w.heap.size + 1 := ⟨_, rfl⟩
    obtain ⟨g2, hg2⟩ : ∃ g, g = w.heap.size := ⟨_, rfl⟩
    have HP : Hid (Parts w.heap.size (w.heap.size + 3) w1 b g1 g2 m 0 (List.replicate (m + 1) 0) (List.replicate (m + 1) 0)) := by
      subst hbb hg1 hg2
      exact hp
    rw [← hbb]
    have HB : Hid (Below w.heap.size w w1) := hb
    have HZ : Hid _ := hz
    clear hp hb hz hmk hmax hmin hbb hg1 hg2
    go_wp2_with fail
    go_loopw [4, 17] (fun _ i wr => ∃ (k : Nat) (N : List Int), k ≤ m ∧ i = .int .i64 k ∧ Parts w.heap.size (w.heap.size + 3) wr b g1 g2 m 0 N (List.replicate (m + 1) 0) ∧ (∀ j, j < k → N.getD j 0 = -1) ∧ Turns w.heap.size (w.heap.size + 3) w1 wr) (fun _ i _ => m - (intOf i).toNat)
    case atStart => exact ⟨0, _, Nat.zero_le _, rfl, HP.out, by intro j hj; omega, Turns.refl _ _ _⟩
    case round =>
      obtain ⟨k, N, hk, rfl, hpr, hl, ht⟩ := hrel
      have HL : Hid _ := hl
      have HPR : Hid (Parts w.heap.size (w.heap.size + 3) wr b g1 g2 m 0 N (List.replicate (m + 1) 0)) := hpr
      have c0 := hpr.cell0
      have c1 := hpr.cell1
      have n1 := hpr.ne1
      have n2 := hpr.ne2
      have n3 := hpr.ne3
      by_cases hlt : k < m
      · have cN := hpr.cellN (Nat.le_of_lt hlt)
        have fN := hpr.frozenN k
        generalize N.getD k 0 = vN at *
        have i1 : (k : Int) < ((m + 1 : Nat) : Int) := by omega
        clear hl hpr
        go_wp2
        go_roundw
        case rel =>
          refine ⟨k + 1, N.set k (-1), by omega, by go_num, HPR.out.setN k (-1), ?_, ht.setCell HPR.out.g1s.1 HPR.out.g1s.2 _⟩
          intro j hj
          rw [getD_set _ _ _ _ (by rw [HPR.out.nl]; omega)]
          by_cases e : k = j
          · rw [if_pos e]
          · rw [if_neg e]; exact HL.out j (by omega)
        case measure => simp [intOf]; omega
      · have e : k = m := by omega
        subst e
        have cN := hpr.cellN (Nat.le_refl k)
        have cO := hpr.cellO (Nat.le_refl k)
        have fN := hpr.frozenN k
        have fO := hpr.frozenO k
        have i1 : (k : Int) < ((k + 1 : Nat) : Int) := by omega
        generalize N.getD k 0 = vN at *
        generalize (List.replicate (k + 1) (0 : Int)).getD k 0 = vO at *
        clear hl hpr
        go_wp2_with fail
        go_region
        all_goals
          go_wp2
          go_ret
          have ht2 := ((ht.setCell (p := ⟨g1, k, none⟩) HPR.out.g1s.1 HPR.out.g1s.2 (.int .i64 k)).setCell (p := ⟨g2, k, none⟩) HPR.out.g2s.1 HPR.out.g2s.2 (.int .i64 k)).drew
          refine ⟨_, rfl, .inr ⟨b, g1, g2, rfl, _, _, Ring.start HPR.out.nl HPR.out.ol HL.out, ?_⟩, HB.out.trans ht2.below⟩
          have e : ((wr.setCell ⟨g1, k, none⟩ (.int .i64 k)).setCell ⟨g2, k, none⟩ (.int .i64 k)).drew.heap.size = w.heap.size + 3 := ht2.size.trans HZ.out
          rw [e]
          exact ((HPR.out.setN k k).setO k k).drew
end Go.Proofs.Ytbdffiomciogiaa
