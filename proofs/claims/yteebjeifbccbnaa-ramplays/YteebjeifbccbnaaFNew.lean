/- The walk of New: frames that are all Free, in new memory. -/
import Derived.Test.YteebjeifbccbnaaFSet
import Derived.Deep.OwnRows
import Derived.BigRegion
namespace Go.Proofs.Yteebjeifbccbnaa
open Go.RowKit

theorem rep_set (m k : Nat) : (List.replicate m (0 : Int)).set k 0 = List.replicate m 0 := by
  apply List.ext_getElem?
  intro i
  rw [List.getElem?_set]
  split
  · subst k
    split
    · rename_i h
      have : i < m := by simpa using h
      simp [this]
    · rename_i h
      rw [List.getElem?_eq_none (by omega)]
  · rfl
theorem is_down {T : List Nat} {m : Nat} (hl : T.length = m) (h : ∀ j, j < m → T.getD j 0 = m - 1 - j) : T = down m := by
  apply List.ext_getElem (by rw [hl, down_len])
  intro i h1 h2
  have e1 := h i (by omega)
  have e2 := down_at (m := m) (i := i) (by omega)
  rw [← e2] at e1
  simpa [List.getD, h1, h2] using e1
theorem made_row (w : World) (m : Nat) (hm : m ≤ 96) {B : Nat} (hB : B ≤ w.heap.size) :
    (w.alloc (.cells (madeCells #[Value.int .i64 0] m) 3)).ownsRow B 3 1 (.slice (some ⟨w.heap.size, 0, none⟩) m m) m (List.replicate m (.int .i64 0)) := by
  have h := World.ownsRow_lit (base := B) (e := 3) (size := 1) w (madeCells #[Value.int .i64 0] m) m hB (by unfold maxLen; omega) (by simp [madeCells])
  rw [toList_madeCells_one] at h
  exact h
theorem Parts.made (w : World) (m : Nat) (hm : m ≤ 96) {g1 g2 : Nat} (hg : (g1 = w.heap.size ∧ g2 = w.heap.size + 1) ∨ (g1 = w.heap.size + 1 ∧ g2 = w.heap.size)) :
    Parts w.heap.size (w.heap.size + 3) (((w.alloc (.cells (madeCells #[Value.int .i64 0] m) 3)).alloc (.cells (madeCells #[Value.int .i64 0] m) 3)).alloc (.cells #[.slice (some ⟨g1, 0, none⟩) m m, .slice (some ⟨g2, 0, none⟩) m m, .int .i64 0] 90)).drew
      (w.heap.size + 1 + 1) g1 g2 m 0 (List.replicate m 0) (List.replicate m 0) := by
  have hw := heap_alloc_new ((w.alloc (.cells (madeCells #[Value.int .i64 0] m) 3)).alloc (.cells (madeCells #[Value.int .i64 0] m) 3)) (.cells #[.slice (some ⟨g1, 0, none⟩) m m, .slice (some ⟨g2, 0, none⟩) m m, .int .i64 0] 90)
  have r1 := (((made_row w m hm (Nat.le_refl _)).alloc (.cells (madeCells #[Value.int .i64 0] m) 3)).alloc (.cells #[.slice (some ⟨g1, 0, none⟩) m m, .slice (some ⟨g2, 0, none⟩) m m, .int .i64 0] 90)).drew
  have r2 := ((made_row (w.alloc (.cells (madeCells #[Value.int .i64 0] m) 3)) m hm (B := w.heap.size) (by simp)).alloc (.cells #[.slice (some ⟨g1, 0, none⟩) m m, .slice (some ⟨g2, 0, none⟩) m m, .int .i64 0] 90)).drew
  simp only [World.size_alloc] at hw r2
  have e1 : zv (List.replicate m 0) = List.replicate m (Value.int .i64 0) := by simp [zv]
  have e2 : iv (List.replicate m 0) = List.replicate m (Value.int .i64 0) := by simp [iv]
  refine ⟨hm, by omega, by omega, by omega, by simp [World.drew], by omega, by omega, by omega, ?_, ?_, ?_⟩
  · rw [List.length_replicate]; exact hw
  · rw [e1]
    rcases hg with ⟨rfl, rfl⟩ | ⟨rfl, rfl⟩
    · exact r1
    · exact r2
  · rw [e2, List.length_replicate]
    rcases hg with ⟨rfl, rfl⟩ | ⟨rfl, rfl⟩
    · exact r2
    · exact r1

set_option maxHeartbeats 1000000 in
theorem new_any (m : Nat) (h8 : 8 ≤ m) (hm : m ≤ 96) (w : World) :
    Calls Try.prog 31 #[.int .i64 (m : Nat)] w fun e w' => ∃ p, e = .returned (.tuple #[.pointer p, .int .i64 0]) ∧ FramesP w.heap.size w'.heap.size w' p m 0 (List.replicate m 0) (down m) ∧ Below w.heap.size w w' := by
  have hmk := fun w => run_make_row' (P := Try.prog) 40 3 (.int .i64 0) 8 Try.underlying40 Try.info3 rfl .i64 .i64 m (by omega) (by omega) w
  go_enter Try.func31, Try.ntmps31
  go_wp2_with fail
  go_region
  · have hp := Parts.made w m hm (g1 := w.heap.size) (g2 := w.heap.size + 1) (.inl ⟨rfl, rfl⟩)
    have hb : Below w.heap.size w (((w.alloc (.cells (madeCells #[Value.int .i64 0] m) 3)).alloc (.cells (madeCells #[Value.int .i64 0] m) 3)).alloc (.cells #[.slice (some ⟨w.heap.size, 0, none⟩) m m, .slice (some ⟨w.heap.size + 1, 0, none⟩) m m, .int .i64 0] 90)).drew :=
      ((((Below.refl _ w).alloc (Nat.le_refl _) _).alloc (by simp) _).alloc (by simp; omega) _).drew
    have hz : ((((w.alloc (.cells (madeCells #[Value.int .i64 0] m) 3)).alloc (.cells (madeCells #[Value.int .i64 0] m) 3)).alloc (.cells #[.slice (some ⟨w.heap.size, 0, none⟩) m m, .slice (some ⟨w.heap.size + 1, 0, none⟩) m m, .int .i64 0] 90)).drew).heap.size = w.heap.size + 3 := by simp [World.drew]
    generalize (((w.alloc (.cells (madeCells #[Value.int .i64 0] m) 3)).alloc (.cells (madeCells #[Value.int .i64 0] m) 3)).alloc (.cells #[.slice (some ⟨w.heap.size, 0, none⟩) m m, .slice (some ⟨w.heap.size + 1, 0, none⟩) m m, .int .i64 0] 90)).drew = w1 at *
    obtain ⟨b, hbb⟩ : ∃ b, b = w.heap.size + 1 + 1 := ⟨_, rfl⟩
    obtain ⟨g1, hg1⟩ : ∃ g, g = w.heap.size := ⟨_, rfl⟩
    obtain ⟨g2, hg2⟩ : ∃ g, g = w.heap.size + 1 := ⟨_, rfl⟩
    have HP : Hid (Parts w.heap.size (w.heap.size + 3) w1 b g1 g2 m 0 (List.replicate m 0) (List.replicate m 0)) := by
      subst hbb hg1 hg2
      exact hp
    rw [← hbb]
    have HB : Hid (Below w.heap.size w w1) := hb
    have HZ : Hid _ := hz
    clear hp hb hz hmk hbb hg1 hg2
    go_wp2_with fail
    go_loopw [5, 19] (fun _ i wr => ∃ (k : Nat) (T : List Nat), k ≤ m ∧ i = .int .i64 k ∧ Parts w.heap.size (w.heap.size + 3) wr b g1 g2 m 0 (List.replicate m 0) T ∧ T.length = m ∧ (∀ j, j < k → T.getD j 0 = m - 1 - j) ∧ Below w.heap.size w wr ∧ wr.heap.size = w.heap.size + 3) (fun _ i _ => m - (intOf i).toNat)
    case atStart => exact ⟨0, _, Nat.zero_le _, rfl, HP.out, by simp, by intro j hj; omega, HB.out, HZ.out⟩
    case round =>
      obtain ⟨k, T, hk, rfl, hpr, hl, ha, hbe, hsz⟩ := hrel
      have HPR : Hid (Parts w.heap.size (w.heap.size + 3) wr b g1 g2 m 0 (List.replicate m 0) T) := hpr
      have HL : Hid (T.length = m) := hl
      have HA : Hid _ := ha
      have HBE : Hid _ := hbe
      have HSZ : Hid _ := hsz
      by_cases hlt : k < m
      · have c0 := hpr.cell0
        have c1 := hpr.cell1
        have n1 := hpr.ne1
        have n2 := hpr.ne2
        have n3 := hpr.ne3
        have cO := hpr.cellO hlt
        have cS := hpr.cellS (j := k) (by omega)
        have fO := hpr.frozenO k
        have fS := hpr.frozenS k
        rw [hl] at c1
        generalize (List.replicate m (0 : Int)).getD k 0 = vO at *
        generalize ((T.getD k 0 : Nat) : Int) = vS at *
        have i1 : (k : Int) < (m : Int) := by omega
        clear hl hpr ha hbe hsz
        go_wp2
        go_roundw
        case rel =>
          have e : ((m : Int) - 1 - (k : Int)) = ((m - 1 - k : Nat) : Int) := by omega
          have hp2 := (HPR.out.setO k 0).setS k (m - 1 - k)
          rw [rep_set] at hp2
          refine ⟨k + 1, T.set k (m - 1 - k), by omega, by go_num, ?_, by rw [List.length_set]; exact HL.out, ?_, (HBE.out.setCell (p := ⟨g1, k, none⟩) HPR.out.g1s.1 _).setCell (p := ⟨g2, k, none⟩) HPR.out.g2s.1 _, by simpa using HSZ.out⟩
          · rw [e]; exact hp2
          · intro j hj
            by_cases e : k = j
            · subst e
              simp [List.getD, HL.out, hlt]
            · rw [List.getD_eq_getElem?_getD, List.getElem?_set_ne e, ← List.getD_eq_getElem?_getD]
              exact HA.out j (by omega)
        case measure => simp [intOf]; omega
      · have e : k = m := by omega
        subst e
        clear hl hpr ha hbe hsz
        go_wp2
        go_ret2
        refine ⟨_, rfl, ⟨Good.start k, .inr ⟨b, g1, g2, rfl, ?_⟩⟩, HBE.out⟩
        have e := HPR.out
        rw [is_down HL.out HA.out] at e
        rw [HSZ.out]
        exact e
  · have hp := Parts.made w m hm (g1 := w.heap.size + 1) (g2 := w.heap.size) (.inr ⟨rfl, rfl⟩)
    have hb : Below w.heap.size w (((w.alloc (.cells (madeCells #[Value.int .i64 0] m) 3)).alloc (.cells (madeCells #[Value.int .i64 0] m) 3)).alloc (.cells #[.slice (some ⟨w.heap.size + 1, 0, none⟩) m m, .slice (some ⟨w.heap.size, 0, none⟩) m m, .int .i64 0] 90)).drew :=
      ((((Below.refl _ w).alloc (Nat.le_refl _) _).alloc (by simp) _).alloc (by simp; omega) _).drew
    have hz : ((((w.alloc (.cells (madeCells #[Value.int .i64 0] m) 3)).alloc (.cells (madeCells #[Value.int .i64 0] m) 3)).alloc (.cells #[.slice (some ⟨w.heap.size + 1, 0, none⟩) m m, .slice (some ⟨w.heap.size, 0, none⟩) m m, .int .i64 0] 90)).drew).heap.size = w.heap.size + 3 := by simp [World.drew]
    generalize (((w.alloc (.cells (madeCells #[Value.int .i64 0] m) 3)).alloc (.cells (madeCells #[Value.int .i64 0] m) 3)).alloc (.cells #[.slice (some ⟨w.heap.size + 1, 0, none⟩) m m, .slice (some ⟨w.heap.size, 0, none⟩) m m, .int .i64 0] 90)).drew = w1 at *
    obtain ⟨b, hbb⟩ : ∃ b, b = w.heap.size + 1 + 1 := ⟨_, rfl⟩
    obtain ⟨g1, hg1⟩ : ∃ g, g = w.heap.size + 1 := ⟨_, rfl⟩
    obtain ⟨g2, hg2⟩ : ∃ g, g = w.heap.size := ⟨_, rfl⟩
    have HP : Hid (Parts w.heap.size (w.heap.size + 3) w1 b g1 g2 m 0 (List.replicate m 0) (List.replicate m 0)) := by
      subst hbb hg1 hg2
      exact hp
    rw [← hbb]
    have HB : Hid (Below w.heap.size w w1) := hb
    have HZ : Hid _ := hz
    clear hp hb hz hmk hbb hg1 hg2
    go_wp2_with fail
    go_loopw [5, 19] (fun _ i wr => ∃ (k : Nat) (T : List Nat), k ≤ m ∧ i = .int .i64 k ∧ Parts w.heap.size (w.heap.size + 3) wr b g1 g2 m 0 (List.replicate m 0) T ∧ T.length = m ∧ (∀ j, j < k → T.getD j 0 = m - 1 - j) ∧ Below w.heap.size w wr ∧ wr.heap.size = w.heap.size + 3) (fun _ i _ => m - (intOf i).toNat)
    case atStart => exact ⟨0, _, Nat.zero_le _, rfl, HP.out, by simp, by intro j hj; omega, HB.out, HZ.out⟩
    case round =>
      obtain ⟨k, T, hk, rfl, hpr, hl, ha, hbe, hsz⟩ := hrel
      have HPR : Hid (Parts w.heap.size (w.heap.size + 3) wr b g1 g2 m 0 (List.replicate m 0) T) := hpr
      have HL : Hid (T.length = m) := hl
      have HA : Hid _ := ha
      have HBE : Hid _ := hbe
      have HSZ : Hid _ := hsz
      by_cases hlt : k < m
      · have c0 := hpr.cell0
        have c1 := hpr.cell1
        have n1 := hpr.ne1
        have n2 := hpr.ne2
        have n3 := hpr.ne3
        have cO := hpr.cellO hlt
        have cS := hpr.cellS (j := k) (by omega)
        have fO := hpr.frozenO k
        have fS := hpr.frozenS k
        rw [hl] at c1
        generalize (List.replicate m (0 : Int)).getD k 0 = vO at *
        generalize ((T.getD k 0 : Nat) : Int) = vS at *
        have i1 : (k : Int) < (m : Int) := by omega
        clear hl hpr ha hbe hsz
        go_wp2
        go_roundw
        case rel =>
          have e : ((m : Int) - 1 - (k : Int)) = ((m - 1 - k : Nat) : Int) := by omega
          have hp2 := (HPR.out.setO k 0).setS k (m - 1 - k)
          rw [rep_set] at hp2
          refine ⟨k + 1, T.set k (m - 1 - k), by omega, by go_num, ?_, by rw [List.length_set]; exact HL.out, ?_, (HBE.out.setCell (p := ⟨g1, k, none⟩) HPR.out.g1s.1 _).setCell (p := ⟨g2, k, none⟩) HPR.out.g2s.1 _, by simpa using HSZ.out⟩
          · rw [e]; exact hp2
          · intro j hj
            by_cases e : k = j
            · subst e
              simp [List.getD, HL.out, hlt]
            · rw [List.getD_eq_getElem?_getD, List.getElem?_set_ne e, ← List.getD_eq_getElem?_getD]
              exact HA.out j (by omega)
        case measure => simp [intOf]; omega
      · have e : k = m := by omega
        subst e
        clear hl hpr ha hbe hsz
        go_wp2
        go_ret2
        refine ⟨_, rfl, ⟨Good.start k, .inr ⟨b, g1, g2, rfl, ?_⟩⟩, HBE.out⟩
        have e := HPR.out
        rw [is_down HL.out HA.out] at e
        rw [HSZ.out]
        exact e
theorem new_bad (n : Int) (h : n < 8 ∨ 96 < n) (w : World) :
    Calls Try.prog 31 #[.int .i64 n] w fun e w' => e = .returned (.tuple #[.pointer none, .int .i64 1]) ∧ w = w' := by
  by_cases h1 : n < 8
  · go_enter Try.func31, Try.ntmps31
    go_wp2
    go_ret2
    exact ⟨rfl, rfl⟩
  · have h2 : 96 < n := by omega
    go_enter Try.func31, Try.ntmps31
    go_wp2
    go_ret2
    exact ⟨rfl, rfl⟩
end Go.Proofs.Yteebjeifbccbnaa
