/- The walk of the document's With: a new list with one bool set, or the old one. -/
import Derived.Test.YtnihgibgfnhbiaaBRef
namespace Go.Proofs.Ytnihgibgfnhbiaa
open Go.RowKit

theorem bo_set (x : List Bool) (n : Nat) (b : Bool) : bo (x.set n b) = (bo x).set n (.bool b) := by simp [bo, List.map_set]

set_option maxHeartbeats 400000 in
theorem with_any {B : Nat} {v : Value} {x : List Bool} (n : Int) (b : Bool) (w : World) (h : w.ownsRow B 4 1 v x.length (bo x)) (hs : x.length ≤ 4096) (hB : B ≤ w.heap.size) :
    Calls Try.prog 16 #[v, .int .i64 n, .bool b] w fun e w' => ∃ v', e = .returned (.tuple #[v', .bool (mayB x n && (hasB x n != b))]) ∧
      w'.ownsRow B 4 1 v' x.length (bo (putL x n b)) ∧ Below w.heap.size w w' := by
  obtain ⟨i0, hi, hz0, hz1, hz2⟩ := info_parts Try.info4
  obtain ⟨a, c, rfl⟩ := row_slice h
  cases hm : mayB x n
  · have E : Hid (putL x n b = x) := putL_no hm
    simp only [mayB, decide_eq_false_iff_not] at hm
    by_cases h1 : n < 0
    · go_enter Try.func16, Try.ntmps16
      go_wp2
      go_ret2
      exact ⟨_, rfl, by rw [E.out]; exact h, Below.refl _ _⟩
    · have h2 : (x.length : Int) ≤ n := by omega
      have h3 : 0 ≤ n := by omega
      clear hm
      go_enter Try.func16, Try.ntmps16
      go_wp2
      go_ret2
      exact ⟨_, rfl, by rw [E.out]; exact h, Below.refl _ _⟩
  · simp only [mayB, decide_eq_true_eq] at hm
    obtain ⟨k, rfl⟩ := Int.eq_ofNat_of_zero_le hm.1
    have hk : k < x.length := by omega
    have hk' : (k : Int) < (x.length : Int) := by omega
    clear hm
    obtain ⟨g, rfl, hc, hfz, hBg, hgl⟩ := row_at h hk
    rw [bo_at x k hk, ← hasB_nat] at hc
    cases hh : (hasB x k == b)
    · have HH : Hid ((hasB x k != b) = true) := by show _ = _; rw [bne, hh]; rfl
      have HX : Hid ((bo x).length = x.length) := by simp [Hid, bo]
      have hcs : ∀ j u, (bo x)[j]? = some u → w.cell? ((⟨g, 0, none⟩ : Addr).add j) = some u := h.cells rfl
      have HC : Hid _ := hcs
      have Hh : Hid (w.ownsRow B 4 1 (.slice (some ⟨g, 0, none⟩) x.length c) x.length (bo x)) := h
      clear hcs h
      go_enter Try.func16, Try.ntmps16
      go_wp2_with (at_builtin; refine wpList_append_own _ rfl _ _ 31 rfl w.heap.size 4 i0 (.bool false) 1 1 Try.underlying31 hi hz0 hz1 hz2 rfl (by decide) _ _ _ rfl (World.ownsRow_made w #[] 0 (Nat.le_refl _) (by unfold maxLen; omega) rfl) ⟨g, 0, none⟩ x.length c (bo x) rfl (by rw [HX.out]; omega) ?c1 ?c2 ?c3 ?c4 ?c5 ?_)
      case c1 =>
        intro j u hj
        have h1 := HC.out j u hj
        rw [Addr.add_lit] at h1 ⊢
        rw [← h1]
        exact World.cell?_of_block (Below.heap_alloc w _ g hgl)
      case c2 =>
        intro u hu
        obtain ⟨_, _, rfl⟩ := List.mem_map.1 hu
        rfl
      case c3 => unfold maxLen; omega
      case c4 => omega
      case c5 => simp
      intro v' w2 hown' hgr' hnn
      have hnv : ¬ v' = .slice none 0 0 := hnn
      obtain ⟨g', cap', rfl⟩ := row_form hown' hnv
      obtain ⟨hg1, hg2⟩ := hown'.lt g' rfl
      have hc' := hown'.cellAt k (by omega)
      rw [bo_at x k hk] at hc'
      have hfz' := hown'.frozenAt k
      have hb2 : Below w.heap.size w w2 := ((Below.refl _ w).alloc (Nat.le_refl _) _).grown hgr' (by simp) (fun j hj => by simp [Value.ownBlock] at hj; omega)
      obtain ⟨hst, hsg⟩ := hown'.stored k (.bool b)
      have hb3 : Below w.heap.size w (w2.setCell ⟨g', k, none⟩ (.bool b)) := hb2.setCell hg1 _
      have hrow : (w2.setCell ⟨g', k, none⟩ (.bool b)).ownsRow B 4 1 (.slice (some ⟨g', 0, none⟩) x.length cap') x.length (bo (putL x k b)) := by
        have e : putL x k b = x.set k b := by simp [putL]
        rw [e, bo_set]
        exact rowMono hst hB
      have HR : Hid _ := hrow
      clear hrow hst hsg hown' hgr' hnn hnv
      go_wp2
      go_ret2
      exact ⟨_, by rw [HH.out]; rfl, HR.out, hb3⟩
    · have HH : Hid ((hasB x k != b) = false) := by show _ = _; rw [bne, hh]; rfl
      have E : Hid (putL x k b = x) := putL_same (by simpa using hh)
      go_enter Try.func16, Try.ntmps16
      go_wp2
      go_ret2
      exact ⟨_, by rw [HH.out]; rfl, by rw [E.out]; exact h, Below.refl _ _⟩
end Go.Proofs.Ytnihgibgfnhbiaa
