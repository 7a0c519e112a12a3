/- A packed page with bytes behind, or cut off, is none: plain facts. -/
import Derived.Test.YtmpocmfnpipehaaQPack
namespace Go.Proofs.Ytmpocmfnpipehaa

/-- A token that is told is told of longer bytes, too. -/
theorem take_more {b : List Nat} {a : Nat} (r : List Nat) (he : (takeA b (a : Int)).e = 0) : takeA (b ++ r) (a : Int) = takeA b (a : Int) := by
  by_cases h0 : a < b.length
  · have h1 : a < (b ++ r).length := by rw [List.length_append]; omega
    have hg : ∀ i, i < b.length → (b ++ r).getD i 0 = b.getD i 0 := fun i hi => by
      rw [List.getD_eq_getElem?_getD, List.getElem?_append_left hi, ← List.getD_eq_getElem?_getD]
    rw [take_in h0] at he ⊢
    rw [take_in h1]
    unfold takeN at he ⊢
    rw [hg a h0]
    split at he
    · split at he
      · rename_i h2 h3
        rw [if_pos h2, if_pos h2, if_pos h3, if_pos (by rw [List.length_append]; omega)]
        have e : seg (b ++ r) (a + 1) (b.getD a 0 + 1) = seg b (a + 1) (b.getD a 0 + 1) := by
          refine ext_getD (by rw [length_seg (by rw [List.length_append]; omega), length_seg (by omega)]) fun i hi => ?_
          rw [length_seg (by rw [List.length_append]; omega)] at hi
          rw [seg_getD hi, seg_getD hi, hg _ (by omega)]
        rw [e]
      · simp [noA] at he
    · split at he
      · rename_i h2 h3
        have e : getTo (b ++ r) (a + 1) 2 = getTo b (a + 1) 2 := by
          rw [getTo_two (by rw [List.length_append]; omega), getTo_two (by omega), hg _ (by omega), hg _ (by omega)]
        rw [if_neg h2, if_neg h2, if_pos h3, if_pos (by rw [List.length_append]; omega), e]
      · simp [noA] at he
  · rw [take_out (by omega)] at he
    simp [noA] at he
theorem unpF_more {b r : List Nat} (h8 : ∀ x ∈ b, x < 256) (hr : r ≠ []) : ∀ f a q n, a ≤ b.length → 4096 ≤ f + q.length → (unpF b f a q n).e = 0 → unpF (b ++ r) f a q n = noU 3
  | 0, a, q, n, ha, hf, he => by
    have hrl : 0 < r.length := List.length_pos_iff.2 hr
    have e1 : unpF b 0 a q n = endU b a q n := rfl
    have e2 : unpF (b ++ r) 0 a q n = endU (b ++ r) a q n := rfl
    rw [e1] at he
    rw [e2]
    unfold endU at he ⊢
    split at he
    · simp [noU] at he
    · split at he
      · simp [noU] at he
      · rename_i h1 h2
        rw [if_neg h1, if_pos (by rw [List.length_append]; omega)]
  | f + 1, a, q, n, ha, hf, he => by
    rw [unpF] at he ⊢
    by_cases h1 : q.length < 4096
    · rw [if_pos h1] at he ⊢
      by_cases h2 : (takeA b (a : Int)).e = 0
      · rw [if_pos h2] at he
        rw [take_more r h2, if_pos h2]
        by_cases h3 : (takeA b (a : Int)).d ≤ q.length
        · rw [if_pos h3] at he ⊢
          obtain ⟨o1, o2, o3⟩ := take_ok h8 rfl h2
          have h4 := grow_size (q := q) o1
          have h5 := size_pos o1
          exact unpF_more h8 hr f _ _ _ o3 (by omega) he
        · rw [if_neg h3] at he
          simp [noU] at he
      · rw [if_neg h2] at he
        have : (takeA b (a : Int)).e = 0 := he
        exact absurd this h2
    · rw [if_neg h1] at he ⊢
      have hrl : 0 < r.length := List.length_pos_iff.2 hr
      unfold endU at he ⊢
      split at he
      · simp [noU] at he
      · split at he
        · simp [noU] at he
        · rename_i h3 h4
          rw [if_neg h3, if_pos (by rw [List.length_append]; omega)]
theorem unp_more {b r : List Nat} (h8 : ∀ x ∈ b, x < 256) (hr : r ≠ []) (he : (unpA b).e = 0) : unpA (b ++ r) = noU 3 := unpF_more h8 hr 4096 0 [] 0 (Nat.zero_le _) (by simp) he
/-- Bytes that are a packed page are none, cut off. -/
theorem unp_less {b : List Nat} {k : Nat} (h8 : ∀ x ∈ b, x < 256) (hk : k < b.length) (he : (unpA b).e = 0) : (unpA (b.take k)).e ≠ 0 := by
  intro h
  have hr : b.drop k ≠ [] := by
    intro e
    have := congrArg List.length e
    rw [List.length_drop] at this
    simp at this
    omega
  have := unp_more (b := b.take k) (r := b.drop k) (fun x hx => h8 x (List.mem_of_mem_take hx)) hr h
  rw [List.take_append_drop] at this
  rw [this] at he
  cases he
end Go.Proofs.Ytmpocmfnpipehaa
