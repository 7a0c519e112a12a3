/- How many bytes a packed page has: at most 4128, and few where bytes come again and again: plain facts. -/
import Derived.Test.YtgninhecclinaaaQPack
namespace Go.Proofs.Ytgninhecclinaaa

theorem put_copy {b : List Nat} {L d : Nat} : (catZ b [⟨0, 0, L, d⟩]).length = 3 := by
  have hbz : (⟨0, 0, L, d⟩ : Tz).b b = [] := by simp [Tz.b, seg]
  show (tokB ((⟨0, 0, L, d⟩ : Tz).b b) (L : Int) (d : Int) ++ []).length = 3
  rw [hbz, tok_copy]
  rfl
theorem lits_bytes {b : List Nat} {s m : Nat} (hm : s + m ≤ b.length) : ∀ j, j ≤ (m + 127) / 128 → (catZ b ((List.range j).map (chunkZ s m))).length = min m (128 * j) + j
  | 0, _ => by simp [catZ]
  | j + 1, hj => by
    have ih := lits_bytes (b := b) hm j (by omega)
    rw [List.range_succ, List.map_append, List.map_singleton, catZ_append, List.length_append, ih]
    have hl : (chunkZ s m j).b b = seg b (s + 128 * j) (min 128 (m - 128 * j)) := rfl
    have hll : ((chunkZ s m j).b b).length = min 128 (m - 128 * j) := by rw [hl, length_seg (by omega)]
    have e : (catZ b [chunkZ s m j]).length = min 128 (m - 128 * j) + 1 := by
      show (tokB ((chunkZ s m j).b b) _ _ ++ []).length = _
      rw [List.append_nil, tok_lit (by omega), List.length_cons, hll]
    rw [e]
    omega
theorem litsL_bytes {b : List Nat} {s m : Nat} (hm : s + m ≤ b.length) : (catZ b (litsL s m)).length = m + (m + 127) / 128 := by
  rw [litsL, lits_bytes hm _ (Nat.le_refl _)]
  omega
theorem dupL_bytes {b : List Nat} {a L d : Nat} : (catZ b (dupL b a L d)).length = if a < b.length then 3 else 0 := by
  unfold dupL
  split
  · exact put_copy
  · rfl
theorem pack_succ {b : List Nat} {f s : Nat} (h : s < b.length) : (catZ b (packF b (f + 1) s)).length =
    ((nextC b s).1 - s) + ((nextC b s).1 - s + 127) / 128 + ((if (nextC b s).1 < b.length then 3 else 0) + (catZ b (packF b f ((nextC b s).1 + (nextC b s).2.1))).length) := by
  have hn := nextC_spec (Nat.le_of_lt h)
  have h1 := hn.lo
  have h2 := hn.hi
  rw [packF, if_pos h, catZ_append, catZ_append, List.length_append, List.length_append, litsL_bytes (by omega), dupL_bytes]
theorem pack_done {b : List Nat} {s : Nat} (h : ¬ s < b.length) : ∀ f, catZ b (packF b f s) = []
  | 0 => rfl
  | f + 1 => by rw [packF, if_neg h]; rfl
/-- So many bytes at most: one more for each 128. -/
theorem pack_most (b : List Nat) : ∀ f s, s ≤ b.length → 128 * (catZ b (packF b f s)).length ≤ 129 * (b.length - s) + 127
  | 0, s, _ => by
    show 128 * 0 ≤ _
    omega
  | f + 1, s, hs => by
    by_cases h : s < b.length
    · have hn := nextC_spec hs
      have hst := hn.step h
      have h1 := hn.lo
      have h2 := hn.hi
      have ih := pack_most b f ((nextC b s).1 + (nextC b s).2.1) hst.2
      rw [pack_succ h]
      rcases hn.is with ⟨h3, h4, _⟩ | ⟨h3, _, h4, h5⟩
      · rw [if_neg (by omega)]
        rw [h3, h4] at ih ⊢
        omega
      · rw [if_pos h3]
        by_cases e : s < (nextC b s).1
        · have := h5 e
          omega
        · have e2 : (nextC b s).1 - s = 0 := by omega
          rw [e2]
          omega
    · rw [pack_done h]
      simp
theorem pack_4128 {b : List Nat} (hb : b.length = 4096) : (catZ b (packL b)).length ≤ 4128 := by
  have := pack_most b b.length 0 (Nat.zero_le _)
  show (catZ b (packF b b.length 0)).length ≤ 4128
  omega

/-- What is found is as long as one that is among the nearest. -/
theorem look_reach {b : List Nat} {a g : Nat} (h3 : 3 ≤ wN b a g) : ∀ p best dist seen, g < p → seen + (p - g) ≤ 32 → wN b a g ≤ (look b a p best dist seen).1
  | 0, _, _, _, h, _ => by omega
  | p + 1, best, dist, seen, h, hs => by
    rw [look, if_pos (by omega)]
    by_cases e : p = g
    · subst e
      rw [if_pos h3]
      split
      · exact look_ge _ _ _ _
      · rename_i h4
        exact Nat.le_trans (by omega) (look_ge p best dist (seen + 1))
    · split
      · split
        · exact look_reach h3 p _ _ _ (by omega) (by omega)
        · exact look_reach h3 p _ _ _ (by omega) (by omega)
      · exact look_reach h3 p _ _ _ (by omega) (by omega)
/-- Each byte from the ninth on is the one eight ahead. -/
def Again (b : List Nat) : Prop := ∀ i, i + 8 < b.length → b.getD (i + 8) 0 = b.getD i 0
theorem again_find {b : List Nat} (h : Again b) {c : Nat} (h1 : 8 ≤ c) (h2 : c + 3 ≤ b.length) : min 130 (b.length - c) ≤ (findI b (c : Int)).1 := by
  have hw : wN b c (c - 8) = min 130 (b.length - c) := by
    refine wN_is (by omega) (by omega) (by omega) (fun j hj => ?_) (by omega)
    have := h (c - 8 + j) (by omega)
    rw [← this]
    congr 1
    omega
  rw [find_yes h2, ← hw]
  exact look_reach (by rw [hw]; omega) c 0 0 0 (by omega) (by omega)
theorem next_cap {b : List Nat} {s a L d : Nat} (h : Next b s a L d) (ha : a < b.length) : L ≤ 130 ∧ a + L ≤ b.length := by
  rcases h.is with ⟨h1, _⟩ | ⟨h1, h2, h3, _⟩
  · omega
  · rcases h2 with ⟨h4, _⟩ | ⟨_, h5, h6, h7⟩
    · have : L = 0 := h4
      omega
    · have h7 : wN b a (a - d) = L := h7
      exact ⟨by rw [← h7]; exact wN_le _ _ _, by rw [← h7]; exact wN_len (by omega)⟩
/-- From the ninth byte on each place has its longest copy. -/
theorem again_next {b : List Nat} (h : Again b) {s : Nat} (h1 : 8 ≤ s) (h2 : s + 3 ≤ b.length) : (nextC b s).1 = s ∧ min 130 (b.length - s) ≤ (nextC b s).2.1 := by
  have hf := again_find h h1 h2
  have e : nextC b s = (s, (findI b (s : Int)).1, (findI b (s : Int)).2) := next_yes (by omega) rfl (by omega)
  rw [e]
  exact ⟨rfl, hf⟩
theorem again_tail {b : List Nat} (h : Again b) : ∀ f s, 8 ≤ s → s ≤ b.length → 130 * (catZ b (packF b f s)).length ≤ 3 * (b.length - s) + 390
  | 0, s, _, _ => by
    show 130 * 0 ≤ _
    omega
  | f + 1, s, h1, h2 => by
    by_cases hs : s < b.length
    · have hn := nextC_spec h2
      have hst := hn.step hs
      have hlo := hn.lo
      have hhi := hn.hi
      have ih := again_tail h f ((nextC b s).1 + (nextC b s).2.1) (by omega) hst.2
      rw [pack_succ hs]
      by_cases h3 : s + 3 ≤ b.length
      · obtain ⟨h4, h5⟩ := again_next h h1 h3
        have hc := next_cap hn (by omega)
        rw [if_pos (by omega)]
        have e2 : (nextC b s).1 - s = 0 := by omega
        rw [e2]
        rcases Nat.lt_or_ge ((nextC b s).1 + (nextC b s).2.1) b.length with h6 | h6
        · omega
        · rw [pack_done (by omega)] at ih ⊢
          simp only [List.length_nil]
          omega
      · rcases Nat.lt_or_ge ((nextC b s).1) b.length with h6 | h6
        · have hc := next_cap hn h6
          exfalso
          rcases hn.is with ⟨h7, _⟩ | ⟨h7, h8, h9, _⟩
          · omega
          · omega
        · rw [if_neg (by omega), pack_done (by omega)]
          simp only [List.length_nil]
          omega
    · rw [pack_done hs]
      simp
theorem again_head {b : List Nat} (h : Again b) (hb : 200 ≤ b.length) : ∀ f s, s < 8 → 130 * (catZ b (packF b f s)).length ≤ 130 * (12 - s) + 3 * b.length + 390
  | 0, s, _ => by
    show 130 * 0 ≤ _
    omega
  | f + 1, s, h1 => by
    have hs : s < b.length := by omega
    have hn := nextC_spec (Nat.le_of_lt hs)
    have hst := hn.step hs
    have hlo := hn.lo
    have hhi := hn.hi
    have ha : (nextC b s).1 ≤ 8 := by
      rcases Nat.lt_or_ge 8 (nextC b s).1 with h2 | h2
      · have := hn.no 8 (by omega) h2
        have := again_find h (Nat.le_refl 8) (by omega)
        omega
      · exact h2
    rw [pack_succ hs, if_pos (by omega)]
    rcases Nat.lt_or_ge ((nextC b s).1 + (nextC b s).2.1) 8 with h3 | h3
    · have ih := again_head h hb f ((nextC b s).1 + (nextC b s).2.1) h3
      rcases hn.is with ⟨h4, _⟩ | ⟨_, _, h4, h5⟩
      · omega
      · by_cases e : s < (nextC b s).1
        · have := h5 e
          have e1 : ((nextC b s).1 - s + 127) / 128 = 1 := by omega
          rw [e1]
          omega
        · have e2 : (nextC b s).1 - s = 0 := by omega
          rw [e2]
          omega
    · have ih := again_tail h f ((nextC b s).1 + (nextC b s).2.1) h3 hst.2
      omega
theorem pack_200 {b : List Nat} (hb : b.length = 4096) (h : Again b) : (catZ b (packL b)).length ≤ 200 := by
  have := again_head h (by omega) b.length 0 (by omega)
  show (catZ b (packF b b.length 0)).length ≤ 200
  omega
/-- No more tokens than bytes. -/
theorem packL_len {b : List Nat} : ∀ {T : List Tz} {s s2 : Nat}, Spell b s T s2 → T.length ≤ (catZ b T).length
  | [], _, _, _ => by simp
  | t :: T, _, _, h => by
    have ih := packL_len h.2
    rw [catZ, List.length_append, List.length_cons]
    have : 0 < (t.put b).length := by
      unfold Tz.put tokB
      split <;> simp
    omega
/-- Something is told. -/
theorem pack_some {b : List Nat} (hb : b.length = 4096) (h8 : ∀ x ∈ b, x < 256) : 0 < (catZ b (packL b)).length := by
  rcases Nat.eq_zero_or_pos (catZ b (packL b)).length with h | h
  · have h2 := pack_back hb h8
    rw [List.eq_nil_of_length_eq_zero h] at h2
    have h3 : (unpA []).e = 4 := by
      rw [unpA, unpF]
      rfl
    rw [h2] at h3
    cases h3
  · exact h
end Go.Proofs.Ytgninhecclinaaa
