/- The walks of the document's own Nodes and of the law's keys. -/
import Derived.Test.YtkghedllkigecaaRRef
import Derived.Deep.LoopGhost
namespace Go.Proofs.Ytkghedllkigecaa
open Go.RowKit

theorem has_take {l : List KV} (h : Fine l) (d : Nat) {k : Nat} (hk : k < l.length) (h0 : 0 < k) : has d (pre l[k].1 d) (l.take k) ↔ pre l[k].1 d = pre (l[k - 1]'(by omega)).1 d := by
  constructor
  · rintro ⟨x, hx, e⟩
    obtain ⟨i, hi, rfl⟩ := List.getElem_of_mem hx
    rw [List.length_take] at hi
    rw [List.getElem_take] at e
    have a : l[i].1 ≤ (l[k - 1]'(by omega)).1 := by
      by_cases c : i = k - 1
      · subst c; exact Nat.le_refl _
      · exact Nat.le_of_lt (List.pairwise_iff_getElem.1 h.up i (k - 1) (by omega) (by omega) (by omega))
    have b : (l[k - 1]'(by omega)).1 ≤ l[k].1 := Nat.le_of_lt (List.pairwise_iff_getElem.1 h.up (k - 1) k (by omega) hk (by omega))
    have a' := pre_mono d a
    have b' := pre_mono d b
    omega
  · intro e
    exact ⟨l[k - 1]'(by omega), List.mem_take_iff_getElem.2 ⟨k - 1, by omega, rfl⟩, e.symm⟩
theorem take_nodes {l : List KV} {k : Nat} (hk : k < l.length) : nodesOf (l.take (k + 1)) = nodesOf (l.take k) + miss (l.take k) l[k].1 := by
  have e : l.take (k + 1) = l.take k ++ [(l[k].1, l[k].2)] := by rw [List.take_add_one, List.getElem?_eq_getElem hk]; rfl
  rw [e, nodesOf_perm (List.perm_append_comm (l₁ := l.take k) (l₂ := [(l[k].1, l[k].2)])), List.singleton_append, nodesOf_cons]
/-- How many of the first beginnings of a key are missing. -/
def missTo (l : List KV) (k : Nat) : Nat → Nat
  | 0 => 0
  | d + 1 => missTo l k d + missAt l k d
theorem missTo_four (l : List KV) (k : Nat) : missTo l k 4 = miss l k := by simp only [missTo, miss]; omega
theorem missTo_le (l : List KV) (k d : Nat) : missTo l k d ≤ d := by
  induction d with
  | zero => exact Nat.le_refl _
  | succ d ih => simp only [missTo, missAt]; split <;> omega
theorem pre_wide (k d : Nat) : pre k d = k / wide d := rfl
set_option maxHeartbeats 2000000 in
theorem refNodes_any {C : Nat} {v : Value} {l : List KV} (w : World) (h : w.ownsRow C 47 2 v l.length (kvv l)) (hf : Fine l) :
    Calls Try.prog 16 #[v] w fun e w' => e = .returned (.int .i64 (nodesOf l : Nat)) ∧ ∃ m, w' = w.drewN m := by
  obtain ⟨a, c, rfl⟩ := row_slice h
  have H : Hid (w.ownsRow C 47 2 (.slice a l.length c) l.length (kvv l)) := h
  have hlen := hf.len
  have HF : Hid (Fine l) := hf
  clear h hf
  go_enter Try.func16, Try.ntmps16
  go_wp2
  go_loopg [3, 4] l.length (fun gk x i wr => ∃ k m : Nat, k ≤ l.length ∧ gk = l.length - k ∧ x = .int .i64 (nodesOf (l.take k) : Nat) ∧ i = .int .i64 k ∧ wr = w.drewN m)
  case atStart => exact ⟨0, 0, Nat.zero_le _, rfl, rfl, rfl, rfl⟩
  case round =>
    obtain ⟨k, m, hk, rfl, rfl, rfl, rfl⟩ := hrel
    by_cases hlt : k < l.length
    · have HTN : Hid _ := take_nodes hlt
      have hnl := nodesOf_le (l.take k)
      rw [List.length_take] at hnl
      obtain ⟨g, rfl, hc, _⟩ := row_at2 H.out hlt
      have eg : l.getD k (0, 0) = l[k] := by simp [List.getD, hlt]
      rw [(kvv_at l k hlt).1, eg] at hc
      obtain ⟨pk, hpk⟩ : ∃ pk, (l.getD (k - 1) (0, 0)).1 = pk := ⟨_, rfl⟩
      have HPV : Hid (0 < k → w.cell? ⟨g, (k - 1) * 2, none⟩ = some (.int .i64 (pk : Nat))) := by
        intro h0
        have hl1 : k - 1 < l.length := by omega
        obtain ⟨g', e', hc', _⟩ := row_at2 H.out hl1
        cases e'
        rw [hc', (kvv_at l (k - 1) hl1).1, hpk]
      have HHT : Hid (∀ d, 0 < k → (has d (pre l[k].1 d) (l.take k) ↔ pre l[k].1 d = pre pk d)) := by
        intro d h0
        have hl1 : k - 1 < l.length := by omega
        have e1 : (l[k - 1]'hl1).1 = pk := by rw [← hpk]; simp [List.getD, hl1]
        rw [has_take HF.out d hlt h0, e1]
      have hpks : pk < 65536 := by
        rw [← hpk]
        have hl1 : k - 1 < l.length := by omega
        have := HF.out.small _ (List.getElem_mem hl1)
        simpa [List.getD, hl1] using this
      have HTZ : Hid (k = 0 → l.take k = []) := by rintro rfl; rfl
      clear hpk
      have hks := HF.out.small _ (List.getElem_mem hlt)
      generalize hkey : l[k].1 = key at *
      have hlt' : (k : Int) < (l.length : Int) := by omega
      obtain ⟨N, hN⟩ : ∃ N, nodesOf (l.take k) = N := ⟨_, rfl⟩
      rw [hN] at hnl HTN
      rw [hN]
      obtain ⟨T, hT⟩ : ∃ T, l.take k = T := ⟨_, rfl⟩
      rw [hT] at HHT HTZ HTN
      clear hN hT eg
      go_wp2
      go_loopg [3, 5, 6] 4 (fun gk x b i wr => ∃ d m2 : Nat, d ≤ 4 ∧ gk = 4 - d ∧ x = .int .i64 ((N + missTo T key d : Nat)) ∧ b = .int .i64 (wide d : Nat) ∧ i = .int .i64 d ∧ wr = w.drewN m2)
      case atStart => exact ⟨0, m, by omega, rfl, rfl, rfl, rfl, rfl⟩
      case round =>
        obtain ⟨d, m2, hd, rfl, rfl, rfl, rfl, rfl⟩ := hrel
        have hml := missTo_le T key d
        have hst := wide_step d
        have hps := wide_pos d
        have hwl := wide_le d
        by_cases hd4 : d < 4
        · have HST : Hid (wide d = 16 * wide (d + 1)) := hst hd4
          clear hst
          obtain ⟨W, hWe⟩ : ∃ W, wide d = W := ⟨_, rfl⟩
          rw [hWe] at HST hps hwl
          rw [hWe]
          have HWE : Hid _ := hWe
          clear hWe
          have HMS : Hid (missTo T key (d + 1) = missTo T key d + missAt T key d) := rfl
          have hW0 : ¬ ((W : Nat) : Int) = 0 := by omega
          by_cases h0 : k = 0
          · have HMA : Hid (missAt T key d = 1) := by
              show _ = _
              rw [missAt, if_neg]
              rintro ⟨x, hx, _⟩
              rw [HTZ.out h0] at hx
              simp at hx
            subst h0
            have hN0 : N + missTo T key d + 1 = N + missTo T key (d + 1) := by rw [HMS.out, HMA.out]; omega
            have HN0 : Hid _ := hN0
            generalize missTo T key d = M at *
            clear hN0 hc
            go_wp2_with fail
            go_quiet (fail)
            go_wp2
            go_roundg (4 - (d + 1))
            case measure => omega
            case rel => exact ⟨d + 1, _, by omega, rfl, by have := HN0.out; go_num, by have := HST.out; go_num, by go_num, rfl⟩
          · obtain ⟨i, hi⟩ : ∃ i, i = k - 1 := ⟨_, rfl⟩
            have hp := HPV.out (by omega)
            have hht := HHT.out d (by omega)
            rw [← hi] at hp
            have hk1 : (k : Int) - 1 = (i : Int) := by omega
            have hwr : IntKind.i64.wrap (i : Int) = (i : Int) := IntWalk.i64_in _ (by omega)
            have hi2 : (i : Int) < (l.length : Int) := by omega
            have hk0 : ¬ (k : Int) = 0 := by omega
            have hk2 : decide ((k : Int) = 0) = false := decide_eq_false hk0
            have hk3 : ((k : Int) == 0) = false := by rw [beq_eq_false_iff_ne]; exact hk0
            have hW1 : ¬ W = 0 := by omega
            clear hi
            have hq1 : IntKind.i64.wrap ((key : Int) / (W : Int)) = (pre key d : Nat) := by
              rw [← Int.natCast_ediv, pre_wide, HWE.out]
              have hdv := Nat.div_le_self key W
              generalize key / W = zz at *
              exact IntWalk.i64_in _ (by omega)
            have hq2 : IntKind.i64.wrap ((pk : Int) / (W : Int)) = (pre pk d : Nat) := by
              rw [← Int.natCast_ediv, pre_wide, HWE.out]
              have hdv := Nat.div_le_self pk W
              generalize pk / W = zz at *
              exact IntWalk.i64_in _ (by omega)
            by_cases hq : pre key d = pre pk d
            · have hN0 : N + missTo T key d = N + missTo T key (d + 1) := by rw [HMS.out, missAt, if_pos (hht.2 hq), Nat.add_zero]
              have HN0 : Hid _ := hN0
              rw [← hq] at hq2
              generalize pre key d = Q1 at *
              generalize missTo T key d = M at *
              clear hN0 hht hq
              go_wp2_with fail
              go_quiet (fail)
              go_wp2
              go_roundg (4 - (d + 1))
              case measure => omega
              case rel => exact ⟨d + 1, _, by omega, rfl, by have := HN0.out; go_num, by have := HST.out; go_num, by go_num, rfl⟩
            · have hN0 : N + missTo T key d + 1 = N + missTo T key (d + 1) := by rw [HMS.out, missAt, if_neg (fun x => hq (hht.1 x))]; omega
              have HN0 : Hid _ := hN0
              have hqi : ¬ ((pre key d : Nat) : Int) = ((pre pk d : Nat) : Int) := by omega
              have hqb : (((pre key d : Nat) : Int) == ((pre pk d : Nat) : Int)) = false := by rw [beq_eq_false_iff_ne]; exact hqi
              generalize pre key d = Q1 at *
              generalize pre pk d = Q2 at *
              generalize missTo T key d = M at *
              clear hN0 hht
              go_wp2_with fail
              go_quiet (fail)
              go_wp2
              go_roundg (4 - (d + 1))
              case measure => omega
              case rel => exact ⟨d + 1, _, by omega, rfl, by have := HN0.out; go_num, by have := HST.out; go_num, by go_num, rfl⟩
        · have e4 : d = 4 := by omega
          subst e4
          clear hst
          have HM4 : Hid (N + missTo T key 4 = nodesOf (l.take (k + 1))) := by show _ = _; rw [missTo_four, HTN.out]
          generalize missTo T key 4 = M at *
          generalize wide 4 = W at *
          go_wp2
          go_roundg (l.length - (k + 1))
          case measure => omega
          case rel => exact ⟨k + 1, _, by omega, rfl, by rw [HM4.out], by go_num, rfl⟩
    · have e : k = l.length := by omega
      subst e
      rw [List.take_length]
      have hnl := nodesOf_le l
      go_wp2
      go_ret
      exact ⟨rfl, _, rfl⟩
end Go.Proofs.Ytkghedllkigecaa
