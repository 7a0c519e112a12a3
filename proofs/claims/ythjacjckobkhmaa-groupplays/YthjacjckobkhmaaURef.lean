/- The document's lists of numbers as they lie in memory; the walks of its Of, At, Drop, Put. -/
import Derived.Test.YthjacjckobkhmaaUOf
import Derived.Test.YthjacjckobkhmaaGSrc
import Derived.Deep.LoopGhost
import Derived.Deep.AppendLies
import Derived.Deep.RegionHeld3
namespace Go.Proofs.Ythjacjckobkhmaa
open Go.RowKit

def th (u m : Int) (k : Nat) : Int := (if 1 ≤ k ∧ m < 3 * u then 1 else 0) + (if 2 ≤ k ∧ 2 * m < 3 * u then 1 else 0)
set_option maxHeartbeats 1000000 in
theorem refOf_any (u m : Int) (w : World) (hu : -100000000 ≤ u ∧ u ≤ 100000000) (hm : -100000000 ≤ m ∧ m ≤ 100000000) : Calls Try.prog 9 #[.int .i64 u, .int .i64 m] w fun e w' => e = .returned (.int .i64 (ofN u m)) ∧ w = w' := by
  by_cases h1 : m < 1
  · have H : Hid (ofN u m = 4) := ofN_full.2 (.inl h1)
    go_enter Try.func9, Try.ntmps9
    go_wp2
    go_ret
    exact ⟨retInt H.out.symm, rfl⟩
  · by_cases h2 : m ≤ u
    · have H : Hid (ofN u m = 4) := ofN_full.2 (.inr h2)
      go_enter Try.func9, Try.ntmps9
      go_wp2
      go_ret
      exact ⟨retInt H.out.symm, rfl⟩
    · by_cases h3 : u < 1
      · have H : Hid (ofN u m = 0) := ofN_empty.2 ⟨by omega, h3⟩
        go_enter Try.func9, Try.ntmps9
        go_wp2
        go_ret
        exact ⟨retInt H.out.symm, rfl⟩
      · have HE : Hid (ofN u m = 1 + th u m 2) := by
          show _ = _
          rw [ofN_doc, if_neg (by omega), if_neg h3]
          simp [th, Int.add_assoc]
        have HT0 : Hid (th u m 0 = 0) := rfl
        have HT1 : Hid (th u m 1 = if m < 3 * u then 1 else 0) := by show _ = _; simp [th]
        have HT2 : Hid (th u m 2 = th u m 1 + if 2 * m < 3 * u then 1 else 0) := by show _ = _; simp [th]
        have hb : ∀ k, 0 ≤ th u m k ∧ th u m k ≤ 2 := by intro k; unfold th; split <;> split <;> omega
        go_enter Try.func9, Try.ntmps9
        go_wp2
        go_loop [5, 6] (fun t i => (i = .int .i64 0 ∧ t = .int .i64 0) ∨ (i = .int .i64 1 ∧ t = .int .i64 (th u m 1)) ∨ (i = .int .i64 2 ∧ t = .int .i64 (th u m 2))) (fun _ i => 2 - (intOf i).toNat)
        case atStart => exact .inl ⟨rfl, rfl⟩
        case round =>
          rcases hrel with ⟨rfl, rfl⟩ | ⟨rfl, rfl⟩ | ⟨rfl, rfl⟩
          · by_cases h4 : m < 3 * u
            · have HA : Hid (th u m 1 = 1) := by show _ = _; rw [HT1.out, if_pos h4]
              clear hb
              go_wp2
              go_round
              case rel => exact .inr (.inl ⟨rfl, by rw [HA.out]⟩)
              case measure => simp [intOf]
            · have HA : Hid (th u m 1 = 0) := by show _ = _; rw [HT1.out, if_neg h4]
              clear hb
              go_wp2
              go_round
              case rel => exact .inr (.inl ⟨rfl, by rw [HA.out]⟩)
              case measure => simp [intOf]
          · have hb1 := hb 1
            obtain ⟨t1, ht⟩ : ∃ t1, th u m 1 = t1 := ⟨_, rfl⟩
            rw [ht] at hb1 HT2 ⊢
            by_cases h4 : 2 * m < 3 * u
            · have HA : Hid (th u m 2 = t1 + 1) := by show _ = _; rw [HT2.out, if_pos h4]
              clear hb ht
              go_wp2
              go_round
              case rel => exact .inr (.inr ⟨rfl, by rw [HA.out]⟩)
              case measure => simp [intOf]
            · have HA : Hid (th u m 2 = t1) := by show _ = _; rw [HT2.out, if_neg h4]; omega
              clear hb ht
              go_wp2
              go_round
              case rel => exact .inr (.inr ⟨rfl, by rw [HA.out]⟩)
              case measure => simp [intOf]
          · have hb2 := hb 2
            obtain ⟨t2, ht⟩ : ∃ t2, th u m 2 = t2 := ⟨_, rfl⟩
            rw [ht] at hb2 HE ⊢
            clear hb ht
            go_wp2
            go_ret
            exact ⟨retInt HE.out.symm, rfl⟩

def Gh.cells (h : Gh) : List Value := [.int .i64 h.n, .int .i64 h.u, .int .i64 h.m]
def rowH (L : List Gh) : List Value := L.flatMap Gh.cells
theorem rowH_len : ∀ L : List Gh, (rowH L).length = L.length * 3
  | [] => rfl
  | x :: L => by
    have := rowH_len L
    unfold rowH at this ⊢
    rw [List.flatMap_cons, List.length_append, this, List.length_cons]
    simp [Gh.cells]
    omega
theorem rowH_app (S T : List Gh) : rowH (S ++ T) = rowH S ++ rowH T := by simp [rowH]
theorem rowH_split (L : List Gh) (j : Nat) : rowH L = rowH (L.take j) ++ rowH (L.drop j) := by rw [← rowH_app, List.take_append_drop]
theorem rowH_one (L : List Gh) : ∀ u ∈ rowH L, u.oneCell' = true := by
  intro u hu
  obtain ⟨x, _, hx⟩ := List.mem_flatMap.1 hu
  simp only [Gh.cells, List.mem_cons, List.not_mem_nil, or_false] at hx
  rcases hx with rfl | rfl | rfl <;> rfl
theorem rowH_at : ∀ {L : List Gh} {i : Nat} {h : Gh}, L[i]? = some h → (rowH L)[i * 3]? = some (.int .i64 h.n) ∧ (rowH L)[i * 3 + 1]? = some (.int .i64 h.u) ∧ (rowH L)[i * 3 + 2]? = some (.int .i64 h.m)
  | [], i, h, e => by simp at e
  | x :: L, 0, h, e => by
    obtain rfl : x = h := by simpa using e
    exact ⟨rfl, rfl, rfl⟩
  | x :: L, i + 1, h, e => by
    have := rowH_at (L := L) (i := i) (h := h) (by simpa using e)
    have e3 : (Gh.cells x).length = 3 := rfl
    show (Gh.cells x ++ rowH L)[(i + 1) * 3]? = _ ∧ (Gh.cells x ++ rowH L)[(i + 1) * 3 + 1]? = _ ∧ (Gh.cells x ++ rowH L)[(i + 1) * 3 + 2]? = _
    rw [List.getElem?_append_right (by omega), List.getElem?_append_right (by omega), List.getElem?_append_right (by omega), e3, show (i + 1) * 3 - 3 = i * 3 by omega, show (i + 1) * 3 + 1 - 3 = i * 3 + 1 by omega, show (i + 1) * 3 + 2 - 3 = i * 3 + 2 by omega]
    exact this
/-- A list in memory. -/
def HsAt (w : World) (base : Nat) (v : Value) (L : List Gh) : Prop := w.ownsRow base 37 3 v L.length (rowH L)
section
variable {w w' : World} {base : Nat} {v : Value} {L : List Gh}
theorem HsAt.below (h : HsAt w base v L) (hb : Below w.heap.size w w') : HsAt w' base v L := row_below h hb
theorem hsAt_nil (w : World) (base : Nat) : HsAt w base (.slice none 0 0) [] := World.ownsRow_nil _ _ _ _
/-- Where the i-th lies. -/
theorem HsAt.at {a : Option Addr} {c i : Nat} {x : Gh} (h : HsAt w base (.slice a L.length c) L) (hi : L[i]? = some x) :
    ∃ g, a = some ⟨g, 0, none⟩ ∧ base ≤ g ∧ g < w.heap.size ∧ w.cell? ⟨g, i * 3, none⟩ = some (.int .i64 x.n) ∧ w.cell? ⟨g, i * 3 + 1, none⟩ = some (.int .i64 x.u) ∧ w.cell? ⟨g, i * 3 + 2, none⟩ = some (.int .i64 x.m) := by
  have hl := (List.getElem?_eq_some_iff.1 hi).1
  obtain ⟨h1, h2, h3⟩ := rowH_at hi
  rcases h.2 with ⟨_, h4⟩ | ⟨g, cap, cur, h4, h5, h6, _⟩
  · omega
  · simp only [Value.slice.injEq, true_and] at h4
    obtain ⟨rfl, rfl⟩ := h4
    refine ⟨g, rfl, h5, (Array.getElem?_eq_some_iff.1 h6).1, ?_, ?_, ?_⟩
    · rw [World.ownsRow.cellAt h (i * 3) (by omega)]; exact h1
    · rw [World.ownsRow.cellAt h (i * 3 + 1) (by omega)]; exact h2
    · rw [World.ownsRow.cellAt h (i * 3 + 2) (by omega)]; exact h3
end
/-- The place of a number; -1: it isn't there. -/
structure PlaceG (L : List Gh) (n x : Int) : Prop where
  yes : 0 ≤ x → ∃ (k : Nat) (h : Gh), x = k ∧ L[k]? = some h ∧ h.n = n
  no : x < 0 → x = -1 ∧ hasG L n = false
  le : x ≤ L.length
theorem PlaceG.has {L : List Gh} {n x : Int} (h : PlaceG L n x) : hasG L n = decide (0 ≤ x) := by
  by_cases hx : 0 ≤ x
  · obtain ⟨k, y, _, h1, h2⟩ := h.yes hx
    rw [decide_eq_true hx, hasG_mem]
    exact List.mem_map.2 ⟨y, List.mem_of_getElem? h1, h2⟩
  · rw [decide_eq_false hx]
    exact (h.no (by omega)).2
set_option maxHeartbeats 1000000 in
theorem refAt_any {base : Nat} {v : Value} {L : List Gh} (n : Int) (w : World) (h : HsAt w base v L) (hL : L.length ≤ 1000) :
    Calls Try.prog 23 #[v, .int .i64 n] w fun e w' => ∃ x : Int, e = .returned (.int .i64 x) ∧ w = w' ∧ PlaceG L n x := by
  obtain ⟨a, c, rfl⟩ := row_slice h
  have H : Hid (HsAt w base (.slice a L.length c) L) := h
  clear h
  go_enter Try.func23, Try.ntmps23
  go_wp2_with fail
  go_loopg [5] L.length (fun gk i wr => ∃ k : Nat, k ≤ L.length ∧ gk = L.length - k ∧ i = .int .i64 k ∧ w = wr ∧ ∀ j x, j < k → L[j]? = some x → x.n ≠ n)
  case atStart => exact ⟨0, by omega, rfl, rfl, rfl, fun j _ h => by omega⟩
  case round =>
    obtain ⟨k, hk, rfl, rfl, rfl, hno⟩ := hrel
    have HNO : Hid (∀ j x, j < k → L[j]? = some x → x.n ≠ n) := hno
    clear hno
    by_cases hlt : k < L.length
    · have i1 : (k : Int) < (L.length : Int) := by omega
      obtain ⟨x, hx⟩ : ∃ x, L[k]? = some x := ⟨_, List.getElem?_eq_getElem hlt⟩
      obtain ⟨g, rfl, _, _, c0, _, _⟩ := H.out.at hx
      have HX : Hid (L[k]? = some x) := hx
      clear hx
      by_cases he : x.n = n
      · have i2 : (x.n == n) = true := by rw [beq_iff_eq]; exact he
        have HF : Hid (PlaceG L n (k : Nat)) := ⟨fun _ => ⟨k, x, rfl, HX.out, he⟩, fun h => by omega, by omega⟩
        clear he
        generalize x.n = y at *
        go_wp2
        go_ret
        exact ⟨_, rfl, rfl, HF.out⟩
      · have i2 : (x.n == n) = false := by rw [beq_eq_false_iff_ne]; exact he
        have HK : Hid (∀ j x, j < k + 1 → L[j]? = some x → x.n ≠ n) := by
          intro j o2 hj h2
          by_cases hjk : j = k
          · subst hjk
            rw [HX.out] at h2
            cases h2
            exact he
          · exact HNO.out j o2 (by omega) h2
        generalize x.n = y at *
        go_wp2
        go_roundg (L.length - (k + 1))
        case measure => omega
        case rel => exact ⟨k + 1, by omega, rfl, by go_num, rfl, HK.out⟩
    · have i1 : ¬ (k : Int) < (L.length : Int) := by omega
      have HF : Hid (PlaceG L n (-1)) := by
        refine ⟨fun h => by omega, fun _ => ⟨rfl, ?_⟩, by omega⟩
        unfold hasG
        rw [List.any_eq_false]
        intro o ho
        obtain ⟨j, hj⟩ := List.getElem?_of_mem ho
        have := HNO.out j o (by have := (List.getElem?_eq_some_iff.1 hj).1; omega) hj
        simpa using this
      go_wp2
      go_ret
      exact ⟨_, rfl, rfl, HF.out⟩
end Go.Proofs.Ythjacjckobkhmaa
