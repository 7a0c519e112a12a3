/- The document's lists of handles in use as they lie in memory; the walks of its At, Of and of Ints. -/
import Derived.Test.YtlnkelhhemgibaaVOf
import Derived.Test.YtlnkelhhemgibaaGSrc
import Derived.Deep.RegionHeld3
namespace Go.Proofs.Ytlnkelhhemgibaa
open Go.RowKit

def Hd.cells (e : Hd) : List Value := [.int .i64 e.h, .int .i64 e.q.p, .int .i64 e.q.o, .int .i64 e.q.l]
def rowD (X : List Hd) : List Value := X.flatMap Hd.cells
theorem rowD_len : ∀ X : List Hd, (rowD X).length = X.length * 4
  | [] => rfl
  | x :: X => by
    have := rowD_len X
    unfold rowD at this ⊢
    rw [List.flatMap_cons, List.length_append, this, List.length_cons]
    simp [Hd.cells]
    omega
theorem rowD_app (S T : List Hd) : rowD (S ++ T) = rowD S ++ rowD T := by simp [rowD]
theorem rowD_split (X : List Hd) (j : Nat) : rowD X = rowD (X.take j) ++ rowD (X.drop j) := by rw [← rowD_app, List.take_append_drop]
theorem rowD_one (X : List Hd) : ∀ u ∈ rowD X, u.oneCell' = true := by
  intro u hu
  obtain ⟨x, _, hx⟩ := List.mem_flatMap.1 hu
  simp only [Hd.cells, List.mem_cons, List.not_mem_nil, or_false] at hx
  rcases hx with rfl | rfl | rfl | rfl <;> rfl
theorem rowD_at : ∀ {X : List Hd} {i : Nat} {e : Hd}, X[i]? = some e → (rowD X)[i * 4]? = some (.int .i64 e.h) ∧ (rowD X)[i * 4 + 1]? = some (.int .i64 e.q.p) ∧ (rowD X)[i * 4 + 2]? = some (.int .i64 e.q.o) ∧ (rowD X)[i * 4 + 3]? = some (.int .i64 e.q.l)
  | [], i, e, h => by simp at h
  | x :: X, 0, e, h => by
    obtain rfl : x = e := by simpa using h
    exact ⟨rfl, rfl, rfl, rfl⟩
  | x :: X, i + 1, e, h => by
    have := rowD_at (X := X) (i := i) (e := e) (by simpa using h)
    have e4 : (Hd.cells x).length = 4 := rfl
    show (Hd.cells x ++ rowD X)[(i + 1) * 4]? = _ ∧ (Hd.cells x ++ rowD X)[(i + 1) * 4 + 1]? = _ ∧ (Hd.cells x ++ rowD X)[(i + 1) * 4 + 2]? = _ ∧ (Hd.cells x ++ rowD X)[(i + 1) * 4 + 3]? = _
    rw [List.getElem?_append_right (by omega), List.getElem?_append_right (by omega), List.getElem?_append_right (by omega), List.getElem?_append_right (by omega), e4, show (i + 1) * 4 - 4 = i * 4 by omega, show (i + 1) * 4 + 1 - 4 = i * 4 + 1 by omega, show (i + 1) * 4 + 2 - 4 = i * 4 + 2 by omega, show (i + 1) * 4 + 3 - 4 = i * 4 + 3 by omega]
    exact this
/-- A list in memory. -/
def DsAt (w : World) (base : Nat) (v : Value) (X : List Hd) : Prop := w.ownsRow base 65 4 v X.length (rowD X)
section
variable {w w' : World} {base : Nat} {v : Value} {X : List Hd}
theorem DsAt.below (h : DsAt w base v X) (hb : Below w.heap.size w w') : DsAt w' base v X := row_below h hb
theorem DsAt.turns {B E : Nat} (h : DsAt w base v X) (ht : Turns B E w w') (he : E ≤ base) : DsAt w' base v X := ht.row h he
theorem dsAt_nil (w : World) (base : Nat) : DsAt w base (.slice none 0 0) [] := World.ownsRow_nil _ _ _ _
/-- Where the i-th lies. -/
theorem DsAt.at {a : Option Addr} {c i : Nat} {e : Hd} (h : DsAt w base (.slice a X.length c) X) (hi : X[i]? = some e) :
    ∃ g, a = some ⟨g, 0, none⟩ ∧ base ≤ g ∧ g < w.heap.size ∧ w.cell? ⟨g, i * 4, none⟩ = some (.int .i64 e.h) ∧ w.cell? ⟨g, i * 4 + 1, none⟩ = some (.int .i64 e.q.p) ∧ w.cell? ⟨g, i * 4 + 2, none⟩ = some (.int .i64 e.q.o) ∧ w.cell? ⟨g, i * 4 + 3, none⟩ = some (.int .i64 e.q.l) := by
  have hl := (List.getElem?_eq_some_iff.1 hi).1
  obtain ⟨h1, h2, h3, h3'⟩ := rowD_at hi
  rcases h.2 with ⟨_, h4⟩ | ⟨g, cap, cur, h4, h5, h6, _⟩
  · omega
  · simp only [Value.slice.injEq, true_and] at h4
    obtain ⟨rfl, rfl⟩ := h4
    refine ⟨g, rfl, h5, (Array.getElem?_eq_some_iff.1 h6).1, ?_, ?_, ?_, ?_⟩
    · rw [World.ownsRow.cellAt h (i * 4) (by omega)]; exact h1
    · rw [World.ownsRow.cellAt h (i * 4 + 1) (by omega)]; exact h2
    · rw [World.ownsRow.cellAt h (i * 4 + 2) (by omega)]; exact h3
    · rw [World.ownsRow.cellAt h (i * 4 + 3) (by omega)]; exact h3'
end
set_option maxHeartbeats 1000000 in
theorem refAt_any {base : Nat} {v : Value} {X : List Hd} (n : Int) (w : World) (h : DsAt w base v X) (hL : X.length ≤ 1000) :
    Calls Try.prog 21 #[v, .int .i64 n] w fun e w' => ∃ x : Int, e = .returned (.int .i64 x) ∧ w = w' ∧ PlaceD X n x := by
  obtain ⟨a, c, rfl⟩ := row_slice h
  have H : Hid (DsAt w base (.slice a X.length c) X) := h
  clear h
  go_enter Try.func21, Try.ntmps21
  go_wp2_with fail
  go_loopg [5] X.length (fun gk i wr => ∃ k : Nat, k ≤ X.length ∧ gk = X.length - k ∧ i = .int .i64 k ∧ w = wr ∧ ∀ j x, j < k → X[j]? = some x → x.h ≠ n)
  case atStart => exact ⟨0, by omega, rfl, rfl, rfl, fun j _ h => by omega⟩
  case round =>
    obtain ⟨k, hk, rfl, rfl, rfl, hno⟩ := hrel
    have HNO : Hid (∀ j x, j < k → X[j]? = some x → x.h ≠ n) := hno
    clear hno
    by_cases hlt : k < X.length
    · have i1 : (k : Int) < (X.length : Int) := by omega
      obtain ⟨x, hx⟩ : ∃ x, X[k]? = some x := ⟨_, List.getElem?_eq_getElem hlt⟩
      obtain ⟨g, rfl, _, _, c0, _, _, _⟩ := H.out.at hx
      have HX : Hid (X[k]? = some x) := hx
      clear hx
      by_cases he : x.h = n
      · have i2 : (x.h == n) = true := by rw [beq_iff_eq]; exact he
        have HF : Hid (PlaceD X n (k : Nat)) := ⟨fun _ => ⟨k, x, rfl, HX.out, he⟩, fun h => by omega, by omega⟩
        clear he
        generalize x.h = y at *
        go_wp2
        go_ret
        exact ⟨_, rfl, rfl, HF.out⟩
      · have i2 : (x.h == n) = false := by rw [beq_eq_false_iff_ne]; exact he
        have HK : Hid (∀ j x, j < k + 1 → X[j]? = some x → x.h ≠ n) := by
          intro j o2 hj h2
          by_cases hjk : j = k
          · subst hjk
            rw [HX.out] at h2
            cases h2
            exact he
          · exact HNO.out j o2 (by omega) h2
        generalize x.h = y at *
        go_wp2
        go_roundg (X.length - (k + 1))
        case measure => omega
        case rel => exact ⟨k + 1, by omega, rfl, by go_num, rfl, HK.out⟩
    · have i1 : ¬ (k : Int) < (X.length : Int) := by omega
      have HF : Hid (PlaceD X n (-1)) := by
        refine ⟨fun h => by omega, fun _ => ⟨rfl, ?_⟩, by omega⟩
        unfold hasD
        rw [List.any_eq_false]
        intro o ho
        obtain ⟨j, hj⟩ := List.getElem?_of_mem ho
        have := HNO.out j o (by have := (List.getElem?_eq_some_iff.1 hj).1; omega) hj
        simpa using this
      go_wp2
      go_ret
      exact ⟨_, rfl, rfl, HF.out⟩

set_option maxHeartbeats 400000 in
theorem refInts_any {B C : Nat} {v u : Value} {l : List Nat} (w : World) (h : w.ownsRow B 3 1 v l.length (vI l)) (h2 : w.ownsRow C 3 1 u l.length (vI l)) (hs : l.length ≤ 4096) :
    Calls Try.prog 17 #[v, u] w fun e w' => e = .returned (.bool true) ∧ Below w.heap.size w w' := by
  obtain ⟨a, c, rfl⟩ := row_slice h
  obtain ⟨a2, c2, rfl⟩ := row_slice h2
  have H : Hid (w.ownsRow B 3 1 (.slice a l.length c) l.length (vI l)) := h
  have H2 : Hid (w.ownsRow C 3 1 (.slice a2 l.length c2) l.length (vI l)) := h2
  clear h h2
  go_enter Try.func17, Try.ntmps17
  go_wp2
  go_loopg [5] l.length (fun gk i wr => ∃ k m : Nat, k ≤ l.length ∧ gk = l.length - k ∧ i = .int .i64 k ∧ wr = w.drewN m)
  case atStart => exact ⟨0, 0, Nat.zero_le _, rfl, rfl, rfl⟩
  case round =>
    obtain ⟨k, m, hk, rfl, rfl, rfl⟩ := hrel
    by_cases hlt : k < l.length
    · obtain ⟨g, rfl, hc, _⟩ := row_at H.out hlt
      obtain ⟨g2, rfl, hc2, _⟩ := row_at H2.out hlt
      rw [vI_at l k hlt] at hc hc2
      generalize l.getD k 0 = q at *
      have hlt' : (k : Int) < (l.length : Int) := by omega
      go_wp2_with fail
      go_quiet (fail)
      go_wp2
      go_roundg (l.length - (k + 1))
      case measure => omega
      case rel => exact ⟨k + 1, _, by omega, rfl, by go_num, rfl⟩
    · have e : k = l.length := by omega
      go_wp2
      go_ret
      exact ⟨rfl, drewN_below _ _ _⟩
end Go.Proofs.Ytlnkelhhemgibaa
