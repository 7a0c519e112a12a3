/- A book in memory; the walks of New, Put, Drop, others. -/
import Derived.Test.YthjacjckobkhmaaUOf
namespace Go.Proofs.Ythjacjckobkhmaa
open Go.RowKit

/-- A book in block r, whose map lies in block b. -/
structure BookAt (w : World) (r b : Nat) (L : List Gh) : Prop where
  bk : w.heap[r]? = some (.cells #[.map (some b)] 55 (0, 0))
  ne : r ≠ b
  mp : MapAt w b L
/-- A book, or none. -/
def BookP (w : World) (v : Value) (L : List Gh) : Prop := (v = .pointer none ∧ L = []) ∨ ∃ r b, v = .pointer (some ⟨r, 0, none⟩) ∧ BookAt w r b L
section
variable {w w' : World} {r b : Nat} {L : List Gh} {v : Value}
theorem BookAt.below (h : BookAt w r b L) (hb : Below w.heap.size w w') : BookAt w' r b L := ⟨(hb.block r (Array.getElem?_eq_some_iff.1 h.bk).1).trans h.bk, h.ne, h.mp.below hb⟩
theorem BookAt.lt (h : BookAt w r b L) : r < w.heap.size ∧ b < w.heap.size := ⟨(Array.getElem?_eq_some_iff.1 h.bk).1, h.mp.lt⟩
theorem BookAt.cell (h : BookAt w r b L) : w.cell? ⟨r, 0, none⟩ = some (.map (some b)) := cell_of_one h.bk
theorem BookAt.p (h : BookAt w r b L) : BookP w (.pointer (some ⟨r, 0, none⟩)) L := .inr ⟨r, b, rfl, h⟩
theorem BookP.below (h : BookP w v L) (hb : Below w.heap.size w w') : BookP w' v L := by
  rcases h with h | ⟨r, b, h1, h2⟩
  · exact .inl h
  · exact .inr ⟨r, b, h1, h2.below hb⟩
theorem bookP_nil (w : World) : BookP w (.pointer none) [] := .inl ⟨rfl, rfl⟩
theorem BookAt.turned (h : BookAt w r b L) {L' : List Gh} (hg : w.grownBy w' (some b)) (hm : MapAt w' b L') : BookAt w' r b L' :=
  ⟨(hg.block r h.lt.1 (fun e => h.ne (by simpa using e))).trans h.bk, h.ne, hm⟩
end

set_option maxHeartbeats 400000 in
theorem gNew_any (w : World) : Calls Try.prog 16 #[] w fun e w' => e = .returned (.pointer (some ⟨w.heap.size + 1, 0, none⟩)) ∧ BookAt w' (w.heap.size + 1) w.heap.size [] ∧ Below w.heap.size w w' := by
  have hmm := @run_makeMap Try.prog
  obtain ⟨W2, hW2⟩ : ∃ W2, (w.alloc (.map #[] 0)).alloc (.cells #[.map (some w.heap.size)] 55) = W2 := ⟨_, rfl⟩
  have HB : Hid (BookAt W2 (w.heap.size + 1) w.heap.size [] ∧ Below w.heap.size w W2) := by
    have hb1 : Below w.heap.size w (w.alloc (.map #[] 0)) := (Below.refl _ w).alloc (Nat.le_refl _) _
    have hb2 : Below (w.heap.size + 1) (w.alloc (.map #[] 0)) W2 := by rw [← hW2]; exact (Below.refl _ _).alloc (by simp) _
    refine ⟨⟨?_, by omega, (MapAt.made w).below (by simpa using hb2)⟩, hb1.trans (hb2.mono (by omega))⟩
    have := heap_alloc_new (w.alloc (.map #[] 0)) (.cells #[.map (some w.heap.size)] 55)
    rw [hW2, World.size_alloc] at this
    exact this
  go_enter Try.func16, Try.ntmps16
  go_wp2
  go_ret
  exact ⟨rfl, HB.out⟩

/-- May a number have these? -/
def okG (x : Gh) : Bool := decide (0 ≤ x.n ∧ x.n < 4096 ∧ 0 ≤ x.u ∧ x.u ≤ x.m)
/-- What a Put leaves. -/
def putR (L : List Gh) (x : Gh) : List Gh := if okG x then putG L x else L
theorem okG_yes {x : Gh} (h : 0 ≤ x.n ∧ x.n < 4096 ∧ 0 ≤ x.u ∧ x.u ≤ x.m) (L : List Gh) : okG x = true ∧ putR L x = putG L x := by
  have e : okG x = true := decide_eq_true h
  exact ⟨e, by unfold putR; rw [if_pos e]⟩
theorem okG_no {x : Gh} (h : ¬ (0 ≤ x.n ∧ x.n < 4096 ∧ 0 ≤ x.u ∧ x.u ≤ x.m)) (L : List Gh) : okG x = false ∧ putR L x = L := by
  have e : okG x = false := decide_eq_false h
  exact ⟨e, by unfold putR; rw [e, if_neg (by simp)]⟩
theorem Gok.putR {L : List Gh} (h : Gok L) {x : Gh} (hm : x.m ≤ 100000000) : Gok (putR L x) := by
  by_cases hx : 0 ≤ x.n ∧ x.n < 4096 ∧ 0 ≤ x.u ∧ x.u ≤ x.m
  · rw [(okG_yes hx L).2]; exact h.put (by omega)
  · rw [(okG_no hx L).2]; exact h

set_option maxHeartbeats 400000 in
theorem gPut_any {r b : Nat} {L : List Gh} (n u m : Int) (w : World) (h : BookAt w r b L) (hG : Gok L) (hm : m ≤ 100000000) (hL : L.length ≤ 100000) :
    Calls Try.prog 12 #[.pointer (some ⟨r, 0, none⟩), .int .i64 n, .int .i64 u, .int .i64 m] w fun e w' => e = .returned (.bool (okG ⟨n, u, m⟩)) ∧ BookAt w' r b (putR L ⟨n, u, m⟩) ∧ w.grownBy w' (some b) := by
  by_cases h1 : n < 0
  · have H : Hid _ := okG_no (x := ⟨n, u, m⟩) (by simp only; omega) L
    have HB : Hid (BookAt w r b L) := h
    clear h hG
    go_enter Try.func12, Try.ntmps12
    go_wp2
    go_ret
    exact ⟨retBool H.out.1.symm, by rw [H.out.2]; exact HB.out, World.grownBy.refl _ _⟩
  · by_cases h2 : 4096 ≤ n
    · have H : Hid _ := okG_no (x := ⟨n, u, m⟩) (by simp only; omega) L
      have HB : Hid (BookAt w r b L) := h
      clear h hG
      go_enter Try.func12, Try.ntmps12
      go_wp2
      go_ret
      exact ⟨retBool H.out.1.symm, by rw [H.out.2]; exact HB.out, World.grownBy.refl _ _⟩
    · by_cases h3 : u < 0
      · have H : Hid _ := okG_no (x := ⟨n, u, m⟩) (by simp only; omega) L
        have HB : Hid (BookAt w r b L) := h
        clear h hG
        go_enter Try.func12, Try.ntmps12
        go_wp2
        go_ret
        exact ⟨retBool H.out.1.symm, by rw [H.out.2]; exact HB.out, World.grownBy.refl _ _⟩
      · by_cases h4 : m < u
        · have H : Hid _ := okG_no (x := ⟨n, u, m⟩) (by simp only; omega) L
          have HB : Hid (BookAt w r b L) := h
          clear h hG
          go_enter Try.func12, Try.ntmps12
          go_wp2
          go_ret
          exact ⟨retBool H.out.1.symm, by rw [H.out.2]; exact HB.out, World.grownBy.refl _ _⟩
        · have H : Hid _ := okG_yes (x := ⟨n, u, m⟩) (by simp only; omega) L
          have c0 := h.cell
          obtain ⟨w1, hrun, hm1, hg1⟩ := h.mp.put hG (x := ⟨n, u, m⟩) (by simp only; omega) hL
          simp only at hrun
          have HB : Hid (BookAt w1 r b (putG L ⟨n, u, m⟩)) := h.turned hg1 hm1
          have HG : Hid (w.grownBy w1 (some b)) := hg1
          clear h hG hm1 hg1
          go_enter Try.func12, Try.ntmps12
          go_wp2
          go_ret
          exact ⟨retBool H.out.1.symm, by rw [H.out.2]; exact HB.out, HG.out⟩
set_option maxHeartbeats 400000 in
theorem gPut_nil (n u m : Int) (w : World) : Calls Try.prog 12 #[.pointer none, .int .i64 n, .int .i64 u, .int .i64 m] w fun e w' => e = .returned (.bool false) ∧ w = w' := by
  go_enter Try.func12, Try.ntmps12
  go_wp2
  go_ret
  exact ⟨rfl, rfl⟩
set_option maxHeartbeats 400000 in
theorem gDrop_nil (n : Int) (w : World) : Calls Try.prog 13 #[.pointer none, .int .i64 n] w fun e w' => e = .returned (.bool false) ∧ w = w' := by
  go_enter Try.func13, Try.ntmps13
  go_wp2
  go_ret
  exact ⟨rfl, rfl⟩
set_option maxHeartbeats 400000 in
theorem gDrop_any {r b : Nat} {L : List Gh} (n : Int) (w : World) (h : BookAt w r b L) (hG : Gok L) (hn : -9223372036854775808 ≤ n ∧ n ≤ 9223372036854775807) :
    Calls Try.prog 13 #[.pointer (some ⟨r, 0, none⟩), .int .i64 n] w fun e w' => e = .returned (.bool (hasG L n)) ∧ BookAt w' r b (delG L n) ∧ w.grownBy w' (some b) := by
  have c0 := h.cell
  obtain ⟨u, m, hlk⟩ := h.mp.look_ok hn
  obtain ⟨W1, hW1⟩ : ∃ W1, w.alloc (.cells #[.int .i64 u, .int .i64 m] 51) = W1 := ⟨_, rfl⟩
  have hb1 : Below w.heap.size w W1 := by rw [← hW1]; exact (Below.refl _ w).alloc (Nat.le_refl _) _
  have hg0 : w.grownBy W1 (some b) := by rw [← hW1]; exact World.grownBy_alloc _ _ _
  have h1 := h.below hb1
  have c1 := h1.cell
  obtain ⟨w2, hrun, hm2, hg2⟩ := h1.mp.del hG hn 0
  have HB : Hid (BookAt w2 r b (delG L n)) := h1.turned hg2 hm2
  have HG : Hid (w.grownBy w2 (some b)) := hg0.trans hg2
  generalize hasG L n = z at *
  clear h hG h1 hm2 hg2 hg0 hb1
  go_enter Try.func13, Try.ntmps13
  go_wp2
  go_ret
  exact ⟨rfl, HB.out, HG.out⟩
end Go.Proofs.Ythjacjckobkhmaa
