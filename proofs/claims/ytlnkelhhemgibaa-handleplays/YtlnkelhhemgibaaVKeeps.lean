/- Tables that are filled from their start; rows of places; what stands through a law's rounds. -/
import Derived.Test.YtlnkelhhemgibaaVDeeds
import Derived.Test.YtlnkelhhemgibaaVOpen
import Derived.Test.YtlnkelhhemgibaaVLen
import Derived.Test.YtlnkelhhemgibaaGSrc
namespace Go.Proofs.Ytlnkelhhemgibaa
open Go.RowKit

/-- The first n handles are in use, no others. -/
structure Pre (T : Int → Pl) (n : Nat) : Prop where
  ok : TOk T
  used : ∀ j : Nat, 1 ≤ j → (T j ≠ zP ↔ j ≤ n)
  hi : n ≤ 512
theorem pre_no : Pre noT 0 := ⟨noT_ok, fun j h => ⟨fun h2 => absurd rfl h2, fun h2 => by omega⟩, by omega⟩
section
variable {T : Int → Pl} {n : Nat}
theorem Pre.none (h : Pre T n) {j : Nat} (h1 : n < j) : T j = zP := by
  apply Classical.byContradiction
  intro e
  have := (h.used j (by omega)).1 e
  omega
theorem Pre.free (h : Pre T n) (hn : n < 512) : IsFree T (n + 1) := ⟨by omega, by omega, h.none (by omega), fun j h1 h2 => (h.used j h1).2 (by omega)⟩
theorem Pre.full (h : Pre T n) (hn : n = 512) : Full T := fun j h1 h2 => (h.used j h1).2 (by omega)
theorem Pre.put (h : Pre T n) (hn : n < 512) {x : Pl} (hx : mayP x = true) : Pre (putT T ((n + 1 : Nat) : Int) x) (n + 1) := by
  refine ⟨h.ok.put (by omega) (.inr hx), fun j h1 => ?_, by omega⟩
  by_cases e : j = n + 1
  · subst e
    rw [putT_same]
    exact ⟨fun _ => Nat.le_refl _, fun _ => may_used hx⟩
  · rw [putT_other x (by omega), h.used j h1]
    omega
theorem Pre.cnt (h : Pre T n) : cntT T 513 = n := by
  have h0 : cntT T 1 = 0 := by
    have hg : Gap T 0 1 := fun j _ h2 => h.ok.out _ (.inl (by omega))
    rw [hg.cnt (Nat.zero_le _)]
    rfl
  have hs : ∀ s, s ≤ n → cntT T (s + 1) = s := by
    intro s
    induction s with
    | zero => intro _; exact h0
    | succ s ih =>
      intro hsn
      have hg : Gap T (s + 1) (s + 1) := fun j h1 h2 => by omega
      rw [cnt_used hg (Nat.le_refl _) ((h.used (s + 1) (by omega)).2 hsn), ih (by omega)]
  have hg : Gap T (n + 1) 513 := fun j h1 h2 => h.none (by omega)
  have := h.hi
  rw [hg.cnt (by omega), hs n (Nat.le_refl _)]
/-- What the first m stand for. -/
def wasT (T : Int → Pl) (m : Nat) : List Pl := (List.range m).map fun i => T ((i + 1 : Nat) : Int)
theorem wasT_len (T : Int → Pl) (m : Nat) : (wasT T m).length = m := by simp [wasT]
theorem wasT_put (T : Int → Pl) {k : Nat} (hk : 1 ≤ k) : wasT T k = wasT T (k - 1) ++ [T (k : Nat)] := by
  obtain ⟨j, rfl⟩ : ∃ j, k = j + 1 := ⟨k - 1, by omega⟩
  simp [wasT, List.range_succ]
theorem wasT_at (T : Int → Pl) {k m : Nat} (hk : 1 ≤ k) (hm : k ≤ m) : (wasT T m)[k - 1]? = some (T (k : Nat)) := by
  unfold wasT
  rw [List.getElem?_map, List.getElem?_range (by omega)]
  show some (T ((k - 1 + 1 : Nat) : Int)) = _
  rw [show k - 1 + 1 = k by omega]
end
theorem Try.infoPl : (Try.prog.info? 28).map (fun i => (i.zero, i.size, i.bytes)) = some (some (.agg #[.int .i64 0, .int .i64 0, .int .i64 0]), 3, 24) := by kernel_rfl
def rowQ (X : List Pl) : List Value := X.flatMap Pl.cs
theorem rowQ_len : ∀ X : List Pl, (rowQ X).length = X.length * 3
  | [] => rfl
  | x :: X => by
    have := rowQ_len X
    unfold rowQ at this ⊢
    rw [List.flatMap_cons, List.length_append, this, List.length_cons]
    simp [Pl.cs]
    omega
theorem rowQ_snoc (S : List Pl) (x : Pl) : rowQ (S ++ [x]) = rowQ S ++ x.cs := by simp [rowQ]
theorem cs_one (x : Pl) : ∀ u ∈ x.cs, u.oneCell' = true := by
  intro u hu
  simp only [Pl.cs, List.mem_cons, List.not_mem_nil, or_false] at hu
  rcases hu with rfl | rfl | rfl <;> rfl
theorem rowQ_at : ∀ {X : List Pl} {i : Nat} {e : Pl}, X[i]? = some e → (rowQ X)[i * 3]? = some (.int .i64 e.p) ∧ (rowQ X)[i * 3 + 1]? = some (.int .i64 e.o) ∧ (rowQ X)[i * 3 + 2]? = some (.int .i64 e.l)
  | [], i, e, h => by simp at h
  | x :: X, 0, e, h => by
    obtain rfl : x = e := by simpa using h
    exact ⟨rfl, rfl, rfl⟩
  | x :: X, i + 1, e, h => by
    have := rowQ_at (X := X) (i := i) (e := e) (by simpa using h)
    have e3 : (Pl.cs x).length = 3 := rfl
    show (Pl.cs x ++ rowQ X)[(i + 1) * 3]? = _ ∧ (Pl.cs x ++ rowQ X)[(i + 1) * 3 + 1]? = _ ∧ (Pl.cs x ++ rowQ X)[(i + 1) * 3 + 2]? = _
    rw [List.getElem?_append_right (by omega), List.getElem?_append_right (by omega), List.getElem?_append_right (by omega), e3, show (i + 1) * 3 - 3 = i * 3 by omega, show (i + 1) * 3 + 1 - 3 = i * 3 + 1 by omega, show (i + 1) * 3 + 2 - 3 = i * 3 + 2 by omega]
    exact this
/-- Places in a row of one's own. -/
def PsAt (w : World) (base : Nat) (v : Value) (X : List Pl) : Prop := w.ownsRow base 28 3 v X.length (rowQ X)
theorem PsAt.upto {w w' : World} {base : Nat} {v : Value} {X : List Pl} (h : PsAt w base v X) (hb : Below w.heap.size w w') : PsAt w' base v X := row_below h hb
theorem PsAt.turns {w w' : World} {base B E : Nat} {v : Value} {X : List Pl} (h : PsAt w base v X) (ht : Turns B E w w') (he : E ≤ base) : PsAt w' base v X := ht.row h he
theorem psAt_nil (w : World) (base : Nat) : PsAt w base (.slice none 0 0) [] := World.ownsRow_nil _ _ _ _
theorem PsAt.at {w : World} {base : Nat} {X : List Pl} {a : Option Addr} {c n i : Nat} {e : Pl} (h : PsAt w base (.slice a n c) X) (hn : X.length = n) (hi : X[i]? = some e) :
    ∃ g, a = some ⟨g, 0, none⟩ ∧ w.cell? ⟨g, i * 3, none⟩ = some (.int .i64 e.p) ∧ w.cell? ⟨g, i * 3 + 1, none⟩ = some (.int .i64 e.o) ∧ w.cell? ⟨g, i * 3 + 2, none⟩ = some (.int .i64 e.l) := by
  subst hn
  have hl := (List.getElem?_eq_some_iff.1 hi).1
  obtain ⟨h1, h2, h3⟩ := rowQ_at hi
  rcases h.2 with ⟨_, h4⟩ | ⟨g, cap, cur, h4, h5, h6, _⟩
  · omega
  · simp only [Value.slice.injEq, true_and] at h4
    obtain ⟨rfl, rfl⟩ := h4
    refine ⟨g, rfl, ?_, ?_, ?_⟩
    · rw [World.ownsRow.cellAt h (i * 3) (by omega)]; exact h1
    · rw [World.ownsRow.cellAt h (i * 3 + 1) (by omega)]; exact h2
    · rw [World.ownsRow.cellAt h (i * 3 + 2) (by omega)]; exact h3

theorem cells_five {w : World} {g : Nat} {u0 u1 u2 u3 u4 : Value} {t : TypeId} (h : w.heap[g]? = some (.cells #[u0, u1, u2, u3, u4] t (0, 0))) :
    w.cell? ⟨g, 0, none⟩ = some u0 ∧ w.cell? ⟨g, 1, none⟩ = some u1 ∧ w.cell? ⟨g, 2, none⟩ = some u2 ∧ w.cell? ⟨g, 3, none⟩ = some u3 ∧ w.cell? ⟨g, 4, none⟩ = some u4 :=
  ⟨cell_of_row w g 0 _ _ _ h, cell_of_row w g 1 _ _ _ h, cell_of_row w g 2 _ _ _ h, cell_of_row w g 3 _ _ _ h, cell_of_row w g 4 _ _ _ h⟩
/-- A deed's box and a table. -/
structure Kp (w wr : World) (b t : Nat) (q : Dd) (T : Int → Pl) : Prop where
  bel : Below w.heap.size w wr
  box : wr.heap[b]? = some (.cells #[.int .i64 q.k, .int .i64 q.h, .int .i64 q.q.p, .int .i64 q.q.o, .int .i64 q.q.l] 41 (0, 0))
  tab : TabAt wr t T
  lo : w.heap.size ≤ b ∧ b < t
section
variable {w wr w' : World} {b t : Nat} {q : Dd} {T T' : Int → Pl}
theorem Kp.upto {B : Nat} (h : Kp w wr b t q T) (hb : Below B wr w') (hB : t + 1 ≤ B) : Kp w w' b t q T := by
  have := h.lo
  exact ⟨h.bel.trans (hb.mono (by omega)), (hb.block b (by omega)).trans h.box, h.tab.below hb (by omega), h.lo⟩
theorem Kp.below (h : Kp w wr b t q T) (hb : Below wr.heap.size wr w') : Kp w w' b t q T := h.upto hb (by have := h.tab.lt; omega)
theorem Kp.turns (h : Kp w wr b t q T) (ht : Turns t (t + 1) wr w') (hT : TabAt w' t T') : Kp w w' b t q T' := by
  have h1 := h.lo
  have h2 := h.tab.lt
  have h3 := h.bel.size
  exact ⟨h.bel.trans ((ht.below (by omega)).mono (by omega)), (ht.block b (by omega) (.inl (by omega))).trans h.box, hT, h.lo⟩
theorem Kp.grown (h : Kp w wr b t q T) {o : Option Nat} (hg : wr.grownBy w' o) (ho : ∀ i, o = some i → t + 1 ≤ i) : Kp w w' b t q T :=
  h.upto (((Below.refl (t + 1) wr)).grown hg (by have := h.tab.lt; omega) ho) (Nat.le_refl _)
theorem Kp.sz (h : Kp w wr b t q T) : t < wr.heap.size := h.tab.lt
end
/-- What a deed leaves of the handles 1 to n. -/
structure Aft (T T' : Int → Pl) (n : Nat) (M : Int) (q : Dd) : Prop where
  same : ∀ j : Nat, 1 ≤ j → j ≤ n → (j : Int) ≠ M → T' j = T j
  made : 0 < M → (q.k = 0 ∨ q.k = 1) → T' M = q.q ∧ isU q.q = true
theorem setT_other {T : Int → Pl} {h i : Int} (x : Pl) (hi : i ≠ h) : setT T h x i = T i := by
  unfold setT
  split
  · exact putT_other x hi
  · rfl
theorem turns_or {v : Value} {t : Nat} {T : Int → Pl} {w w' : World} {P : Prop} (hv : v = .pointer (some ⟨t, 0, none⟩)) (h : (P ∧ Below w.heap.size w w') ∨ ∃ t : Nat, v = .pointer (some ⟨t, 0, none⟩) ∧ TabAt w t T ∧ Turns t (t + 1) w w') : Turns t (t + 1) w w' := by
  rcases h with ⟨_, h⟩ | ⟨t2, h2, _, h⟩
  · exact Turns.of_below h
  · rw [hv] at h2
    cases h2
    exact h
theorem TabP.at {v : Value} {t : Nat} {T : Int → Pl} {w : World} (h : TabP w v T) (hv : v = .pointer (some ⟨t, 0, none⟩)) : TabAt w t T := by
  rcases h with ⟨h2, _⟩ | ⟨t2, h2, h⟩
  · rw [hv] at h2; cases h2
  · rw [hv] at h2
    cases h2
    exact h
end Go.Proofs.Ytlnkelhhemgibaa
