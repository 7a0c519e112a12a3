/- Tokens that lie in memory, one behind the other; the bytes of those that may be. -/
import Derived.Test.YtgninhecclinaaaKPut
namespace Go.Proofs.Ytgninhecclinaaa
open Go.RowKit

/-- A token. -/
structure Tk where
  p : Option Addr
  l : Nat
  c : Nat
  b : List Nat
  n : Int
  d : Int
structure TkOk (w : World) (t : Tk) : Prop where
  by_ : ByAt w t.p t.l t.c t.b
  n : -9223372036854775808 ≤ t.n ∧ t.n ≤ 9223372036854775807
  d : -9223372036854775808 ≤ t.d ∧ t.d ≤ 9223372036854775807
def Tk.cells (t : Tk) : List Value := [.slice t.p t.l t.c, .int .i64 t.n, .int .i64 t.d]
theorem TkOk.below {w w' : World} {t : Tk} (h : TkOk w t) (hb : Below w.heap.size w w') : TkOk w' t := ⟨h.by_.later hb, h.n, h.d⟩

/-- L tokens that lie in memory, read through a slice value. -/
def TksAt (w : World) (a : Option Addr) (L : Nat) (D : Nat → Tk) : Prop :=
  L = 0 ∨ ∃ b off, a = some ⟨b, off, none⟩ ∧ b < w.heap.size ∧ ∀ i, i < L → TkOk w (D i) ∧ ∀ j, j < 3 → w.cell? ⟨b, off + i * 3 + j, none⟩ = (D i).cells[j]?
section
variable {w w' : World} {a : Option Addr} {L : Nat} {D : Nat → Tk}
theorem TksAt.ok (h : TksAt w a L D) {i : Nat} (hi : i < L) : TkOk w (D i) := by
  rcases h with rfl | ⟨b, off, rfl, hlt, hc⟩
  · omega
  · exact (hc i hi).1
theorem TksAt.below (h : TksAt w a L D) (hb : Below w.heap.size w w') : TksAt w' a L D := by
  rcases h with rfl | ⟨b, off, rfl, hlt, hc⟩
  · exact .inl rfl
  · refine .inr ⟨b, off, rfl, Nat.lt_of_lt_of_le hlt hb.size, fun i hi => ⟨(hc i hi).1.below hb, fun j hj => ?_⟩⟩
    rw [hb.cell (p := ⟨b, off + i * 3 + j, none⟩) hlt]
    exact (hc i hi).2 j hj
/-- Where the i-th lies. -/
theorem TksAt.at (h : TksAt w a L D) {i : Nat} (hi : i < L) :
    ∃ b off, a = some ⟨b, off, none⟩ ∧ b < w.heap.size ∧ ∀ w', Below w.heap.size w w' → w'.cell? ⟨b, off + i * 3, none⟩ = some (.slice (D i).p (D i).l (D i).c) ∧ w'.cell? ⟨b, off + i * 3 + 1, none⟩ = some (.int .i64 (D i).n) ∧ w'.cell? ⟨b, off + i * 3 + 2, none⟩ = some (.int .i64 (D i).d) := by
  rcases h with rfl | ⟨b, off, rfl, hlt, hc⟩
  · omega
  · obtain ⟨_, h2⟩ := hc i hi
    refine ⟨b, off, rfl, hlt, fun w' hb => ⟨?_, ?_, ?_⟩⟩
    · rw [hb.cell (p := ⟨b, off + i * 3, none⟩) hlt]; exact h2 0 (by omega)
    · rw [hb.cell (p := ⟨b, off + i * 3 + 1, none⟩) hlt]; exact h2 1 (by omega)
    · rw [hb.cell (p := ⟨b, off + i * 3 + 2, none⟩) hlt]; exact h2 2 (by omega)
end
def mayD (t : Tk) : Bool := mayT t.l t.n t.d
/-- May the first k all be? -/
def allT (D : Nat → Tk) : Nat → Bool
  | 0 => true
  | k + 1 => allT D k && mayD (D k)
/-- The bytes of those of the first k that may be. -/
def catT (D : Nat → Tk) : Nat → List Nat
  | 0 => []
  | k + 1 => if mayD (D k) then catT D k ++ tokB (D k).b (D k).n (D k).d else catT D k
section
variable {D : Nat → Tk} {L k : Nat}
theorem allT_step (h1 : allT D k = true) (h2 : mayD (D k) = true) : allT D (k + 1) = true := by simp [allT, h1, h2]
theorem catT_yes (h : mayD (D k) = true) : catT D (k + 1) = catT D k ++ tokB (D k).b (D k).n (D k).d := by simp [catT, h]
theorem catT_no (h : mayD (D k) = false) : catT D (k + 1) = catT D k := by simp [catT, h]
theorem allT_at : ∀ {L k : Nat}, allT D L = true → k < L → mayD (D k) = true
  | 0, k, _, hk => by omega
  | L + 1, k, h, hk => by
    simp only [allT, Bool.and_eq_true] at h
    by_cases e : k = L
    · subst e; exact h.2
    · exact allT_at h.1 (by omega)
theorem allT_no : ∀ {L k : Nat}, k < L → mayD (D k) = false → allT D L = false
  | 0, k, hk, _ => by omega
  | L + 1, k, hk, h => by
    by_cases e : k = L
    · subst e; simp [allT, h]
    · simp [allT, allT_no (k := k) (L := L) (by omega) h]
theorem catT_len (h : ∀ i, i < L → (D i).b.length = (D i).l) : ∀ k, k ≤ L → (catT D k).length ≤ 129 * k
  | 0, _ => by simp [catT]
  | k + 1, hk => by
    have ih := catT_len h k (by omega)
    cases hm : mayD (D k) with
    | true =>
      rw [catT_yes hm, List.length_append]
      have := tok_len (b := (D k).b) (n := (D k).n) (d := (D k).d) (by rw [h k (by omega)]; exact hm)
      omega
    | false => rw [catT_no hm]; omega
theorem catT_byte (h : ∀ i, i < L → (D i).b.length = (D i).l ∧ ∀ x ∈ (D i).b, x < 256) : ∀ k, k ≤ L → ∀ x ∈ catT D k, x < 256
  | 0, _ => by simp [catT]
  | k + 1, hk => by
    have ih := catT_byte h k (by omega)
    obtain ⟨h1, h2⟩ := h k (by omega)
    cases hm : mayD (D k) with
    | true =>
      rw [catT_yes hm]
      intro x hx
      rcases List.mem_append.1 hx with hx | hx
      · exact ih x hx
      · exact tok_byte h2 (by rw [h1]; exact hm) x hx
    | false => rw [catT_no hm]; exact ih
/-- All bytes, parted at the k-th token. -/
theorem catT_part : ∀ (m L : Nat), k + 1 + m = L → allT D L = true → ∃ q, catT D L = catT D k ++ tokB (D k).b (D k).n (D k).d ++ q
  | 0, L, e, h => ⟨[], by subst e; rw [List.append_nil]; exact catT_yes (allT_at h (by omega))⟩
  | m + 1, L, e, h => by
    obtain ⟨L', rfl⟩ : ∃ L', L = L' + 1 := ⟨k + 1 + m, by omega⟩
    have h' : allT D L' = true := by simp only [allT, Bool.and_eq_true] at h; exact h.1
    obtain ⟨q, hq⟩ := catT_part m L' (by omega) h'
    exact ⟨q ++ tokB (D L').b (D L').n (D L').d, by rw [catT_yes (allT_at h (by omega)), hq]; simp⟩
end
/-- What Put answers. -/
def putT (D : Nat → Tk) (L : Nat) : List Nat := if allT D L then catT D L else []

/-- Bytes that were just laid. -/
theorem own_lit (w : World) (B g n : Nat) (xs : List Nat) (vs : Array Value) (hg : g = w.heap.size) (hB : B ≤ g) (hn : xs.length = n) (hm : n ≤ maxLen) (hv : vs.toList = bv xs) : (w.alloc (.cells vs 5)).ownsRow B 5 1 (.slice (some ⟨g, 0, none⟩) n n) n (bv xs) := by
  subst hg
  have hs : vs.size = n * 1 := by rw [← Array.length_toList, hv, length_bv, hn, Nat.mul_one]
  have := World.ownsRow_lit (base := B) (e := 5) (size := 1) w vs n hB hm hs
  rwa [hv] at this


end Go.Proofs.Ytgninhecclinaaa
