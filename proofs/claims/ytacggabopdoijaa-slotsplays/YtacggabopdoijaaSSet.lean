/- Slots in memory (SlotsAt: choices zs of which k were asked for, which are in use x, the pages pg), and the walks of inUse, Slots, Used, In, Drop, sector, of nil slots too. -/
import Derived.Test.YtacggabopdoijaaDNew
import Derived.Test.YtacggabopdoijaaBNew
import Derived.Test.YtacggabopdoijaaBFirst
import Derived.Test.YtacggabopdoijaaBLen
namespace Go.Proofs.Ytacggabopdoijaa
open Go.RowKit

/-- The place of the first of eight accesses that fails, 8 where none does. -/
def fst8 (zs : List Bool) (k : Nat) : Nat := (List.range 8).findIdx fun i => fa zs (k + i)
/-- Does one of eight accesses fail? -/
def askB (zs : List Bool) (k : Nat) : Bool := decide (fst8 zs k < 8)
/-- How many are asked for then. -/
def askN (zs : List Bool) (k : Nat) : Nat := if fst8 zs k < 8 then fst8 zs k + 1 else 8
theorem ask_fail {zs : List Bool} {k i : Nat} (hi : i < 8) (hl : ∀ j, j < i → fa zs (k + j) = false) (hf : fa zs (k + i) = true) : askB zs k = true ∧ askN zs k = i + 1 := by
  have e : fst8 zs k = i := by
    unfold fst8
    rw [List.findIdx_eq (by simpa using hi)]
    refine ⟨by simpa using hf, fun j hj => ?_⟩
    simpa using hl j hj
  exact ⟨by rw [askB, e]; exact decide_eq_true hi, by rw [askN, e, if_pos hi]⟩
theorem ask_fine {zs : List Bool} {k : Nat} (hl : ∀ j, j < 8 → fa zs (k + j) = false) : askB zs k = false ∧ askN zs k = 8 := by
  have e : ¬ fst8 zs k < 8 := by
    unfold fst8
    intro h
    have h1 := List.findIdx_getElem (xs := List.range 8) (p := fun i => fa zs (k + i)) (w := by simpa using h)
    simp only [List.getElem_range] at h1
    rw [hl _ h] at h1
    cases h1
  exact ⟨by rw [askB]; exact decide_eq_false e, by rw [askN, if_neg e]⟩
theorem askN_le (zs : List Bool) (k : Nat) : askN zs k ≤ 8 := by unfold askN; split <;> omega
theorem ask_all {zs : List Bool} {k : Nat} (h : askB zs k = false) : ∀ j, j < 8 → fa zs (k + j) = false := by
  intro j hj
  cases hf : fa zs (k + j) with
  | false => rfl
  | true =>
    have h1 : fst8 zs k < 8 := by
      unfold fst8
      have := List.findIdx_lt_length_of_exists (xs := List.range 8) (p := fun i => fa zs (k + i)) ⟨j, by simpa using hj, hf⟩
      simpa using this
    rw [askB, decide_eq_false_iff_not] at h
    exact absurd h1 h

/-- Slots in block r: the disk from B to less than M, the set from M on. -/
structure SlotsIn (B M E : Nat) (w : World) (r d b g m : Nat) (zs : List Bool) (k : Nat) (P : List Nat) (x : List Bool) : Prop where
  disk : DiskAt B M w d (m * 8) zs k P
  set : SetAt M w b g x
  head : w.heap[r]? = some (.cells #[.pointer (some ⟨d, 0, none⟩), .pointer (some ⟨b, 0, none⟩)] 50 (0, 0))
  len : x.length = m
  small : m ≤ 128
  lo : M ≤ r ∧ r < E ∧ b < E ∧ g < E ∧ r ≠ g ∧ M ≤ E
  hi : E ≤ w.heap.size
/-- Slots in block r, whose pages in use are pg's. -/
def SlotsAt (B E : Nat) (w : World) (r m : Nat) (zs : List Bool) (k : Nat) (x : List Bool) (pg : Nat → List Nat) : Prop :=
  ∃ M d b g P, SlotsIn B M E w r d b g m zs k P x ∧ ∀ n, n < m → x.getD n false = true → seg P (n * 4096) 4096 = pg n
theorem page_le {n m : Nat} (h : n < m) : n * 4096 + 4096 ≤ m * 8 * 512 := by
  have := Nat.mul_le_mul_right 4096 (Nat.succ_le_of_lt h)
  omega
theorem SetP.at {B b g : Nat} {w : World} {x : List Bool} (h : SetP B w (some ⟨b, 0, none⟩) (some g) x) : SetAt B w b g x := by
  rcases h with ⟨h1, _⟩ | ⟨b', g', h1, h2, h3⟩
  · cases h1
  · simp at h1 h2
    subst h1 h2
    exact h3
section
variable {B M E r d b g m k k' : Nat} {w w' : World} {zs : List Bool} {P P' : List Nat} {x x' : List Bool} {pg : Nat → List Nat}
theorem SlotsIn.c0 (h : SlotsIn B M E w r d b g m zs k P x) : w.cell? ⟨r, 0, none⟩ = some (.pointer (some ⟨d, 0, none⟩)) := by rw [cell_of_row w r 0 _ _ _ h.head]; rfl
theorem SlotsIn.c1 (h : SlotsIn B M E w r d b g m zs k P x) : w.cell? ⟨r, 1, none⟩ = some (.pointer (some ⟨b, 0, none⟩)) := by rw [cell_of_row w r 1 _ _ _ h.head]; rfl
theorem SlotsIn.setP (h : SlotsIn B M E w r d b g m zs k P x) : SetP M w (some ⟨b, 0, none⟩) (some g) x := .inr ⟨b, g, rfl, rfl, h.set⟩
theorem SlotsIn.bm (h : SlotsIn B M E w r d b g m zs k P x) : B ≤ M ∧ M ≤ w.heap.size := by have := h.disk.hi; omega
theorem SlotsIn.kept (h : SlotsIn B M E w r d b g m zs k P x) (hs : w.heap.size ≤ w'.heap.size) (hk : ∀ i, B ≤ i → i < E → w'.heap[i]? = w.heap[i]?) : SlotsIn B M E w' r d b g m zs k P x := by
  obtain ⟨l1, l2, l3, l4, l5, l6⟩ := h.lo
  have := h.bm
  have hb := h.set.lo
  have hg := h.set.bltg
  exact ⟨h.disk.kept hs (fun i h1 h2 => hk i h1 (by omega)), h.set.of_blocks (hk b (by omega) l3) (hk g (by omega) l4), (hk r (by omega) l2).trans h.head, h.len, h.small, h.lo, Nat.le_trans h.hi hs⟩
theorem SlotsIn.disked (h : SlotsIn B M E w r d b g m zs k P x) (hd : DiskAt B M w' d (m * 8) zs k' P') (ht : Turns B M w w') : SlotsIn B M E w' r d b g m zs k' P' x := by
  obtain ⟨l1, l2, l3, l4, l5, l6⟩ := h.lo
  have hb := h.set.lo
  have hg := h.set.bltg
  have hi := h.hi
  exact ⟨hd, h.set.of_blocks (ht.block b hg.1 (.inr hb)) (ht.block g hg.2.1 (.inr hg.2.2)), (ht.block r (by omega) (.inr l1)).trans h.head, h.len, h.small, h.lo, Nat.le_trans h.hi ht.size⟩
theorem SlotsIn.setted (h : SlotsIn B M E w r d b g m zs k P x) (hs : SetP M w' (some ⟨b, 0, none⟩) (some g) x') (hg : w.grownBy w' (some g)) (hl : x'.length = x.length) : SlotsIn B M E w' r d b g m zs k P x' := by
  obtain ⟨l1, l2, l3, l4, l5, l6⟩ := h.lo
  have hg2 := h.set.bltg
  have hi := h.hi
  have hne : ∀ {i : Nat}, i ≠ g → some i ≠ some g := fun hne e => hne (Option.some.inj e)
  refine ⟨h.disk.kept hg.size (fun i h1 h2 => hg.block i (by have := h.bm; omega) ?_), hs.at, (hg.block r (by omega) ?_).trans h.head, by rw [hl]; exact h.len, h.small, h.lo, Nat.le_trans h.hi hg.size⟩
  · intro e; simp at e; omega
  · intro e; simp at e; omega
theorem SlotsIn.turnsD (h : SlotsIn B M E w r d b g m zs k P x) {a c : World} (ht : Turns B M a c) : Turns B E a c := ht.wide (Nat.le_refl _) h.lo.2.2.2.2.2
theorem SlotsAt.kept (h : SlotsAt B E w r m zs k x pg) (hs : w.heap.size ≤ w'.heap.size) (hk : ∀ i, B ≤ i → i < E → w'.heap[i]? = w.heap[i]?) : SlotsAt B E w' r m zs k x pg := by
  obtain ⟨M, d, b, g, P, h, hp⟩ := h
  exact ⟨M, d, b, g, P, h.kept hs hk, hp⟩
theorem SlotsAt.hi (h : SlotsAt B E w r m zs k x pg) : E ≤ w.heap.size ∧ B ≤ r ∧ r < E ∧ B ≤ E := by
  obtain ⟨M, d, b, g, P, h, hp⟩ := h
  obtain ⟨l1, l2, l3, l4, l5, l6⟩ := h.lo
  have := h.bm
  exact ⟨h.hi, by omega, l2, by omega⟩
theorem SlotsAt.below (h : SlotsAt B E w r m zs k x pg) (hb : Below w.heap.size w w') : SlotsAt B E w' r m zs k x pg :=
  h.kept hb.size (fun i _ hi => hb.block i (Nat.lt_of_lt_of_le hi h.hi.1))
theorem SlotsAt.drewN (h : SlotsAt B E w r m zs k x pg) (n : Nat) : SlotsAt B E (w.drewN n) r m zs k x pg := h.below (drewN_below _ _ _)
theorem SlotsAt.len (h : SlotsAt B E w r m zs k x pg) : x.length = m := by obtain ⟨M, d, b, g, P, h, hp⟩ := h; exact h.len
theorem SlotsAt.small (h : SlotsAt B E w r m zs k x pg) : m ≤ 128 := by obtain ⟨M, d, b, g, P, h, hp⟩ := h; exact h.small
theorem SlotsAt.pages {pg' : Nat → List Nat} (h : SlotsAt B E w r m zs k x pg) (hp : ∀ n, n < m → x.getD n false = true → pg n = pg' n) : SlotsAt B E w r m zs k x pg' := by
  obtain ⟨M, d, b, g, P, h, hq⟩ := h
  exact ⟨M, d, b, g, P, h, fun n hn hx => (hq n hn hx).trans (hp n hn hx)⟩
theorem SlotsAt.byte (h : SlotsAt B E w r m zs k x pg) {n : Nat} (hn : hasB x n = true) : (pg n).length = 4096 ∧ ∀ y ∈ pg n, y < 256 := by
  have hm := mayB_of_has hn
  have hl := h.len
  obtain ⟨M, d, b, g, P, h, hp⟩ := h
  have hlt : n < m := by
    simp only [mayB, decide_eq_true_eq] at hm
    omega
  rw [← hp n hlt (by rw [← hasB_nat]; exact hn)]
  exact ⟨length_seg (by rw [h.disk.len]; exact page_le hlt), seg_byte h.disk.byte⟩
end

/-- The set's pointer that inUse tells of slots, or of none. -/
def UseP (w : World) (v p : Option Addr) : Prop := (v = none ∧ p = none) ∨ ∃ r, v = some ⟨r, 0, none⟩ ∧ w.cell? ⟨r, 1, none⟩ = some (.pointer p)
theorem UseP.drewN {w : World} {v p : Option Addr} (h : UseP w v p) (n : Nat) : UseP (w.drewN n) v p := by
  rcases h with h | ⟨r, h1, h2⟩
  · exact .inl h
  · exact .inr ⟨r, h1, by rw [← h2]; exact World.cell?_of_block (by rw [heap_drewN])⟩
theorem UseP.no (w : World) : UseP w none none := .inl ⟨rfl, rfl⟩
theorem SetP.no (w : World) (B : Nat) : SetP B w none none [] := .inl ⟨rfl, rfl, rfl⟩
theorem SlotsIn.use {B M E r d b g m k : Nat} {w : World} {zs : List Bool} {P : List Nat} {x : List Bool} (h : SlotsIn B M E w r d b g m zs k P x) : UseP w (some ⟨r, 0, none⟩) (some ⟨b, 0, none⟩) := .inr ⟨r, rfl, h.c1⟩
theorem inUse_any {v p : Option Addr} (w : World) (h : UseP w v p) :
    Calls Try.prog 22 #[.pointer v] w fun e w' => e = .returned (.pointer p) ∧ w = w' := by
  rcases h with ⟨rfl, rfl⟩ | ⟨r, rfl, h1⟩
  · go_enter Try.func22, Try.ntmps22
    go_wp2
    go_ret
    exact ⟨rfl, rfl⟩
  · go_enter Try.func22, Try.ntmps22
    go_wp2
    go_ret
    exact ⟨rfl, rfl⟩
section
variable {M : Nat} {v p : Option Addr} {q : Option Nat} {x : List Bool}
theorem sSlots_any (w : World) (hu : UseP w v p) (h : SetP M w p q x) :
    Calls Try.prog 12 #[.pointer v] w fun e w' => e = .returned (.int .i64 (x.length : Nat)) ∧ w = w' := by
  go_enter Try.func12, Try.ntmps12
  go_wp2_with fail
  refine (inUse_any _ hu).mono ?_
  rintro e w' ⟨rfl, rfl⟩
  go_wp2_with fail
  refine (size_any _ h).mono ?_
  rintro e w' ⟨rfl, rfl⟩
  go_wp2
  go_ret
  exact ⟨rfl, rfl⟩
theorem sUsed_any (w : World) (hu : UseP w v p) (h : SetP M w p q x) :
    Calls Try.prog 13 #[.pointer v] w fun e w' => e = .returned (.int .i64 ((allL x).length : Nat)) ∧ w = w' := by
  go_enter Try.func13, Try.ntmps13
  go_wp2_with fail
  refine (inUse_any _ hu).mono ?_
  rintro e w' ⟨rfl, rfl⟩
  go_wp2_with fail
  refine (len_any _ h).mono ?_
  rintro e w' ⟨rfl, rfl⟩
  go_wp2
  go_ret
  exact ⟨rfl, rfl⟩
theorem sIn_any (n : Int) (w : World) (hu : UseP w v p) (h : SetP M w p q x) :
    Calls Try.prog 11 #[.pointer v, .int .i64 n] w fun e w' => e = .returned (.bool (hasB x n)) ∧ ∃ m, w' = w.drewN m := by
  go_enter Try.func11, Try.ntmps11
  go_wp2_with fail
  refine (inUse_any _ hu).mono ?_
  rintro e w' ⟨rfl, rfl⟩
  go_wp2_with fail
  refine (has_any n _ h).mono ?_
  rintro e w' ⟨rfl, m, rfl⟩
  go_wp2
  go_ret
  exact ⟨rfl, m, rfl⟩
theorem sIn_is (n : Int) (w : World) (hu : UseP w v p) (h : SetP M w p q x) {b : Bool} (hb : hasB x n = b) :
    Calls Try.prog 11 #[.pointer v, .int .i64 n] w fun e w' => e = .returned (.bool b) ∧ ∃ m, w' = w.drewN m := by
  rw [← hb]; exact sIn_any n w hu h
theorem sDrop_any (n : Int) (w : World) (hu : UseP w v p) (h : SetP M w p q x) :
    Calls Try.prog 10 #[.pointer v, .int .i64 n] w fun e w' => e = .returned (.bool (hasB x n)) ∧ SetP M w' p q (putL x n false) ∧ w.grownBy w' q := by
  go_enter Try.func10, Try.ntmps10
  go_wp2_with fail
  refine (inUse_any _ hu).mono ?_
  rintro e w' ⟨rfl, rfl⟩
  go_wp2_with fail
  refine (drop_any n _ h).mono ?_
  rintro e w' ⟨rfl, h1, h2⟩
  go_wp2
  go_ret
  exact ⟨rfl, h1, h2⟩
end
set_option maxHeartbeats 400000 in
theorem sector_any (n i : Nat) (w : World) (hn : n ≤ 128) (hi : i ≤ 8) :
    Calls Try.prog 25 #[.int .i64 (n : Int), .int .i64 (i : Int)] w fun e w' => e = .returned (.int .i64 ((n * 8 + i : Nat) : Int)) ∧ w = w' := by
  go_enter Try.func25, Try.ntmps25
  go_wp2
  go_ret
  refine ⟨retInt ?_, rfl⟩
  first | done | omega | (push_cast; omega)
section
variable {B E r m k : Nat} {zs : List Bool} {x : List Bool} {pg : Nat → List Nat}
theorem slSlots (w : World) (h : SlotsAt B E w r m zs k x pg) :
    Calls Try.prog 12 #[.pointer (some ⟨r, 0, none⟩)] w fun e w' => e = .returned (.int .i64 (m : Nat)) ∧ w = w' := by
  obtain ⟨M, d, b, g, P, h, hp⟩ := h
  have := h.len
  subst this
  exact sSlots_any w h.use h.setP
theorem slUsed (w : World) (h : SlotsAt B E w r m zs k x pg) {u : Nat} (hu : (allL x).length = u) :
    Calls Try.prog 13 #[.pointer (some ⟨r, 0, none⟩)] w fun e w' => e = .returned (.int .i64 (u : Nat)) ∧ w = w' := by
  obtain ⟨M, d, b, g, P, h, hp⟩ := h
  subst hu
  exact sUsed_any w h.use h.setP
theorem slIn (n : Int) (w : World) (h : SlotsAt B E w r m zs k x pg) {b : Bool} (hb : hasB x n = b) :
    Calls Try.prog 11 #[.pointer (some ⟨r, 0, none⟩), .int .i64 n] w fun e w' => e = .returned (.bool b) ∧ ∃ m, w' = w.drewN m := by
  obtain ⟨M, d, b, g, P, h, hp⟩ := h
  subst hb
  exact sIn_any n w h.use h.setP
theorem slDrop (n : Int) (w : World) (h : SlotsAt B E w r m zs k x pg) {b : Bool} (hb : hasB x n = b) :
    Calls Try.prog 10 #[.pointer (some ⟨r, 0, none⟩), .int .i64 n] w fun e w' => e = .returned (.bool b) ∧ SlotsAt B E w' r m zs k (putL x n false) pg ∧ Turns B E w w' := by
  obtain ⟨M, d, b, g, P, h, hp⟩ := h
  subst hb
  refine (sDrop_any n w h.use h.setP).mono ?_
  rintro e w' ⟨rfl, h1, h2⟩
  obtain ⟨l1, l2, l3, l4, l5, l6⟩ := h.lo
  have hb := h.bm
  have hg := h.set.bltg
  refine ⟨rfl, ⟨M, d, b, g, P, h.setted h1 h2 (len_putL _ _ _), fun j hj hx => hp j hj ?_⟩, (Turns.refl B E w).grown h2 (by omega) l4⟩
  unfold putL at hx
  split at hx
  · rw [getD_set] at hx
    split at hx
    · cases hx
    · exact hx
  · exact hx
end
end Go.Proofs.Ytacggabopdoijaa
