/- A tree in memory (Tr, TreeAt, TreeP), what turns it (Tr.put and others), and what stays beside it (Kept). -/
import Derived.Test.YtkghedllkigecaaRPlain
import Derived.Test.YtkghedllkigecaaProg
import Derived.WalkKit
import Derived.WalkSpells
import Derived.WalkLawsBesides
import Derived.Maps.AppendAt
import Derived.OneCell
import Derived.Deep.QuietTactic
import Derived.BigQuiet
import Derived.BigRegion
import Derived.Deep.Draws
namespace Go.Proofs.Ytkghedllkigecaa
open Go.RowKit

theorem retInt {k : IntKind} {a b : Int} (h : a = b) : Ending.returned (.int k a) = .returned (.int k b) := by rw [h]
theorem retBool {a b : Bool} (h : a = b) : Ending.returned (.bool a) = .returned (.bool b) := by rw [h]
theorem heap_drewN (w : World) (n : Nat) : (w.drewN n).heap = w.heap := by simp
theorem drewN_below (B : Nat) (w : World) (n : Nat) : Below B w (w.drewN n) := ⟨rfl, rfl, rfl, Nat.le_refl _, fun _ _ => rfl⟩

def pt (o : Option Nat) : Option Addr := o.map fun g => ⟨g, 0, none⟩
def nodeCells (c : Nat → Option Nat) : Array Value := ((List.range 32).map fun i => Value.pointer (pt (c i))).toArray
theorem nodeCells_at (c : Nat → Option Nat) {i : Nat} (h : i < 32) : (nodeCells c)[i]? = some (.pointer (pt (c i))) := by simp [nodeCells, h]
theorem nodeCells_congr {c c' : Nat → Option Nat} (h : ∀ i, i < 32 → c i = c' i) : nodeCells c = nodeCells c' := by
  unfold nodeCells
  congr 1
  apply List.map_congr_left
  intro i hi
  rw [h i (List.mem_range.1 hi)]
theorem nodeCells_set (c : Nat → Option Nat) (i : Nat) (o : Option Nat) : (nodeCells c).setIfInBounds i (.pointer (pt o)) = nodeCells (fun j => if j = i then o else c j) := by
  apply Array.ext_getElem?
  intro j
  rw [Array.getElem?_setIfInBounds]
  by_cases hj : j < 32
  · rw [nodeCells_at _ hj, nodeCells_at _ hj]
    by_cases e : i = j
    · subst e; rw [if_pos rfl, if_pos rfl, if_pos (by simpa [nodeCells] using hj)]
    · rw [if_neg e, if_neg (fun h => e h.symm)]
  · have h1 : ∀ c : Nat → Option Nat, (nodeCells c)[j]? = none := fun c => by simp [nodeCells]; omega
    rw [h1, h1]
    split
    · rw [if_neg (by simp [nodeCells]; omega)]
    · rfl

abbrev Ad := Nat → Nat → Option Nat
def kid (ad : Ad) (d p i : Nat) : Option Nat :=
  if i < 16 then (if d < 3 then ad (d + 1) (p * 16 + i) else none) else (if d = 3 then ad 4 (p * 16 + (i - 16)) else none)
def upd (ad : Ad) (d p : Nat) (o : Option Nat) : Ad := fun d' p' => if d' = d ∧ p' = p then o else ad d' p'
def slot (d q : Nat) : Nat := if d < 3 then q % 16 else 16 + q % 16
theorem slot_lt (d q : Nat) : slot d q < 32 := by unfold slot; split <;> omega
theorem upd_same (ad : Ad) (d p : Nat) (o : Option Nat) : upd ad d p o d p = o := by simp [upd]
theorem upd_other {ad : Ad} {d p d' p' : Nat} {o : Option Nat} (h : ¬ (d' = d ∧ p' = p)) : upd ad d p o d' p' = ad d' p' := by simp only [upd, if_neg h]
theorem kid_upd (ad : Ad) {d d' : Nat} (p' q i : Nat) (o : Option Nat) (hd : d < 4) (hd' : d' < 4) (hi : i < 32) :
    kid (upd ad (d + 1) q o) d' p' i = if d' = d ∧ p' = q / 16 ∧ i = slot d q then o else kid ad d' p' i := by
  by_cases c : d' = d ∧ p' = q / 16 ∧ i = slot d q
  · rw [if_pos c]
    obtain ⟨rfl, rfl, rfl⟩ := c
    unfold kid slot
    by_cases h3 : d' < 3
    · rw [if_pos h3, if_pos (by omega), if_pos h3, show q / 16 * 16 + q % 16 = q by omega, upd_same]
    · have : d' = 3 := by omega
      subst this
      rw [if_neg h3, if_neg (by omega), if_pos rfl, show q / 16 * 16 + (16 + q % 16 - 16) = q by omega]
      exact upd_same ad 4 q o
  · rw [if_neg c]
    unfold kid
    unfold slot at c
    by_cases h16 : i < 16
    · rw [if_pos h16, if_pos h16]
      by_cases h3 : d' < 3
      · rw [if_pos h3, if_pos h3]
        refine upd_other ?_
        rintro ⟨e1, e2⟩
        apply c
        have : d' = d := by omega
        subst this
        rw [if_pos h3]
        omega
      · rw [if_neg h3, if_neg h3]
    · rw [if_neg h16, if_neg h16]
      by_cases h3 : d' = 3
      · rw [if_pos h3, if_pos h3]
        refine upd_other ?_
        rintro ⟨e1, e2⟩
        apply c
        have : d' = d := by omega
        subst this
        rw [if_neg (by omega)]
        omega
      · rw [if_neg h3, if_neg h3]
theorem kid_child (ad : Ad) {d : Nat} (q : Nat) (hd : d < 4) : kid ad d (q / 16) (slot d q) = ad (d + 1) q := by
  have := kid_upd (d := d) (d' := d) ad (q / 16) q (slot d q) (ad (d + 1) q) hd hd (slot_lt _ _)
  rw [if_pos ⟨rfl, rfl, rfl⟩] at this
  rw [← this]
  unfold kid
  have e : upd ad (d + 1) q (ad (d + 1) q) = ad := by
    funext d' p'
    unfold upd
    split
    · rename_i h; rw [h.1, h.2]
    · rfl
  rw [e]

/-- A tree's blocks: its struct in b (whose root says r), its nodes, its things. -/
structure Tr (B : Nat) (w : World) (b : Nat) (r : Option Nat) (k n : Int) (ad : Ad) (vl : Nat → Int) : Prop where
  hb : B ≤ b
  head : w.heap[b]? = some (.cells #[.pointer (pt r), .int .i64 k, .int .i64 n] 64 (0, 0))
  node : ∀ d p g, d < 4 → ad d p = some g → B ≤ g ∧ w.heap[g]? = some (.cells (nodeCells (kid ad d p)) 59 (0, 0))
  inj : ∀ d p d' p' g, d < 4 → d' < 4 → ad d p = some g → ad d' p' = some g → d = d' ∧ p = p'
  thing : ∀ q c, ad 4 q = some c → w.heap[c]? = some (.cells #[.int .u64 (vl q)] 27 (0, 0))
  up : ∀ d q, d < 4 → ad d (q / 16) = none → ad (d + 1) q = none

section
variable {B b : Nat} {w w' : World} {r : Option Nat} {k n : Int} {ad : Ad} {vl : Nat → Int}
theorem Tr.keep (h : Tr B w b r k n ad vl) (hk : ∀ i, i < w.heap.size → w'.heap[i]? = w.heap[i]?) : Tr B w' b r k n ad vl := by
  have ke : ∀ {i : Nat} {o : Obj}, w.heap[i]? = some o → w'.heap[i]? = some o := fun {i o} ho => by rw [hk i (Array.getElem?_eq_some_iff.1 ho).1]; exact ho
  exact ⟨h.hb, ke h.head, fun d p g hd hg => ⟨(h.node d p g hd hg).1, ke (h.node d p g hd hg).2⟩, h.inj, fun q c hc => ke (h.thing q c hc), h.up⟩
theorem Tr.below (h : Tr B w b r k n ad vl) (hb : Below w.heap.size w w') : Tr B w' b r k n ad vl := h.keep hb.block
theorem Tr.cell0 (h : Tr B w b r k n ad vl) : w.cell? ⟨b, 0, none⟩ = some (.pointer (pt r)) := by rw [cell_of_row w b 0 _ _ _ h.head]; rfl
theorem Tr.cell1 (h : Tr B w b r k n ad vl) : w.cell? ⟨b, 1, none⟩ = some (.int .i64 k) := by rw [cell_of_row w b 1 _ _ _ h.head]; rfl
theorem Tr.cell2 (h : Tr B w b r k n ad vl) : w.cell? ⟨b, 2, none⟩ = some (.int .i64 n) := by rw [cell_of_row w b 2 _ _ _ h.head]; rfl
theorem Tr.frozenB (h : Tr B w b r k n ad vl) (j : Nat) : w.frozen? ⟨b, j, none⟩ = false := frozen_of_row w b j _ _ h.head
theorem Tr.frozenN (h : Tr B w b r k n ad vl) {d p g : Nat} (hd : d < 4) (hg : ad d p = some g) (j : Nat) : w.frozen? ⟨g, j, none⟩ = false := frozen_of_row w g j _ _ (h.node d p g hd hg).2
theorem Tr.cellN (h : Tr B w b r k n ad vl) {d p g : Nat} (hd : d < 4) (hg : ad d p = some g) {j : Nat} (hj : j < 32) : w.cell? ⟨g, j, none⟩ = some (.pointer (pt (kid ad d p j))) := by
  rw [cell_of_row w g j _ _ _ (h.node d p g hd hg).2, nodeCells_at _ hj]
theorem Tr.cellC (h : Tr B w b r k n ad vl) {d q g : Nat} (hd : d < 4) (hg : ad d (q / 16) = some g) : w.cell? ⟨g, slot d q, none⟩ = some (.pointer (pt (ad (d + 1) q))) := by
  rw [h.cellN hd hg (slot_lt _ _), kid_child ad q hd]
theorem Tr.cellT (h : Tr B w b r k n ad vl) {q c : Nat} (hc : ad 4 q = some c) : w.cell? ⟨c, 0, none⟩ = some (.int .u64 (vl q)) := by
  rw [cell_of_row w c 0 _ _ _ (h.thing q c hc)]; rfl
theorem Tr.ne_node (h : Tr B w b r k n ad vl) {d p g : Nat} (hd : d < 4) (hg : ad d p = some g) : g ≠ b := by
  rintro rfl
  have := (h.node d p g hd hg).2
  rw [h.head] at this
  simp at this
theorem Tr.ne_thing (h : Tr B w b r k n ad vl) {q c : Nat} (hc : ad 4 q = some c) : c ≠ b := by
  rintro rfl
  have := h.thing q c hc
  rw [h.head] at this
  simp at this
theorem Tr.setB (h : Tr B w b r k n ad vl) {j : Nat} {v : Value} {r' : Option Nat} {k' n' : Int}
    (e : (#[.pointer (pt r), .int .i64 k, .int .i64 n] : Array Value).setIfInBounds j v = #[.pointer (pt r'), .int .i64 k', .int .i64 n']) : Tr B (w.setCell ⟨b, j, none⟩ v) b r' k' n' ad vl := by
  refine ⟨h.hb, ?_, fun d p g hd hg => ⟨(h.node d p g hd hg).1, ?_⟩, h.inj, fun q c hc => ?_, h.up⟩
  · rw [heap_setCell_same w b j _ _ v h.head, e]
  · rw [heap_setCell_other _ _ _ _ (h.ne_node hd hg)]; exact (h.node d p g hd hg).2
  · rw [heap_setCell_other _ _ _ _ (h.ne_thing hc)]; exact h.thing q c hc
theorem Tr.setRoot (h : Tr B w b r k n ad vl) (r' : Option Nat) : Tr B (w.setCell ⟨b, 0, none⟩ (.pointer (pt r'))) b r' k n ad vl := h.setB rfl
theorem Tr.setK (h : Tr B w b r k n ad vl) (k' : Int) : Tr B (w.setCell ⟨b, 1, none⟩ (.int .i64 k')) b r k' n ad vl := h.setB rfl
theorem Tr.setN (h : Tr B w b r k n ad vl) (n' : Int) : Tr B (w.setCell ⟨b, 2, none⟩ (.int .i64 n')) b r k n' ad vl := h.setB rfl

def updv (vl : Nat → Int) (q : Nat) (v : Int) : Nat → Int := fun q' => if q' = q then v else vl q'
/-- The child of a node is another one (a new node, a new thing), or none any more. -/
theorem Tr.put (h : Tr B w b r k n ad vl) {d q gp : Nat} (o : Option Nat) (v : Int) (hd : d < 4) (hp : ad d (q / 16) = some gp)
    (hkids : d < 3 → ∀ i, i < 16 → ad (d + 2) (q * 16 + i) = none)
    (hnew : d < 3 → ∀ g, o = some g → B ≤ g ∧ w.heap[g]? = some (.cells (nodeCells fun _ => none) 59 (0, 0)) ∧ ∀ d' p', d' < 4 → ad d' p' ≠ some g)
    (hthing : d = 3 → ∀ c, o = some c → w.heap[c]? = some (.cells #[.int .u64 v] 27 (0, 0))) :
    Tr B (w.setCell ⟨gp, slot d q, none⟩ (.pointer (pt o))) b r k n (upd ad (d + 1) q o) (if d = 3 then updv vl q v else vl) := by
  have hgp := h.node d _ gp hd hp
  have tagN : ∀ {i : Nat} {c : Array Value} {t : TypeId} {f : Nat × Nat}, w.heap[i]? = some (.cells c t f) → t ≠ 59 → i ≠ gp := by
    rintro i c t f h1 h2 rfl
    rw [hgp.2] at h1
    simp at h1
    exact h2 h1.2.1.symm
  refine ⟨h.hb, ?_, ?_, ?_, ?_, ?_⟩
  · rw [heap_setCell_other _ _ _ _ (tagN h.head (by decide))]; exact h.head
  · intro d' p' g' hd' hg'
    by_cases c : d' = d + 1 ∧ p' = q
    · obtain ⟨rfl, rfl⟩ := c
      rw [upd_same] at hg'
      obtain ⟨h1, h2, h3⟩ := hnew (by omega) g' hg'
      refine ⟨h1, ?_⟩
      have hne : g' ≠ gp := fun e => h3 d _ hd (by rw [hp, e])
      rw [heap_setCell_other _ _ _ _ hne, h2, nodeCells_congr (c' := kid (upd ad (d + 1) p' o) (d + 1) p')]
      intro i hi
      rw [kid_upd _ _ _ _ _ hd hd' hi, if_neg (by omega)]
      unfold kid
      split
      · split
        · exact (hkids (by omega) i (by omega)).symm
        · rfl
      · split
        · rename_i h16 h3'
          have : d = 2 := by omega
          subst this
          exact (hkids (by omega) (i - 16) (by omega)).symm
        · rfl
    · rw [upd_other c] at hg'
      have hN := h.node d' p' g' hd' hg'
      refine ⟨hN.1, ?_⟩
      by_cases e : g' = gp
      · subst e
        obtain ⟨rfl, rfl⟩ := h.inj d' p' d (q / 16) g' hd' hd hg' hp
        rw [heap_setCell_same w g' _ _ _ _ hN.2, nodeCells_set]
        congr 2
        apply nodeCells_congr
        intro i hi
        rw [kid_upd _ _ _ _ _ hd hd hi]
        simp only [true_and]
      · rw [heap_setCell_other _ _ _ _ e, hN.2]
        congr 2
        apply nodeCells_congr
        intro i hi
        rw [kid_upd _ _ _ _ _ hd hd' hi, if_neg]
        rintro ⟨rfl, rfl, -⟩
        rw [hp] at hg'
        exact e (Option.some.inj hg').symm
  · intro d1 p1 d2 p2 g h1 h2 e1 e2
    by_cases c1 : d1 = d + 1 ∧ p1 = q
    · by_cases c2 : d2 = d + 1 ∧ p2 = q
      · exact ⟨by rw [c1.1, c2.1], by rw [c1.2, c2.2]⟩
      · rw [upd_other c2] at e2
        rw [c1.1, c1.2, upd_same] at e1
        exact absurd e2 ((hnew (by omega) g e1).2.2 d2 p2 h2)
    · rw [upd_other c1] at e1
      by_cases c2 : d2 = d + 1 ∧ p2 = q
      · rw [c2.1, c2.2, upd_same] at e2
        exact absurd e1 ((hnew (by omega) g e2).2.2 d1 p1 h1)
      · rw [upd_other c2] at e2
        exact h.inj d1 p1 d2 p2 g h1 h2 e1 e2
  · intro q' c hc
    by_cases e : 4 = d + 1 ∧ q' = q
    · obtain ⟨e1, rfl⟩ := e
      have : d = 3 := by omega
      subst this
      rw [upd_same] at hc
      have := hthing rfl c hc
      rw [heap_setCell_other _ _ _ _ (tagN this (by decide)), if_pos rfl, this]
      simp [updv]
    · rw [upd_other e] at hc
      have := h.thing q' c hc
      rw [heap_setCell_other _ _ _ _ (tagN this (by decide)), this]
      split
      · have : q' ≠ q := fun x => e ⟨by omega, x⟩
        simp [updv, this]
      · rfl
  · intro d' q' hd' hn
    by_cases c : d' = d + 1 ∧ q' / 16 = q
    · obtain ⟨rfl, rfl⟩ := c
      rw [upd_other (by omega)]
      have := hkids (by omega) (q' % 16) (by omega)
      rwa [show q' / 16 * 16 + q' % 16 = q' by omega] at this
    · rw [upd_other c] at hn
      by_cases c2 : d' + 1 = d + 1 ∧ q' = q
      · obtain ⟨e1, rfl⟩ := c2
        have : d' = d := by omega
        subst this
        rw [hp] at hn
        cases hn
      · rw [upd_other c2]
        exact h.up d' q' hd' hn
/-- The root is a new node. -/
theorem Tr.root (h : Tr B w b r k n ad vl) {g : Nat} (hr : ad 0 0 = none) (hB : B ≤ g) (hg : w.heap[g]? = some (.cells (nodeCells fun _ => none) 59 (0, 0))) (hf : ∀ d' p', d' < 4 → ad d' p' ≠ some g) :
    Tr B w b r k n (upd ad 0 0 (some g)) vl := by
  have kids : ∀ i, i < 16 → ad 1 i = none := fun i hi => h.up 0 i (by omega) (by rw [show i / 16 = 0 by omega]; exact hr)
  have ku : ∀ d p i, kid (upd ad 0 0 (some g)) d p i = kid ad d p i := fun d p i => by
    unfold kid
    rw [upd_other (by omega), upd_other (by omega)]
  refine ⟨h.hb, h.head, ?_, ?_, ?_, ?_⟩
  · intro d p g' hd hg'
    by_cases c : d = 0 ∧ p = 0
    · obtain ⟨rfl, rfl⟩ := c
      rw [upd_same] at hg'
      cases hg'
      refine ⟨hB, ?_⟩
      rw [hg]
      congr 2
      apply nodeCells_congr
      intro i hi
      rw [ku]
      unfold kid
      split
      · rw [if_pos (by omega), show 0 * 16 + i = i by omega]; exact (kids i (by omega)).symm
      · rw [if_neg (by omega)]
    · rw [upd_other c] at hg'
      rw [nodeCells_congr (fun i _ => ku d p i)]
      exact h.node d p g' hd hg'
  · intro d1 p1 d2 p2 g' h1 h2 e1 e2
    by_cases c1 : d1 = 0 ∧ p1 = 0
    · by_cases c2 : d2 = 0 ∧ p2 = 0
      · exact ⟨by rw [c1.1, c2.1], by rw [c1.2, c2.2]⟩
      · rw [upd_other c2] at e2
        rw [c1.1, c1.2, upd_same] at e1
        cases e1
        exact absurd e2 (hf d2 p2 h2)
    · rw [upd_other c1] at e1
      by_cases c2 : d2 = 0 ∧ p2 = 0
      · rw [c2.1, c2.2, upd_same] at e2
        cases e2
        exact absurd e1 (hf d1 p1 h1)
      · rw [upd_other c2] at e2
        exact h.inj d1 p1 d2 p2 g' h1 h2 e1 e2
  · intro q c hc
    rw [upd_other (by omega)] at hc
    exact h.thing q c hc
  · intro d q hd hn
    rw [upd_other (by omega)]
    by_cases c : d = 0 ∧ q / 16 = 0
    · obtain ⟨rfl, e⟩ := c
      rw [e, upd_same] at hn
      cases hn
    · rw [upd_other c] at hn
      exact h.up d q hd hn
/-- The root is forgotten, where it has no children. -/
theorem Tr.rootCut (h : Tr B w b r k n ad vl) (hk : ∀ i, i < 16 → ad 1 i = none) : Tr B w b r k n (upd ad 0 0 none) vl := by
  have ku : ∀ d p i, kid (upd ad 0 0 none) d p i = kid ad d p i := fun d p i => by
    unfold kid
    rw [upd_other (by omega), upd_other (by omega)]
  have ol : ∀ {d p g}, upd ad 0 0 none d p = some g → ad d p = some g := by
    intro d p g e
    by_cases c : d = 0 ∧ p = 0
    · obtain ⟨rfl, rfl⟩ := c; rw [upd_same] at e; cases e
    · rwa [upd_other c] at e
  refine ⟨h.hb, h.head, fun d p g hd hg => ?_, fun d1 p1 d2 p2 g h1 h2 e1 e2 => h.inj d1 p1 d2 p2 g h1 h2 (ol e1) (ol e2), fun q c hc => h.thing q c (ol hc), fun d q hd hn => ?_⟩
  · rw [nodeCells_congr (fun i _ => ku d p i)]
    exact h.node d p g hd (ol hg)
  · rw [upd_other (by omega)]
    by_cases c : d = 0 ∧ q / 16 = 0
    · obtain ⟨rfl, e⟩ := c
      exact hk q (by omega)
    · rw [upd_other c] at hn
      exact h.up d q hd hn
theorem Tr.lt (h : Tr B w b r k n ad vl) {d p g : Nat} (hd : d < 4) (hg : ad d p = some g) : g < w.heap.size := (Array.getElem?_eq_some_iff.1 (h.node d p g hd hg).2).1
theorem Tr.ltB (h : Tr B w b r k n ad vl) : b < w.heap.size := (Array.getElem?_eq_some_iff.1 h.head).1
end

/-- A tree's own block: a node, or its struct. -/
def Tend (w : World) (i : Nat) : Prop := ∃ c f, w.heap[i]? = some (.cells c 59 f) ∨ w.heap[i]? = some (.cells c 64 f)
/-- From B on no block turns but those of trees; below it none. -/
structure Kept (B : Nat) (w w' : World) : Prop where
  os : w'.os = w.os
  tape : w'.tape = w.tape
  output : w'.output = w.output
  size : w.heap.size ≤ w'.heap.size
  block : ∀ i, i < w.heap.size → (i < B ∨ ¬ Tend w i) → w'.heap[i]? = w.heap[i]?
theorem Kept.refl (B : Nat) (w : World) : Kept B w w := ⟨rfl, rfl, rfl, Nat.le_refl _, fun _ _ _ => rfl⟩
theorem Kept.trans {B : Nat} {a b c : World} (h : Kept B a b) (k : Kept B b c) : Kept B a c := by
  refine ⟨k.os.trans h.os, k.tape.trans h.tape, k.output.trans h.output, Nat.le_trans h.size k.size, fun i h1 h2 => ?_⟩
  have e := h.block i h1 h2
  rw [k.block i (Nat.lt_of_lt_of_le h1 h.size) ?_, e]
  rcases h2 with h2 | h2
  · exact .inl h2
  · right; unfold Tend; rw [e]; exact h2
theorem Kept.of_below {B : Nat} {w w' : World} (h : Below w.heap.size w w') : Kept B w w' := ⟨h.os, h.tape, h.output, h.size, fun i hi _ => h.block i hi⟩
theorem Kept.below {B : Nat} {w w' : World} (h : Kept B w w') (hB : B ≤ w.heap.size) : Below B w w' := ⟨h.os, h.tape, h.output, h.size, fun i hi => h.block i (Nat.lt_of_lt_of_le hi hB) (.inl hi)⟩
theorem Kept.mono {B B' : Nat} {w w' : World} (h : Kept B w w') (hB : B' ≤ B) : Kept B' w w' := ⟨h.os, h.tape, h.output, h.size, fun i hi c => h.block i hi (c.imp (fun x => Nat.lt_of_lt_of_le x hB) id)⟩
theorem Kept.setCell {B : Nat} (w : World) {p : Addr} (h : B ≤ p.block) (ht : Tend w p.block) (u : Value) : Kept B w (w.setCell p u) := by
  refine ⟨rfl, rfl, rfl, by simp, fun i _ hi => ?_⟩
  refine Below.heap_setCell _ _ _ _ ?_
  rintro rfl
  rcases hi with hi | hi
  · omega
  · exact hi ht
theorem Kept.alloc {B : Nat} (w : World) (o : Obj) : Kept B w (w.alloc o) := .of_below ((Below.refl _ w).alloc (Nat.le_refl _) o)
theorem Kept.drew {B : Nat} {a w : World} (h : Kept B a w) : Kept B a w.drew := ⟨h.os, h.tape, h.output, h.size, h.block⟩
theorem Kept.drewN {B : Nat} {a w : World} (h : Kept B a w) (n : Nat) : Kept B a (w.drewN n) := ⟨h.os, h.tape, h.output, h.size, h.block⟩
theorem Kept.other {B : Nat} {w w' : World} (h : Kept B w w') {i : Nat} {c : Array Value} {t : TypeId} {f : Nat × Nat} (hi : w.heap[i]? = some (.cells c t f)) (h1 : t ≠ 59) (h2 : t ≠ 64) : w'.heap[i]? = some (.cells c t f) := by
  rw [h.block i (Array.getElem?_eq_some_iff.1 hi).1 (.inr ?_), hi]
  rintro ⟨c', f', e | e⟩ <;> rw [hi] at e <;> simp at e
  · exact h1 e.2.1
  · exact h2 e.2.1
theorem Kept.row {B : Nat} {w w' : World} (h : Kept B w w') {base : Nat} {e : TypeId} {size n : Nat} {v : Value} {xs : List Value} (ho : w.ownsRow base e size v n xs) (h1 : e ≠ 59) (h2 : e ≠ 64) : w'.ownsRow base e size v n xs := by
  refine ⟨ho.1, ?_⟩
  rcases ho.2 with h3 | ⟨g, cap, cur, h3, h4, h5, r⟩
  · exact .inl h3
  · exact .inr ⟨g, cap, cur, h3, h4, h.other h5 h1 h2, r⟩
theorem Tr.tendB {B b : Nat} {w : World} {r : Option Nat} {k n : Int} {ad : Ad} {vl : Nat → Int} (h : Tr B w b r k n ad vl) : Tend w b := ⟨_, _, .inr h.head⟩
theorem Tr.tendN {B b : Nat} {w : World} {r : Option Nat} {k n : Int} {ad : Ad} {vl : Nat → Int} (h : Tr B w b r k n ad vl) {d p g : Nat} (hd : d < 4) (hg : ad d p = some g) : Tend w g := ⟨_, _, .inl (h.node d p g hd hg).2⟩

/-- A tree that is there has just l. -/
structure TreeOf (B : Nat) (w : World) (b : Nat) (l : List KV) (ad : Ad) (vl : Nat → Int) : Prop where
  tr : Tr B w b (ad 0 0) (l.length : Nat) (nodesOf l : Nat) ad vl
  fine : Fine l
  dom : ∀ d p, d ≤ 4 → (ad d p ≠ none ↔ has d p l)
  vals : ∀ x ∈ l, vl x.1 = x.2
/-- A tree, or none (which has nothing). -/
def TreeP (B : Nat) (w : World) (p : Option Addr) (l : List KV) : Prop :=
  (p = none ∧ l = []) ∨ ∃ b ad vl, p = some ⟨b, 0, none⟩ ∧ TreeOf B w b l ad vl
theorem TreeOf.below {B b : Nat} {w w' : World} {l : List KV} {ad : Ad} {vl : Nat → Int} (h : TreeOf B w b l ad vl) (hb : Below w.heap.size w w') : TreeOf B w' b l ad vl := ⟨h.tr.below hb, h.fine, h.dom, h.vals⟩
theorem TreeP.below {B : Nat} {w w' : World} {p : Option Addr} {l : List KV} (h : TreeP B w p l) (hb : Below w.heap.size w w') : TreeP B w' p l := by
  rcases h with h | ⟨b, ad, vl, e, h⟩
  · exact .inl h
  · exact .inr ⟨b, ad, vl, e, h.below hb⟩
theorem TreeP.fine {B : Nat} {w : World} {p : Option Addr} {l : List KV} (h : TreeP B w p l) : Fine l := by
  rcases h with ⟨_, rfl⟩ | ⟨b, ad, vl, e, h⟩
  · exact .nil
  · exact h.fine
end Go.Proofs.Ytkghedllkigecaa
