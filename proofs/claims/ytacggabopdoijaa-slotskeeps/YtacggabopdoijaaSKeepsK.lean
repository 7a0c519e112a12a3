/- SlotsKeeps' state: what the law's array tells of the slots (Kp), the deed in a variable (Dat). -/
import Derived.Test.YtacggabopdoijaaSKeepsR
import Derived.Test.YtacggabopdoijaaSHas
namespace Go.Proofs.Ytacggabopdoijaa
open Go.RowKit

theorem Try.zero53 : (Try.prog.info? 53).map (fun i => i.zero) = some (some (.agg (Array.replicate 5 (.int .i64 0)))) := by kernel_rfl
theorem zero_has (w : World) : (zeroValue 53).run Try.prog w = .ok (.agg (Array.replicate 5 (.int .i64 0))) w := by
  obtain ⟨i, hi, hz⟩ := Option.map_eq_some_iff.1 Try.zero53
  generalize (Array.replicate 5 (Value.int .i64 0)) = Z at *
  simp [zeroValue, typeInfo, hi, hz, go_sem]

/-- The page of a number that has tells. -/
def hpg (H : Nat → Nat) (n : Nat) : List Nat := fillP (H n - 1)
/-- The state ahead of a round, and inside it. -/
structure Kp (w wr : World) (Q E r hb : Nat) (zs : List Bool) (k : Nat) (x : List Bool) (H : Nat → Nat) : Prop where
  slots : SlotsAt Q E wr r 5 zs k x (hpg H)
  xs : ∀ n, n < 5 → x.getD n false = decide (H n ≠ 0)
  has : HasAt 53 5 wr hb H
  lim : ∀ n, n < 5 → H n ≤ 256
  lo : E ≤ hb
  bel : Below w.heap.size w wr
  qs : w.heap.size ≤ Q
section
variable {w wr w2 : World} {Q E r hb k k' : Nat} {zs x : List Bool} {H : Nat → Nat}
theorem Kp.turn (h : Kp w wr Q E r hb zs k x H) (h2 : SlotsAt Q E w2 r 5 zs k' x (hpg H)) (t2 : Turns Q E wr w2) : Kp w w2 Q E r hb zs k' x H := by
  have e := h.slots.hi
  have lo := h.lo
  exact ⟨h2, h.xs, h.has.kept (t2.block hb h.has.lt (.inr lo)), h.lim, lo, h.bel.trans ((t2.below (by omega)).mono h.qs), h.qs⟩
theorem Kp.below (h : Kp w wr Q E r hb zs k x H) (b2 : Below wr.heap.size wr w2) : Kp w w2 Q E r hb zs k x H :=
  h.turn (h.slots.below b2) (Turns.of_below b2)
theorem Kp.has_in (h : Kp w wr Q E r hb zs k x H) {n : Nat} (hn : n < 5) : hasB x (n : Int) = decide (H n ≠ 0) := by rw [hasB_nat]; exact h.xs n hn
theorem Kp.has_out (h : Kp w wr Q E r hb zs k x H) {n : Int} (hn : n < 0 ∨ 5 ≤ n) : hasB x n = false := by
  refine hasB_no ?_
  have := h.slots.len
  simp only [mayB, decide_eq_false_iff_not]
  omega
/-- Behind a Put that was done. -/
theorem Kp.put (h : Kp w wr Q E r hb zs k x H) {n V : Nat} (hV : V < 256) (hn : n < 5) (h2 : SlotsAt Q E w2 r 5 zs k' (putL x (n : Int) true) (upd (hpg H) n (fillP V))) (t2 : Turns Q E wr w2) :
    Kp w (w2.setCell ⟨hb, n, none⟩ (.int .i64 ((V + 1 : Nat) : Int))) Q E r hb zs k' (putL x (n : Int) true) (fun j => if j = n then V + 1 else H j) := by
  have e := h.slots.hi
  have lo := h.lo
  have hl := h.slots.len
  have hlt := h.has.lt
  have hbel := h.bel.trans ((t2.below (by omega)).mono h.qs)
  have qs := h.qs
  refine ⟨(h2.kept (by simp) (fun j _ hj => Below.heap_setCell _ _ _ _ (by show j ≠ hb; omega))).pages (fun j hj _ => ?_), fun j hj => ?_, (h.has.kept (t2.block hb hlt (.inr lo))).set hn, fun j hj => ?_, lo, hbel.setCell (p := ⟨hb, n, none⟩) (by show _ ≤ hb; omega) _, h.qs⟩
  · show (if j = n then fillP V else fillP (H j - 1)) = fillP ((if j = n then V + 1 else H j) - 1)
    by_cases e : j = n
    · rw [if_pos e, if_pos e]; rfl
    · rw [if_neg e, if_neg e]
  · have e2 : putL x (n : Int) true = x.set n true := by simp [putL]
    rw [e2, getD_set]
    by_cases e : j = n
    · subst e
      rw [if_pos ⟨rfl, by omega⟩, if_pos rfl]
      simp
    · rw [if_neg (by omega), if_neg e]
      exact h.xs j hj
  · show (if j = n then V + 1 else H j) ≤ 256
    split
    · omega
    · exact h.lim j hj
/-- Behind a Drop of one in use. -/
theorem Kp.drop (h : Kp w wr Q E r hb zs k x H) {n : Nat} (hn : n < 5) (h2 : SlotsAt Q E w2 r 5 zs k (putL x (n : Int) false) (hpg H)) (t2 : Turns Q E wr w2) :
    Kp w (w2.setCell ⟨hb, n, none⟩ (.int .i64 ((0 : Nat) : Int))) Q E r hb zs k (putL x (n : Int) false) (fun j => if j = n then 0 else H j) := by
  have e := h.slots.hi
  have lo := h.lo
  have hl := h.slots.len
  have hlt := h.has.lt
  have hbel := h.bel.trans ((t2.below (by omega)).mono h.qs)
  have qs := h.qs
  have e2 : putL x (n : Int) false = x.set n false := by simp [putL]
  refine ⟨(h2.kept (by simp) (fun j _ hj => Below.heap_setCell _ _ _ _ (by show j ≠ hb; omega))).pages (fun j hj hx => ?_), fun j hj => ?_, (h.has.kept (t2.block hb hlt (.inr lo))).set hn, fun j hj => ?_, lo, hbel.setCell (p := ⟨hb, n, none⟩) (by show _ ≤ hb; omega) _, h.qs⟩
  · show fillP (H j - 1) = fillP ((if j = n then 0 else H j) - 1)
    by_cases e : j = n
    · subst e
      rw [e2, getD_set, if_pos ⟨rfl, by omega⟩] at hx
      cases hx
    · rw [if_neg e]
  · rw [e2, getD_set]
    by_cases e : j = n
    · subst e
      rw [if_pos ⟨rfl, by omega⟩, if_pos rfl]
      simp
    · rw [if_neg (by omega), if_neg e]
      exact h.xs j hj
  · show (if j = n then 0 else H j) ≤ 256
    split
    · omega
    · exact h.lim j hj
end
/-- All slots are in use. -/
theorem full_len {x : List Bool} (hl : x.length = 5) (hf : frstB x = false) : (allL x).length = 5 := by
  have h : ∀ i, i < x.length → x.getD i false = true := by
    intro i hi
    cases hx : x.getD i false with
    | true => rfl
    | false =>
      exfalso
      simp only [frstB, decide_eq_false_iff_not] at hf
      apply hf
      unfold frst
      refine List.findIdx_lt_length_of_exists ⟨x[i]'hi, List.getElem_mem hi, ?_⟩
      rw [List.getD_eq_getElem?_getD, List.getElem?_eq_getElem hi, Option.getD_some] at hx
      rw [hx]; rfl
  unfold allL allTo
  rw [List.filter_eq_self.2 (fun i hi => h i (List.mem_range.1 hi)), List.length_range, hl]
/-- The deed in block db. -/
def Dat (w : World) (db : Nat) (K N : Int) (V : Nat) (sl : Value) : Prop := w.heap[db]? = some (.cells #[.int .i64 K, .int .i64 N, .int .u8 (V : Int), sl] 46 (0, 0))
section
variable {w w' : World} {db : Nat} {K N : Int} {V : Nat} {sl : Value}
theorem Dat.c0 (h : Dat w db K N V sl) : w.cell? ⟨db, 0, none⟩ = some (.int .i64 K) := by rw [cell_of_row w db 0 _ _ _ h]; rfl
theorem Dat.c1 (h : Dat w db K N V sl) : w.cell? ⟨db, 1, none⟩ = some (.int .i64 N) := by rw [cell_of_row w db 1 _ _ _ h]; rfl
theorem Dat.c2 (h : Dat w db K N V sl) : w.cell? ⟨db, 2, none⟩ = some (.int .u8 (V : Int)) := by rw [cell_of_row w db 2 _ _ _ h]; rfl
theorem Dat.lt (h : Dat w db K N V sl) : db < w.heap.size := (Array.getElem?_eq_some_iff.1 h).1
theorem Dat.below (h : Dat w db K N V sl) (hb : Below w.heap.size w w') : Dat w' db K N V sl := (hb.block db h.lt).trans h
theorem Dat.turns {Q E : Nat} (h : Dat w db K N V sl) (ht : Turns Q E w w') (hE : E ≤ db) : Dat w' db K N V sl := (ht.block db h.lt (.inr hE)).trans h
theorem Dat.set {hb n : Nat} {v : Value} (h : Dat w db K N V sl) (hne : db ≠ hb) : Dat (w.setCell ⟨hb, n, none⟩ v) db K N V sl := (Below.heap_setCell _ _ _ _ hne).trans h
end
/-- Ahead of the inner loop: the deed in block db. -/
def Mid (w wz : World) (Q E r hb db : Nat) (zs : List Bool) (j : Nat) (K N : Int) (V : Nat) (sl : Value) : Prop :=
  ∃ k x H, Kp w wz Q E r hb zs k x H ∧ k ≤ 16 * j + 8 ∧ Dat wz db K N V sl

end Go.Proofs.Ytacggabopdoijaa
