/- Bytes that a slice value reads, with their capacity: general (of layer 10's texts). -/
import Derived.Test.YtgninhecclinaaaGNum
namespace Go.Proofs.Ytgninhecclinaaa
open Go.RowKit

/-- Bytes that a slice value reads. -/
structure ByAt (w : World) (p : Option Addr) (L c : Nat) (b : List Nat) : Prop where
  src : SrcAt w (.slice p L c) L 1 (bv b)
  max : c ≤ maxLen
  cap : L ≤ c
  byte : ∀ x ∈ b, x < 256
theorem ByAt.len {w : World} {p : Option Addr} {L c : Nat} {b : List Nat} (h : ByAt w p L c b) : b.length = L := src_len h.src
theorem ByAt.later {w w' : World} {p : Option Addr} {L c : Nat} {b : List Nat} (h : ByAt w p L c b) (hb : Below w.heap.size w w') : ByAt w' p L c b := ⟨h.src.later hb, h.max, h.cap, h.byte⟩
theorem ByAt.short {w : World} {p : Option Addr} {L c : Nat} {b : List Nat} (h : ByAt w p L c b) : L ≤ maxLen := Nat.le_trans h.cap h.max
theorem ByAt.conv {w : World} {p : Option Addr} {L c : Nat} {b : List Nat} (h : ByAt w p L c b) : (convert 23 9 (.slice p L c)).run Try.prog w = .ok (.string (strB b)) w := conv_src h.src

theorem by_row {w : World} {base g L c : Nat} {b : List Nat} (h : w.ownsRow base 5 1 (.slice (some ⟨g, 0, none⟩) L c) L (bv b)) (h8 : ∀ x ∈ b, x < 256) : ByAt w (some ⟨g, 0, none⟩) L c b := ⟨src_row h, (row_cap h).2, (row_cap h).1, h8⟩
/-- Where the bytes lie. -/
theorem ByAt.at {w : World} {p : Option Addr} {L c : Nat} {b : List Nat} (h : ByAt w p L c b) (hL : 0 < L) : ∃ g off, p = some ⟨g, off, none⟩ ∧ g < w.heap.size ∧ ∀ i, i < L → w.cell? ⟨g, off + i, none⟩ = some (.int .u8 (b.getD i 0 : Nat)) := by
  have hl := h.len
  rcases nums_src h.src with rfl | ⟨g, off, rfl, h1, h2⟩
  · simp at hl; omega
  · exact ⟨g, off, rfl, h1, fun i hi => h2 i (by omega)⟩

/-- An element's address. -/
theorem index_at {g o L c q : Nat} {I : Int} (j : Nat) (hI : I = j) (hj : j < L) (hq : q = o + j) (w : World) :
    (Instr.indexAt 23 (.slice (some ⟨g, o, none⟩) L c) (.int .i64 I)).run Try.prog w = .ok (.pointer (some ⟨g, q, none⟩)) w := by
  obtain ⟨i0, h0, hz0, hz1, hz2⟩ := info_parts Try.info5
  have he : Try.prog.elem 23 = 5 := by kernel_rfl
  have hs : (sizeOf 5).run Try.prog w = .ok 1 w := by simp [sizeOf, typeInfo, h0, hz1, go_sem]
  subst hI hq
  rw [run_indexAt_slice (P := Try.prog) w 23 _ _ _ _ _ (by rw [he]; exact Try.underlying23), he, if_pos (by omega), hs]
  simp only [Result.andThen, Nat.mul_one, Int.toNat_natCast, add_lit']

theorem bv_append (a b : List Nat) : bv (a ++ b) = bv a ++ bv b := by simp [bv]
/-- A part of bytes: b[l:h]. -/
theorem ByAt.part {w : World} {g o L c : Nat} {b : List Nat} (h : ByAt w (some ⟨g, o, none⟩) L c b) {l s : Nat} (hl : l + s ≤ L) (hs : 0 < s) : ByAt w (some ⟨g, o + l, none⟩) s (c - l) (seg b l s) := by
  have hlen := h.len
  obtain ⟨g', o', e, hg, hc⟩ := h.at (by omega)
  cases e
  refine ⟨src_cell (length_seg (by omega)) hg fun j hj => ?_, by have := h.max; omega, by have := h.cap; omega, seg_byte h.byte⟩
  rw [seg_getD hj, Nat.add_assoc]
  exact hc (l + j) (by omega)
theorem run_part {g o L c l s : Nat} {A H : Int} (hA : A = l) (hH : H = (l + s : Nat)) (hc : l + s ≤ c) (hs : 0 < s) (w : World) :
    (Instr.slice 23 (.slice (some ⟨g, o, none⟩) L c) (some (.int .i64 A)) (some (.int .i64 H)) none).run Try.prog w = .ok (.slice (some ⟨g, o + l, none⟩) s (c - l)) w := by
  obtain ⟨i0, h0, hz0, hz1, hz2⟩ := info_parts Try.info5
  have he : Try.prog.elem 23 = 5 := by kernel_rfl
  subst hA hH
  rw [run_slice_lh (P := Try.prog) w 23 _ _ _ (by rw [he]; exact Try.underlying23) .i64 .i64 _ _ (by omega) (by omega) (by omega), he]
  have hs : (sizeOf 5).run Try.prog w = .ok 1 w := by simp [sizeOf, typeInfo, h0, hz1, go_sem]
  rw [hs]
  simp only [Result.andThen, sliced, Option.map_some, Nat.mul_one, Int.toNat_natCast, add_lit', Nat.add_sub_cancel_left]
  rw [if_neg (by omega)]
theorem by_own {w : World} {base n : Nat} {a : Option Addr} {c : Nat} {b : List Nat} (h : w.ownsRow base 5 1 (.slice a n c) n (bv b)) (h8 : ∀ x ∈ b, x < 256) : ByAt w a n c b := by
  cases a with
  | none =>
    rcases h.2 with ⟨e, rfl⟩ | ⟨g, cap, cur, e, _⟩
    · cases e
      exact ⟨src_row h, by unfold maxLen; omega, Nat.le_refl _, h8⟩
    · cases e
  | some ad => exact ⟨src_row h, (row_cap h).2, (row_cap h).1, h8⟩
theorem by_nil (w : World) : ByAt w none 0 0 [] := ⟨.inl ⟨rfl, rfl, rfl⟩, by unfold maxLen; omega, Nat.le_refl _, by simp⟩
/-- The first m bytes: b[:m]. -/
theorem ByAt.head {w : World} {p : Option Addr} {L c m : Nat} {b : List Nat} (h : ByAt w p L c b) (hm : m ≤ L) : ByAt w p m c (b.take m) := by
  refine ⟨?_, h.max, Nat.le_trans hm h.cap, fun x hx => h.byte x (List.mem_of_mem_take hx)⟩
  have hl := h.len
  rcases h.src with ⟨e, rfl, _⟩ | ⟨ad, c', e, h2, h3⟩
  · obtain rfl : m = 0 := by omega
    cases e
    exact .inl ⟨rfl, rfl, by simp [bv]⟩
  · cases e
    refine .inr ⟨ad, c, rfl, by simp; omega, fun j u hj => ?_⟩
    obtain ⟨h4, rfl⟩ := bv_some hj
    have h5 : j < m := by simp at h4; omega
    have e2 : (b.take m).getD j 0 = b.getD j 0 := by simp [List.getD, h5]
    rw [e2]
    exact h3 j _ (bv_at b j (by omega))
theorem run_head {p : Option Addr} {n c m : Nat} {M : Int} (hM : M = m) (hc : m ≤ c) (w : World) :
    (Instr.slice 23 (.slice p n c) none (some (.int .i64 M)) none).run Try.prog w = .ok (.slice p m c) w := by
  obtain ⟨i0, h0, hz0, hz1, hz2⟩ := info_parts Try.info5
  have he : Try.prog.elem 23 = 5 := by kernel_rfl
  subst hM
  rw [run_slice_h (P := Try.prog) w 23 _ _ _ (by rw [he]; exact Try.underlying23) .i64 _ (by omega) (by omega), he]
  have hs : (sizeOf 5).run Try.prog w = .ok 1 w := by simp [sizeOf, typeInfo, h0, hz1, go_sem]
  have ha : ∀ a : Addr, a.add 0 = a := fun a => by unfold Addr.add; cases a; split <;> simp_all
  rw [hs]
  cases p with
  | none => simp [Result.andThen, sliced]
  | some a => simp [Result.andThen, sliced, ha]
end Go.Proofs.Ytgninhecclinaaa
