/- An array of 256 ints in a variable of one's own: its making, reads and stores; and what it says of a list of numbers that are pushed. -/
import Derived.Test.YtbdffiomciogiaaCPut
namespace Go.Proofs.Ytbdffiomciogiaa
open Go.RowKit

theorem Try.zero37 : (Try.prog.info? 37).map (fun i => i.zero) = some (some (.agg (Array.replicate 256 (.int .i64 0)))) := by kernel_rfl
theorem zero_when (w : World) : (zeroValue 37).run Try.prog w = .ok (.agg (Array.replicate 256 (.int .i64 0))) w := by
  obtain ⟨i, hi, hz⟩ := Option.map_eq_some_iff.1 Try.zero37
  generalize (Array.replicate 256 (Value.int .i64 0)) = Z at *
  simp [zeroValue, typeInfo, hi, hz, go_sem]

structure WAt (b : Nat) (w : World) (W : List Int) : Prop where
  len : W.length = 256
  head : w.heap[b]? = some (.cells (zv W).toArray 37 (0, 0))
section
variable {b : Nat} {w w' : World} {W : List Int}
theorem zv_rep (n : Nat) : (zv (List.replicate n 0)).toArray = Array.replicate n (.int .i64 0) := by simp [zv]
theorem rep_getD (n a : Nat) : (List.replicate n (0 : Int)).getD a 0 = 0 := by
  rw [List.getD_eq_getElem?_getD, List.getElem?_replicate]
  split <;> rfl
theorem WAt.new (w : World) : WAt w.heap.size (w.alloc (.cells (Array.replicate 256 (.int .i64 0)) 37)) (List.replicate 256 0) := by
  refine ⟨List.length_replicate, ?_⟩
  rw [zv_rep]
  exact heap_alloc_new w _
theorem WAt.lt (h : WAt b w W) : b < w.heap.size := (Array.getElem?_eq_some_iff.1 h.head).1
theorem WAt.cell (h : WAt b w W) {n : Nat} (hn : n < 256) : w.cell? ⟨b, n, none⟩ = some (.int .i64 (W.getD n 0)) := by
  rw [cell_of_row w b n _ _ _ h.head]
  have := zv_at W n (by rw [h.len]; exact hn)
  simpa using this
theorem WAt.frozen (h : WAt b w W) (n : Nat) : w.frozen? ⟨b, n, none⟩ = false := by
  have := h.head
  simp [World.frozen?, this]
theorem WAt.keep (h : WAt b w W) (hk : w'.heap[b]? = w.heap[b]?) : WAt b w' W := ⟨h.len, hk.trans h.head⟩
theorem WAt.set (h : WAt b w W) (n : Nat) (v : Int) : WAt b (w.setCell ⟨b, n, none⟩ (.int .i64 v)) (W.set n v) := by
  refine ⟨by simp [h.len], ?_⟩
  show (w.heap.modify b _)[b]? = _
  rw [Array.getElem?_modify, if_pos rfl, h.head, zv_set]
  simp
end

theorem ChainP.kept {B E m : Nat} {w w' : World} {p : Option Addr} {l : List Nat} (h : ChainP B E w p m l) (hk : ∀ i, i < E → w'.heap[i]? = w.heap[i]?) (hs : w.heap.size ≤ w'.heap.size) : ChainP B E w' p m l := by
  rcases h with h | ⟨b, g1, g2, h1, N, O, hr, hp⟩
  · exact .inl h
  · exact .inr ⟨b, g1, g2, h1, N, O, hr, hp.of_blocks hs (fun i _ hi => hk i hi)⟩


/-- W says of each number when it was pushed last, 0 if never; x has those that were pushed, in that order. -/
structure Since (k : Nat) (W : List Int) (x : List Nat) : Prop where
  len : W.length = 256
  mem : ∀ a, a < 256 → (W.getD a 0 = 0 ↔ a ∉ x)
  pos : ∀ a, 0 ≤ W.getD a 0 ∧ W.getD a 0 ≤ k
  pw : x.Pairwise (fun a b => W.getD a 0 < W.getD b 0)
theorem Since.start : Since 0 (List.replicate 256 0) [] := by
  exact ⟨List.length_replicate, fun a _ => by rw [rep_getD]; simp, fun a => by rw [rep_getD]; omega, List.Pairwise.nil⟩
theorem Since.push {k : Nat} {W : List Int} {x : List Nat} (h : Since k W x) (hn : x.Nodup) {z : Nat} (hz : z < 256) : Since (k + 1) (W.set z ((k : Int) + 1)) (x.erase z ++ [z]) := by
  have hg : ∀ a, (W.set z ((k : Int) + 1)).getD a 0 = if z = a then (k : Int) + 1 else W.getD a 0 := fun a => getD_set _ _ _ _ (by rw [h.len]; exact hz)
  refine ⟨by simp [h.len], fun a ha => ?_, fun a => ?_, ?_⟩
  · rw [hg a]
    by_cases e : z = a
    · subst e
      rw [if_pos rfl]
      simp
      omega
    · rw [if_neg e, h.mem a ha]
      simp only [List.mem_append, List.mem_singleton, not_or, hn.mem_erase_iff]
      exact ⟨fun h1 => ⟨fun h2 => h1 h2.2, fun h2 => e h2.symm⟩, fun h1 h2 => h1.1 ⟨fun h3 => e h3.symm, h2⟩⟩
  · rw [hg a]
    have := h.pos a
    split
    · omega
    · omega
  · refine List.pairwise_append.2 ⟨?_, by simp, ?_⟩
    · refine (h.pw.sublist List.erase_sublist).imp_of_mem ?_
      intro a b ha hb hab
      have h1 := (hn.mem_erase_iff.1 ha).1
      have h2 := (hn.mem_erase_iff.1 hb).1
      rw [hg a, hg b, if_neg (Ne.symm h1), if_neg (Ne.symm h2)]
      exact hab
    · intro a ha b hb
      have h1 := (hn.mem_erase_iff.1 ha).1
      have h2 : b = z := by simpa using hb
      subst h2
      rw [hg a, hg b, if_neg (Ne.symm h1), if_pos rfl]
      have := (h.pos a).2
      omega
theorem Since.many {k : Nat} {W : List Int} {x : List Nat} (h : Since k W x) {z : Nat} (hz : z < 256) : (x.erase z ++ [z]).length = if W.getD z 0 = 0 then x.length + 1 else x.length := by
  rw [List.length_append, List.length_erase]
  by_cases hx : z ∈ x
  · rw [if_pos hx, if_neg (fun e => (h.mem z hz).1 e hx)]
    have := List.length_pos_of_mem hx
    simp
    omega
  · rw [if_neg hx, if_pos ((h.mem z hz).2 hx)]
    rfl
theorem pushL_byte {x : List Nat} {z : Nat} (hz : z < 256) : mayC 256 z = true ∧ pushL 256 x z = x.erase z ++ [z] := by
  have h : mayC 256 z = true := mayC_nat hz
  exact ⟨h, by rw [pushL, h]; simp⟩
end Go.Proofs.Ytbdffiomciogiaa
