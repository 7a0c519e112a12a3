/- Opening bytes that were handed in, in a field or by themselves: general. -/
import Derived.Test.YtgninhecclinaaaGBytes
import Derived.Test.YtgninhecclinaaaBOpen
import Derived.Deep.Slices
import Derived.Deep.SlicePairs
import Derived.Deep.Fields
import Derived.Lib.SmallJoins
namespace Go.Proofs.Ytgninhecclinaaa
open Go.ChangeShapes Go.WideShapes Go.ChangeAt Go.RowKit Go.Deep

variable {H : Type} {enc : TypeId × Value → H} {P : Program} {w : World}
/-- Bytes that were handed in. -/
theorem bytes_cap {t e : TypeId} {fuel : Nat} {v : Value} {x : DataW H × List MemPlace} (ht : P.underlying t = some (.slice e)) (he : P.underlying e = some (.int .u8)) (hce : P.cellsOf e = 1)
    (hf : DataW.trod enc P w 0 (fun _ => true) true fuel t [v] = some x) :
    ∃ (p : Option Addr) (l c : Nat) (b : List Nat), v = .slice p l c ∧ l ≤ maxLen ∧ (l ≤ c ∧ c ≤ maxLen) ∧ SrcAt w (.slice p l c) l 1 (bv b) ∧ (∀ x ∈ b, x < 256) := by
  rcases open_ints ht he hce hf with ⟨hcs, _⟩ | ⟨a, l, c, zs, hcs, _, hl, hm, hz, _, hcell, hwz⟩
  · simp at hcs
    subst hcs
    exact ⟨none, 0, 0, [], rfl, by unfold maxLen; omega, by unfold maxLen; omega, .inl ⟨rfl, rfl, rfl⟩, by simp⟩
  · simp at hcs
    subst hcs
    have hzl : zs.length = c := by simpa using hz
    have hb8 : ∀ z ∈ zs, 0 ≤ z ∧ z < 256 := fun z hz => by have := bounds_u8 (hwz z hz); omega
    have hlen : ((zs.take l).map Int.toNat).length = l := by simp; omega
    refine ⟨_, l, c, (zs.take l).map Int.toNat, rfl, Nat.le_trans hl hm, ⟨hl, hm⟩, .inr ⟨a, c, rfl, by simp only [length_bv, hlen, Nat.mul_one], fun j u hj => ?_⟩, ?_⟩
    · obtain ⟨h1, rfl⟩ := bv_some hj
      rw [hlen] at h1
      have hj' : j < zs.length := by omega
      have hcj := hcell j hj'
      have hlt := World.block_lt_of_cell? w _ hcj
      rw [block_add] at hlt
      refine ⟨hlt, ?_⟩
      rw [hcj]
      have hz0 := hb8 (zs.getD j 0) (by rw [List.getD_eq_getElem?_getD, List.getElem?_eq_getElem hj']; exact List.getElem_mem _)
      have e : (((zs.take l).map Int.toNat).getD j 0 : Nat) = (zs.getD j 0).toNat := by simp [List.getD, hj', h1]
      rw [e, Int.toNat_of_nonneg hz0.1]
    · intro x hx
      obtain ⟨z, hz, rfl⟩ := List.mem_map.1 hx
      have := hb8 z (List.mem_of_mem_take hz)
      omega
theorem bytes_in {t e : TypeId} {fuel : Nat} {v : Value} {x : DataW H × List MemPlace} (ht : P.underlying t = some (.slice e)) (he : P.underlying e = some (.int .u8)) (hce : P.cellsOf e = 1)
    (hf : DataW.trod enc P w 0 (fun _ => true) true fuel t [v] = some x) :
    ∃ (p : Option Addr) (l c : Nat) (b : List Nat), v = .slice p l c ∧ l ≤ maxLen ∧ SrcAt w (.slice p l c) l 1 (bv b) ∧ (∀ x ∈ b, x < 256) := by
  obtain ⟨p, l, c, b, h1, h2, _, h4, h5⟩ := bytes_cap ht he hce hf
  exact ⟨p, l, c, b, h1, h2, h4, h5⟩
end Go.Proofs.Ytgninhecclinaaa
