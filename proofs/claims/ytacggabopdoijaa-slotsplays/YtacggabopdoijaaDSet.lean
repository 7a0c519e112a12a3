/- A disk in memory (DiskAt: choices zs of which k were asked for, bytes P of m sectors), and the walks of own, sector, access, of a nil disk's too. -/
import Derived.Test.YtacggabopdoijaaLNew
import Derived.Test.YtacggabopdoijaaGBytes
namespace Go.Proofs.Ytacggabopdoijaa
open Go.RowKit

/-- Is there such a sector? -/
def inD (m : Nat) (n : Int) : Bool := decide (0 ≤ n ∧ n < m)
theorem inD_yes {m : Nat} {n : Int} (h : inD m n = true) : ∃ i : Nat, n = i ∧ i < m := by
  obtain ⟨h1, h2⟩ := of_decide_eq_true h
  exact ⟨n.toNat, by omega, by omega⟩
theorem inD_no {m : Nat} {n : Int} (h : inD m n = false) : ¬ (0 ≤ n ∧ n < m) := of_decide_eq_false h
theorem inD_nat {m i : Nat} (h : i < m) : inD m (i : Int) = true := decide_eq_true (by omega)
/-- What an access of s bytes of sector n is answered. -/
def acE (m : Nat) (zs : List Bool) (k : Nat) (n : Int) (s : Nat) : Nat := if inD m n then (if s = 512 then (if fa zs k then 12 else 0) else 1) else 2
/-- Is luck asked for it? -/
def acB (m : Nat) (n : Int) (s : Nat) : Bool := inD m n && decide (s = 512)
/-- How many were asked for then. -/
def acK (m k : Nat) (n : Int) (s : Nat) : Nat := inc k (acB m n s)
/-- What a read answers. -/
def rdD (m : Nat) (zs : List Bool) (k : Nat) (P : List Nat) (n : Int) : List Nat := if acE m zs k n 512 = 0 then seg P (n.toNat * 512) 512 else []
/-- What a write leaves. -/
def wrD (m : Nat) (zs : List Bool) (k : Nat) (P : List Nat) (n : Int) (b : List Nat) : List Nat := if acE m zs k n b.length = 0 then putAt P (n.toNat * 512) b else P
/-- What a peek answers. -/
def pkD (m : Nat) (P : List Nat) (n : Int) : List Nat := if inD m n then seg P (n.toNat * 512) 512 else []
theorem ac_ok {m k s : Nat} {zs : List Bool} {n : Int} (h : acE m zs k n s = 0) : inD m n = true ∧ s = 512 ∧ fa zs k = false := by
  unfold acE at h
  split at h
  · split at h
    · split at h
      · omega
      · rename_i h1 h2 h3; exact ⟨h1, h2, by simpa using h3⟩
    · omega
  · omega
theorem sec_le {i m : Nat} (h : i < m) : i * 512 + 512 ≤ m * 512 := by
  have := Nat.mul_le_mul_right 512 (Nat.succ_le_of_lt h)
  omega
theorem wrD_len {m k : Nat} {zs : List Bool} {P b : List Nat} {n : Int} (hl : P.length = m * 512) : (wrD m zs k P n b).length = m * 512 := by
  unfold wrD
  split
  · rename_i h
    obtain ⟨h1, h2, _⟩ := ac_ok h
    obtain ⟨i, rfl, hi⟩ := inD_yes h1
    have := sec_le hi
    rw [length_putAt (by rw [Int.toNat_natCast]; omega), hl]
  · exact hl
theorem wrD_byte {m k : Nat} {zs : List Bool} {P b : List Nat} {n : Int} (hP : ∀ x ∈ P, x < 256) (hb : ∀ x ∈ b, x < 256) : ∀ x ∈ wrD m zs k P n b, x < 256 := by
  unfold wrD
  split
  · exact putAt_byte hP hb
  · exact hP

/-- A disk in block r. -/
structure DiskIn (B E : Nat) (w : World) (r b g A C m : Nat) (zs : List Bool) (k : Nat) (P : List Nat) : Prop where
  luck : LuckAt A C w b zs k
  head : w.heap[r]? = some (.cells #[.pointer (some ⟨b, 0, none⟩), .slice (some ⟨g, 0, none⟩) m m] 89 (0, 0))
  row : w.heap[g]? = some (.cells (bv P).toArray 93 (0, 0))
  len : P.length = m * 512
  small : m ≤ 1024
  byte : ∀ x ∈ P, x < 256
  lo : B ≤ A ∧ C ≤ E ∧ B ≤ r ∧ r < E ∧ B ≤ g ∧ g < E ∧ r ≠ g ∧ (r < A ∨ C ≤ r) ∧ (g < A ∨ C ≤ g)
  hi : E ≤ w.heap.size
def DiskAt (B E : Nat) (w : World) (r m : Nat) (zs : List Bool) (k : Nat) (P : List Nat) : Prop := ∃ b g A C, DiskIn B E w r b g A C m zs k P
section
variable {B E r b g A C m k k' : Nat} {w w' : World} {zs : List Bool} {P : List Nat}
theorem DiskIn.c0 (h : DiskIn B E w r b g A C m zs k P) : w.cell? ⟨r, 0, none⟩ = some (.pointer (some ⟨b, 0, none⟩)) := by rw [cell_of_row w r 0 _ _ _ h.head]; rfl
theorem DiskIn.c1 (h : DiskIn B E w r b g A C m zs k P) : w.cell? ⟨r, 1, none⟩ = some (.slice (some ⟨g, 0, none⟩) m m) := by rw [cell_of_row w r 1 _ _ _ h.head]; rfl
theorem DiskIn.kept (h : DiskIn B E w r b g A C m zs k P) (hs : w.heap.size ≤ w'.heap.size) (hk : ∀ i, B ≤ i → i < E → w'.heap[i]? = w.heap[i]?) : DiskIn B E w' r b g A C m zs k P := by
  obtain ⟨l0, l1, l2, l3, l4, l5, l6, l7, l8⟩ := h.lo
  exact ⟨h.luck.of_blocks hs (fun i h1 h2 => hk i (by omega) (by omega)), (hk r l2 l3).trans h.head, (hk g l4 l5).trans h.row, h.len, h.small, h.byte, h.lo, Nat.le_trans h.hi hs⟩
theorem DiskIn.asked (h : DiskIn B E w r b g A C m zs k P) (hl : LuckAt A C w' b zs k') (ht : Turns A C w w') : DiskIn B E w' r b g A C m zs k' P := by
  obtain ⟨l0, l1, l2, l3, l4, l5, l6, l7, l8⟩ := h.lo
  have hi := h.hi
  exact ⟨hl, (ht.block r (by omega) l7).trans h.head, (ht.block g (by omega) l8).trans h.row, h.len, h.small, h.byte, h.lo, Nat.le_trans h.hi ht.size⟩
theorem DiskIn.setP (h : DiskIn B E w r b g A C m zs k P) {P' : List Nat} (hl : P'.length = m * 512) (hb : ∀ x ∈ P', x < 256) : DiskIn B E (w.setRow g (bv P').toArray) r b g A C m zs k P' := by
  obtain ⟨l0, l1, l2, l3, l4, l5, l6, l7, l8⟩ := h.lo
  have hz : (w.setRow g (bv P').toArray).heap.size = w.heap.size := by simp [World.setRow]
  refine ⟨h.luck.of_blocks (by rw [hz]; exact Nat.le_refl _) (fun i h1 h2 => setRow_other w g i _ (by omega)), ?_, setRow_heap w g _ _ _ _ h.row, hl, h.small, hb, h.lo, by rw [hz]; exact h.hi⟩
  rw [setRow_other w g r _ l6]
  exact h.head
theorem DiskIn.cellP (h : DiskIn B E w r b g A C m zs k P) {i : Nat} (hi : i < m * 512) : w.cell? ⟨g, i, none⟩ = some (.int .u8 (P.getD i 0 : Nat)) := by
  rw [cell_of_row w g i _ _ _ h.row]
  have := bv_at P i (by rw [h.len]; exact hi)
  simpa using this
theorem DiskIn.src (h : DiskIn B E w r b g A C m zs k P) {i c : Nat} (hi : i < m) : SrcAt w (.slice (some ⟨g, i * 512, none⟩) 512 c) 512 1 (bv (seg P (i * 512) 512)) := by
  have hle := sec_le hi
  have := h.lo
  have := h.hi
  refine src_cell (length_seg (by rw [h.len]; exact hle)) (by omega) (fun j hj => ?_)
  rw [h.cellP (by omega), seg_getD hj]
theorem DiskAt.kept (h : DiskAt B E w r m zs k P) (hs : w.heap.size ≤ w'.heap.size) (hk : ∀ i, B ≤ i → i < E → w'.heap[i]? = w.heap[i]?) : DiskAt B E w' r m zs k P := by
  obtain ⟨b, g, A, C, h⟩ := h; exact ⟨b, g, A, C, h.kept hs hk⟩
theorem DiskAt.hi (h : DiskAt B E w r m zs k P) : E ≤ w.heap.size ∧ B ≤ r ∧ r < E := by obtain ⟨b, g, A, C, h⟩ := h; have := h.lo; exact ⟨h.hi, by omega, by omega⟩
theorem DiskAt.below (h : DiskAt B E w r m zs k P) (hb : Below w.heap.size w w') : DiskAt B E w' r m zs k P :=
  h.kept hb.size (fun i _ hi => hb.block i (Nat.lt_of_lt_of_le hi h.hi.1))
theorem DiskAt.drewN (h : DiskAt B E w r m zs k P) (n : Nat) : DiskAt B E (w.drewN n) r m zs k P := h.below (drewN_below _ _ _)
theorem DiskAt.len (h : DiskAt B E w r m zs k P) : P.length = m * 512 := by obtain ⟨b, g, A, C, h⟩ := h; exact h.len
theorem DiskAt.small (h : DiskAt B E w r m zs k P) : m ≤ 1024 := by obtain ⟨b, g, A, C, h⟩ := h; exact h.small
theorem DiskAt.byte (h : DiskAt B E w r m zs k P) : ∀ x ∈ P, x < 256 := by obtain ⟨b, g, A, C, h⟩ := h; exact h.byte
end

theorem dOwn_some (r : Nat) (w : World) : Calls Try.prog 39 #[.pointer (some ⟨r, 0, none⟩)] w fun e w' => e = .returned (.pointer (some ⟨r, 0, none⟩)) ∧ w = w' := by
  go_enter Try.func39, Try.ntmps39
  go_wp2
  go_ret
  exact ⟨rfl, rfl⟩
theorem dOwn_nil (w : World) : Calls Try.prog 39 #[.pointer none] w fun e w' => e = .returned (.pointer (some ⟨w.heap.size, 0, none⟩)) ∧ w' = w.alloc (.cells #[.pointer none, .slice none 0 0] 78) := by
  go_enter Try.func39, Try.ntmps39
  go_wp2
  go_ret
  exact ⟨rfl, rfl⟩
theorem Try.size93 : (Try.prog.info? 93).map (fun i => i.size) = some 512 := by kernel_rfl
set_option maxHeartbeats 400000 in
theorem sector_no {r m c : Nat} {a : Option Addr} (n : Int) (w : World) (hc : w.cell? ⟨r, 1, none⟩ = some (.slice a m c)) (_hm : m ≤ 1024) (hno : inD m n = false) :
    Calls Try.prog 46 #[.pointer (some ⟨r, 0, none⟩), .int .i64 n] w fun e w' => e = .returned (.slice none 0 0) ∧ w = w' := by
  have h := inD_no hno
  by_cases h0 : 0 ≤ n
  · have h1 : (m : Int) ≤ n := by omega
    clear h hno
    go_enter Try.func46, Try.ntmps46
    go_wp2
    go_ret
    exact ⟨rfl, rfl⟩
  · clear h hno
    go_enter Try.func46, Try.ntmps46
    go_wp2
    go_ret
    exact ⟨rfl, rfl⟩
set_option maxHeartbeats 400000 in
theorem sector_yes {r g m : Nat} (n : Nat) (w : World) (hc : w.cell? ⟨r, 1, none⟩ = some (.slice (some ⟨g, 0, none⟩) m m)) (_hm : m ≤ 1024) (hn : n < m) :
    Calls Try.prog 46 #[.pointer (some ⟨r, 0, none⟩), .int .i64 (n : Int)] w fun e w' => e = .returned (.slice (some ⟨g, n * 512, none⟩) 512 512) ∧ w = w' := by
  have h0 : (0 : Int) ≤ n := by omega
  have h1 : (n : Int) < (m : Int) := by omega
  have hsz := Try.size93
  go_enter Try.func46, Try.ntmps46
  go_wp2
  go_ret
  refine ⟨?_, rfl⟩
  simp
end Go.Proofs.Ytacggabopdoijaa
