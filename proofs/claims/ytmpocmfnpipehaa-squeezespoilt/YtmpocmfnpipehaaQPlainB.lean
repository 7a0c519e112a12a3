/- Bytes packed as bytes alone, and the walk of the document's Plain. -/
import Derived.Test.YtmpocmfnpipehaaQPack
import Derived.Test.YtmpocmfnpipehaaGSrc
import Derived.Test.YtmpocmfnpipehaaGBy
import Derived.Test.YtmpocmfnpipehaaKPut
import Derived.Deep.LoopGhost
namespace Go.Proofs.Ytmpocmfnpipehaa
open Go.RowKit

/-- The first k bytes, packed as bytes alone. -/
def plainL (b : List Nat) : Nat → List Nat
  | 0 => []
  | k + 1 => (if k % 128 = 0 then plainL b k ++ [127] else plainL b k) ++ [b.getD k 0]
theorem plain_first {b : List Nat} {k : Nat} (h : k % 128 = 0) : plainL b (k + 1) = (plainL b k ++ [127]) ++ [b.getD k 0] := by rw [plainL, if_pos h]
theorem plain_next {b : List Nat} {k : Nat} (h : ¬ k % 128 = 0) : plainL b (k + 1) = plainL b k ++ [b.getD k 0] := by rw [plainL, if_neg h]
theorem plain_part (b : List Nat) (j : Nat) : ∀ i, 128 * j + (i + 1) ≤ b.length → i < 128 → plainL b (128 * j + (i + 1)) = plainL b (128 * j) ++ (127 :: seg b (128 * j) (i + 1))
  | 0, h, _ => by
    rw [Nat.zero_add, plain_first (by omega), List.append_assoc]
    congr 1
    show [127] ++ [b.getD (128 * j) 0] = 127 :: seg b (128 * j) 1
    have e : seg b (128 * j) 1 = [b.getD (128 * j) 0] := by
      refine ext_getD (by rw [length_seg (by omega)]; rfl) fun i hi => ?_
      rw [length_seg (by omega)] at hi
      obtain rfl : i = 0 := by omega
      rw [seg_getD (by omega)]
      rfl
    rw [e]
    rfl
  | i + 1, h, hi => by
    have e1 : 128 * j + (i + 1 + 1) = (128 * j + (i + 1)) + 1 := by omega
    rw [e1, plain_next (by omega), plain_part b j i (by omega) (by omega), List.append_assoc]
    congr 1
    show (127 :: seg b (128 * j) (i + 1)) ++ [b.getD (128 * j + (i + 1)) 0] = 127 :: seg b (128 * j) (i + 1 + 1)
    have e : seg b (128 * j) (i + 1 + 1) = seg b (128 * j) (i + 1) ++ [b.getD (128 * j + (i + 1)) 0] := by
      unfold seg
      rw [List.take_add_one]
      congr 1
      rw [List.getElem?_drop]
      simp [List.getD, List.getElem?_eq_getElem (show 128 * j + (i + 1) < b.length by omega)]
    rw [e]
    rfl
theorem plain_lits {b : List Nat} (hb : b.length = 4096) : ∀ j, j ≤ 32 → plainL b (128 * j) = catZ b ((List.range j).map (chunkZ 0 4096))
  | 0, _ => rfl
  | j + 1, h => by
    rw [List.range_succ, List.map_append, List.map_singleton, catZ_append, ← plain_lits hb j (by omega)]
    have := plain_part b j 127 (by omega) (by omega)
    rw [show 128 * (j + 1) = 128 * j + (127 + 1) by omega, this]
    congr 1
    have hl : (chunkZ 0 4096 j).b b = seg b (128 * j) 128 := by
      unfold chunkZ Tz.b
      show seg b (0 + 128 * j) (min 128 (4096 - 128 * j)) = _
      rw [Nat.zero_add, show min 128 (4096 - 128 * j) = 128 by omega]
    have hll : (seg b (128 * j) 128).length = 128 := length_seg (by omega)
    show _ = tokB ((chunkZ 0 4096 j).b b) _ _ ++ []
    rw [List.append_nil, hl, tok_lit (by omega), hll]
theorem plain_all {b : List Nat} (hb : b.length = 4096) : plainL b 4096 = catZ b (litsL 0 4096) := plain_lits hb 32 (Nat.le_refl _)
theorem spell_back {b : List Nat} {T : List Tz} (hb : b.length = 4096) (h8 : ∀ x ∈ b, x < 256) (hs : Spell b 0 T b.length) : unpA (catZ b T) = ⟨0, b, T.length⟩ := by
  have h256 := tz_byte h8 hs.may
  have hu := Spell.und hb hs (p := []) (r := []) (B := catZ b T) (n := 0) (by simp) h256 (by omega) (Und.start _)
  rw [List.take_length, List.length_nil, Nat.zero_add, Nat.zero_add] at hu
  rw [hu.over (by omega), endU, if_neg (by omega), if_neg (Nat.lt_irrefl _)]
/-- A page packed as bytes alone is unpacked. -/
theorem plain_back {b : List Nat} (hb : b.length = 4096) (h8 : ∀ x ∈ b, x < 256) : unpA (plainL b 4096) = ⟨0, b, 32⟩ := by
  have hs := spell_lits (b := b) (s := 0) (m := 4096) hb (by omega) 32 (by omega)
  rw [show 0 + min 4096 (128 * 32) = b.length by omega] at hs
  have := spell_back hb h8 hs
  rw [plain_all hb]
  show unpA (catZ b ((List.range ((4096 + 127) / 128)).map (chunkZ 0 4096))) = _
  rw [show (4096 + 127) / 128 = 32 from rfl, this]
  simp
theorem plain_len (b : List Nat) : ∀ k, (plainL b k).length ≤ 2 * k
  | 0 => Nat.le_refl _
  | k + 1 => by
    have ih := plain_len b k
    by_cases h : k % 128 = 0
    · rw [plain_first h]; simp; omega
    · rw [plain_next h]; simp; omega
theorem plain_byte {b : List Nat} (h8 : ∀ x ∈ b, x < 256) : ∀ k, ∀ x ∈ plainL b k, x < 256
  | 0 => by simp [plainL]
  | k + 1 => by
    intro x hx
    have ih := plain_byte h8 k
    have hb := getD_byte h8 k
    by_cases h : k % 128 = 0
    · rw [plain_first h] at hx
      rcases List.mem_append.1 hx with h1 | h1
      · rcases List.mem_append.1 h1 with h2 | h2
        · exact ih x h2
        · rw [List.mem_singleton.1 h2]; omega
      · rw [List.mem_singleton.1 h1]; exact hb
    · rw [plain_next h] at hx
      rcases List.mem_append.1 hx with h1 | h1
      · exact ih x h1
      · rw [List.mem_singleton.1 h1]; exact hb

set_option maxRecDepth 100000 in
set_option maxHeartbeats 1000000 in
theorem plain_any {p : Option Addr} {c L : Nat} {b : List Nat} (w : World) (h : ByAt w p L c b) (hL : L ≤ 4096) :
    Calls Try.prog 16 #[.slice p L c] w fun e w' => ∃ v, e = .returned v ∧ w'.ownsRow w.heap.size 5 1 v (plainL b L).length (bv (plainL b L)) ∧ Below w.heap.size w w' := by
  obtain ⟨i0, hi, hz0, hz1, hz2⟩ := info_parts Try.info5
  have HBY : Hid (∀ w', Below w.heap.size w w' → ByAt w' p L c b) := fun w' hw => h.later hw
  clear h
  go_enter Try.func16, Try.ntmps16
  go_wp2_with fail
  go_loopg [3, 4] L (fun gk v i wr => ∃ k : Nat, k ≤ L ∧ gk = L - k ∧ i = .int .i64 k ∧ wr.ownsRow w.heap.size 5 1 v (plainL b k).length (bv (plainL b k)) ∧ Below w.heap.size w wr)
  case atStart => exact ⟨0, Nat.zero_le _, rfl, rfl, World.ownsRow_nil _ _ _ _, Below.refl _ _⟩
  case round =>
    obtain ⟨k, hk, rfl, rfl, hown, hbel⟩ := hrel
    obtain ⟨av, cv, rfl⟩ := row_slice hown
    have HB : Hid (Below w.heap.size w wr) := hbel
    have hsz := hbel.size
    clear hbel
    by_cases hlt : k < L
    · have i1 : (k : Int) < (L : Int) := by omega
      have hby := HBY.out wr HB.out
      obtain ⟨g, o, rfl, hg, hc⟩ := hby.at (by omega)
      have hck := hc k hlt
      have hix := index_at (g := g) (o := o) (L := L) (c := c) (q := o + k) (I := (k : Int)) k rfl hlt rfl
      have hpl := plain_len b k
      obtain ⟨y, hy⟩ : ∃ y, b.getD k 0 = y := ⟨_, rfl⟩
      rw [hy] at hck
      have HY : Hid (b.getD k 0 = y) := hy
      by_cases hm : k % 128 = 0
      · have hm1 : Int.tmod (k : Int) 128 = 0 := by
          rw [Int.tmod_eq_emod_of_nonneg (by omega)]; omega
        have hm2 : (k : Int) % 128 = 0 := by omega
        have HPL : Hid (plainL b (k + 1) = (plainL b k ++ [127]) ++ [y]) := by show _ = _; rw [plain_first hm, hy]
        have HO : Hid (wr.ownsRow w.heap.size 5 1 (.slice av (plainL b k).length cv) (plainL b k).length (bv (plainL b k))) := hown
        clear hown hy hm hby hc
        generalize plainL b k = q at *
        go_wp2_with (at_builtin; refine wpList_append_src rfl _ _ 22 rfl w.heap.size 5 i0 (.int .u8 0) 1 1 Try.underlying22 hi hz0 hz1 hz2 rfl (by decide) _ q.length (bv q) rfl (HO.out.alloc _) _ 1 (bv [127]) rfl (src_one _ _ 127 _ rfl rfl _) (bv_one _) ?q1 ?q2 ?q3 ?_)
        case q1 => unfold maxLen; omega
        case q2 => omega
        case q3 => simp; omega
        intro v7 w7 own7 gr7
        obtain ⟨a7, c7, rfl⟩ := row_slice own7
        have hb7 : Below w.heap.size w w7 := (HB.out.alloc hsz _).grown gr7 (by simp; omega) (fun j hj => (HO.out.lt j hj).1)
        have HO7 : Hid (w7.ownsRow w.heap.size 5 1 (.slice a7 (q.length + 1) c7) (q.length + 1) (bv (q ++ [127]))) := by
          show World.ownsRow _ _ _ _ _ _ _
          rw [bv_append]
          exact own7
        have HB7 : Hid (Below w.heap.size w w7) := hb7
        have hck7 : w7.cell? ⟨g, o + k, none⟩ = some (.int .u8 (y : Nat)) := by
          obtain ⟨g', o', e, _, hc7⟩ := (HBY.out w7 hb7).at (by omega)
          cases e
          rw [hc7 k hlt, HY.out]
        have hsz7 := hb7.size
        clear own7 gr7 hb7 hck
        go_wp2_with (at_builtin; refine wpList_append_src rfl _ _ 22 rfl w.heap.size 5 i0 (.int .u8 0) 1 1 Try.underlying22 hi hz0 hz1 hz2 rfl (by decide) _ (q.length + 1) (bv (q ++ [127])) rfl (HO7.out.alloc _) _ 1 (bv [y]) rfl (src_one _ _ y _ rfl rfl _) (bv_one _) ?r1 ?r2 ?r3 ?_)
        case r1 => unfold maxLen; omega
        case r2 => omega
        case r3 => simp; omega
        intro v8 w8 own8 gr8
        obtain ⟨a8, c8, rfl⟩ := row_slice own8
        have HO8 : Hid (w8.ownsRow w.heap.size 5 1 (.slice a8 ((q.length + 1) + 1) c8) ((q.length + 1) + 1) (bv ((q ++ [127]) ++ [y]))) := by
          show World.ownsRow _ _ _ _ _ _ _
          rw [bv_append]
          exact own8
        have HB8 : Hid (Below w.heap.size w w8) := (HB7.out.alloc hsz7 _).grown gr8 (by simp; omega) (fun j hj => (HO7.out.lt j hj).1)
        clear own8 gr8
        go_wp2
        go_roundg (L - (k + 1))
        case measure => omega
        case rel =>
          refine ⟨k + 1, by omega, rfl, by go_num, ?_, HB8.out⟩
          rw [HPL.out, List.length_append, List.length_append]
          exact HO8.out
      · have hm1 : ¬ Int.tmod (k : Int) 128 = 0 := by
          rw [Int.tmod_eq_emod_of_nonneg (by omega)]; omega
        have hm2 : ¬ (k : Int) % 128 = 0 := by omega
        have HPL : Hid (plainL b (k + 1) = plainL b k ++ [y]) := by show _ = _; rw [plain_next hm, hy]
        have HO : Hid (wr.ownsRow w.heap.size 5 1 (.slice av (plainL b k).length cv) (plainL b k).length (bv (plainL b k))) := hown
        have hck7 := hck
        clear hown hy hm hby hc hck
        generalize plainL b k = q at *
        go_wp2_with (at_builtin; refine wpList_append_src rfl _ _ 22 rfl w.heap.size 5 i0 (.int .u8 0) 1 1 Try.underlying22 hi hz0 hz1 hz2 rfl (by decide) _ q.length (bv q) rfl (HO.out.alloc _) _ 1 (bv [y]) rfl (src_one _ _ y _ rfl rfl _) (bv_one _) ?r1 ?r2 ?r3 ?_)
        case r1 => unfold maxLen; omega
        case r2 => omega
        case r3 => simp; omega
        intro v8 w8 own8 gr8
        obtain ⟨a8, c8, rfl⟩ := row_slice own8
        have HO8 : Hid (w8.ownsRow w.heap.size 5 1 (.slice a8 (q.length + 1) c8) (q.length + 1) (bv (q ++ [y]))) := by
          show World.ownsRow _ _ _ _ _ _ _
          rw [bv_append]
          exact own8
        have HB8 : Hid (Below w.heap.size w w8) := (HB.out.alloc hsz _).grown gr8 (by simp; omega) (fun j hj => (HO.out.lt j hj).1)
        clear own8 gr8
        go_wp2
        go_roundg (L - (k + 1))
        case measure => omega
        case rel =>
          refine ⟨k + 1, by omega, rfl, by go_num, ?_, HB8.out⟩
          rw [HPL.out, List.length_append]
          exact HO8.out
    · obtain rfl : k = L := by omega
      have i1 : ¬ (k : Int) < (k : Int) := by omega
      have HO : Hid (wr.ownsRow w.heap.size 5 1 (.slice av (plainL b k).length cv) (plainL b k).length (bv (plainL b k))) := hown
      clear hown
      go_wp2
      go_ret
      exact ⟨_, rfl, HO.out, HB.out⟩
end Go.Proofs.Ytmpocmfnpipehaa
