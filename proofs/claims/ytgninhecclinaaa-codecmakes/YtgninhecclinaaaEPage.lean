/- The walk of same.Page: the page of one word, in new memory. -/
import Derived.Test.YtgninhecclinaaaERuns
namespace Go.Proofs.Ytgninhecclinaaa
open Go.RowKit

/-- What copy does to a row of bytes in block g, where there is room for more than there is. -/
theorem copy_over {w : World} {g o dn cap n : Nat} {tg : TypeId} {v : Value} {b P : List Nat} (hg : w.heap[g]? = some (.cells (bv P).toArray tg (0, 0))) (hd : n ≤ dn) (hfit : o + n ≤ P.length) (hb : SrcAt w v n 1 (bv b)) (ty : TypeId) :
    (Builtin.copy_ #[23, 23] ty #[.slice (some ⟨g, o, none⟩) dn cap, v]).run Try.prog w = .ok (.int .i64 (n : Int)) (w.setRow g (bv (putAt P o b)).toArray) := by
  have hl := src_len hb
  rcases hb with ⟨rfl, rfl, h⟩ | ⟨ad, c, rfl, h2, h3⟩
  · obtain rfl : b = [] := List.eq_nil_of_length_eq_zero hl
    rw [putAt_nil, setRow_self w g _ _ _ hg]
    exact run_copy_none w 23 23 ty 5 _ _ _ _ _ _ Try.underlying23 Try.size5 (by simp)
  · subst hl
    have hr := run_copy_row (P := Try.prog) w 23 23 ty 5 g o dn cap ad b.length c (bv P).toArray tg (bv b) Try.underlying23 Try.size5 hg (by rw [length_bv]; exact (Nat.min_eq_left hd).symm) (fun j u hj => (h3 j u hj).2) (by simp; exact hfit) (bv_one b)
    refine hr.trans ?_
    have e2 := bv_putAt P o b
    show Result.ok (Value.int .i64 ((bv b).length : Int)) (w.setRow g ((bv P).take o ++ bv b ++ (bv P).drop (o + (bv b).length)).toArray) = _
    rw [e2, length_bv]
theorem row_own {w : World} {B g L : Nat} {e : TypeId} {xs : List Value} (hB : B ≤ g) (hL : L ≤ maxLen) (hl : xs.length = L) (h : w.heap[g]? = some (.cells xs.toArray e (0, 0))) : w.ownsRow B e 1 (.slice (some ⟨g, 0, none⟩) L L) L xs :=
  ⟨by simpa using hl, .inr ⟨g, L, xs.toArray, rfl, hB, h, Nat.le_refl _, hL, by simpa using hl, by rw [List.take_of_length_le (by simp [hl])]⟩⟩
/-- page[k*8:] -/
theorem page_from {g k : Nat} (hk : k < 512) (w : World) :
    (Instr.slice 23 (.slice (some ⟨g, 0, none⟩) 4096 4096) (some (.int .i64 ((k : Int) * 8))) none none).run Try.prog w = .ok (.slice (some ⟨g, 8 * k, none⟩) (4096 - 8 * k) (4096 - 8 * k)) w := by
  obtain ⟨i0, h0, hz0, hz1, hz2⟩ := info_parts Try.info5
  have he : Try.prog.elem 23 = 5 := by kernel_rfl
  have ek : ((k : Int) * 8).toNat = 8 * k := by omega
  rw [run_slice_l (P := Try.prog) w 23 _ _ _ (by rw [he]; exact Try.underlying23) .i64 _ (by omega) (by omega), he]
  have hs : (sizeOf 5).run Try.prog w = .ok 1 w := by simp [sizeOf, typeInfo, h0, hz1, go_sem]
  rw [hs]
  simp only [Result.andThen, sliced, Option.map_some, Nat.mul_one, ek, add_lit', Nat.zero_add]
  rw [if_neg (by omega)]

/-- A page under way: k words stand. -/
structure Fills (w wr : World) (g gw k n : Nat) (P : List Nat) : Prop where
  row : wr.heap[g]? = some (.cells (bv P).toArray 5 (0, 0))
  len : P.length = 4096
  get : ∀ i, i < 8 * k → P.getD i 0 = n / 256 ^ (i % 8) % 256
  src : SrcAt wr (.slice (some ⟨gw, 0, none⟩) 8 8) 8 1 (bv (putN 8 n))
  lt : gw < g
  lo : w.heap.size ≤ g
  bel : Below w.heap.size w wr
theorem Fills.step {w wr : World} {g gw k n : Nat} {P : List Nat} (h : Fills w wr g gw k n P) (hk : k < 512) : Fills w (wr.setRow g (bv (putAt P (8 * k) (putN 8 n))).toArray) g gw (k + 1) n (putAt P (8 * k) (putN 8 n)) := by
  have hl := h.len
  have hf : 8 * k + (putN 8 n).length ≤ P.length := by rw [length_putN]; omega
  have hT : Turns g (g + 1) wr (wr.setRow g (bv (putAt P (8 * k) (putN 8 n))).toArray) := (Turns.refl _ _ _).setRow (Nat.le_refl _) (by omega) _
  refine ⟨setRow_heap wr g _ _ _ _ h.row, by rw [length_putAt hf, hl], fun i hi => ?_, src_turns h.src ?_ hT, h.lt, h.lo, h.bel.trans ((hT.below (Nat.le_of_lt (Array.getElem?_eq_some_iff.1 h.row).1)).mono h.lo)⟩
  · rw [putAt_getD hf, length_putN]
    by_cases e : 8 * k ≤ i
    · rw [if_pos (by omega), putN_getD (by omega)]
      congr 3
      omega
    · rw [if_neg (by omega)]
      exact h.get i (by omega)
  · intro ad m c e _
    cases e
    exact .inl h.lt
theorem Fills.fin {w wr : World} {g gw n : Nat} {P : List Nat} (h : Fills w wr g gw 512 n P) : P = pageN n := by
  refine ext_getD (by rw [pageN_len, h.len]) fun i hi => ?_
  rw [h.len] at hi
  rw [h.get i (by omega), pageN_getD hi]

/-- num.Put(8, n), its one number in a new block. -/
theorem put_eight (n : Nat) (w : World) :
    Calls Try.prog 20 #[.int .i64 8, .slice (some ⟨w.heap.size, 0, none⟩) 1 1] (w.alloc (.cells #[.int .u64 (n : Int)] 52)) fun e w' => e = .returned (.slice (some ⟨w.heap.size + 1, 0, none⟩) 8 8) ∧
      w'.ownsRow (w.heap.size + 1) 5 1 (.slice (some ⟨w.heap.size + 1, 0, none⟩) 8 8) 8 (bv (putN 8 n)) ∧ Below w.heap.size w w' := by
  refine (put_any 8 1 1 _ rfl _ [n] _ (by omega) (by omega) rfl ?_).mono ?_
  · refine .inr ⟨w.heap.size, 0, rfl, by simp, fun i hi => ?_⟩
    obtain rfl : i = 0 := by simpa using hi
    rw [cell_of_row _ w.heap.size 0 _ _ _ (heap_alloc_new w _)]
    rfl
  have e1 : (w.alloc (.cells #[.int .u64 (n : Int)] 52)).heap.size = w.heap.size + 1 := by simp
  have e2 : putAll 8 [n] = putN 8 n := by simp [putAll]
  rw [e1, e2]
  rintro e w1 ⟨rfl, own1, b1⟩
  exact ⟨rfl, own1, ((Below.refl _ w).alloc (Nat.le_refl _) _).trans (b1.mono (by omega))⟩

set_option maxRecDepth 100000 in
set_option maxHeartbeats 400000 in
theorem page_any (n : Nat) (N : Int) (hN : N = n) (w : World) :
    Calls Try.prog 40 #[.int .u64 N] w fun e w' => ∃ g, e = .returned (.slice (some ⟨g, 0, none⟩) 4096 4096) ∧ w'.ownsRow w.heap.size 5 1 (.slice (some ⟨g, 0, none⟩) 4096 4096) 4096 (bv (pageN n)) ∧ Below w.heap.size w w' := by
  subst hN
  obtain ⟨Z, hZ⟩ : ∃ Z : List Nat, Z = List.replicate 4096 0 := ⟨_, rfl⟩
  have hmk : ∀ w : World, (Instr.makeSlice 23 (.int .i64 4096) (.int .i64 4096)).run Try.prog w = .ok (.slice (some ⟨w.heap.size, 0, none⟩) 4096 4096) (w.alloc (.cells (bv Z).toArray 5)) := by
    intro w
    rw [hZ]
    exact run_make_bytes 4096 (by omega) w
  have HZ : Hid (Z.length = 4096) := by show _ = _; rw [hZ]; simp
  clear hZ
  go_enter Try.func40, Try.ntmps40
  go_wp2_with fail
  refine (put_eight n w).mono ?_
  rintro e w1 ⟨rfl, own1, b1⟩
  have hlt : w.heap.size + 1 < w1.heap.size := (own1.lt _ rfl).2
  have hsz : (w1.alloc (.cells (bv Z).toArray 5)).heap[w1.heap.size]? = some (.cells (bv Z).toArray 5 (0, 0)) := heap_alloc_new w1 _
  have HF : Hid (Fills w (w1.alloc (.cells (bv Z).toArray 5)) w1.heap.size (w.heap.size + 1) 0 n Z) :=
    ⟨hsz, HZ.out, fun i hi => by omega, (src_row own1).later ((Below.refl _ w1).alloc (Nat.le_refl _) _), hlt, by omega, b1.alloc b1.size _⟩
  clear own1 b1 hsz hlt
  go_wp2
  generalize w1.alloc (.cells (bv Z).toArray 5) = w2 at *
  generalize w1.heap.size = g at *
  generalize w.heap.size + 1 = gw at *
  clear hmk
  go_loopw [10] (fun i wr => ∃ (k : Nat) (P : List Nat), k ≤ 512 ∧ i = .int .i64 k ∧ Fills w wr g gw k n P) (fun i _ => 512 - (intOf i).toNat)
  case atStart => exact ⟨0, Z, by omega, rfl, HF.out⟩
  case round =>
    obtain ⟨k, P, hk, rfl, hF⟩ := hrel
    clear HF
    have H : Hid (Fills w wr g gw k n P) := hF
    by_cases hlt : k < 512
    · have i1 : (k : Int) < 512 := by omega
      have hsl := page_from (g := g) hlt
      have hcp := fun ty => copy_over (o := 8 * k) (n := 8) (dn := 4096 - 8 * k) (cap := 4096 - 8 * k) hF.row (by omega) (by rw [hF.len]; omega) hF.src ty
      have HS : Hid (Fills w (wr.setRow g (bv (putAt P (8 * k) (putN 8 n))).toArray) g gw (k + 1) n (putAt P (8 * k) (putN 8 n))) := hF.step hlt
      clear hF
      go_wp2
      go_roundw
      case rel => exact ⟨k + 1, _, by omega, by go_num, HS.out⟩
      case measure => simp [intOf]; omega
    · obtain rfl : k = 512 := by omega
      have e := hF.fin
      subst e
      have own := row_own (L := 4096) hF.lo (by unfold maxLen; omega) (by rw [length_bv, pageN_len]) hF.row
      have HO : Hid _ := own
      have HB : Hid _ := hF.bel
      clear hF own
      go_wp2
      go_ret
      exact ⟨g, rfl, HO.out, HB.out⟩
end Go.Proofs.Ytgninhecclinaaa
