/- The walks of New, and of the law's own 'Filled'. -/
import Derived.Test.YtacggabopdoijaaSLook
namespace Go.Proofs.Ytacggabopdoijaa
open Go.RowKit

theorem szN_nat (m : Nat) (hm : m ≤ 128) : szN (m : Int) = m := by unfold szN; rw [if_neg (by omega), if_neg (by omega), Int.toNat_natCast]
theorem rep_false (m n : Nat) : (List.replicate m false).getD n false = false := by
  rw [List.getD_eq_getElem?_getD, List.getElem?_replicate]
  split <;> rfl
set_option maxHeartbeats 1000000 in
theorem slNew {a : Option Addr} {n c : Nat} {zs : List Bool} (m : Nat) (pg : Nat → List Nat) (w : World) (hm : m ≤ 128) (h : BoolsAt w a n c zs) (hn : n ≤ 8192) :
    Calls Try.prog 16 #[.int .i64 (m : Int), .slice a n c] w fun e w' => ∃ r, e = .returned (.tuple #[.pointer (some ⟨r, 0, none⟩), .int .i64 0]) ∧ SlotsAt w.heap.size w'.heap.size w' r m zs 0 (List.replicate m false) pg ∧ Below w.heap.size w w' := by
  have HZ : Hid (BoolsAt w a n c zs) := h
  have h0 : (0 : Int) ≤ m := by omega
  have h1 : (m : Int) ≤ 128 := by omega
  clear h
  go_enter Try.func16, Try.ntmps16
  go_wp2_with fail
  refine (dNew_any (m * 8) _ (by omega) HZ.out hn).mono ?_
  rintro e w1 ⟨d, rfl, h1, b1⟩
  have H1 : Hid (DiskAt w.heap.size w1.heap.size w1 d (m * 8) zs 0 (zeros (m * 8))) := h1
  have B1 : Hid (Below w.heap.size w w1) := b1
  clear h1 b1
  go_wp2_with fail
  refine (setNew_any (m : Int) _).mono ?_
  rintro e w2 ⟨b, g, rfl, h2, b2⟩
  rw [szN_nat m hm] at h2
  have H2 : Hid (SetAt w1.heap.size w2 b g (List.replicate m false)) := h2
  have B2 : Hid (Below w1.heap.size w1 w2) := b2
  clear h2 b2
  go_wp2
  go_ret2
  have hs1 := B1.out.size
  have hs2 := B2.out.size
  have hbg := H2.out.bltg
  have hd : DiskAt w.heap.size w1.heap.size (w2.alloc (.cells #[.pointer (some ⟨d, 0, none⟩), .pointer (some ⟨b, 0, none⟩)] 50)) d (m * 8) zs 0 (zeros (m * 8)) :=
    (H1.out.below B2.out).kept (by simp) (fun i _ hi => Below.heap_alloc w2 _ i (by omega))
  refine ⟨_, rfl, ⟨w1.heap.size, d, b, g, zeros (m * 8), ⟨hd, H2.out.of_blocks (Below.heap_alloc w2 _ b hbg.1) (Below.heap_alloc w2 _ g hbg.2.1), heap_alloc_new w2 _, by simp, hm, ?_, Nat.le_refl _⟩, fun i _ hx => ?_⟩, ?_⟩
  · simp; omega
  · rw [rep_false] at hx; cases hx
  · exact (B1.out.trans (B2.out.mono hs1)).alloc (by omega) _
theorem sNew_bad {v : Value} (n : Int) (h : n < 0 ∨ 128 < n) (w : World) :
    Calls Try.prog 16 #[.int .i64 n, v] w fun e w' => e = .returned (.tuple #[.pointer none, .int .i64 1]) ∧ w = w' := by
  by_cases h0 : n < 0
  · clear h
    go_enter Try.func16, Try.ntmps16
    go_wp2
    go_ret2
    exact ⟨rfl, rfl⟩
  · have h2 : 128 < n := by omega
    clear h
    go_enter Try.func16, Try.ntmps16
    go_wp2
    go_ret2
    exact ⟨rfl, rfl⟩

/-- The byte at place i of a page of the number v. -/
def fB (v i : Nat) : Nat := (v + i / 512) % 256
/-- N bytes, the first k of them a page's of the number v. -/
def fillTo (N v k : Nat) : List Nat := (List.range N).map fun i => if i < k then fB v i else 0
/-- A page of the number v. -/
def fillP (v : Nat) : List Nat := (List.range 4096).map (fB v)
theorem fillTo_len (N v k : Nat) : (fillTo N v k).length = N := by simp [fillTo]
theorem fillTo_set (N v k : Nat) : (fillTo N v k).set k (fB v k) = fillTo N v (k + 1) := by
  apply List.ext_getElem (by simp [fillTo])
  intro i h1 h2
  rw [List.getElem_set]
  simp only [fillTo, List.getElem_map, List.getElem_range]
  by_cases e : k = i
  · subst e; simp
  · rw [if_neg e]
    by_cases e2 : i < k
    · rw [if_pos e2, if_pos (by omega)]
    · rw [if_neg e2, if_neg (by omega)]
theorem fillTo_zero (N v : Nat) : fillTo N v 0 = List.replicate N 0 := by
  apply List.ext_getElem (by simp [fillTo])
  intro i h1 h2
  simp [fillTo]
theorem fillTo_all (N v : Nat) : fillTo N v N = (List.range N).map (fB v) := by
  apply List.ext_getElem (by simp [fillTo])
  intro i h1 h2
  simp only [fillTo, List.getElem_map, List.getElem_range]
  rw [if_pos (by simpa [fillTo] using h1)]
theorem fillP_len (v : Nat) : (fillP v).length = 4096 := by unfold fillP; rw [List.length_map, List.length_range]
theorem fillP_byte (v : Nat) : ∀ y ∈ fillP v, y < 256 := by
  intro y hy
  obtain ⟨i, _, rfl⟩ := List.mem_map.1 hy
  unfold fB
  omega
theorem fillP_get (v : Nat) {i : Nat} (h : i < 4096) : (fillP v).getD i 0 = fB v i := by
  unfold fillP
  rw [List.getD_eq_getElem?_getD, List.getElem?_map, List.getElem?_range h]
  rfl
theorem fillP_ne {u v : Nat} (hu : u < 256) (hv : v < 256) (h : fillP u = fillP v) : u = v := by
  have h1 := fillP_get u (i := 0) (by omega)
  rw [h, fillP_get v (by omega)] at h1
  unfold fB at h1
  omega

set_option maxRecDepth 100000 in
set_option maxHeartbeats 1000000 in
theorem filled_any (v : Nat) (w : World) :
    Calls Try.prog 7 #[.int .u8 (v : Int)] w fun e w' => e = .returned (.slice (some ⟨w.heap.size, 0, none⟩) 4096 4096) ∧
      w'.ownsRow w.heap.size 5 1 (.slice (some ⟨w.heap.size, 0, none⟩) 4096 4096) 4096 (bv (fillP v)) ∧ Below w.heap.size w w' := by
  obtain ⟨Z, hZ⟩ : ∃ Z, Z = (bv (List.replicate 4096 0)).toArray := ⟨_, rfl⟩
  have hmk : ∀ w : World, (Instr.makeSlice 28 (.int .i64 4096) (.int .i64 4096)).run Try.prog w = .ok (.slice (some ⟨w.heap.size, 0, none⟩) 4096 4096) (w.alloc (.cells Z 5)) := fun w => by rw [hZ]; exact run_make_bytes 4096 (by omega) w
  have HO : Hid ((w.alloc (.cells Z 5)).ownsRow w.heap.size 5 1 (.slice (some ⟨w.heap.size, 0, none⟩) 4096 4096) 4096 (bv (fillTo 4096 v 0))) := by
    rw [hZ, fillTo_zero]; exact made_own w 4096 (by unfold maxLen; omega)
  have HB : Hid (Below w.heap.size w (w.alloc (.cells Z 5))) := (Below.refl _ w).alloc (Nat.le_refl _) _
  clear hZ
  go_enter Try.func7, Try.ntmps7
  go_wp2_with fail
  generalize w.alloc (.cells Z 5) = w1 at *
  obtain ⟨g, hg⟩ : ∃ g, w.heap.size = g := ⟨_, rfl⟩
  have HG : Hid (w.heap.size = g) := hg
  rw [hg] at HO HB
  rw [hg]
  clear hg hmk
  go_loopw [4] (fun i wr => ∃ k : Nat, k ≤ 4096 ∧ i = .int .i64 k ∧ wr.ownsRow g 5 1 (.slice (some ⟨g, 0, none⟩) 4096 4096) 4096 (bv (fillTo 4096 v k)) ∧ Below g w wr) (fun i _ => 4096 - (intOf i).toNat)
  case atStart => exact ⟨0, Nat.zero_le _, rfl, HO.out, HB.out⟩
  case round =>
    obtain ⟨k, hk, rfl, hown, hb⟩ := hrel
    by_cases hlt : k < 4096
    · obtain ⟨g', e, ck, fk, _, _⟩ := row_at hown hlt
      obtain rfl : g = g' := by simpa using e
      rw [bv_at _ _ (by rw [fillTo_len]; exact hlt)] at ck
      have HO2 : Hid _ := (hown.stored k (.int .u8 (fB v k : Nat))).1
      rw [bv_set, fillTo_set _ _ _] at HO2
      have HB2 : Hid (Below g w _) := hb.setCell (p := ⟨g, k, none⟩) (Nat.le_refl _) (.int .u8 (fB v k : Nat))
      have i1 : (k : Int) < 4096 := by omega
      have hw1 : IntKind.u8.wrap ((k : Int) / 512) = (k : Int) / 512 := by rw [IntKind.wrap_u8]; omega
      have hw2 : IntKind.u8.wrap ((v : Int) + (k : Int) / 512) = ((fB v k : Nat) : Int) := by rw [IntKind.wrap_u8]; unfold fB; omega
      generalize fB v k = fv at *
      generalize (fillTo 4096 v k).getD k 0 = y at *
      clear hown hb e HO HB
      go_wp2
      go_roundw
      case rel => exact ⟨k + 1, by omega, by go_num, HO2.out, HB2.out⟩
      case measure => simp [intOf]; omega
    · have e : k = 4096 := by omega
      subst e
      rw [fillTo_all] at hown
      have HO2 : Hid (wr.ownsRow g 5 1 (.slice (some ⟨g, 0, none⟩) 4096 4096) 4096 (bv (fillP v))) := hown
      have HB2 : Hid (Below g w wr) := hb
      clear hown hb HO HB
      go_wp2
      go_ret
      rw [HG.out]
      exact ⟨rfl, HO2.out, HB2.out⟩
/-- The same, where the page lies under a letter. -/
theorem filled_is (v : Nat) (w : World) :
    Calls Try.prog 7 #[.int .u8 (v : Int)] w fun e w' => ∃ g, e = .returned (.slice (some ⟨g, 0, none⟩) 4096 4096) ∧
      w'.ownsRow w.heap.size 5 1 (.slice (some ⟨g, 0, none⟩) 4096 4096) 4096 (bv (fillP v)) ∧ Below w.heap.size w w' :=
  (filled_any v w).mono fun _ _ ⟨h1, h2, h3⟩ => ⟨_, h1, h2, h3⟩
theorem page_row {w : World} {base g c : Nat} {page : List Nat} (h : w.ownsRow base 5 1 (.slice (some ⟨g, 0, none⟩) 4096 c) 4096 (bv page)) (h8 : ∀ y ∈ page, y < 256) : PageAt w g 0 c page := by
  obtain ⟨h1, h2⟩ := row_cap h
  have hl : page.length = 4096 := by have := h.1; simpa using this
  have hlt := (h.lt g rfl).2
  refine ⟨h1, h2, hlt, hl, h8, fun j hj => ?_⟩
  rw [Nat.zero_add, h.cellAt j (by omega)]
  exact bv_at page j (by omega)
end Go.Proofs.Ytacggabopdoijaa
