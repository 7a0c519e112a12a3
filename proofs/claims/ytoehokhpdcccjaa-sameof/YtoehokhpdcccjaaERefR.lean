/- The walk of the document's Runs (layer 10). -/
import Derived.Test.YtoehokhpdcccjaaERef
namespace Go.Proofs.Ytoehokhpdcccjaa
open Go.RowKit

theorem data_strB (l : List Nat) : (strB l).data = (l.map UInt8.ofNat).toArray := by
  simp [strB, strOfNums]
theorem strB_inj : ∀ (l r : List Nat), (∀ x ∈ l, x < 256) → (∀ x ∈ r, x < 256) → strB l = strB r → l = r := by
  intro l r hl hr h
  have h1 := congrArg ByteArray.data h
  rw [data_strB, data_strB] at h1
  have h2 : l.map UInt8.ofNat = r.map UInt8.ofNat := by simpa using h1
  clear h h1
  induction l generalizing r with
  | nil => cases r with
    | nil => rfl
    | cons => simp at h2
  | cons a l ih => cases r with
    | nil => simp at h2
    | cons c r =>
      simp only [List.map_cons, List.cons.injEq] at h2
      have ha := hl a (by simp)
      have hc := hr c (by simp)
      have e : a = c := by
        have := congrArg UInt8.toNat h2.1
        simp only [UInt8.toNat_ofNat'] at this
        omega
      rw [e, ih r (fun x hx => hl x (by simp [hx])) (fun x hx => hr x (by simp [hx])) h2.2]

/-- Eight bytes of a page. -/
theorem page_eight {g off c q : Nat} {A B : Int} (hA : A = q) (hB : B = (q + 8 : Nat)) (hc : 4096 ≤ c) (hq : q + 8 ≤ 4096) (w : World) :
    (Instr.slice 22 (.slice (some ⟨g, off, none⟩) 4096 c) (some (.int .i64 A)) (some (.int .i64 B)) none).run Try.prog w = .ok (.slice (some ⟨g, off + q, none⟩) 8 (c - q)) w := by
  obtain ⟨i0, h0, hz0, hz1, hz2⟩ := info_parts Try.info5
  have he : Try.prog.elem 22 = 5 := by kernel_rfl
  subst hA hB
  rw [run_slice_lh (P := Try.prog) w 22 _ _ _ (by rw [he]; exact Try.underlying22) .i64 .i64 _ _ (by omega) (by omega) (by omega), he]
  have hs : (sizeOf 5).run Try.prog w = .ok 1 w := by simp [sizeOf, typeInfo, h0, hz1, go_sem]
  rw [hs]
  simp only [Result.andThen, sliced, Option.map_some, Nat.mul_one, Int.toNat_natCast, add_lit']
  rw [if_neg (by omega)]
  congr 2
  omega
theorem ByAt.eight {w : World} {g off c q c' : Nat} {b : List Nat} (h : ByAt w (some ⟨g, off, none⟩) 4096 c b) (hq : q + 8 ≤ 4096) (m : Nat) :
    (convert 22 9 (.slice (some ⟨g, off + q, none⟩) 8 c')).run Try.prog (w.drewN m) = .ok (.string (strB (seg b q 8))) (w.drewN m) := by
  have h' := h.later (drewN_below w.heap.size w m)
  obtain ⟨g', off', e, hg, hcell⟩ := h'.at (by omega)
  cases e
  have hl := h.len
  refine conv_src (n := 8) (src_cell (length_seg (by omega)) hg fun j hj => ?_)
  rw [seg_getD hj, Nat.add_assoc]
  exact hcell (q + j) (by omega)

/-- What is counted ahead of the k-th word. -/
def refTo (b : List Nat) (k : Nat) : Nat := if k = 0 then 0 else runsTo b (k - 1)
theorem refTo_le (b : List Nat) (k : Nat) : refTo b k ≤ k := by
  unfold refTo
  split
  · omega
  · have := (runsTo_pos b (k - 1)).2; omega

set_option maxHeartbeats 400000 in
theorem refRuns_any {p : Option Addr} {L c : Nat} {b : List Nat} (w : World) (h : ByAt w p L c b) :
    Calls Try.prog 12 #[.slice p L c] w fun e w' => e = .returned (.int .i64 (runsN b : Nat)) ∧ ∃ m, w' = w.drewN m := by
  have hL := h.short
  have hcm := h.max
  have hcl := h.cap
  unfold maxLen at hL hcm
  have hl := h.len
  by_cases hp : L = 4096
  · subst hp
    obtain ⟨g, off, rfl, hg, hcell⟩ := h.at (by omega)
    have H : Hid (ByAt w (some ⟨g, off, none⟩) 4096 c b) := h
    have HR : Hid (runsN b = runsTo b 511) := runsN_page hl
    have HL : Hid (b.length = 4096) := hl
    have HC : Hid (∀ i, i < 4096 → w.cell? ⟨g, off + i, none⟩ = some (.int .u8 (b.getD i 0 : Nat))) := hcell
    clear h hl hcell
    go_enter Try.func12, Try.ntmps12
    go_wp2
    go_loopw [3, 4] (fun r i wr => ∃ k m : Nat, k ≤ 512 ∧ i = .int .i64 k ∧ r = .int .i64 (refTo b k : Nat) ∧ wr = w.drewN m) (fun _ i _ => 512 - (intOf i).toNat)
    case atStart => exact ⟨0, 0, by omega, rfl, rfl, rfl⟩
    case round =>
      obtain ⟨k, m, hk, rfl, rfl, rfl⟩ := hrel
      by_cases h0 : k = 0
      · subst h0
        have e0 : refTo b 0 = 0 := rfl
        have e1 : refTo b 1 = 1 := rfl
        rw [e0]
        have HE : Hid (refTo b 1 = 1) := e1
        clear e0 e1
        go_wp2_with fail
        go_quiet (fail)
        go_wp2
        go_roundw
        case rel => exact ⟨1, _, by omega, rfl, by rw [HE.out]; rfl, rfl⟩
        case measure => simp [intOf]
      · by_cases hlt : k < 512
        · have i1 : (k : Int) < 512 := by omega
          have hd : ((k : Int) == 0) = false := by rw [beq_eq_false_iff_ne]; omega
          have w1 : IntKind.i64.wrap (8 * (k : Int)) = 8 * (k : Int) := by rw [IntKind.wrap_i64]; omega
          have w2 : IntKind.i64.wrap (8 * (k : Int) + 8) = 8 * (k : Int) + 8 := by rw [IntKind.wrap_i64]; omega
          have w3 : IntKind.i64.wrap (8 * (k : Int) - 8) = 8 * (k : Int) - 8 := by rw [IntKind.wrap_i64]; omega
          have hr := refTo_le b k
          have hs1 := page_eight (g := g) (off := off) (c := c) (q := 8 * k) (A := 8 * (k : Int)) (B := 8 * (k : Int) + 8) (by omega) (by omega) hcl (by omega)
          have hs2 := page_eight (g := g) (off := off) (c := c) (q := 8 * (k - 1)) (A := 8 * (k : Int) - 8) (B := 8 * (k : Int)) (by omega) (by omega) hcl (by omega)
          have hc1 := H.out.eight (q := 8 * k) (c' := c - 8 * k) (by omega)
          have hc2 := H.out.eight (q := 8 * (k - 1)) (c' := c - 8 * (k - 1)) (by omega)
          have HW : Hid (wd b (k - 1) = wd b k ↔ seg b (8 * (k - 1)) 8 = seg b (8 * k) 8) := wd_eq H.out.byte (by rw [HL.out]; omega) (by rw [HL.out]; omega)
          by_cases e : wd b (k - 1) = wd b k
          · have HS : Hid (refTo b (k + 1) = refTo b k) := by
              show _ = _
              unfold refTo
              rw [if_neg (by omega), if_neg h0]
              obtain ⟨j, rfl⟩ : ∃ j, k = j + 1 := ⟨k - 1, by omega⟩
              exact runsTo_same e
            rw [HW.out.1 e] at hc2
            clear e
            generalize strB (seg b (8 * k) 8) = x at *
            generalize refTo b k = r0 at *
            go_wp2_with fail
            go_quiet (fail)
            go_wp2
            go_roundw
            case rel => exact ⟨k + 1, _, by omega, by go_num, by rw [HS.out], rfl⟩
            case measure => simp [intOf]; omega
          · have HS : Hid (refTo b (k + 1) = refTo b k + 1) := by
              show _ = _
              unfold refTo
              rw [if_neg (by omega), if_neg h0]
              obtain ⟨j, rfl⟩ : ∃ j, k = j + 1 := ⟨k - 1, by omega⟩
              exact runsTo_other e
            have hne : strB (seg b (8 * k) 8) ≠ strB (seg b (8 * (k - 1)) 8) := fun e2 => e (HW.out.2 (strB_inj _ _ (seg_byte H.out.byte) (seg_byte H.out.byte) e2).symm)
            generalize strB (seg b (8 * k) 8) = x at *
            generalize strB (seg b (8 * (k - 1)) 8) = y at *
            generalize refTo b k = r0 at *
            have h6 : (x.toList == y.toList) = false := by
              rw [beq_eq_false_iff_ne]
              intro e2
              rw [ByteArray.toList_eq, ByteArray.toList_eq] at e2
              exact hne (ByteArray.ext (Array.toList_inj.1 e2))
            go_wp2_with fail
            go_quiet (fail)
            go_wp2
            go_roundw
            case rel => exact ⟨k + 1, _, by omega, by go_num, by rw [HS.out]; go_num, rfl⟩
            case measure => simp [intOf]; omega
        · obtain rfl : k = 512 := by omega
          have e : refTo b 512 = runsN b := by rw [HR.out]; rfl
          rw [e]
          go_wp2
          go_ret
          exact ⟨rfl, _, rfl⟩
  · have h6 : ((L : Int) != 4096) = true := by rw [bne_iff_ne]; omega
    have HR : Hid (runsN b = 0) := runsN_none (by rw [hl]; exact hp)
    go_enter Try.func12, Try.ntmps12
    go_wp2
    go_ret
    exact ⟨retInt (by rw [HR.out]; rfl), 0, rfl⟩
end Go.Proofs.Ytoehokhpdcccjaa
