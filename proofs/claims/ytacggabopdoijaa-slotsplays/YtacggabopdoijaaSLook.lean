/- The walk of Look; what Page and Look are answered, in one word each. -/
import Derived.Test.YtacggabopdoijaaSPage
namespace Go.Proofs.Ytacggabopdoijaa
open Go.RowKit

set_option maxRecDepth 100000 in
set_option maxHeartbeats 1000000 in
theorem sLook_any {B E r m k n : Nat} {zs : List Bool} {x : List Bool} {pg : Nat → List Nat} (w : World) (h : SlotsAt B E w r m zs k x pg) (hf : hasB x (n : Int) = true) :
    Calls Try.prog 9 #[.pointer (some ⟨r, 0, none⟩), .int .i64 (n : Int)] w fun e w' => ∃ v, e = .returned (.tuple #[v, .bool true]) ∧
      w'.ownsRow w.heap.size 5 1 v 4096 (bv (pg n)) ∧ Below w.heap.size w w' := by
  have hlen := (h.byte hf).1
  obtain ⟨M, d, sb, g, P, h, hq⟩ := h
  have hm := h.small
  have hx := h.len
  have hnm : n < m := by
    have := mayB_of_has hf
    simp only [mayB, decide_eq_true_eq] at this
    omega
  have hn128 : n ≤ 128 := by omega
  have H : Hid (SlotsIn B M E w r d sb g m zs k P x) := h
  have HF : Hid (hasB x (n : Int) = true) := hf
  have HPN : Hid (seg P (n * 4096) 4096 = pg n) := hq n hnm (by rw [← hasB_nat]; exact hf)
  obtain ⟨i0, hi, hz0, hz1, hz2⟩ := info_parts Try.info5
  clear h hf hq hx hlen
  go_enter Try.func9, Try.ntmps9
  go_wp2_with fail
  refine (sIn_is (n : Int) _ H.out.use H.out.setP HF.out).mono ?_
  rintro e w' ⟨rfl, dm, rfl⟩
  have HS0 : Hid (w.heap.size = (w.drewN dm).heap.size) := by show _ = _; rw [heap_drewN]
  have HD0 : Hid (DiskAt B M (w.drewN dm) d (m * 8) zs k P) := H.out.disk.drewN dm
  have HT0 : Hid (Turns B M w (w.drewN dm)) := Turns.of_below (drewN_below _ _ _)
  have HM : Hid (M ≤ w.heap.size) := H.out.bm.2
  have HB0 : Hid (Below w.heap.size w (w.drewN dm)) := drewN_below _ _ _
  generalize w.drewN dm = w0 at *
  go_wp2_with (at_make; refine wpList_make_own _ rfl _ _ 28 rfl w.heap.size 5 i0 (.int .u8 0) 1 Try.underlying28 hi hz0 hz1 .i64 .i64 _ 4096 rfl rfl rfl (by rw [hz2]; omega) (by unfold maxLen; omega) (by rw [HS0.out]; exact Nat.le_refl _) ?_)
  intro w1 hown hgr
  obtain ⟨gp, hgp⟩ : ∃ gp, w0.heap.size = gp := ⟨_, rfl⟩
  rw [hgp] at hown
  rw [hgp]
  have H1 : Hid (Pags B M w w1 d m n 0 zs k P gp) := by
    have hlo : w.heap.size ≤ gp := by have := HS0.out; omega
    refine ⟨HD0.out.kept hgr.size (fun i _ hi => hgr.block i (by have := HD0.out.hi; omega) (fun e => by cases e)), ?_, by simpa [seg, bv] using hown, hlo, HM.out⟩
    exact ⟨hgr.os.trans HT0.out.os, hgr.tape.trans HT0.out.tape, hgr.output.trans HT0.out.output, Nat.le_trans HT0.out.size hgr.size, fun i hi hi2 => (hgr.block i (by have := HS0.out; omega) (fun e => by cases e)).trans (HT0.out.block i hi hi2)⟩
  have HB1 : Hid (Below w.heap.size w w1) := by
    have := HS0.out
    exact ⟨hgr.os.trans HB0.out.os, hgr.tape.trans HB0.out.tape, hgr.output.trans HB0.out.output, Nat.le_trans HB0.out.size hgr.size, fun i hi => (hgr.block i (by omega) (fun e => by cases e)).trans (HB0.out.block i hi)⟩
  clear hown hgr hgp HS0 HD0 HT0 HB0
  go_wp2_with fail
  go_loopg [6, 7, 13] 8 (fun gk pv _ i wr => ∃ (j : Nat), j ≤ 8 ∧ gk = 8 - j ∧ i = .int .i64 j ∧ pv = .slice (some ⟨gp, 0, none⟩) (j * 512) 4096 ∧ Pags B M w wr d m n j zs k P gp ∧ Below w.heap.size w wr)
  case atStart => exact ⟨0, by omega, rfl, rfl, rfl, H1.out, HB1.out⟩
  case round =>
    obtain ⟨j, hj, rfl, rfl, rfl, hH, hB⟩ := hrel
    have Hh : Hid (Pags B M w wr d m n j zs k P gp) := hH
    have HB : Hid (Below w.heap.size w wr) := hB
    clear hH H1 hB HB1
    by_cases hlt : j < 8
    · have i1 : (j : Int) < 8 := by omega
      have c0 := (H.out.disked Hh.out.disk Hh.out.turn).c0
      have hsec : n * 8 + j < m * 8 := by omega
      have HDR : Hid (DiskAt B M wr.drew d (m * 8) zs k P) := Hh.out.disk.drewN 1
      have HPK : Hid (pkD (m * 8) P ((n * 8 + j : Nat) : Int) = seg P ((n * 8 + j) * 512) 512) := by
        show _ = _
        rw [pkD, if_pos (inD_nat hsec), Int.toNat_natCast]
      have HSL : Hid ((seg P ((n * 8 + j) * 512) 512).length = 512) := length_seg (by have := H.out.disk.len; omega)
      have HRW : Hid (∀ {w2 : World}, Below wr.heap.size wr.drew w2 → w2.ownsRow w.heap.size 5 1 (.slice (some ⟨gp, 0, none⟩) (j * 512) 4096) (j * 512) (bv (seg P (n * 4096) (j * 512)))) := fun hb => row_below (w := wr.drew) Hh.out.row.drew hb
      go_wp2_with fail
      go_region_law (first
        | (refine step_append_fits rfl (.tmp 16) (.tmp 24) 28 rfl w.heap.size 5 i0 1 Try.underlying28 hi hz1 gp (j * 512) 4096 (bv (seg P (n * 4096) (j * 512))) (by simp [Act.eval]) HR2.out ⟨g2, 0, none⟩ 512 c2 (bv (seg P ((n * 8 + j) * 512) 512)) (by simp [Act.eval]) HL2.out HC2.out (bv_one _) (by omega) ?_; intro w3 own3 g3)
        | (go_simp; go_at_call 25; refine (sector_any n j _ hn128 (by omega)).mono ?_; rintro e w' ⟨rfl, rfl⟩)
        | (go_simp; go_at_call 28; refine (dPeek_any ((n * 8 + j : Nat) : Int) _ HDR.out).mono ?_; rintro e w2 ⟨v2, rfl, own2, b2⟩; rw [HPK.out, HSL.out] at own2; obtain ⟨g2, c2, rfl, g21, g22, l2, hc2⟩ := row_src own2 (by omega); have B2 : Hid (Below wr.heap.size wr.drew w2) := b2; have HR2 : Hid (w2.ownsRow w.heap.size 5 1 (.slice (some ⟨gp, 0, none⟩) (j * 512) 4096) (j * 512) (bv (seg P (n * 4096) (j * 512)))) := HRW.out b2; have HL2 : Hid ((bv (seg P ((n * 8 + j) * 512) 512)).length = 512 * 1) := l2; have HC2 : Hid (∀ i u, (bv (seg P ((n * 8 + j) * 512) 512))[i]? = some u → w2.cell? ((⟨g2, 0, none⟩ : Addr).add i) = some u) := hc2; clear own2 b2 g21 g22 l2 hc2))
      all_goals
        have hT : Turns B M wr w2 := (Turns.of_below (drew_below _ _)).trans (Turns.of_below B2.out)
        have H3 : Hid (Pags B M w w3 d m n (j + 1) zs k P gp) := Hh.out.next (HDR.out.below B2.out) hT own3 g3
        have HB3 : Hid (Below w.heap.size w w3) := by
          have hb2 : Below w.heap.size w w2 := HB.out.trans (((drew_below _ _).trans B2.out).mono HB.out.size)
          exact hb2.grown g3 hb2.size (fun i e => by cases e; exact Hh.out.lo)
        clear own3 g3 hT
        go_wp2
        go_roundg (8 - (j + 1))
        case measure => omega
        case rel => exact ⟨j + 1, by omega, rfl, by go_num, by rw [show (j + 1) * 512 = j * 512 + 512 by omega], H3.out, HB3.out⟩
    · have e : j = 8 := by omega
      subst e
      go_wp2
      go_ret2
      rw [← HPN.out]
      exact ⟨_, rfl, Hh.out.row, HB.out⟩

section
variable {B E r m k : Nat} {zs : List Bool} {x : List Bool} {pg : Nat → List Nat}
theorem slPage (n : Int) (w : World) (h : SlotsAt B E w r m zs k x pg) (hk : k < 900000000) :
    Calls Try.prog 8 #[.pointer (some ⟨r, 0, none⟩), .int .i64 n] w fun e w' => ∃ v, e = .returned (.tuple #[v, .int .i64 (pgE x zs k n : Nat)]) ∧
      w'.ownsRow w.heap.size 5 1 v (pgB x zs k pg n).length (bv (pgB x zs k pg n)) ∧ SlotsAt B E w' r m zs (pgK x zs k n) x pg ∧ Turns B E w w' := by
  cases hf : hasB x n with
  | true =>
    have hm := mayB_of_has hf
    simp only [mayB, decide_eq_true_eq] at hm
    obtain ⟨i, rfl⟩ := Int.eq_ofNat_of_zero_le hm.1
    exact sPage_any w h hk hf
  | false =>
    obtain ⟨e1, e2, e3⟩ := pg_none (zs := zs) (k := k) (pg := pg) hf
    rw [e1, e2, e3]
    have h0 := h
    obtain ⟨M, d, b, g, P, h, hq⟩ := h
    refine (sPage_none n w h.use h.setP hf).mono ?_
    rintro e w' ⟨rfl, n, rfl⟩
    exact ⟨_, rfl, World.ownsRow_nil _ _ _ _, h0.drewN n, Turns.of_below (drewN_below _ _ _)⟩
theorem slLook (n : Int) (w : World) (h : SlotsAt B E w r m zs k x pg) {b : Bool} (hb : hasB x n = b) :
    Calls Try.prog 9 #[.pointer (some ⟨r, 0, none⟩), .int .i64 n] w fun e w' => ∃ v, e = .returned (.tuple #[v, .bool b]) ∧
      w'.ownsRow w.heap.size 5 1 v (lkB x pg n).length (bv (lkB x pg n)) ∧ Below w.heap.size w w' := by
  subst hb
  cases hf : hasB x n with
  | true =>
    have hm := mayB_of_has hf
    simp only [mayB, decide_eq_true_eq] at hm
    obtain ⟨i, rfl⟩ := Int.eq_ofNat_of_zero_le hm.1
    rw [lkB, hf, if_pos rfl, Int.toNat_natCast, (h.byte hf).1]
    exact sLook_any w h hf
  | false =>
    rw [lkB, hf, if_neg (by decide)]
    obtain ⟨M, d, b, g, P, h, hq⟩ := h
    refine (sLook_none n w h.use h.setP hf).mono ?_
    rintro e w' ⟨rfl, n, rfl⟩
    exact ⟨_, rfl, World.ownsRow_nil _ _ _ _, drewN_below _ _ _⟩
end
end Go.Proofs.Ytacggabopdoijaa
