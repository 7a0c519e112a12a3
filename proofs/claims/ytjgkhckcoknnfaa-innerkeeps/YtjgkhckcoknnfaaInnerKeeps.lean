/- Proved: gunnylaw17.InnerKeeps returns true for all deeds. No conditions. -/
import Derived.Test.YtjgkhckcoknnfaaZ8
import Derived.Deep.LoopGhost
import Derived.Deep.RegionHeld3
namespace Go.Proofs.Ytjgkhckcoknnfaa.InnerKeeps
open Go.ChangeShapes Go.WideShapes Go.ChangeAt Go.RowKit
set_option linter.unusedVariables false
theorem own : ownKnob Try.prog.godebug = none := by kernel_rfl
theorem laidOut : laidOutB Try.prog = true := by kernel_rfl
set_option maxRecDepth 100000 in
set_option maxHeartbeats 8000000 in
theorem run (x0 x1 : Nat) (a : Option Addr) (n c : Nat) (D : Nat → Dn) (w : World) (hx0 : x0 < 256) (hx1 : x1 < 256) (hn : n ≤ maxLen) (hd : DnsAt w a n D) :
    Calls Try.prog 4 #[.agg #[.int .u8 (x0 : Nat), .int .u8 (x1 : Nat)], .slice a n c] w fun e w' => e = .returned (.bool true) ∧ Below w.heap.size w w' := by
  obtain ⟨W, hW⟩ : ∃ W, w.alloc (.cells #[.int .u8 (x0 : Nat), .int .u8 (x1 : Nat)] 45) = W := ⟨_, rfl⟩
  have hbW : Below w.heap.size w W := by rw [← hW]; exact (Below.refl _ w).alloc (Nat.le_refl _) _
  have hxW : W.heap[w.heap.size]? = some (.cells #[.int .u8 (x0 : Nat), .int .u8 (x1 : Nat)] 45 (0, 0)) := by rw [← hW]; exact heap_alloc_new _ _
  have hsW : w.heap.size < W.heap.size := (Array.getElem?_eq_some_iff.1 hxW).1
  have HX : Hid (∀ w', Below W.heap.size W w' → w'.cell? ⟨w.heap.size, 0, none⟩ = some (.int .u8 (x0 : Nat)) ∧ w'.cell? ⟨w.heap.size, 1, none⟩ = some (.int .u8 (x1 : Nat))) := by
    intro w' hb
    have h1 := (hb.block _ hsW).trans hxW
    exact ⟨by rw [cell_of_row w' _ _ _ _ _ h1]; rfl, by rw [cell_of_row w' _ _ _ _ _ h1]; rfl⟩
  obtain ⟨y0, y1⟩ := HX.out W (Below.refl _ _)
  have HBW0 : Hid (Below w.heap.size w W) := hbW
  have HDD : Hid (DnsAt W a n D) := hd.below hbW
  have HNN : Hid (n ≤ maxLen) := hn
  obtain ⟨c1, hc1⟩ : ∃ c1, x0 % 64 = c1 := ⟨_, rfl⟩
  obtain ⟨c2, hc2⟩ : ∃ c2, x1 % 64 = c2 := ⟨_, rfl⟩
  have hm1 : (x0 : Int) % 64 = (c1 : Nat) := by omega
  have hm2 : (x1 : Int) % 64 = (c2 : Nat) := by omega
  have hlc1 : c1 < 64 := by omega
  have hlc2 : c2 < 64 := by omega
  have HC1 : Hid (c1 < 64) := hlc1
  have HC2 : Hid (c2 < 64) := hlc2
  clear hd hn hbW hxW hc1 hc2
  go_enter Try.func4, Try.ntmps4
  go_wp2_with fail
  refine (dgreat_any a n c D W HNN.out HDD.out).mono ?_
  rintro e w1 ⟨v1, rfl, rfl, bb, rfl, hb80⟩
  cases bb with
  | true =>
    clear hb80
    have HBW : Hid (Below w.heap.size w W) := HBW0.out
    go_wp2_with fail
    refine (lives_any W).mono ?_
    rintro e wl ⟨rfl, bl⟩
    have HBL : Hid (Below w.heap.size w wl) := HBW.out.trans (bl.mono HBW.out.size)
    clear bl
    go_wp2
    go_ret
    exact ⟨rfl, HBL.out⟩
  | false =>
    have hn80 : n ≤ 80 := hb80 rfl
    clear hb80
    go_wp2_with fail
    refine (wNew 16 (by omega) (by omega) W).mono ?_
    rintro e w1 ⟨r, rfl, hram, hb⟩
    have HR1 : Hid (RamAt W.heap.size w1.heap.size w1 r (RS.new 16)) := hram
    have HB1 : Hid (Below W.heap.size W w1) := hb
    obtain ⟨e0, e1⟩ := HX.out w1 hb
    have HS1 : Hid ((RS.new 16).S.length = 16) := by show (fdown 16).length = 16; exact fdown_len 16
    have HP1 : Hid (fcnt (RS.new 16).O [3] = 0) := by
      show fcnt (List.replicate 16 0) [3] = 0
      unfold fcnt fcntTo
      rw [List.length_eq_zero_iff, List.filter_eq_nil_iff]
      intro a _
      rw [fo_rep]
      simp
    clear hram hb y0 y1
    go_wp2_with fail
    refine (make_z HC1.out (by rw [HS1.out]; have := (jFr_le HC1.out).2; omega) w1 HR1.out).mono ?_
    rintro e w2 ⟨q1, R2, G1, rfl, hp1, ram2, hg1, hk1, hx1', hmd1, ht2⟩
    have HP2 : Hid (PageZ w1.heap.size w2.heap.size w2 q1 G1) := hp1
    have HR2 : Hid (RamAt W.heap.size w1.heap.size w2 r R2) := ram2
    have HG1 : Hid (GoodP R2 G1 (List.range (jObj c1 (jFr c1)))) := hg1
    have HK1 : Hid (G1.c = c1) := hk1
    have HXE1 : Hid (G1.x = List.replicate (jObj c1 (jFr c1)) false) := hx1'
    have HM1 : Hid (Made (RS.new 16) R2 G1.F) := hmd1
    have HT2 : Hid (Turns W.heap.size w1.heap.size w1 w2) := ht2
    have HB2 : Hid (Below W.heap.size W w2) := HB1.out.trans (ht2.below HB1.out.size)
    have HS2 : Hid (4 ≤ R2.S.length) := by show _ ≤ _; have := hmd1.cnt; have := HS1.out; have := hg1.fl.2; omega
    clear e0 e1 hp1 ram2 hg1 hk1 hx1' hmd1 ht2
    obtain ⟨e0, e1⟩ := HX.out w2 HB2.out
    go_wp2_with fail
    refine (make_z HC2.out (by have := (jFr_le HC2.out).2; have := HS2.out; omega) w2 HR2.out).mono ?_
    rintro e w3 ⟨q2, R3, G2, rfl, hp2, ram3, hg2, hk2, hx2', hmd2, ht3⟩
    obtain ⟨z, hz⟩ : ∃ z : Z2, z = ⟨W.heap.size, w1.heap.size, w1.heap.size, w2.heap.size, w2.heap.size, w3.heap.size, w3.heap.size, r, q1, q2, G1.F, G2.F, c1, c2⟩ := ⟨_, rfl⟩
    have hbz := HT2.out.size
    have hcz := ht3.size
    have HOK : Hid (z.Ok W) := by
      show Z2.Ok _ _
      subst hz
      exact ⟨Nat.le_refl _, HB1.out.size, Nat.le_refl _, hbz, Nat.le_refl _, hcz, Nat.le_refl _, fun n h1 h2 => (hmd2.far _ HG1.out.ok.row).2.2 n h2 h1⟩
    have HA3 : Hid (z.At W w3 R3 G1 (List.range (jObj c1 (jFr c1))) [] (.slice none 0 0) G2 (List.range (jObj c2 (jFr c2))) [] (.slice none 0 0)) := by
      show Z2.At _ _ _ _ _ _ _ _ _ _ _ _
      subst hz
      refine ⟨HeldZ.start (HG1.out.made hmd2) (by rw [List.length_range, HXE1.out, List.length_replicate]) (fun k => by rw [HXE1.out, List.getD_eq_getElem?_getD, List.getElem?_replicate]; split <;> rfl),
        HeldZ.start hg2 (by rw [List.length_range, hx2', List.length_replicate]) (fun k => by rw [hx2', List.getD_eq_getElem?_getD, List.getElem?_replicate]; split <;> rfl),
        HP2.out.turns (.inr (Nat.le_refl _)) ht3, hp2, ram3, ObsAt.nil _ _, ObsAt.nil _ _, rfl, rfl, HK1.out, hk2, by rw [hmd2.pool, HM1.out.pool, HP1.out]; simp, HB2.out.trans (ht3.below HB2.out.size), Nat.le_refl _⟩
    have hr : r = z.r := by rw [hz]
    have hq1 : q1 = z.q1 := by rw [hz]
    have hq2 : q2 = z.q2 := by rw [hz]
    have hzc1 : c1 = z.c1 := by rw [hz]
    have hzc2 : c2 = z.c2 := by rw [hz]
    have HZ1 : Hid (c1 = z.c1) := hzc1
    have HZ2 : Hid (c2 = z.c2) := hzc2
    have HEB : Hid (z.E ≤ z.base) := by show _ ≤ _; have h1 := HOK.out.ec; have h2 := HOK.out.cd; have h3 := HOK.out.dc; have h4 := HOK.out.c2; have h5 := HOK.out.db; omega
    have HEC2 : Hid (z.E ≤ z.C2) := by show _ ≤ _; have h1 := HOK.out.ec; have h2 := HOK.out.cd; have h3 := HOK.out.dc; omega
    have HB3 : Hid (Below W.heap.size W w3) := HA3.out.bel
    have hqq : z.q1 ≠ z.q2 := by
      have h1 := HA3.out.p1.hi
      have h2 := HA3.out.p2.hi
      have h3 := HOK.out.dc
      omega
    rw [hr, hq1, hq2]
    clear hp2 ram3 hg2 hk2 hx2' hmd2 ht3 HP2 HR2 HG1 HK1 HXE1 HM1 HT2 HB2 HS2 HR1 HB1 HS1 HP1 e0 e1 hr hq1 hq2 hzc1 hzc2 hbz hcz hz
    go_wp2_with fail
    go_loopg [11, 12, 13] n (fun gk u1 u2 i wr => ∃ (k : Nat) (R : RS) (G1 : PG) (L1 : List Nat) (T1 : List Ob) (v1 : Value) (G2 : PG) (L2 : List Nat) (T2 : List Ob) (v2 : Value), k ≤ n ∧ gk = n - k ∧ v1 = u1 ∧ v2 = u2 ∧ i = .int .i64 k ∧
      z.At W wr R G1 L1 T1 v1 G2 L2 T2 v2)
    case atStart => exact ⟨0, _, _, _, _, _, _, _, _, _, by omega, rfl, rfl, rfl, rfl, HA3.out⟩
    case round =>
      obtain ⟨k, R, G1, L1, T1, v1, G2, L2, T2, v2, hk, rfl, rfl, rfl, rfl, hat⟩ := hrel
      have HA : Hid (z.At W wr R G1 L1 T1 v1 G2 L2 T2 v2) := hat
      by_cases hlt : k < n
      · have i1 : (k : Int) < (n : Int) := by omega
        obtain ⟨b, off, rfl, hbl, hcells⟩ := HDD.out.at hlt
        have HDK : Hid (DnOk W (D k)) := HDD.out.ok hlt
        generalize D k = dk at hcells HDK
        obtain ⟨dO, dK, dN, dp, dl, dc, db⟩ := dk
        obtain ⟨d0, d1, d2, d3⟩ := hcells wr HA.out.bel
        obtain ⟨e0, e1⟩ := HX.out wr HA.out.bel
        dsimp only at d0 d1 d2 d3 hcells
        have HS : Hid (∀ w', Below W.heap.size W w' → (w'.cell? ⟨b, off + k * 4, none⟩ = some (.bool dO) ∧ w'.cell? ⟨b, off + k * 4 + 1, none⟩ = some (.int .i64 dK) ∧ w'.cell? ⟨b, off + k * 4 + 2, none⟩ = some (.int .i64 dN) ∧ w'.cell? ⟨b, off + k * 4 + 3, none⟩ = some (.slice dp dl dc)) ∧
          w'.cell? ⟨w.heap.size, 0, none⟩ = some (.int .u8 (x0 : Nat)) ∧ w'.cell? ⟨w.heap.size, 1, none⟩ = some (.int .u8 (x1 : Nat))) := fun w' hb => ⟨hcells w' hb, HX.out w' hb⟩
        obtain ⟨a1, b1, hv1⟩ := row_slice hat.o1.own
        obtain ⟨a2, b2, hv2⟩ := row_slice hat.o2.own
        subst hv1 hv2
        have HAD : Hid (z.At W wr.drew R G1 L1 T1 (.slice a1 T1.length b1) G2 L2 T2 (.slice a2 T2.length b2)) := hat.later (drew_below _ _)
        have ht1 : (x0 : Int).tmod 64 = (c1 : Int) := by rw [Int.tmod_eq_emod_of_nonneg (by omega)]; exact hm1
        have ht2 : (x1 : Int).tmod 64 = (c2 : Int) := by rw [Int.tmod_eq_emod_of_nonneg (by omega)]; exact hm2
        have hw5 : IntKind.i64.wrap (c1 : Int) = (c1 : Int) := IntWalk.i64_in _ (by omega)
        have hw6 : IntKind.i64.wrap (c2 : Int) = (c2 : Int) := IntWalk.i64_in _ (by omega)
        have hw1 : IntKind.i64.wrap (1 + (c1 : Int)) = 1 + (c1 : Int) := IntWalk.i64_in _ (by omega)
        have hw2 : IntKind.i64.wrap (1 + (c2 : Int)) = 1 + (c2 : Int) := IntWalk.i64_in _ (by omega)
        have hw3 : IntKind.i64.wrap (64 * (1 + (c1 : Int))) = 64 * (1 + (c1 : Int)) := IntWalk.i64_in _ (by omega)
        have hw4 : IntKind.i64.wrap (64 * (1 + (c2 : Int))) = 64 * (1 + (c2 : Int)) := IntWalk.i64_in _ (by omega)
        have HSZ1 : Hid (64 * (1 + (c1 : Int)) = (jSz G1.c : Nat)) := by show _ = _; rw [hat.k1, ← HZ1.out]; unfold jSz; omega
        have HSZ2 : Hid (64 * (1 + (c2 : Int)) = (jSz G2.c : Nat)) := by show _ = _; rw [hat.k2, ← HZ2.out]; unfold jSz; omega
        clear hcells hat HA
        cases dO with
        | true =>
          go_upto_region 16 with (fail)
          go_region_held3 (fun w' => w'.cell? ⟨b, off + k * 4, none⟩ = some (.bool true) ∧ w'.cell? ⟨b, off + k * 4 + 1, none⟩ = some (.int .i64 dK) ∧ w'.cell? ⟨b, off + k * 4 + 2, none⟩ = some (.int .i64 dN) ∧ w'.cell? ⟨b, off + k * 4 + 3, none⟩ = some (.slice dp dl dc) ∧ w'.cell? ⟨w.heap.size, 0, none⟩ = some (.int .u8 (x0 : Nat)) ∧ w'.cell? ⟨w.heap.size, 1, none⟩ = some (.int .u8 (x1 : Nat))) (first | (go_keep; done)) (first | (go_at_call 23; refine (step_any (HAD.out.in2 HOK.out HDK.out) HSZ2.out).mono ?_; rintro e w5 hout; obtain ⟨v5, T5, R5, G5, L5, rfl, hat5⟩ := HAD.out.out2 HOK.out hout; obtain ⟨a5, b5, rfl⟩ := row_slice hat5.o2.own; obtain ⟨⟨k0, k1, k2, k3⟩, k4, k5⟩ := HS.out w5 hat5.bel))
          all_goals
            have HAT : z.At W w5 R5 G1 L1 T1 (.slice a1 T1.length b1) G5 L5 T5 (.slice a5 T5.length b5) := hat5
            clear hout hat5 HSZ1 HSZ2 HAD d0 d1 d2 d3 e0 e1 k0 k1 k2 k3 k4 k5 hw1 hw2 hw3 hw4 hw5 hw6 ht1 ht2
            have HA5 : Hid (z.At W w5 R5 G1 L1 T1 (.slice a1 T1.length b1) G5 L5 T5 (.slice a5 T5.length b5)) := HAT
            clear HAT
            go_wp2_with fail
            refine (holds_any HA5.out.h1 w5 HA5.out.p1 HA5.out.ram (.inr HOK.out.ec) HA5.out.o1 HEB.out).mono ?_
            rintro e w6 ⟨R6, rfl, ram6, st6, ht6⟩
            have HA6 : Hid (z.At W w6 R6 G1 L1 T1 (.slice a1 T1.length b1) G5 L5 T5 (.slice a5 T5.length b5)) := HA5.out.stay HOK.out ram6 st6 ht6
            clear ram6 st6 ht6 HA5
            go_wp2_with fail
            refine (holds_any HA6.out.h2 w6 HA6.out.p2 HA6.out.ram (.inr HEC2.out) HA6.out.o2 HEB.out).mono ?_
            rintro e w7 ⟨R7, rfl, ram7, st7, ht7⟩
            have HA7 : Hid (z.At W w7 R7 G1 L1 T1 (.slice a1 T1.length b1) G5 L5 T5 (.slice a5 T5.length b5)) := HA6.out.stay HOK.out ram7 st7 ht7
            clear ram7 st7 ht7 HA6
            go_wp2_with fail
            refine (list_z HA7.out.h1.good.ok HA7.out.h1.good.first w7 HA7.out.p1 HA7.out.ram (.inr HOK.out.ec)).mono ?_
            rintro e w8 ⟨a8, c8, ok8, X8, R8, rfl, own8, hl8, ram8, st8, ht8⟩
            obtain ⟨hok8, hX8⟩ := hl8.good _ HA7.out.h1.good
            subst hok8
            have hX8' := hX8.symm
            subst hX8'
            have HA8 : Hid (z.At W w8 R8 G1 L1 T1 (.slice a1 T1.length b1) G5 L5 T5 (.slice a5 T5.length b5)) := HA7.out.stay HOK.out ram8 st8 ht8
            clear own8 hl8 ram8 st8 ht8 HA7
            go_wp2_with fail
            refine (list_z HA8.out.h2.good.ok HA8.out.h2.good.first w8 HA8.out.p2 HA8.out.ram (.inr HEC2.out)).mono ?_
            rintro e w9 ⟨a9, c9, ok9, X9, R9, rfl, own9, hl9, ram9, st9, ht9⟩
            obtain ⟨hok9, hX9⟩ := hl9.good _ HA8.out.h2.good
            subst hok9
            have hX9' := hX9.symm
            subst hX9'
            have HA9 : Hid (z.At W w9 R9 G1 L1 T1 (.slice a1 T1.length b1) G5 L5 T5 (.slice a5 T5.length b5)) := HA8.out.stay HOK.out ram9 st9 ht9
            have hlen1 := HA8.out.h1.len
            have hlen2 := HA8.out.h2.len
            have hm1 := HA8.out.h1.good.ok.many
            have hm2 := HA8.out.h2.good.ok.many
            clear own9 hl9 ram9 st9 ht9 HA8
            have HQ1 : Hid (Calls Try.prog 10 #[.pointer (some ⟨z.q1, 0, none⟩)] w9 fun e w' => e = .returned (.int .i64 (G1.x.length : Nat)) ∧ w9 = w') := many_z w9 HA9.out.p1
            have HQ2 : Hid (Calls Try.prog 10 #[.pointer (some ⟨z.q2, 0, none⟩)] w9 fun e w' => e = .returned (.int .i64 (G5.x.length : Nat)) ∧ w9 = w') := many_z w9 HA9.out.p2
            generalize hg1 : G1.x.length = m1 at hlen1 hm1 HQ1
            generalize hg2 : G5.x.length = m2 at hlen2 hm2 HQ2
            generalize htt1 : T1.length = t1 at hlen1 HA9 ⊢
            generalize htt2 : T5.length = t2 at hlen2 HA9 ⊢
            generalize hq1 : L1.length = l1 at hlen1 ⊢
            generalize hq2 : L5.length = l2 at hlen2 ⊢
            have s1 : (m1 : Int) - (t1 : Int) = (l1 : Int) := by omega
            have s2 : (m2 : Int) - (t2 : Int) = (l2 : Int) := by omega
            have HT1 : Hid (T1.length = t1) := htt1
            have HT2 : Hid (T5.length = t2) := htt2
            clear hg1 hg2 htt1 htt2 hq1 hq2
            go_wp2_with fail
            refine HQ1.out.mono ?_
            rintro e w10 ⟨rfl, rfl⟩
            go_wp2_with fail
            refine HQ2.out.mono ?_
            rintro e w10 ⟨rfl, rfl⟩
            go_wp2
            go_roundg (n - (k + 1))
            case measure => omega
            case rel => exact ⟨k + 1, R9, G1, L1, T1, _, G5, L5, T5, _, by omega, rfl, rfl, rfl, by go_num, HA9.out⟩
        | false =>
          go_upto_region 17 with (fail)
          go_region_held3 (fun w' => w'.cell? ⟨b, off + k * 4, none⟩ = some (.bool false) ∧ w'.cell? ⟨b, off + k * 4 + 1, none⟩ = some (.int .i64 dK) ∧ w'.cell? ⟨b, off + k * 4 + 2, none⟩ = some (.int .i64 dN) ∧ w'.cell? ⟨b, off + k * 4 + 3, none⟩ = some (.slice dp dl dc) ∧ w'.cell? ⟨w.heap.size, 0, none⟩ = some (.int .u8 (x0 : Nat)) ∧ w'.cell? ⟨w.heap.size, 1, none⟩ = some (.int .u8 (x1 : Nat))) (first | (go_keep; done)) (first | (go_at_call 23; refine (step_any (HAD.out.in1 HOK.out HDK.out) HSZ1.out).mono ?_; rintro e w5 hout; obtain ⟨v5, T5, R5, G5, L5, rfl, hat5⟩ := HAD.out.out1 HOK.out hout; obtain ⟨a5, b5, rfl⟩ := row_slice hat5.o1.own; obtain ⟨⟨k0, k1, k2, k3⟩, k4, k5⟩ := HS.out w5 hat5.bel))
          all_goals
            have HAT : z.At W w5 R5 G5 L5 T5 (.slice a5 T5.length b5) G2 L2 T2 (.slice a2 T2.length b2) := hat5
            clear hout hat5 HSZ1 HSZ2 HAD d0 d1 d2 d3 e0 e1 k0 k1 k2 k3 k4 k5 hw1 hw2 hw3 hw4 hw5 hw6 ht1 ht2
            have HA5 : Hid (z.At W w5 R5 G5 L5 T5 (.slice a5 T5.length b5) G2 L2 T2 (.slice a2 T2.length b2)) := HAT
            clear HAT
            go_wp2_with fail
            refine (holds_any HA5.out.h1 w5 HA5.out.p1 HA5.out.ram (.inr HOK.out.ec) HA5.out.o1 HEB.out).mono ?_
            rintro e w6 ⟨R6, rfl, ram6, st6, ht6⟩
            have HA6 : Hid (z.At W w6 R6 G5 L5 T5 (.slice a5 T5.length b5) G2 L2 T2 (.slice a2 T2.length b2)) := HA5.out.stay HOK.out ram6 st6 ht6
            clear ram6 st6 ht6 HA5
            go_wp2_with fail
            refine (holds_any HA6.out.h2 w6 HA6.out.p2 HA6.out.ram (.inr HEC2.out) HA6.out.o2 HEB.out).mono ?_
            rintro e w7 ⟨R7, rfl, ram7, st7, ht7⟩
            have HA7 : Hid (z.At W w7 R7 G5 L5 T5 (.slice a5 T5.length b5) G2 L2 T2 (.slice a2 T2.length b2)) := HA6.out.stay HOK.out ram7 st7 ht7
            clear ram7 st7 ht7 HA6
            go_wp2_with fail
            refine (list_z HA7.out.h1.good.ok HA7.out.h1.good.first w7 HA7.out.p1 HA7.out.ram (.inr HOK.out.ec)).mono ?_
            rintro e w8 ⟨a8, c8, ok8, X8, R8, rfl, own8, hl8, ram8, st8, ht8⟩
            obtain ⟨hok8, hX8⟩ := hl8.good _ HA7.out.h1.good
            subst hok8
            have hX8' := hX8.symm
            subst hX8'
            have HA8 : Hid (z.At W w8 R8 G5 L5 T5 (.slice a5 T5.length b5) G2 L2 T2 (.slice a2 T2.length b2)) := HA7.out.stay HOK.out ram8 st8 ht8
            clear own8 hl8 ram8 st8 ht8 HA7
            go_wp2_with fail
            refine (list_z HA8.out.h2.good.ok HA8.out.h2.good.first w8 HA8.out.p2 HA8.out.ram (.inr HEC2.out)).mono ?_
            rintro e w9 ⟨a9, c9, ok9, X9, R9, rfl, own9, hl9, ram9, st9, ht9⟩
            obtain ⟨hok9, hX9⟩ := hl9.good _ HA8.out.h2.good
            subst hok9
            have hX9' := hX9.symm
            subst hX9'
            have HA9 : Hid (z.At W w9 R9 G5 L5 T5 (.slice a5 T5.length b5) G2 L2 T2 (.slice a2 T2.length b2)) := HA8.out.stay HOK.out ram9 st9 ht9
            have hlen1 := HA8.out.h1.len
            have hlen2 := HA8.out.h2.len
            have hm1 := HA8.out.h1.good.ok.many
            have hm2 := HA8.out.h2.good.ok.many
            clear own9 hl9 ram9 st9 ht9 HA8
            have HQ1 : Hid (Calls Try.prog 10 #[.pointer (some ⟨z.q1, 0, none⟩)] w9 fun e w' => e = .returned (.int .i64 (G5.x.length : Nat)) ∧ w9 = w') := many_z w9 HA9.out.p1
            have HQ2 : Hid (Calls Try.prog 10 #[.pointer (some ⟨z.q2, 0, none⟩)] w9 fun e w' => e = .returned (.int .i64 (G2.x.length : Nat)) ∧ w9 = w') := many_z w9 HA9.out.p2
            generalize hg1 : G5.x.length = m1 at hlen1 hm1 HQ1
            generalize hg2 : G2.x.length = m2 at hlen2 hm2 HQ2
            generalize htt1 : T5.length = t1 at hlen1 HA9 ⊢
            generalize htt2 : T2.length = t2 at hlen2 HA9 ⊢
            generalize hq1 : L5.length = l1 at hlen1 ⊢
            generalize hq2 : L2.length = l2 at hlen2 ⊢
            have s1 : (m1 : Int) - (t1 : Int) = (l1 : Int) := by omega
            have s2 : (m2 : Int) - (t2 : Int) = (l2 : Int) := by omega
            have HT1 : Hid (T5.length = t1) := htt1
            have HT2 : Hid (T2.length = t2) := htt2
            clear hg1 hg2 htt1 htt2 hq1 hq2
            go_wp2_with fail
            refine HQ1.out.mono ?_
            rintro e w10 ⟨rfl, rfl⟩
            go_wp2_with fail
            refine HQ2.out.mono ?_
            rintro e w10 ⟨rfl, rfl⟩
            go_wp2
            go_roundg (n - (k + 1))
            case measure => omega
            case rel => exact ⟨k + 1, R9, G5, L5, T5, _, G2, L2, T2, _, by omega, rfl, rfl, rfl, by go_num, HA9.out⟩
      · have e : k = n := by omega
        subst e
        have i1 : ¬ (k : Int) < (k : Int) := by omega
        have hf1 := hat.h1.good.fl
        have hf2 := hat.h2.good.fl
        have HF1 : Hid (G1.F.length ≤ 4) := hf1.2
        have HF2 : Hid (G2.F.length ≤ 4) := hf2.2
        obtain ⟨f1, hfe1⟩ : ∃ f1, G1.F.length = f1 := ⟨_, rfl⟩
        obtain ⟨f2, hfe2⟩ : ∃ f2, G2.F.length = f2 := ⟨_, rfl⟩
        obtain ⟨s, hs⟩ : ∃ s, f1 + f2 = s := ⟨_, rfl⟩
        have hsum : (f1 : Int) + (f2 : Int) = (s : Int) := by omega
        have HPL : Hid (fcnt R.O [3] = s) := by show _ = _; rw [hat.pool, ← hat.f1, ← hat.f2, hfe1, hfe2, hs]
        have HFE1 : Hid (G1.F.length = f1) := hfe1
        have HFE2 : Hid (G2.F.length = f2) := hfe2
        have hf4 : f1 ≤ 4 := by omega
        have hf5 : f2 ≤ 4 := by omega
        clear hat hf1 hf2 hfe1 hfe2 hs
        go_wp2_with fail
        refine (count_z 3 wr HA.out.ram HPL.out).mono ?_
        rintro e w5 ⟨rfl, b5⟩
        have HA5 : Hid (z.At W w5 R G1 L1 T1 v1 G2 L2 T2 v2) := HA.out.later b5
        clear b5 HA
        go_wp2_with fail
        refine (row_z w5 HA5.out.p1 HF1.out).mono ?_
        rintro e w6 ⟨a6, c6, rfl, own6, b6⟩
        rw [HFE1.out]
        have HA6 : Hid (z.At W w6 R G1 L1 T1 v1 G2 L2 T2 v2) := HA5.out.later b6
        clear own6 b6 HA5
        go_wp2_with fail
        refine (row_z w6 HA6.out.p2 HF2.out).mono ?_
        rintro e w7 ⟨a7, c7, rfl, own7, b7⟩
        rw [HFE2.out]
        have HBW : Hid (Below w.heap.size w w7) := HBW0.out.trans ((HA6.out.later b7).bel.mono HBW0.out.size)
        clear own7 b7 HA6
        go_wp2_with fail
        refine (lives_any w7).mono ?_
        rintro e wl ⟨rfl, bl⟩
        have HBL : Hid (Below w.heap.size w wl) := HBW.out.trans (bl.mono HBW.out.size)
        clear bl
        go_wp2
        go_ret
        exact ⟨rfl, HBL.out⟩

set_option maxRecDepth 100000 in
theorem walk {H : Type} {enc : TypeId × Value → H} {w : World} {base : Nat} {v0 v1 : Value} {d0 d1 : DataW H} {p0 p1 : List MemPlace}
    (o0 : Value.okWide Try.prog w .any base 45 v0) (o1 : Value.okWide Try.prog w .any base 46 v1)
    (h0 : DataW.Trod enc Try.prog w 0 (fun _ => true) true 45 v0 d0 p0) (h1 : DataW.Trod enc Try.prog w 0 (fun _ => true) true 46 v1 d1 p1) :
    Calls Try.prog 4 #[v0, v1] w fun e w' => e = .returned (.bool true) ∧ Below w.heap.size w w' := by
  obtain ⟨x0, x1, rfl, hx0, hx1⟩ := openArr2 Try.underlying45 Try.underlying5 (by kernel_rfl) (by kernel_rfl) o0 h0
  have hb0 := bounds_u8 hx0
  have hb1 := bounds_u8 hx1
  obtain ⟨x0, rfl⟩ := Int.eq_ofNat_of_zero_le hb0.1
  obtain ⟨x1, rfl⟩ := Int.eq_ofNat_of_zero_le hb1.1
  obtain ⟨a, L, c, D, rfl, hL, hD⟩ := openDns Try.underlying46 Try.underlying51 (by kernel_rfl) (by kernel_rfl) Try.underlying4 Try.underlying3 Try.underlying3 Try.underlying49 Try.underlying5 (by kernel_rfl) o1 h1
  exact run x0 x1 a L c D w (by omega) (by omega) hL hD

set_option maxRecDepth 100000 in
theorem lifted (os : Os) (started : os.Started) (H : Type) (enc : TypeId × Value → H) :
    ReturnsInHanded {} Try.checked os 4 .any (Rows.innerKeepsSpec.pre6 enc Try.prog Try.f4 Rows.innerKeepsRow.domain false) (Rows.innerKeepsSpec.post enc Try.prog Try.f4 false true false false) := by
  refine returnsInHanded_of_change (C := Try.checked) own started (by kernel_rfl) Try.func4
    (ChangeSpec.witness6 (enc := enc) (C := Try.checked) false ⟨#[], #[.agg #[.int .u8 0, .int .u8 0], .slice none 0 0], []⟩ 8 (by kernel_rfl) (by kernel_rfl) (by kernel_rfl) (by kernel_rfl)) ?_
  intro W base args ds gs before hval0 hW hcnd _
  have hval : ∀ (j : Nat) t v, Try.f4.params[j]? = some t → args[j]? = some v → Value.okWide Try.prog W .any base t v := hval0
  have hW' := hW
  obtain ⟨p, q, hA0, hV, rfl, hfz, hnd⟩ := hW
  have hA : DataW.TrodAll enc Try.prog W 0 (fun _ => true) true Try.f4.params.toList args.toList ds p := hA0
  rw [Try.params4] at hA hval
  obtain ⟨v0, vs0, d0, ds0, p0, q0, hargs, rfl, rfl, h0, r0⟩ := trodAll_cons hA
  obtain ⟨v1, vs1, d1, ds1, p1, q1, rfl, rfl, rfl, h1, r1⟩ := trodAll_cons r0
  obtain ⟨rfl, rfl, rfl⟩ := trodAll_nil r1
  obtain rfl : args = #[v0, v1] := by cases args; simp_all
  obtain ⟨rfl, rfl⟩ := trodVars_none hV
  have o0 := hval 0 45 v0 rfl rfl
  have lt0 : ∀ x ∈ p0, x.block < W.heap.size := by obtain ⟨m, hm⟩ := h0; exact DataW.trod_lt m _ _ _ hm
  have o1 := hval 1 46 v1 rfl rfl
  have lt1 : ∀ x ∈ p1, x.block < W.heap.size := by obtain ⟨m, hm⟩ := h1; exact DataW.trod_lt m _ _ _ hm
  clear hA0 hval0
  refine (walk o0 o1 h0 h1).mono fun e W' ⟨he, bel⟩ => ?_
  subst he
  exact ⟨_, rfl, _, _, _, [], _, [], hW', trodAll_mk1 (shut_bool Try.underlying4 _), (trodAll_cons_mk (Below.trod laidOut (by kernel_rfl) (of_decide_eq_true (by kernel_rfl)) h0 bel lt0) (trodAll_cons_mk (Below.trod laidOut (by kernel_rfl) (of_decide_eq_true (by kernel_rfl)) h1 bel lt1) trodAll_mk0)), rfl, bel.frame _, fun h => by cases h⟩

theorem over : Rows.innerKeepsRow.holds Try.pinned (OpenSpec.ofChange Rows.innerKeepsSpec) :=
  OpenClaim.holds_of_wide 4 Try.f4 rfl rfl rfl rfl rfl rfl rfl ⟨rfl, rfl, rfl, rfl, rfl⟩ rfl rfl rfl rfl rfl (by kernel_rfl) Try.func4 (by kernel_rfl)
    (of_decide_eq_true (by kernel_rfl)) (by unfold Func.isWrapper; first | (rw [if_pos (by decide +kernel)]; kernel_rfl) | (rw [if_neg (by decide +kernel)]; exact ⟨rfl, rfl⟩))
    (fun os started H enc _ => lifted os started H enc)
end Go.Proofs.Ytjgkhckcoknnfaa.InnerKeeps
namespace Go.Proofs.Ytjgkhckcoknnfaa
/-- The statement. -/
theorem innerKeeps_holds : Rows.InnerKeepsSaid := InnerKeeps.over
#print axioms innerKeeps_holds
end Go.Proofs.Ytjgkhckcoknnfaa
