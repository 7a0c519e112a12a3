/- Proved: gunnylaw17.InnerMakes returns true for all numbers. No conditions. -/
import Derived.Test.YtjgkhckcoknnfaaZ6
namespace Go.Proofs.Ytjgkhckcoknnfaa.InnerMakes
open Go.ChangeShapes Go.WideShapes Go.ChangeAt Go.RowKit
set_option linter.unusedVariables false
theorem own : ownKnob Try.prog.godebug = none := by kernel_rfl
theorem laidOut : laidOutB Try.prog = true := by kernel_rfl
theorem tk_user {m : Nat} {O : List Int} {S : List Nat} (h : FrOk m O S) : fcnt (tkO O S 1) [3] = fcnt O [3] := by
  unfold tkO
  cases hb : tkB S 1 with
  | false => rfl
  | true =>
    obtain ⟨h1, h2⟩ := h.top (tk_of hb).1
    have := fcnt_set 1 [3] (show S.getD (S.length - 1) 0 < O.length by rw [h.len]; exact h1)
    rw [h2, if_neg (by simp), if_neg (by simp)] at this
    exact this
set_option maxRecDepth 100000 in
set_option maxHeartbeats 2000000 in
theorem run (c many : Int) (t : Nat) (ht : t < 256) (w : World) :
    Calls Try.prog 3 #[.int .i64 c, .int .i64 many, .int .u8 (t : Nat)] w fun e w' => e = .returned (.bool true) ∧ Below w.heap.size w w' := by
  by_cases hbad : many < 8 ∨ 96 < many
  · have HBAD : Hid (many < 8 ∨ 96 < many) := hbad
    clear hbad
    go_enter Try.func3, Try.ntmps3
    go_wp2_with fail
    refine (wNew_bad many HBAD.out w).mono ?_
    rintro e w1 ⟨rfl, rfl⟩
    go_wp2_with fail
    refine (make_noram c w).mono ?_
    rintro e w2 ⟨rfl, rfl⟩
    go_wp2_with fail
    refine (pClass_gone (p := none) (c := 0) w (.inl ⟨rfl, rfl⟩)).mono ?_
    rintro e w2 ⟨rfl, b2⟩
    have HB2 : Hid (Below w.heap.size w w2) := b2
    clear b2
    go_wp2_with fail
    refine (pRow_gone (p := none) (c := 0) w2 (.inl ⟨rfl, rfl⟩)).mono ?_
    rintro e w3 ⟨v3, rfl, own3, b3⟩
    obtain ⟨a3, c3, rfl⟩ := row_slice own3
    have HB3 : Hid (Below w.heap.size w w3) := HB2.out.trans (b3.mono HB2.out.size)
    clear b3 own3
    go_wp2_with fail
    refine (pMany_gone (p := none) (c := 0) w3 (.inl ⟨rfl, rfl⟩)).mono ?_
    rintro e w4 ⟨rfl, b4⟩
    have HB4 : Hid (Below w.heap.size w w4) := HB3.out.trans (b4.mono HB3.out.size)
    clear b4
    go_wp2_with fail
    refine (pUsed_gone (p := none) (c := 0) w4 (.inl ⟨rfl, rfl⟩)).mono ?_
    rintro e w5 ⟨rfl, b5⟩
    have HB5 : Hid (Below w.heap.size w w5) := HB4.out.trans (b5.mono HB4.out.size)
    clear b5
    go_wp2_with fail
    refine (pHas_gone (p := none) (c := 0) 0 w5 (.inl ⟨rfl, rfl⟩)).mono ?_
    rintro e w6 ⟨rfl, b6⟩
    have HB6 : Hid (Below w.heap.size w w6) := HB5.out.trans (b6.mono HB5.out.size)
    clear b6
    go_wp2_with fail
    refine (pClose_nil (.pointer none) w6).mono ?_
    rintro e w7 ⟨rfl, b7⟩
    have HB7 : Hid (Below w.heap.size w w7) := HB6.out.trans (b7.mono HB6.out.size)
    clear b7 HB2 HB3 HB4 HB5 HB6
    have HBW : Hid (Below w.heap.size w w7) := HB7.out
    go_wp2_with fail
    refine (lives_any w7).mono ?_
    rintro e wl ⟨rfl, bl⟩
    have HBL : Hid (Below w.heap.size w wl) := HBW.out.trans (bl.mono HBW.out.size)
    clear bl
    go_wp2
    go_ret
    exact ⟨rfl, HBL.out⟩
  · obtain ⟨m, rfl⟩ := Int.eq_ofNat_of_zero_le (show 0 ≤ many by omega)
    have hm1 : 8 ≤ m := by omega
    have hm2 : m ≤ 96 := by omega
    clear hbad
    have htt : (t : Int) % (m : Int) = ((t % m : Nat) : Int) := by omega
    obtain ⟨tt, hte⟩ : ∃ tt, t % m = tt := ⟨_, rfl⟩
    have htt2 : tt < 256 := by have := Nat.mod_le t m; omega
    rw [hte] at htt
    have hmz : ((m : Int) == 0) = false := by rw [beq_eq_false_iff_ne]; omega
    clear hte
    go_enter Try.func3, Try.ntmps3
    go_wp2_with fail
    refine (wNew m hm1 hm2 w).mono ?_
    rintro e w1 ⟨r, rfl, hram, hb⟩
    have HR1 : Hid (RamAt w.heap.size w1.heap.size w1 r (RS.new m)) := hram
    have HB1 : Hid (Below w.heap.size w w1) := hb
    clear hram hb
    go_wp2_with fail
    refine (make_noram c w1).mono ?_
    rintro e w2 ⟨rfl, rfl⟩
    go_wp2_with fail
    refine (pClass_gone (p := none) (c := 0) w1 (.inl ⟨rfl, rfl⟩)).mono ?_
    rintro e w2 ⟨rfl, b2⟩
    have HB2 : Hid (Below w1.heap.size w1 w2) := b2
    clear b2
    go_wp2_with fail
    refine (pRow_gone (p := none) (c := 0) w2 (.inl ⟨rfl, rfl⟩)).mono ?_
    rintro e w3 ⟨v3, rfl, own3, b3⟩
    obtain ⟨a3, c3, rfl⟩ := row_slice own3
    have HB3 : Hid (Below w1.heap.size w1 w3) := HB2.out.trans (b3.mono HB2.out.size)
    clear b3 own3
    go_wp2_with fail
    refine (pMany_gone (p := none) (c := 0) w3 (.inl ⟨rfl, rfl⟩)).mono ?_
    rintro e w4 ⟨rfl, b4⟩
    have HB4 : Hid (Below w1.heap.size w1 w4) := HB3.out.trans (b4.mono HB3.out.size)
    clear b4
    go_wp2_with fail
    refine (pUsed_gone (p := none) (c := 0) w4 (.inl ⟨rfl, rfl⟩)).mono ?_
    rintro e w5 ⟨rfl, b5⟩
    have HB5 : Hid (Below w1.heap.size w1 w5) := HB4.out.trans (b5.mono HB4.out.size)
    clear b5
    go_wp2_with fail
    refine (pHas_gone (p := none) (c := 0) 0 w5 (.inl ⟨rfl, rfl⟩)).mono ?_
    rintro e w6 ⟨rfl, b6⟩
    have HB6 : Hid (Below w1.heap.size w1 w6) := HB5.out.trans (b6.mono HB5.out.size)
    clear b6
    go_wp2_with fail
    refine (pClose_nil (.pointer (some ⟨r, 0, none⟩)) w6).mono ?_
    rintro e w7 ⟨rfl, b7⟩
    have HB7 : Hid (Below w1.heap.size w1 w7) := HB6.out.trans (b7.mono HB6.out.size)
    clear b7 HB2 HB3 HB4 HB5 HB6
    have HR7 : Hid (RamAt w.heap.size w1.heap.size w7 r (RS.new m)) := HR1.out.below HB7.out
    have HC7 : Hid (fcnt (RS.new m).O [3] = 0) := by
      show fcnt (List.replicate m 0) [3] = 0
      unfold fcnt fcntTo
      rw [List.length_eq_zero_iff, List.filter_eq_nil_iff]
      intro a _
      rw [fo_rep]
      simp
    have HBW7 : Hid (Below w.heap.size w w7) := HB1.out.trans (HB7.out.mono HB1.out.size)
    obtain ⟨E, hE⟩ : ∃ E, w1.heap.size = E := ⟨_, rfl⟩
    have HE7 : Hid (E ≤ w7.heap.size ∧ w.heap.size ≤ E) := ⟨by rw [← hE]; exact HB7.out.size, by rw [← hE]; exact HB1.out.size⟩
    rw [hE] at HR7
    clear HR1 HB1 HB7 hE
    go_wp2_with fail
    go_loopg [12] tt (fun gk i wr => ∃ (k : Nat) (R : RS), k ≤ tt ∧ gk = tt - k ∧ i = .int .i64 k ∧ RamAt w.heap.size E wr r R ∧ fcnt R.O [3] = 0 ∧ Turns w.heap.size E w7 wr)
    case atStart => exact ⟨0, _, by omega, rfl, rfl, HR7.out, HC7.out, Turns.refl _ _ _⟩
    case round =>
      obtain ⟨k, R, hk, rfl, rfl, hram, hcn, htu⟩ := hrel
      have HRM : Hid (RamAt w.heap.size E wr r R) := hram
      have HCN : Hid (fcnt R.O [3] = 0) := hcn
      have HTU : Hid (Turns w.heap.size E w7 wr) := htu
      clear hram hcn htu
      by_cases hlt : k < tt
      · have i1 : (k : Int) < (tt : Int) := by omega
        go_wp2_with fail
        refine (wTake 1 wr (RamP.some HRM.out)).mono ?_
        rintro e w8 ⟨rfl, ram8, ht8⟩
        have HR8 : Hid (RamAt w.heap.size E w8 r (R.tk 1)) := ramP_at ram8
        have HC8 : Hid (fcnt (R.tk 1).O [3] = 0) := by show fcnt (tkO R.O R.S 1) [3] = 0; rw [tk_user HRM.out.good]; exact HCN.out
        have HT8 : Hid (Turns w.heap.size E w7 w8) := HTU.out.trans ht8
        clear ram8 ht8
        go_wp2
        go_roundg (tt - (k + 1))
        case measure => omega
        case rel => exact ⟨k + 1, _, by omega, rfl, by go_num, HR8.out, HC8.out, HT8.out⟩
      · have e : k = tt := by omega
        subst e
        have i1 : ¬ (k : Int) < (k : Int) := by omega
        have HBR : Hid (Below w.heap.size w wr) := HBW7.out.trans (HTU.out.below HBW7.out.size)
        have HER : Hid (E ≤ wr.heap.size) := Nat.le_trans HE7.out.1 HTU.out.size
        go_wp2_with fail
        refine (count_z 0 wr HRM.out HRM.out.good.cnt_free).mono ?_
        rintro e w8 ⟨rfl, b8⟩
        have HR8 : Hid (RamAt w.heap.size E w8 r R) := HRM.out.below b8
        have HB8 : Hid (Below w.heap.size w w8) := HBR.out.trans (b8.mono HBR.out.size)
        have hfr : R.S.length ≤ 96 := Nat.le_trans HRM.out.good.slen HRM.out.small
        obtain ⟨fr, hfre⟩ : ∃ fr, R.S.length = fr := ⟨_, rfl⟩
        have HFR : Hid (R.S.length = fr) := hfre
        rw [hfre] at hfr ⊢
        clear b8 hfre HTU HBR HRM
        by_cases hcl : c < 0 ∨ 64 ≤ c
        · have HCL : Hid (c < 0 ∨ 64 ≤ c) := hcl
          go_wp2_with fail
          refine (make_noclass HCL.out (some ⟨r, 0, none⟩) w8).mono ?_
          rintro e w9 ⟨rfl, rfl⟩
          by_cases hc0 : c < 0
          · go_wp2_with fail
            refine (count_z 0 w8 HR8.out (HR8.out.good.cnt_free.trans HFR.out)).mono ?_
            rintro e w9 ⟨rfl, b9⟩
            have HBW : Hid (Below w.heap.size w w9) := HB8.out.trans (b9.mono HB8.out.size)
            clear b9
            go_wp2_with fail
            refine (lives_any w9).mono ?_
            rintro e wl ⟨rfl, bl⟩
            have HBL : Hid (Below w.heap.size w wl) := HBW.out.trans (bl.mono HBW.out.size)
            clear bl
            go_wp2
            go_ret
            exact ⟨rfl, HBL.out⟩
          · have h63 : (63 : Int) < c := by omega
            go_wp2_with fail
            refine (count_z 0 w8 HR8.out (HR8.out.good.cnt_free.trans HFR.out)).mono ?_
            rintro e w9 ⟨rfl, b9⟩
            have HBW : Hid (Below w.heap.size w w9) := HB8.out.trans (b9.mono HB8.out.size)
            clear b9
            go_wp2_with fail
            refine (lives_any w9).mono ?_
            rintro e wl ⟨rfl, bl⟩
            have HBL : Hid (Below w.heap.size w wl) := HBW.out.trans (bl.mono HBW.out.size)
            clear bl
            go_wp2
            go_ret
            exact ⟨rfl, HBL.out⟩
        · obtain ⟨cc, rfl⟩ := Int.eq_ofNat_of_zero_le (show 0 ≤ c by omega)
          have hcc : cc < 64 := by omega
          have d1 : decide ((cc : Int) < 0) = false := decide_eq_false (by omega)
          have d2 : decide ((63 : Int) < (cc : Int)) = false := decide_eq_false (by omega)
          have hn4 := jFr_le hcc
          have HJF : Hid (∀ w, Calls Try.prog 17 #[.int .i64 (cc : Nat)] w fun e w' => e = .returned (.int .i64 (jFr cc : Nat)) ∧ w = w') := fun w => refFrames_any cc w hcc
          have HJO : Hid (∀ w, Calls Try.prog 18 #[.int .i64 (cc : Nat), .int .i64 (jFr cc : Nat)] w fun e w' => e = .returned (.int .i64 (jObj cc (jFr cc) : Nat)) ∧ w = w') := fun w => refObj_any cc (jFr cc) w hcc hn4.2
          have HCC : Hid (cc < 64) := hcc
          have hob := jObj_one hcc
          clear hcl
          obtain ⟨need, hneed⟩ : ∃ need, jFr cc = need := ⟨_, rfl⟩
          obtain ⟨ob, hobe⟩ : ∃ ob, jObj cc need = ob := ⟨_, rfl⟩
          have HNE : Hid (jFr cc = need) := hneed
          have HOB : Hid (jObj cc (jFr cc) = ob) := by show _ = _; rw [hneed, hobe]
          rw [hneed, hobe] at HJO hob
          rw [hneed] at HJF hn4
          have HN4 : Hid (1 ≤ need ∧ need ≤ 4) := hn4
          have HOB1 : Hid (0 < ob) := hob
          clear hneed hobe hn4 hob hcc
          by_cases hlack : fr < need
          · have i4 : decide ((fr : Int) < (need : Int)) = true := decide_eq_true (by omega)
            have HLK : Hid (R.S.length < jFr cc) := by show _ < _; rw [HFR.out, HNE.out]; exact hlack
            go_wp2_with fail
            refine (make_nomem HCC.out HLK.out w8 HR8.out).mono ?_
            rintro e w9 ⟨rfl, b9⟩
            have HR9 : Hid (RamAt w.heap.size E w9 r R) := HR8.out.below b9
            have HB9 : Hid (Below w.heap.size w w9) := HB8.out.trans (b9.mono HB8.out.size)
            clear b9
            go_wp2_with fail
            refine (HJF.out w9).mono ?_
            rintro e w10 ⟨rfl, rfl⟩
            go_wp2_with fail
            refine (count_z 0 w9 HR9.out (HR9.out.good.cnt_free.trans HFR.out)).mono ?_
            rintro e w10 ⟨rfl, b10⟩
            have HR10 : Hid (RamAt w.heap.size E w10 r R) := HR9.out.below b10
            have HB10 : Hid (Below w.heap.size w w10) := HB9.out.trans (b10.mono HB9.out.size)
            clear b10
            go_wp2_with fail
            refine (count_z 3 w10 HR10.out HCN.out).mono ?_
            rintro e w11 ⟨rfl, b11⟩
            have HBW : Hid (Below w.heap.size w w11) := HB10.out.trans (b11.mono HB10.out.size)
            clear b11
            go_wp2_with fail
            refine (lives_any w11).mono ?_
            rintro e wl ⟨rfl, bl⟩
            have HBL : Hid (Below w.heap.size w wl) := HBW.out.trans (bl.mono HBW.out.size)
            clear bl
            go_wp2
            go_ret
            exact ⟨rfl, HBL.out⟩
          · have i4 : decide ((fr : Int) < (need : Int)) = false := decide_eq_false (by omega)
            have HLK : Hid (jFr cc ≤ R.S.length) := by show _ ≤ _; rw [HFR.out, HNE.out]; omega
            go_wp2_with fail
            refine (make_z HCC.out HLK.out w8 HR8.out).mono ?_
            rintro e w9 ⟨q, R2, G, rfl, hp, ram, hg, hc, hx, hm, ht⟩
            rw [HOB.out] at hg hx
            obtain ⟨C, hC⟩ : ∃ C, w8.heap.size = C := ⟨_, rfl⟩
            obtain ⟨D, hD⟩ : ∃ D, w9.heap.size = D := ⟨_, rfl⟩
            rw [hC, hD] at hp
            have HP9 : Hid (PageZ C D w9 q G) := hp
            have HR9 : Hid (RamAt w.heap.size E w9 r R2) := ram
            have HG9 : Hid (GoodP R2 G (List.range ob)) := hg
            have HGC : Hid (G.c = cc) := hc
            have HFL : Hid (G.F.length = need) := by show _ = _; rw [hg.ok.fl, hc, HNE.out]
            have HXL : Hid (G.x.length = ob) := by show _ = _; rw [hx, List.length_replicate]
            have HU0 : Hid ((allL G.x).length = 0) := by show _ = _; have := hg.count; rw [List.length_range, hx, List.length_replicate] at this; rw [hx]; omega
            have HMA : Hid (Made R R2 G.F) := hm
            have HP3 : Hid (fcnt R2.O [3] = need) := by show _ = _; rw [hm.pool, HCN.out, ← HFL.out]; omega
            have HB9 : Hid (Below w.heap.size w w9) := HB8.out.trans (ht.below HB8.out.size)
            have HCD : Hid (w.heap.size ≤ C ∧ E ≤ C) := ⟨by rw [← hC]; exact HB8.out.size, by rw [← hC]; exact HR8.out.hi.1⟩
            have HDD : Hid (D ≤ w.heap.size ∨ E ≤ C) := .inr HCD.out.2
            obtain ⟨sl, hsl⟩ : ∃ sl, R2.S.length = sl := ⟨_, rfl⟩
            have hsum : sl + need = fr := by have := hm.cnt; rw [HFL.out, HFR.out] at this; omega
            have HSL : Hid (R2.S.length = sl) := hsl
            have hsub : (fr : Int) - (need : Int) = (sl : Int) := by omega
            clear hp ram hg hc hx hm ht hC hD hsl
            go_wp2_with fail
            refine (HJF.out w9).mono ?_
            rintro e w10 ⟨rfl, rfl⟩
            go_wp2_with fail
            refine (class_z w9 HP9.out).mono ?_
            rintro e w10 ⟨rfl, rfl⟩
            rw [HGC.out]
            go_wp2_with fail
            refine (many_z w9 HP9.out).mono ?_
            rintro e w10 ⟨rfl, rfl⟩
            rw [HXL.out]
            go_wp2_with fail
            refine (HJO.out w9).mono ?_
            rintro e w10 ⟨rfl, rfl⟩
            go_wp2_with fail
            refine (used_z w9 HP9.out).mono ?_
            rintro e w10 ⟨rfl, rfl⟩
            rw [HU0.out]
            go_wp2_with fail
            refine (row_z w9 HP9.out (by rw [HFL.out]; exact HN4.out.2)).mono ?_
            rintro e w10 ⟨a1, c1, rfl, own10, b10⟩
            rw [HFL.out]
            have HP10 : Hid (PageZ C D w10 q G) := HP9.out.below b10
            have HR10 : Hid (RamAt w.heap.size E w10 r R2) := HR9.out.below b10
            have HB10 : Hid (Below w.heap.size w w10) := HB9.out.trans (b10.mono HB9.out.size)
            clear own10 b10
            go_wp2_with fail
            refine (count_z 3 w10 HR10.out HP3.out).mono ?_
            rintro e w11 ⟨rfl, b11⟩
            have HP11 : Hid (PageZ C D w11 q G) := HP10.out.below b11
            have HR11 : Hid (RamAt w.heap.size E w11 r R2) := HR10.out.below b11
            have HB11 : Hid (Below w.heap.size w w11) := HB10.out.trans (b11.mono HB10.out.size)
            clear b11
            go_wp2_with fail
            refine (count_z 0 w11 HR11.out (HR11.out.good.cnt_free.trans HSL.out)).mono ?_
            rintro e w12 ⟨rfl, b12⟩
            have HP12 : Hid (PageZ C D w12 q G) := HP11.out.below b12
            have HR12 : Hid (RamAt w.heap.size E w12 r R2) := HR11.out.below b12
            have HB12 : Hid (Below w.heap.size w w12) := HB11.out.trans (b12.mono HB11.out.size)
            clear b12 HP9 HP10 HP11 HR9 HR10 HR11
            go_wp2_with fail
            refine (list_z HG9.out.ok HG9.out.first w12 HP12.out HR12.out HDD.out).mono ?_
            rintro e w13 ⟨a2, c2, ok, T, R3, rfl, own13, hl, ram13, st13, ht13⟩
            obtain ⟨hok, hT⟩ := hl.good _ HG9.out
            subst hok hT
            rw [List.length_range]
            have HP13 : Hid (PageZ C D w13 q G) := HP12.out.turns HDD.out ht13
            have HR13 : Hid (RamAt w.heap.size E w13 r R3) := ram13
            have HG13 : Hid (GoodP R3 G (List.range ob)) := HG9.out.stay st13
            have HB13 : Hid (Below w.heap.size w w13) := HB12.out.trans (ht13.below HB12.out.size)
            have HS13 : Hid (R3.O = R2.O ∧ R3.S = R2.S) := ⟨st13.O, st13.S⟩
            clear own13 hl ram13 st13 ht13
            go_wp2_with fail
            refine (many_z w13 HP13.out).mono ?_
            rintro e w14 ⟨rfl, rfl⟩
            rw [HXL.out]
            obtain ⟨ob', rfl⟩ : ∃ k, ob = k + 1 := ⟨ob - 1, by have := HOB1.out; omega⟩
            have HG14 : Hid (GoodP R3 G (0 :: (List.range ob').map Nat.succ)) := by have := HG13.out; rw [List.range_succ_eq_map] at this; exact this
            go_wp2_with fail
            refine (take_z HG14.out w13 HP13.out HR13.out HDD.out).mono ?_
            rintro e w14 ⟨R4, G4, rfl, ram14, st14, hp14, hg14, hsm, hx14, hk14⟩
            have HP14 : Hid (PageZ C D w14 q G4) := hp14
            have HR14 : Hid (RamAt w.heap.size E w14 r R4) := ram14
            have HGG : Hid (GoodP R4 G4 ((List.range ob').map Nat.succ)) := hg14
            have HB14 : Hid (Below w.heap.size w w14) := HB13.out.trans (off_below hk14 (Nat.le_refl _) HCD.out.1 HB13.out.size)
            have HS14 : Hid (R4.O = R2.O ∧ R4.S = R2.S) := ⟨st14.O.trans HS13.out.1, st14.S.trans HS13.out.2⟩
            have HF4 : Hid (G4.F = G.F) := hsm.F
            have HX4 : Hid (0 < G4.x.length ∧ G4.x.getD 0 false = true ∧ G4.x.length = ob' + 1) := by
              show _ ∧ _ ∧ _
              have hxl : 0 < G.x.length := by rw [HXL.out]; omega
              rw [hx14, len_putL]
              refine ⟨hxl, ?_, HXL.out⟩
              rw [putL, if_pos (by omega)]
              show (G.x.set 0 true).getD 0 false = true
              rw [getD_set, if_pos ⟨rfl, hxl⟩]
            have HU4 : Hid (0 < (allL G4.x).length) := by
              show _ < _
              have h5 := hg14.count
              rw [hx14, len_putL, HXL.out, List.length_map, List.length_range] at h5
              rw [hx14]
              omega
            clear ram14 st14 hp14 hg14 hsm hx14 hk14
            go_wp2_with fail
            refine (closeNo_z HU4.out (.pointer (some ⟨r, 0, none⟩)) w14 HP14.out).mono ?_
            rintro e w15 ⟨rfl, rfl⟩
            go_wp2_with fail
            refine (give_z HGG.out HX4.out.1 HX4.out.2.1 w14 HP14.out HR14.out HDD.out).mono ?_
            rintro e w15 ⟨R5, G5, rfl, ram15, hw15, hp15, hg15, hsm5, hx15, hk15⟩
            have HP15 : Hid (PageZ C D w15 q G5) := hp15
            have HR15 : Hid (RamAt w.heap.size E w15 r R5) := ram15
            have HB15 : Hid (Below w.heap.size w w15) := HB14.out.trans (off_below hk15 (Nat.le_refl _) HCD.out.1 HB14.out.size)
            have HS15 : Hid (R5.O = R2.O ∧ R5.S = R2.S) := ⟨hw15.els.O.trans HS14.out.1, hw15.els.S.trans HS14.out.2⟩
            have HF5 : Hid (G5.F = G.F) := hsm5.F.trans HF4.out
            have HROK : Hid (RowOk R5 G5.F) := hg15.ok.row
            have HU5 : Hid ((allL G5.x).length = 0) := by
              show _ = _
              have h5 := hg15.count
              have h6 : G5.x.length = ob' + 1 := by rw [hx15, len_putL]; exact HX4.out.2.2
              rw [List.length_cons, List.length_map, List.length_range, h6] at h5
              omega
            have H35 : Hid (∀ n ∈ G5.F, R5.O.getD n 0 = 3) := fun n hn => by rw [HS15.out.1]; exact HMA.out.own n (by rw [← HF5.out]; exact hn)
            clear ram15 hw15 hp15 hg15 hsm5 hx15 hk15
            go_wp2_with fail
            refine (close_z HU5.out HROK.out (by rw [HF5.out, HFL.out]; exact HN4.out.2) H35.out w15 HP15.out HR15.out HDD.out).mono ?_
            rintro e w16 ⟨R6, rfl, ram16, hg16, hgone, hk16⟩
            have HR16 : Hid (RamAt w.heap.size E w16 r R6) := ram16
            have HB16 : Hid (Below w.heap.size w w16) := HB15.out.trans (off_below hk16 (Nat.le_refl _) HCD.out.1 HB15.out.size)
            have HGN : Hid (GoneP w16 (some ⟨q, 0, none⟩) G5.c) := hgone
            have HP0 : Hid (fcnt R6.O [3] = 0) := by show _ = _; have h5 := hg16.pool; rw [HS15.out.1, HP3.out, HF5.out, HFL.out] at h5; omega
            have HS6 : Hid (R6.S.length = fr) := by show _ = _; have h5 := hg16.cnt; rw [HS15.out.2, HSL.out, HF5.out, HFL.out] at h5; omega
            clear ram16 hg16 hgone hk16
            go_wp2_with fail
            refine (count_z 3 w16 HR16.out HP0.out).mono ?_
            rintro e w17 ⟨rfl, b17⟩
            have HR17 : Hid (RamAt w.heap.size E w17 r R6) := HR16.out.below b17
            have HB17 : Hid (Below w.heap.size w w17) := HB16.out.trans (b17.mono HB16.out.size)
            have HGN7 : Hid (GoneP w17 (some ⟨q, 0, none⟩) G5.c) := HGN.out.below b17
            clear b17
            go_wp2_with fail
            refine (count_z 0 w17 HR17.out (HR17.out.good.cnt_free.trans HS6.out)).mono ?_
            rintro e w18 ⟨rfl, b18⟩
            have HB18 : Hid (Below w.heap.size w w18) := HB17.out.trans (b18.mono HB17.out.size)
            have HGN8 : Hid (GoneP w18 (some ⟨q, 0, none⟩) G5.c) := HGN7.out.below b18
            clear b18
            go_wp2_with fail
            refine (pRow_gone w18 HGN8.out).mono ?_
            rintro e w19 ⟨v19, rfl, own19, b19⟩
            obtain ⟨a19, c19, rfl⟩ := row_slice own19
            have HB19 : Hid (Below w.heap.size w w19) := HB18.out.trans (b19.mono HB18.out.size)
            have HGN9 : Hid (GoneP w19 (some ⟨q, 0, none⟩) G5.c) := HGN8.out.below b19
            clear b19 own19
            go_wp2_with fail
            refine (pMany_gone w19 HGN9.out).mono ?_
            rintro e w20 ⟨rfl, b20⟩
            have HBW : Hid (Below w.heap.size w w20) := HB19.out.trans (b20.mono HB19.out.size)
            clear b20
            go_wp2_with fail
            refine (lives_any w20).mono ?_
            rintro e wl ⟨rfl, bl⟩
            have HBL : Hid (Below w.heap.size w wl) := HBW.out.trans (bl.mono HBW.out.size)
            clear bl
            go_wp2
            go_ret
            exact ⟨rfl, HBL.out⟩

set_option maxRecDepth 100000 in
theorem walk {H : Type} {enc : TypeId × Value → H} {w : World} {base : Nat} {v0 v1 v2 : Value} {d0 d1 d2 : DataW H} {p0 p1 p2 : List MemPlace}
    (o0 : Value.okWide Try.prog w .any base 3 v0) (o1 : Value.okWide Try.prog w .any base 3 v1) (o2 : Value.okWide Try.prog w .any base 5 v2)
    (h0 : DataW.Trod enc Try.prog w 0 (fun _ => true) true 3 v0 d0 p0) (h1 : DataW.Trod enc Try.prog w 0 (fun _ => true) true 3 v1 d1 p1) (h2 : DataW.Trod enc Try.prog w 0 (fun _ => true) true 5 v2 d2 p2) :
    Calls Try.prog 3 #[v0, v1, v2] w fun e w' => e = .returned (.bool true) ∧ Below w.heap.size w w' := by
  obtain ⟨c, rfl, _⟩ := openOne Try.underlying3 o0 h0
  obtain ⟨m, rfl, _⟩ := openOne Try.underlying3 o1 h1
  obtain ⟨t, rfl, ht⟩ := openOne Try.underlying5 o2 h2
  have hb := bounds_u8 ht
  obtain ⟨t, rfl⟩ := Int.eq_ofNat_of_zero_le hb.1
  exact run c m t (by omega) w

set_option maxRecDepth 100000 in
theorem lifted (os : Os) (started : os.Started) (H : Type) (enc : TypeId × Value → H) :
    ReturnsInHanded {} Try.checked os 3 .any (Rows.innerMakesSpec.pre6 enc Try.prog Try.f3 Rows.innerMakesRow.domain false) (Rows.innerMakesSpec.post enc Try.prog Try.f3 false true false false) := by
  refine returnsInHanded_of_change (C := Try.checked) own started (by kernel_rfl) Try.func3
    (ChangeSpec.witness6 (enc := enc) (C := Try.checked) false ⟨#[], #[.int .i64 0, .int .i64 0, .int .u8 0], []⟩ 8 (by kernel_rfl) (by kernel_rfl) (by kernel_rfl) (by kernel_rfl)) ?_
  intro W base args ds gs before hval0 hW hcnd _
  have hval : ∀ (j : Nat) t v, Try.f3.params[j]? = some t → args[j]? = some v → Value.okWide Try.prog W .any base t v := hval0
  have hW' := hW
  obtain ⟨p, q, hA0, hV, rfl, hfz, hnd⟩ := hW
  have hA : DataW.TrodAll enc Try.prog W 0 (fun _ => true) true Try.f3.params.toList args.toList ds p := hA0
  rw [Try.params3] at hA hval
  obtain ⟨v0, vs0, d0, ds0, p0, q0, hargs, rfl, rfl, h0, r0⟩ := trodAll_cons hA
  obtain ⟨v1, vs1, d1, ds1, p1, q1, rfl, rfl, rfl, h1, r1⟩ := trodAll_cons r0
  obtain ⟨v2, vs2, d2, ds2, p2, q2, rfl, rfl, rfl, h2, r2⟩ := trodAll_cons r1
  obtain ⟨rfl, rfl, rfl⟩ := trodAll_nil r2
  obtain rfl : args = #[v0, v1, v2] := by cases args; simp_all
  obtain ⟨rfl, rfl⟩ := trodVars_none hV
  have o0 := hval 0 3 v0 rfl rfl
  have lt0 : ∀ x ∈ p0, x.block < W.heap.size := by obtain ⟨m, hm⟩ := h0; exact DataW.trod_lt m _ _ _ hm
  have o1 := hval 1 3 v1 rfl rfl
  have lt1 : ∀ x ∈ p1, x.block < W.heap.size := by obtain ⟨m, hm⟩ := h1; exact DataW.trod_lt m _ _ _ hm
  have o2 := hval 2 5 v2 rfl rfl
  have lt2 : ∀ x ∈ p2, x.block < W.heap.size := by obtain ⟨m, hm⟩ := h2; exact DataW.trod_lt m _ _ _ hm
  clear hA0 hval0
  refine (walk o0 o1 o2 h0 h1 h2).mono fun e W' ⟨he, bel⟩ => ?_
  subst he
  exact ⟨_, rfl, _, _, _, [], _, [], hW', trodAll_mk1 (shut_bool Try.underlying4 _), (trodAll_cons_mk (Below.trod laidOut (by kernel_rfl) (of_decide_eq_true (by kernel_rfl)) h0 bel lt0) (trodAll_cons_mk (Below.trod laidOut (by kernel_rfl) (of_decide_eq_true (by kernel_rfl)) h1 bel lt1) (trodAll_cons_mk (Below.trod laidOut (by kernel_rfl) (of_decide_eq_true (by kernel_rfl)) h2 bel lt2) trodAll_mk0))), rfl, bel.frame _, fun h => by cases h⟩

theorem over : Rows.innerMakesRow.holds Try.pinned (OpenSpec.ofChange Rows.innerMakesSpec) :=
  OpenClaim.holds_of_wide 3 Try.f3 rfl rfl rfl rfl rfl rfl rfl ⟨rfl, rfl, rfl, rfl, rfl⟩ rfl rfl rfl rfl rfl (by kernel_rfl) Try.func3 (by kernel_rfl)
    (of_decide_eq_true (by kernel_rfl)) (by unfold Func.isWrapper; first | (rw [if_pos (by decide +kernel)]; kernel_rfl) | (rw [if_neg (by decide +kernel)]; exact ⟨rfl, rfl⟩))
    (fun os started H enc _ => lifted os started H enc)
end Go.Proofs.Ytjgkhckcoknnfaa.InnerMakes
namespace Go.Proofs.Ytjgkhckcoknnfaa
/-- The statement. -/
theorem innerMakes_holds : Rows.InnerMakesSaid := InnerMakes.over
#print axioms innerMakes_holds
end Go.Proofs.Ytjgkhckcoknnfaa
