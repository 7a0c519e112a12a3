/- Proved: gunnylaw11.TokenBack returns true for all lists of tokens and all lists of bytes: what is put is taken, one by one, to the end; what grows begins with what it was, by as many bytes as the token stands for; a copy's bytes are those Dist ahead. No conditions. -/
import Derived.Test.YtdnmkbncdiggfaaKLives
import Derived.Test.YtdnmkbncdiggfaaKTakeC
import Derived.Test.YtdnmkbncdiggfaaKOpen
import Derived.Deep.DeepCutAuto
import Derived.Deep.RegionWith
import Derived.BigRegion
import Derived.Deep.RegionHeld3
namespace Go.Proofs.Ytdnmkbncdiggfaa.TokenBack
open Go.ChangeShapes Go.WideShapes Go.ChangeAt Go.RowKit
set_option linter.unusedVariables false
theorem own : ownKnob Try.prog.godebug = none := by kernel_rfl
theorem laidOut : laidOutB Try.prog = true := by kernel_rfl
/-- A token taken, its parts under letters. -/
theorem take_tok {p : Option Addr} {L c N M z : Nat} {b q : List Nat} (I : Int) (w : World) (h : ByAt w p L c b) (hL : L ≤ 100000) (hA : takeA b I = ⟨0, q, N, M, z⟩) :
    Calls Try.prog 15 #[.slice p L c, .int .i64 I] w fun e w' => ∃ p l c, e = .returned (.tuple #[.agg #[.slice p l c, .int .i64 (N : Nat), .int .i64 (M : Nat)], .int .i64 (z : Nat), .int .i64 0]) ∧ ByAt w' p l c q ∧ Below w.heap.size w w' := by
  refine (take_is I w h hL hA).mono ?_
  rintro e w' ⟨p1, l1, c1, rfl, own1, h8, b1⟩
  exact ⟨p1, l1, c1, rfl, by_own own1 h8, b1⟩
theorem allT_no_cat {D : Nat → Tk} {L : Nat} (h : allT D L = false) : putT D L = [] := by rw [putT, h]; rfl

set_option maxRecDepth 100000 in
set_option maxHeartbeats 4000000 in
theorem run (a : Option Addr) (L c : Nat) (D : Nat → Tk) (p : Option Addr) (M cb : Nat) (s : List Nat) (w : World) (hL : L ≤ maxLen) (h : TksAt w a L D) (hs : ByAt w p M cb s) :
    Calls Try.prog 6 #[.slice a L c, .slice p M cb] w fun e w' => e = .returned (.bool true) ∧ Below w.heap.size w w' := by
  have H : Hid (TksAt w a L D) := h
  have HS : Hid (ByAt w p M cb s) := hs
  have hL2 := hL
  have hM := hs.short
  unfold maxLen at hL2 hM
  clear hs
  go_enter Try.func6, Try.ntmps6
  by_cases h5 : 60 < L
  · have i1 : (60 : Int) < (L : Int) := by omega
    clear h
    go_wp2_with fail
    refine (lives_any _).mono ?_
    rintro e wq ⟨rfl, hb⟩
    have HB : Hid (Below w.heap.size w wq) := (Below.refl w.heap.size w).trans (hb.mono (Below.refl w.heap.size w).size)
    clear hb
    go_wp2
    go_ret
    exact ⟨rfl, HB.out⟩
  have i1 : ¬ (60 : Int) < (L : Int) := by omega
  by_cases h6 : 5000 < M
  · have i2 : (5000 : Int) < (M : Int) := by omega
    clear h
    go_wp2_with fail
    refine (lives_any _).mono ?_
    rintro e wq ⟨rfl, hb⟩
    have HB : Hid (Below w.heap.size w wq) := (Below.refl w.heap.size w).trans (hb.mono (Below.refl w.heap.size w).size)
    clear hb
    go_wp2
    go_ret
    exact ⟨rfl, HB.out⟩
  have i2 : ¬ (5000 : Int) < (M : Int) := by omega
  have hL3 : L ≤ 60 := by omega
  have hM3 : M ≤ 5000 := by omega
  have HCL : Hid ((catT D L).length ≤ 129 * L) := catT_len (fun i hi => (h.ok hi).by_.len) L (Nat.le_refl _)
  have HC8 : Hid (∀ x ∈ catT D L, x < 256) := catT_byte (fun i hi => ⟨(h.ok hi).by_.len, (h.ok hi).by_.byte⟩) L (Nat.le_refl _)
  clear hL hL2 hM h5 h6 h
  go_wp2
  go_loopg [5] L (fun gk i wr => ∃ k : Nat, k ≤ L ∧ gk = L - k ∧ i = .int .i64 k ∧ Below w.heap.size w wr)
  case atStart => exact ⟨0, Nat.zero_le _, rfl, rfl, Below.refl _ _⟩
  case round =>
    obtain ⟨k, hk, rfl, rfl, hb⟩ := hrel
    have HB : Hid (Below w.heap.size w wr) := hb
    clear hb
    by_cases hlt : k < L
    · have j1 : (k : Int) < (L : Int) := by omega
      obtain ⟨g, off, rfl, hg, hc⟩ := H.out.at hlt
      have hl := (H.out.ok hlt).by_.short
      obtain ⟨c0, c1, c2⟩ := hc wr HB.out
      clear hc
      generalize (D k).p = dp at *
      generalize (D k).l = dl at *
      generalize (D k).c = dc at *
      generalize (D k).b = db at *
      generalize (D k).n = dn at *
      generalize (D k).d = dd at *
      cases hgr : decide (300 < dl) with
      | true =>
        have HGR : Hid (decide (300 < dl) = true) := hgr
        clear hgr
        go_wp2_with fail
        refine (great_is _ hl HGR.out).mono ?_
        rintro e w0 ⟨rfl, b0⟩
        have HB0 : Hid (Below w.heap.size w w0) := HB.out.trans (b0.mono HB.out.size)
        clear b0 c0 c1 c2
        go_wp2_with fail
        refine (lives_any _).mono ?_
        rintro e wq ⟨rfl, hb⟩
        have HB : Hid (Below w.heap.size w wq) := HB0.out.trans (hb.mono HB0.out.size)
        clear hb
        go_wp2
        go_ret
        exact ⟨rfl, HB.out⟩
      | false =>
        have HGR : Hid (decide (300 < dl) = false) := hgr
        clear hgr
        go_wp2_with fail
        refine (great_is _ hl HGR.out).mono ?_
        rintro e w0 ⟨rfl, b0⟩
        have HB0 : Hid (Below w.heap.size w w0) := HB.out.trans (b0.mono HB.out.size)
        clear b0 c0 c1 c2
        go_wp2
        go_roundg (L - (k + 1))
        case measure => omega
        case rel => exact ⟨k + 1, by omega, rfl, by go_num, HB0.out⟩
    · obtain rfl : k = L := by omega
      have HP : Hid _ := puts_any (c := c) wr (H.out.below HB.out) (by omega)
      obtain ⟨t, ht⟩ : ∃ t, allT D k = t := ⟨_, rfl⟩
      obtain ⟨P, hP⟩ : ∃ P, putT D k = P := ⟨_, rfl⟩
      go_wp2_with fail
      refine Calls.mono HP.out ?_
      rintro e w1 ⟨v1, rfl, own1, b1⟩
      obtain ⟨a1, q1, rfl⟩ := row_slice own1
      rw [hP, ht]
      rw [hP] at own1
      have hPl : P.length ≤ 10000 := by
        rw [← hP, putT]
        have := HCL.out
        split
        · omega
        · simp
      have HP8 : Hid (∀ x ∈ P, x < 256) := by
        intro x hx
        rw [← hP, putT] at hx
        split at hx
        · exact HC8.out x hx
        · simp at hx
      have HB1 : Hid (Below w.heap.size w w1) := HB.out.trans (b1.mono HB.out.size)
      have HY1 : Hid (ByAt w1 a1 P.length q1 P) := by_own own1 HP8.out
      have HT : Hid (allT D k = t) := ht
      have HPP : Hid (putT D k = P) := hP
      obtain ⟨R, hR⟩ : ∃ R, P.length = R := ⟨_, rfl⟩
      rw [hR] at HY1 hPl
      have HR : Hid (P.length = R) := hR
      rw [hR]
      clear own1 b1 ht hP hR HP hlt hk HB
      go_wp2
      go_loopg [8, 9] k (fun gj at' i wr => ∃ j : Nat, j ≤ k ∧ gj = k - j ∧ i = .int .i64 j ∧ at' = .int .i64 (if t then (catT D j).length else 0 : Nat) ∧ Below w1.heap.size w1 wr)
      case atStart => exact ⟨0, Nat.zero_le _, rfl, rfl, by simp [catT], Below.refl _ _⟩
      case round =>
        obtain ⟨j, hj, rfl, rfl, rfl, hb⟩ := hrel
        have HBJ : Hid (Below w1.heap.size w1 wr) := hb
        clear hb
        obtain ⟨z0, hz0⟩ : ∃ z0, (if t then (catT D j).length else 0) = z0 := ⟨_, rfl⟩
        rw [hz0]
        obtain ⟨go, hgo⟩ : ∃ go, (decide (j < k) && t) = go := ⟨_, rfl⟩
        go_upto_region 11 with (fail)
        go_cut [49] (fun v wx => v = .bool go ∧ wr = wx)
        case first =>
          by_cases hlt : j < k
          · have j1 : (j : Int) < (k : Int) := by omega
            cases t
            · have e : go = false := by rw [← hgo]; simp
              subst e
              clear hgo
              go_wp2
              go_meet
              exact ⟨rfl, rfl⟩
            · have e : go = true := by rw [← hgo]; simp [hlt]
              subst e
              clear hgo
              go_wp2
              go_meet
              exact ⟨rfl, rfl⟩
          · have j1 : ¬ (j : Int) < (k : Int) := by omega
            have e : go = false := by rw [← hgo]; simp [hlt]
            subst e
            clear hgo
            cases t
            · go_wp2
              go_meet
              exact ⟨rfl, rfl⟩
            · go_wp2
              go_meet
              exact ⟨rfl, rfl⟩
        case rest =>
          obtain ⟨rfl, rfl⟩ := hcut
          cases go with
          | true =>
            obtain ⟨hlt, rfl⟩ : j < k ∧ t = true := by simpa using hgo
            rw [if_pos rfl] at hz0
            obtain ⟨g, off, rfl, hg, hc⟩ := H.out.at hlt
            have hok := H.out.ok hlt
            have hmy : mayT (D j).b.length (D j).n (D j).d = true := by rw [hok.by_.len]; exact allT_at HT.out hlt
            have HZK : Hid (ByAt w (D j).p (D j).l (D j).c (D j).b) := hok.by_
            obtain ⟨qq, hqq⟩ := catT_part (D := D) (k := j) (k - j - 1) k (by omega) HT.out
            have hPc : P = catT D j ++ tokB (D j).b (D j).n (D j).d ++ qq := by rw [← hqq, ← HPP.out, putT, HT.out]; rfl
            have hta := take_put (catT D j) qq hmy
            rw [← hPc, hz0] at hta
            have hcn : (catT D (j + 1)).length = z0 + (tokB (D j).b (D j).n (D j).d).length := by rw [catT_yes (allT_at HT.out hlt), List.length_append, hz0]
            have hpos : 0 < (tokB (D j).b (D j).n (D j).d).length := by unfold tokB; split <;> simp
            obtain ⟨zz, hzz⟩ : ∃ zz, z0 + (tokB (D j).b (D j).n (D j).d).length = zz := ⟨_, rfl⟩
            rw [hzz] at hta hcn
            have hzl : z0 < zz := by omega
            have HCN : Hid ((catT D (j + 1)).length = zz) := hcn
            have hzR : zz ≤ R := by rw [← HR.out, hPc, List.length_append, List.length_append, ← hzz, hz0]; omega
            clear hcn hpos hqq hzz hPc hz0 hgo
            obtain ⟨N, M2, hN, hM2⟩ : ∃ N M2 : Nat, (D j).n = N ∧ (D j).d = M2 := by
              rcases may_ways hmy with ⟨_, _, h3, h4⟩ | ⟨_, N, M2, h3, h4, _⟩
              · exact ⟨0, 0, h3, h4⟩
              · exact ⟨N, M2, h3, h4⟩
            rw [hN, hM2] at hc hta
            have HTA : Hid (takeA P (z0 : Int) = ⟨0, (D j).b, N, M2, zz⟩) := hta
            have HCC : Hid (∀ (w' : World), Below w.heap.size w w' → w'.cell? ⟨g, off + j * 3, none⟩ = some (.slice (D j).p (D j).l (D j).c) ∧ w'.cell? ⟨g, off + j * 3 + 1, none⟩ = some (.int .i64 (N : Int)) ∧ w'.cell? ⟨g, off + j * 3 + 2, none⟩ = some (.int .i64 (M2 : Int))) := hc
            clear hta hc hmy hok hN hM2
            have HYJ : Hid (ByAt wr a1 R q1 P) := HY1.out.later HBJ.out
            generalize (D j).p = dp at *
            generalize (D j).l = dl at *
            generalize (D j).c = dc at *
            generalize (D j).b = db at *
            have j1 : (j : Int) < (k : Int) := by omega
            go_wp2_with fail
            refine (take_tok (z0 : Int) wr HYJ.out (by omega) HTA.out).mono ?_
            rintro e w2 ⟨p2, l2, c2, rfl, by2, b2⟩
            have HBW : Hid (Below w.heap.size w wr) := HB1.out.trans (HBJ.out.mono HB1.out.size)
            have HB2 : Hid (Below w.heap.size w w2) := HBW.out.trans (b2.mono HBW.out.size)
            have HB2' : Hid (Below w1.heap.size w1 w2) := HBJ.out.trans (b2.mono HBJ.out.size)
            have HY2 : Hid (ByAt w2 p2 l2 c2 db) := by2
            clear by2 b2 HYJ
            go_upto_region 14 with (fail)
            have hbn : Below w2.heap.size w2 (w2.alloc (.cells #[.slice p2 l2 c2, .int .i64 (N : Int), .int .i64 (M2 : Int)] 27)) := (Below.refl _ _).alloc (Nat.le_refl _) _
            have hx3 := heap_alloc_new w2 (.cells #[.slice p2 l2 c2, .int .i64 (N : Int), .int .i64 (M2 : Int)] 27)
            have HB3 : Hid (Below w.heap.size w _) := HB2.out.trans (hbn.mono HB2.out.size)
            have HB3' : Hid (Below w1.heap.size w1 _) := HB2'.out.trans (hbn.mono HB2'.out.size)
            have HY3 : Hid (ByAt _ p2 l2 c2 db) := HY2.out.later hbn
            have HX3 : Hid _ := hx3
            obtain ⟨d0, d1, d2⟩ := three_cells hx3
            clear hbn hx3 HB2 HB2' HY2
            generalize w2.alloc (.cells #[.slice p2 l2 c2, .int .i64 (N : Int), .int .i64 (M2 : Int)] 27) = w3 at *
            generalize w2.heap.size = tb at *
            obtain ⟨c0, c1, c2'⟩ := HCC.out w3 HB3.out
            have HYa : Hid (ByAt w3.drew p2 l2 c2 db) := HY3.out.later (drew_below _ _)
            have HZa : Hid (ByAt w3.drew dp dl dc db) := HZK.out.later (HB3.out.trans (drew_below _ _))
            have HBa : Hid (Below w1.heap.size w1 w3.drew) := HB3'.out.trans (drew_below _ _)
            have h9 : decide ((zz : Int) ≤ (z0 : Int)) = false := by simp; omega
            have h9' : ¬ (zz : Int) ≤ (z0 : Int) := by omega
            go_region_held3 (fun w' => w'.cell? ⟨tb, 0, none⟩ = some (.slice p2 l2 c2) ∧ w'.cell? ⟨tb, 1, none⟩ = some (.int .i64 (N : Int)) ∧ w'.cell? ⟨tb, 2, none⟩ = some (.int .i64 (M2 : Int)) ∧ w'.cell? ⟨g, off + j * 3, none⟩ = some (.slice dp dl dc) ∧ w'.cell? ⟨g, off + j * 3 + 1, none⟩ = some (.int .i64 (N : Int)) ∧ w'.cell? ⟨g, off + j * 3 + 2, none⟩ = some (.int .i64 (M2 : Int))) (first | (go_keep; done)) (first | (go_at_call 17; refine (refSame_any _ HYa.out HZa.out).mono ?_; rintro e w4 ⟨rfl, b4⟩; have HB4 : Hid (Below w1.heap.size w1 w4) := HBa.out.trans (b4.mono HBa.out.size); obtain ⟨y0, y1, y2⟩ := HCC.out w4 (HB1.out.trans (HB4.out.mono HB1.out.size)); obtain ⟨x0, x1, x2⟩ := three_cells ((b4.block tb (Array.getElem?_eq_some_iff.1 HX3.out).1).trans HX3.out); clear b4))
            all_goals
              go_wp2
              go_roundg (k - (j + 1))
              case measure => omega
              case rel => exact ⟨j + 1, by omega, rfl, by go_num, by first | rw [if_pos trivial, HCN.out] | rw [if_pos rfl, HCN.out], HB4.out⟩
          | false =>
            have hzR : z0 = R := by
              cases t with
              | false =>
                rw [← hz0, ← HR.out, ← HPP.out, allT_no_cat HT.out]
                rfl
              | true =>
                obtain rfl : j = k := by
                  have h1 : decide (j < k) = false := by simpa using hgo
                  have := of_decide_eq_false h1
                  omega
                rw [← hz0, ← HR.out, ← HPP.out, putT, HT.out]
                rfl
            subst hzR
            have HW0 : Hid (Below w.heap.size w wr) := HB1.out.trans (HBJ.out.mono HB1.out.size)
            clear hz0 hgo HBJ HY1 HB1 HP8 HPP HR HT hPl HC8 HCL
            have h7 : ((z0 : Int) != (z0 : Int)) = false := by simp
            go_wp2
            go_loopg [13] k (fun gm i wx => ∃ m : Nat, m ≤ k ∧ gm = k - m ∧ i = .int .i64 m ∧ Below w.heap.size w wx)
            case atStart => exact ⟨0, Nat.zero_le _, rfl, rfl, HW0.out⟩
            case round =>
              obtain ⟨m, hm, rfl, rfl, hb⟩ := hrel
              have HBM : Hid (Below w.heap.size w wr) := hb
              clear hb HW0
              by_cases hlt : m < k
              · have m1 : (m : Int) < (k : Int) := by omega
                obtain ⟨g, off, rfl, hg, hc⟩ := H.out.at hlt
                have hok := H.out.ok hlt
                have hl := hok.by_.short
                have HKT : Hid (ByAt w (D m).p (D m).l (D m).c (D m).b) := hok.by_
                have HCC : Hid (∀ (w' : World), Below w.heap.size w w' → w'.cell? ⟨g, off + m * 3, none⟩ = some (.slice (D m).p (D m).l (D m).c) ∧ w'.cell? ⟨g, off + m * 3 + 1, none⟩ = some (.int .i64 (D m).n) ∧ w'.cell? ⟨g, off + m * 3 + 2, none⟩ = some (.int .i64 (D m).d)) := hc
                clear hc hok
                obtain ⟨c0, c1, c2⟩ := HCC.out wr HBM.out
                generalize (D m).p = dp at *
                generalize (D m).l = dl at *
                generalize (D m).c = dc at *
                generalize (D m).b = db at *
                generalize (D m).n = dn at *
                generalize (D m).d = dd at *
                have hgr := grow_any (n := dn) (d := dd) wr (HS.out.later HBM.out) (HKT.out.later HBM.out) (by omega)
                have HDL : Hid (db.length = dl) := HKT.out.len
                have HSL : Hid (s.length = M) := HS.out.len
                obtain ⟨E, hE⟩ : ∃ E, growE s db dn dd = E := ⟨_, rfl⟩
                obtain ⟨G, hG⟩ : ∃ G, growA s db dn dd = G := ⟨_, rfl⟩
                obtain ⟨GL, hGL⟩ : ∃ GL, G.length = GL := ⟨_, rfl⟩
                rw [hE, hG, hGL] at hgr
                have HE : Hid (growE s db dn dd = E) := hE
                have HG : Hid (growA s db dn dd = G) := hG
                have HGL : Hid (G.length = GL) := hGL
                have HGR : Hid _ := hgr
                have HG8 : Hid (∀ x ∈ G, x < 256) := by show ∀ x ∈ G, x < 256; rw [← hG]; exact grow_byte HS.out.byte HKT.out.byte
                clear hE hG hGL hgr
                by_cases hE0 : E = 0
                · subst hE0
                  obtain ⟨hmy, hdM, _⟩ := grow_ok HE.out
                  rw [HDL.out] at hmy
                  rw [HSL.out] at hdM
                  have hlen := grow_len HE.out
                  rw [HG.out, HGL.out, HSL.out, HDL.out] at hlen
                  have htk := grow_take HE.out
                  rw [HG.out, HSL.out] at htk
                  have HTK : Hid (G.take M = s) := htk
                  have HAT : Hid (0 < dd → ∀ i, M ≤ i → i < GL → dd.toNat ≤ i ∧ G.getD i 0 = G.getD (i - dd.toNat) 0) := by
                    intro hd i h1 h2
                    have := grow_at (i := i) HE.out hd (by rw [HSL.out]; exact h1) (by rw [HG.out, HGL.out]; exact h2)
                    rwa [HG.out] at this
                  obtain ⟨S, hS⟩ : ∃ S, sizeT dl dn dd = S := ⟨_, rfl⟩
                  rw [hS] at hlen
                  have HSI : Hid (sizeT dl dn dd = S) := hS
                  have hSle : S ≤ 300 := by
                    rw [← hS, sizeT_yes hmy]
                    rcases may_ways hmy with ⟨_, _, rfl, _⟩ | ⟨_, N, M2, rfl, rfl, _⟩ <;> omega
                  have HLE : Hid (GL = M + S) := hlen
                  clear hS htk hmy
                  go_wp2_with fail
                  refine Calls.mono HGR.out ?_
                  rintro e w2 ⟨v2, rfl, own2, b2⟩
                  obtain ⟨a2, q2, rfl⟩ := row_slice own2
                  have HB2 : Hid (Below w.heap.size w w2) := HBM.out.trans (b2.mono HBM.out.size)
                  have HY2 : Hid (ByAt w2 a2 GL q2 G) := by_own own2 HG8.out
                  have HS2 : Hid (ByAt w2 p M cb s) := HS.out.later HB2.out
                  clear own2 b2 c0 c1 c2
                  have hMG : M ≤ GL := by omega
                  have hGL4 : GL ≤ 6000 := by omega
                  clear hlen
                  go_upto_region 24 with (fail)
                  go_cut [117] (fun v wx => v = .bool false ∧ Below w2.heap.size w2 wx)
                  case first =>
                    obtain ⟨t, htt⟩ : ∃ t, strB s = t := ⟨_, rfl⟩
                    have HCA : Hid (∀ w', Below w2.heap.size w2 w' → (convert 24 9 (.slice a2 M q2)).run Try.prog w' = .ok (.string t) w') := by
                      intro w' hb'
                      have := ((HY2.out.later hb').head hMG).conv
                      rwa [HTK.out, htt] at this
                    have HCB : Hid (∀ w', Below w2.heap.size w2 w' → (convert 24 9 (.slice p M cb)).run Try.prog w' = .ok (.string t) w') := by
                      intro w' hb'
                      have := (HS2.out.later hb').conv
                      rwa [htt] at this
                    clear htt
                    have kA := HCA.out w2.drew (drew_below _ _)
                    have kB := HCB.out w2.drew (drew_below _ _)
                    obtain ⟨c0, c1, c2⟩ := HCC.out w2 HB2.out
                    have hhd := run_head (p := a2) (n := GL) (c := q2) (m := M) (M := (M : Int)) rfl (Nat.le_trans hMG HY2.out.cap)
                    have hw1 : IntKind.i64.wrap ((M : Int) + (S : Int)) = (GL : Int) := by
                      rw [IntWalk.i64_in _ (by omega)]
                      have := HLE.out
                      omega
                    have hw2 : ((GL : Int) != (GL : Int)) = false := by simp
                    have HSZ : Hid (∀ w', Calls Try.prog 12 #[.agg #[.slice dp dl dc, .int .i64 dn, .int .i64 dd]] w' fun e w'' => e = .returned (.int .i64 (S : Nat)) ∧ Below w'.heap.size w' w'') := fun w' => size_is w' hl HSI.out
                    go_region_held3 (fun w' => w'.cell? ⟨g, off + m * 3, none⟩ = some (.slice dp dl dc) ∧ w'.cell? ⟨g, off + m * 3 + 1, none⟩ = some (.int .i64 dn) ∧ w'.cell? ⟨g, off + m * 3 + 2, none⟩ = some (.int .i64 dd) ∧ (convert 24 9 (.slice a2 M q2)).run Try.prog w' = .ok (.string t) w' ∧ (convert 24 9 (.slice p M cb)).run Try.prog w' = .ok (.string t) w') (first | (go_keep; done)) (first | (go_at_call 12; refine Calls.mono (HSZ.out _) ?_; rintro e w4 ⟨rfl, b4⟩; have HB4 : Hid (Below w2.heap.size w2 w4) := (drew_below _ w2).trans b4; obtain ⟨y0, y1, y2⟩ := HCC.out w4 (HB2.out.trans (HB4.out.mono HB2.out.size)); have lA := HCA.out w4 HB4.out; have lB := HCB.out w4 HB4.out; clear b4))
                    all_goals
                      go_wp2
                      go_meet
                      exact ⟨rfl, HB4.out⟩
                  case rest =>
                    obtain ⟨rfl, hbc⟩ := hcut
                    have HBC : Hid (Below w.heap.size w wc) := HB2.out.trans (hbc.mono HB2.out.size)
                    have HYC : Hid (ByAt wc a2 GL q2 G) := HY2.out.later hbc
                    clear hbc HB2 HY2 HS2 HGR HSI
                    have hdL := HKT.out.short
                    go_wp2
                    go_loopg [16] (GL - M) (fun gn i wx => ∃ n r : Nat, M ≤ n ∧ n ≤ GL ∧ gn = GL - n ∧ i = .int .i64 n ∧ wx = wc.drewN r)
                    case atStart => exact ⟨M, 0, Nat.le_refl _, hMG, rfl, rfl, rfl⟩
                    case round =>
                      obtain ⟨n, r, hn1, hn2, rfl, rfl, rfl⟩ := hrel
                      have HBR : Hid (Below w.heap.size w (wc.drewN r)) := HBC.out.trans (drewN_below _ _ _)
                      obtain ⟨c0, c1, c2⟩ := HCC.out wc HBC.out
                      by_cases hnl : n < GL
                      · have n3 : (n : Int) < (GL : Int) := by omega
                        by_cases hd0 : 0 < dd
                        · obtain ⟨Dd, rfl⟩ : ∃ Dd : Nat, dd = Dd := ⟨dd.toNat, by omega⟩
                          obtain ⟨e1, e2⟩ := HAT.out hd0 n hn1 hnl
                          rw [Int.toNat_natCast] at e1 e2
                          obtain ⟨ga, oa, rfl, hga, hcell⟩ := HYC.out.at (by omega)
                          have cN : wc.cell? ⟨ga, oa + n, none⟩ = some (.int .u8 (G.getD n 0 : Nat)) := hcell n hnl
                          have cD : wc.cell? ⟨ga, oa + (n - Dd), none⟩ = some (.int .u8 (G.getD n 0 : Nat)) := by rw [hcell (n - Dd) (by omega), e2]
                          have hiN := index_at (g := ga) (o := oa) (L := GL) (c := q2) (q := oa + n) (I := (n : Int)) n rfl hnl rfl
                          have hiD := index_at (g := ga) (o := oa) (L := GL) (c := q2) (q := oa + (n - Dd)) (I := (n : Int) - (Dd : Int)) (n - Dd) (by omega) (by omega) rfl
                          have hw1 : IntKind.i64.wrap ((n : Int) - (Dd : Int)) = (n : Int) - (Dd : Int) := IntWalk.i64_in _ (by omega)
                          have g1 : decide ((n : Int) < (Dd : Int)) = false := by simp; omega
                          have g2 : ¬ (n : Int) < (Dd : Int) := by omega
                          have d0' : (0 : Int) < (Dd : Int) := by omega
                          clear hcell e2 hd0
                          generalize G.getD n 0 = x at *
                          go_wp2_with fail
                          go_quiet (fail)
                          go_wp2
                          go_roundg (GL - (n + 1))
                          case measure => omega
                          case rel => exact ⟨n + 1, _, by omega, by omega, rfl, by go_num, rfl⟩
                        · have hd0' : ¬ (0 : Int) < dd := hd0
                          go_wp2
                          go_roundg (k - (m + 1))
                          case measure => omega
                          case rel => exact ⟨m + 1, by omega, rfl, by go_num, HBR.out⟩
                      · have n3 : ¬ (n : Int) < (GL : Int) := by omega
                        go_wp2
                        go_roundg (k - (m + 1))
                        case measure => omega
                        case rel => exact ⟨m + 1, by omega, rfl, by go_num, HBR.out⟩
                · have e1 : ((E : Int) != 0) = true := by rw [bne_iff_ne]; omega
                  go_wp2_with fail
                  refine Calls.mono HGR.out ?_
                  rintro e w2 ⟨v2, rfl, own2, b2⟩
                  have HB2 : Hid (Below w.heap.size w w2) := HBM.out.trans (b2.mono HBM.out.size)
                  clear own2 b2 c0 c1 c2
                  go_wp2
                  go_roundg (k - (m + 1))
                  case measure => omega
                  case rel => exact ⟨m + 1, by omega, rfl, by go_num, HB2.out⟩
              · have m1 : ¬ (m : Int) < (k : Int) := by omega
                go_wp2_with fail
                refine (lives_any _).mono ?_
                rintro e wq ⟨rfl, hb⟩
                have HB : Hid (Below w.heap.size w wq) := HBM.out.trans (hb.mono HBM.out.size)
                clear hb
                go_wp2
                go_ret
                exact ⟨rfl, HB.out⟩

theorem walk {H : Type} {enc : TypeId × Value → H} {w : World} {base : Nat} {v0 v1 : Value} {d0 d1 : DataW H} {p0 p1 : List MemPlace}
    (o0 : Value.okWide Try.prog w .any base 22 v0)
    (o1 : Value.okWide Try.prog w .any base 24 v1)
    (h0 : DataW.Trod enc Try.prog w 0 (fun _ => true) true 22 v0 d0 p0)
    (h1 : DataW.Trod enc Try.prog w 0 (fun _ => true) true 24 v1 d1 p1) :
    Calls Try.prog 6 #[v0, v1] w fun e w' => e = .returned (.bool true) ∧ Below w.heap.size w w' := by
  obtain ⟨a, L, c, D, rfl, hL, hds⟩ := openTks Try.underlying22 Try.underlying27 (by kernel_rfl) (by kernel_rfl) Try.underlying24 Try.underlying5 (by kernel_rfl) Try.underlying3 Try.underlying3 o0 h0
  obtain ⟨p, M, cb, s, rfl, hb⟩ := openBy Try.underlying24 Try.underlying5 (by kernel_rfl) o1 h1
  exact run a L c D p M cb s w hL hds hb

set_option maxRecDepth 100000 in
theorem lifted (os : Os) (started : os.Started) (H : Type) (enc : TypeId × Value → H) :
    ReturnsInHanded {} Try.checked os 6 .any (Rows.tokenBackSpec.pre6 enc Try.prog Try.f6 Rows.tokenBackRow.domain false) (Rows.tokenBackSpec.post enc Try.prog Try.f6 false true false false) := by
  refine returnsInHanded_of_change (C := Try.checked) own started (by kernel_rfl) Try.func6
    (ChangeSpec.witness6 (enc := enc) (C := Try.checked) false ⟨#[], #[.slice none 0 0, .slice none 0 0], []⟩ 8 (by kernel_rfl) (by kernel_rfl) (by kernel_rfl) (by kernel_rfl)) ?_
  intro W base args ds gs before hval0 hW hcnd _
  have hval : ∀ (j : Nat) t v, Try.f6.params[j]? = some t → args[j]? = some v → Value.okWide Try.prog W .any base t v := hval0
  have hW' := hW
  obtain ⟨p, q, hA0, hV, rfl, hfz, hnd⟩ := hW
  have hA : DataW.TrodAll enc Try.prog W 0 (fun _ => true) true Try.f6.params.toList args.toList ds p := hA0
  rw [Try.params6] at hA hval
  obtain ⟨v0, vs0, d0, ds0, p0, q0, hargs, rfl, rfl, h0, r0⟩ := trodAll_cons hA
  obtain ⟨v1, vs1, d1, ds1, p1, q1, rfl, rfl, rfl, h1, r1⟩ := trodAll_cons r0
  obtain ⟨rfl, rfl, rfl⟩ := trodAll_nil r1
  obtain rfl : args = #[v0, v1] := by cases args; simp_all
  obtain ⟨rfl, rfl⟩ := trodVars_none hV
  have o0 := hval 0 22 v0 rfl rfl
  have lt0 : ∀ x ∈ p0, x.block < W.heap.size := by obtain ⟨m, hm⟩ := h0; exact DataW.trod_lt m _ _ _ hm
  have o1 := hval 1 24 v1 rfl rfl
  have lt1 : ∀ x ∈ p1, x.block < W.heap.size := by obtain ⟨m, hm⟩ := h1; exact DataW.trod_lt m _ _ _ hm
  clear hA0 hval0
  refine (walk o0 o1 h0 h1).mono fun e W' ⟨he, bel⟩ => ?_
  subst he
  exact ⟨_, rfl, _, _, _, [], _, [], hW', trodAll_mk1 (shut_bool Try.underlying4 _), (trodAll_cons_mk (Below.trod laidOut (by kernel_rfl) (of_decide_eq_true (by kernel_rfl)) h0 bel lt0) (trodAll_cons_mk (Below.trod laidOut (by kernel_rfl) (of_decide_eq_true (by kernel_rfl)) h1 bel lt1) trodAll_mk0)), rfl, bel.frame _, fun h => by cases h⟩

theorem over : Rows.tokenBackRow.holds Try.pinned (OpenSpec.ofChange Rows.tokenBackSpec) :=
  OpenClaim.holds_of_wide 6 Try.f6 rfl rfl rfl rfl rfl rfl rfl ⟨rfl, rfl, rfl, rfl, rfl⟩ rfl rfl rfl rfl rfl (by kernel_rfl) Try.func6 (by kernel_rfl)
    (of_decide_eq_true (by kernel_rfl)) (by unfold Func.isWrapper; first | (rw [if_pos (by decide +kernel)]; kernel_rfl) | (rw [if_neg (by decide +kernel)]; exact ⟨rfl, rfl⟩))
    (fun os started H enc _ => lifted os started H enc)
end Go.Proofs.Ytdnmkbncdiggfaa.TokenBack
namespace Go.Proofs.Ytdnmkbncdiggfaa
/-- The statement. -/
theorem tokenBack_holds : Rows.TokenBackSaid := TokenBack.over
#print axioms tokenBack_holds
end Go.Proofs.Ytdnmkbncdiggfaa
