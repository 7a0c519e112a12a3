/- Proved: gunnylaw06.RamKeeps returns true for all lists of deeds and all deeds: what is written is read, no other byte of any frame is changed; what is told shares nothing with memory; a frame that is taken anew is all 0. No conditions. -/
import Derived.Test.YteebjeifbccbnaaMWas
import Derived.Deep.LoopGhost
import Derived.Deep.DeepCutAuto
import Derived.BigRegion
namespace Go.Proofs.Yteebjeifbccbnaa.RamKeeps
open Go.ChangeShapes Go.WideShapes Go.ChangeAt Go.RowKit
set_option linter.unusedVariables false
theorem own : ownKnob Try.prog.godebug = none := by kernel_rfl
theorem laidOut : laidOutB Try.prog = true := by kernel_rfl

/-- The first rounds' state. -/
structure Held (wx wr : World) (E r k t x : Nat) (O : List Int) (S P : List Nat) : Prop where
  ram : RamAt wx.heap.size E wr r 8 t x O S P
  bel : Below wx.heap.size wx wr
  tk : t ≤ k
  xk : x ≤ k
theorem Held.turn {wx wr w2 : World} {E r k t t' x x' : Nat} {O O' : List Int} {S S' P P' : List Nat} (h : Held wx wr E r k t x O S P) (h2 : RamAt wx.heap.size E w2 r 8 t' x' O' S' P') (ht : Turns wx.heap.size E wr w2) (h3 : t' ≤ t + 1) (h4 : x' ≤ x + 1) : Held wx w2 E r (k + 1) t' x' O' S' P' :=
  ⟨h2, h.bel.trans (ht.below h.bel.size), by have := h.tk; omega, by have := h.xk; omega⟩
/-- The second rounds' state. -/
structure Seen (wx wr : World) (E r wa n t y : Nat) (O : List Int) (S P : List Nat) : Prop where
  ram : RamAt wx.heap.size E wr r 8 t y O S P
  was : WAt wr E wa n (all O P)
  bel : Below wx.heap.size wx wr
  yk : y ≤ 60 + n
theorem Seen.next {wx wr w2 : World} {E r wa n t y : Nat} {O : List Int} {S P : List Nat} {v : Value} {b : Bool} (h : Seen wx wr E r wa n t y O S P) (hn : n < 8) (h2 : RamAt wx.heap.size E w2 r 8 t (up y b) O S P) (ht : Turns wx.heap.size E wr w2)
    (hv : w2.ownsRow wr.heap.size 5 1 v (all O P n).length (bv (all O P n))) : Seen wx (w2.setCell ⟨wa, n, none⟩ v) E r wa (n + 1) t (up y b) O S P := by
  have hw := (h.was.turns ht).set hn (rowMono hv h.ram.hi.1)
  have lo := h.was.lo
  have e := h.ram.hi
  have hb := h.bel.trans (ht.below h.bel.size)
  refine ⟨h2.kept (by simp) (fun i hi => Below.heap_setCell _ _ _ _ (by show i ≠ wa; omega)), hw, hb.setCell (p := ⟨wa, n, none⟩) (by show wx.heap.size ≤ wa; omega) _, ?_⟩
  have := h.yk
  have := up_le y b
  omega
/-- The third rounds' state. -/
structure Kp (wx wr : World) (E r wa t y : Nat) (O : List Int) (S P P' : List Nat) : Prop where
  ram : RamAt wx.heap.size E wr r 8 t y O S P'
  was : WAt wr E wa 8 (all O P)
  bel : Below wx.heap.size wx wr
theorem Kp.turn {wx wr w2 : World} {E r wa t y y' : Nat} {O : List Int} {S P P' : List Nat} (h : Kp wx wr E r wa t y O S P P') (h2 : RamAt wx.heap.size E w2 r 8 t y' O S P') (ht : Turns wx.heap.size E wr w2) : Kp wx w2 E r wa t y' O S P P' :=
  ⟨h2, h.was.turns ht, h.bel.trans (ht.below h.bel.size)⟩
theorem Kp.drewN {wx wr : World} {E r wa t y : Nat} {O : List Int} {S P P' : List Nat} (h : Kp wx wr E r wa t y O S P P') (n : Nat) : Kp wx (wr.drewN n) E r wa t y O S P P' := h.turn (h.ram.below (drewN_below _ _ _)) (Turns.of_below (drewN_below _ _ _))
/-- What was told is written over. -/
structure Mod (wx wr wq : World) (E r t y : Nat) (O : List Int) (S P' : List Nat) (v : Value) (M : Nat) (T : List Nat) : Prop where
  ram : RamAt wx.heap.size E wq r 8 t y O S P'
  row : wq.ownsRow wr.heap.size 5 1 v M (bv T)
  turn : Turns wx.heap.size E wr wq
theorem Mod.set {wx wr wq : World} {E r t y : Nat} {O : List Int} {S P' : List Nat} {g M c : Nat} {T : List Nat} (h : Mod wx wr wq E r t y O S P' (.slice (some ⟨g, 0, none⟩) M c) M T) (hE : E ≤ wr.heap.size) (hg : wr.heap.size ≤ g) (i : Nat) :
    Mod wx wr (wq.setCell ⟨g, i, none⟩ (.int .u8 99)) E r t y O S P' (.slice (some ⟨g, 0, none⟩) M c) M (T.set i 99) := by
  refine ⟨h.ram.kept (by simp) (fun k hk => Below.heap_setCell _ _ _ _ (by show k ≠ g; omega)), ?_, h.turn.setNew (p := ⟨g, i, none⟩) hg _⟩
  have := (h.row.stored i (.int .u8 99)).1
  rw [show (Value.int .u8 99) = .int .u8 ((99 : Nat) : Int) from rfl, bv_set] at this
  exact this
theorem now_no {O : List Int} {P b : List Nat} {n a : Int} (h : thB O n a b.length = false) (j : Nat) : all O (wrP O P n a b) j = all O P j := by rw [wr_no h]
theorem now_at {O : List Int} {P b : List Nat} {nd ad n i m : Nat} (hl : P.length = m * 4096) (ho : O.length = m) (h : thB O nd ad b.length = true) (hi : i < (all O P n).length) :
    (all O (wrP O P nd ad b) n).getD i 0 = if n = nd ∧ ad ≤ i ∧ i < ad + b.length then b.getD (i - ad) 0 else (all O P n).getD i 0 := by
  have hl2 := wr_len (n := nd) (a := ad) (b := b) hl ho
  have hi2 : i < (all O (wrP O P nd ad b) n).length := by rw [all_len hl hl2 ho]; exact hi
  obtain ⟨_, _, h4, e1⟩ := all_at hl ho hi
  obtain ⟨_, _, _, e2⟩ := all_at (hl2.trans hl) ho hi2
  rw [e1, e2]
  exact wr_at hl ho h h4
/-- A frame that was given back, and taken anew. -/
theorem all_taken {O : List Int} {P : List Nat} {nd m : Nat} (hl : P.length = m * 4096) (ho : O.length = m) (hn : nd < m) : thB ((O.set nd 0).set nd 3) nd 0 4096 = true ∧ all ((O.set nd 0).set nd 3) (putAt P (nd * 4096) (List.replicate 4096 0)) nd = List.replicate 4096 0 := by
  have hg : ((O.set nd 0).set nd 3).getD nd 0 = 3 := by rw [getD_set _ _ _ _ (by simp; omega), if_pos rfl]
  have hy := all_yes (O := (O.set nd 0).set nd 3) (P := putAt P (nd * 4096) (List.replicate 4096 0)) (n := nd) (by rw [hg]; omega)
  refine ⟨hy.1, ?_⟩
  have e := plc_le (a := 0) (s := 4096) hn (by omega)
  have e2 := plc_nat nd 0
  have hrl : (List.replicate 4096 (0 : Nat)).length = 4096 := List.length_replicate
  have hpl : nd * 4096 + (List.replicate 4096 (0 : Nat)).length ≤ P.length := by rw [hrl]; omega
  rw [hy.2]
  refine ext_getD ?_ ?_
  · rw [length_seg (by rw [length_putAt hpl]; omega), hrl]
  · intro i hi
    rw [length_seg (by rw [length_putAt hpl]; omega)] at hi
    rw [seg_getD hi, putAt_getD hpl, if_pos (by rw [hrl]; omega), repN_getD, repN_getD]
theorem ramOwner_is {B E r m t x : Nat} {O : List Int} {S P : List Nat} {q : Int} (n : Int) (w : World) (h : RamAt B E w r m t x O S P) (hq : ownI O n = q) :
    Calls Try.prog 21 #[.pointer (some ⟨r, 0, none⟩), .int .i64 n] w fun e w' => e = .returned (.int .i64 q) ∧ w = w' := by
  rw [← hq]; exact ramOwner_any n w h
theorem tk_back (S : List Nat) (nd : Nat) : tkB (S ++ [nd]) 3 = true ∧ tkN (S ++ [nd]) 3 = nd := by
  have h : tkB (S ++ [nd]) 3 = true := tk_yes (by simp) (by omega) (by omega)
  refine ⟨h, ?_⟩
  rw [tkN, if_pos h]
  simp [List.getD]

set_option maxRecDepth 100000 in
set_option maxHeartbeats 8000000 in
theorem run (a : Option Addr) (L c : Nat) (D : Nat → Dd) (d : Dd) (w : World) (hL : L ≤ maxLen) (hds : DeedsAt w a L D) (hd : DeedOk w d) :
    Calls Try.prog 4 #[.slice a L c, .agg #[.int .i64 d.K, .int .i64 d.N, .int .i64 d.A, .int .i64 d.Z, .int .u64 (d.V : Int), .slice d.p d.l d.c]] w fun e w' => e = .returned (.bool true) ∧ Below w.heap.size w w' := by
  have hl := hd.l
  have hbox : Below w.heap.size w (w.alloc (.cells #[.int .i64 d.K, .int .i64 d.N, .int .i64 d.A, .int .i64 d.Z, .int .u64 (d.V : Int), .slice d.p d.l d.c] 50)) := (Below.refl _ w).alloc (Nat.le_refl _) _
  have HDD : Hid (DeedOk _ d) := hd.below hbox
  have HDS : Hid (DeedsAt _ a L D) := hds.below hbox
  have HBX : Hid (Below w.heap.size w (w.alloc (.cells #[.int .i64 d.K, .int .i64 d.N, .int .i64 d.A, .int .i64 d.Z, .int .u64 (d.V : Int), .slice d.p d.l d.c] 50))) := hbox
  have HCE : Hid ((w.alloc (.cells #[.int .i64 d.K, .int .i64 d.N, .int .i64 d.A, .int .i64 d.Z, .int .u64 (d.V : Int), .slice d.p d.l d.c] 50)).heap[w.heap.size]? = some (.cells #[.int .i64 d.K, .int .i64 d.N, .int .i64 d.A, .int .i64 d.Z, .int .u64 (d.V : Int), .slice d.p d.l d.c] 50 (0, 0))) := heap_alloc_new w _
  have HLM : Hid (L ≤ maxLen) := hL
  unfold maxLen at hl hL
  clear hd hds hbox
  go_enter Try.func4, Try.ntmps4
  go_wp2_with fail
  generalize w.alloc (.cells #[.int .i64 d.K, .int .i64 d.N, .int .i64 d.A, .int .i64 d.Z, .int .u64 (d.V : Int), .slice d.p d.l d.c] 50) = wx at *
  obtain ⟨bb, hbb⟩ : ∃ bb, w.heap.size = bb := ⟨_, rfl⟩
  rw [hbb] at HCE
  rw [hbb]
  have HBB : Hid (w.heap.size = bb) := hbb
  clear hbb
  have hlt : bb < wx.heap.size := (Array.getElem?_eq_some_iff.1 HCE.out).1
  have CL : Hid (∀ {w2 : World}, Below wx.heap.size wx w2 → w2.heap[bb]? = some (.cells #[.int .i64 d.K, .int .i64 d.N, .int .i64 d.A, .int .i64 d.Z, .int .u64 (d.V : Int), .slice d.p d.l d.c] 50 (0, 0))) := fun hb => (hb.block bb hlt).trans HCE.out
  clear hlt
  refine (great_any a L c D wx HLM.out HDS.out).mono ?_
  rintro e w' ⟨v, rfl, rfl, b, rfl, hg⟩
  cases b with
  | true =>
    clear hg
    go_wp2_with fail
    refine (lives_any _).mono ?_
    rintro e w1 ⟨rfl, hb⟩
    have hb2 := HBX.out.trans (hb.mono HBX.out.size)
    clear hb
    go_wp2
    go_ret
    exact ⟨rfl, hb2⟩
  | false =>
    have hL60 := hg rfl
    clear hg
    have k5 : wx.cell? ⟨bb, 5, none⟩ = some (.slice d.p d.l d.c) := by rw [cell_of_row wx bb 5 _ _ _ (CL.out (Below.refl _ _))]; rfl
    by_cases hlong : 5000 < d.l
    · go_wp2_with fail
      refine (lives_any _).mono ?_
      rintro e w1 ⟨rfl, hb⟩
      have hb2 := HBX.out.trans (hb.mono HBX.out.size)
      clear hb
      go_wp2
      go_ret
      exact ⟨rfl, hb2⟩
    go_wp2_with fail
    clear k5
    refine (ramNew_any 8 (by omega) (by omega) _).mono ?_
    rintro e w1 ⟨r, rfl, h1, b1⟩
    have HH : Hid (Held wx w1 w1.heap.size r 0 0 0 (List.replicate 8 0) (down 8) (List.replicate (8 * 4096) 0)) := ⟨h1, b1, Nat.le_refl _, Nat.le_refl _⟩
    clear h1 b1
    generalize List.replicate 8 (0 : Int) = O0 at *
    generalize down 8 = S0 at *
    generalize List.replicate (8 * 4096) (0 : Nat) = P0 at *
    generalize w1.heap.size = E at *
    go_wp2_with fail
    go_loopg [7] L (fun gk i wr => ∃ (k t x : Nat) (O : List Int) (S P : List Nat), k ≤ L ∧ gk = L - k ∧ i = .int .i64 k ∧ Held wx wr E r k t x O S P)
    case atStart => exact ⟨0, 0, 0, _, _, _, Nat.zero_le _, rfl, rfl, HH.out⟩
    case round =>
      obtain ⟨k, t, x, O, S, P, hk, rfl, rfl, hH⟩ := hrel
      by_cases hlt : k < L
      · obtain ⟨bz, off, rfl, hbz, _, c1, c2, _, _, c5⟩ := HDS.out.later hH.bel hlt
        have HOK : Hid (DeedOk wx (D k)) := HDS.out.ok hlt
        generalize D k = dk at *
        obtain ⟨q, hq⟩ : ∃ q, dk.N.tmod 3 = q := ⟨_, rfl⟩
        have hq1 : -2 ≤ q ∧ q ≤ 2 := by rw [← hq]; have := Int.tmod_lt_of_pos dk.N (show (0 : Int) < 3 by omega); have := Int.lt_tmod_of_pos dk.N (show (0 : Int) < 3 by omega); omega
        have i1 : (k : Int) < (L : Int) := by omega
        have htk := hH.tk
        have hxk := hH.xk
        have HH1 : Hid (Held wx wr E r k t x O S P) := hH
        clear hH
        go_wp2_with fail
        refine (ramTake_any (1 + q) _ HH1.out.ram (by omega)).mono ?_
        rintro e w2 ⟨rfl, h2, t2⟩
        have bw : Below wx.heap.size wr w2 := t2.below HH1.out.bel.size
        have d1 : w2.cell? ⟨bz, off + k * 6 + 1, none⟩ = some (.int .i64 dk.N) := (bw.cell (p := ⟨bz, off + k * 6 + 1, none⟩) hbz).trans c1
        have d2 : w2.cell? ⟨bz, off + k * 6 + 2, none⟩ = some (.int .i64 dk.A) := (bw.cell (p := ⟨bz, off + k * 6 + 2, none⟩) hbz).trans c2
        have d5 : w2.cell? ⟨bz, off + k * 6 + 5, none⟩ = some (.slice dk.p dk.l dk.c) := (bw.cell (p := ⟨bz, off + k * 6 + 5, none⟩) hbz).trans c5
        have htu := up_le t (tkB S (1 + q))
        have HTU : Hid (up t (tkB S (1 + q)) ≤ t + 1) := htu
        have HR2 : Hid (RamAt wx.heap.size E w2.drew r 8 (up t (tkB S (1 + q))) x (tkO O S (1 + q)) (tkS S (1 + q)) (tkP S P (1 + q))) := h2.below (drew_below _ _)
        have HB2 : Hid (Below wx.heap.size wx w2.drew) := (HH1.out.bel.trans bw).trans (drew_below _ _)
        have HN2 : Hid (NumsAt .u8 w2.drew dk.p dk.b) := nums_later HOK.out.nums HB2.out
        have HNE : Hid (∀ q, dk.p = some q → dk.b ≠ [] → q.block ≠ r) := by
          intro q hq hne
          have e1 := HOK.out.old q hq hne
          have e2 := h2.hi
          omega
        generalize hT : up t (tkB S (1 + q)) = T at *
        generalize tkO O S (1 + q) = O2 at *
        generalize tkP S P (1 + q) = P2 at *
        generalize tkN S (1 + q) = N2 at *
        generalize tkB S (1 + q) = B2 at *
        generalize tkS S (1 + q) = S2 at *
        clear hT h2 t2 bw c1 c2 c5 htu hq hq1
        go_upto_region 10 with (fail)
        go_region_with (go_at_call 9; refine (ramWrite_any dk.N dk.A _ HR2.out (by omega) HOK.out.l HOK.out.bl HN2.out HOK.out.byte HNE.out).mono ?_; rintro e w3 ⟨rfl, h3, t3⟩; have H3 : Hid _ := h3; have T3 : Hid _ := t3; clear h3 t3)
        all_goals
          go_wp2
          go_roundg (L - (k + 1))
          case measure => omega
          case rel => exact ⟨k + 1, _, _, _, _, _, by omega, rfl, by go_num, H3.out, HB2.out.trans (T3.out.below HB2.out.size), by have := HTU.out; omega, by have := up_le x (thB O2 dk.N dk.A dk.l); omega⟩
      · have e : k = L := by omega
        subst e
        have HS : Hid (Seen wx (wr.alloc (.cells (Array.replicate 8 (.slice none 0 0)) 56)) E r wr.heap.size 0 t x O S P) :=
          ⟨hH.ram.below ((Below.refl _ _).alloc (Nat.le_refl _) _), WAt.new wr E hH.ram.hi.1 _, hH.bel.alloc hH.bel.size _, by have := hH.xk; omega⟩
        obtain ⟨Z, hZ⟩ : ∃ Z : Array Value, Z = Array.replicate 8 (.slice none 0 0) := ⟨_, rfl⟩
        have hal := zero_was
        rw [← hZ] at hal HS
        have htk := hH.tk
        clear hH HH hZ
        go_wp2_with fail
        obtain ⟨wa, hwa⟩ : ∃ wa, wr.heap.size = wa := ⟨_, rfl⟩
        rw [hwa] at HS
        rw [hwa]
        clear hwa hal
        generalize wr.alloc (.cells Z 56) = w2 at *
        go_loopg [9] 8 (fun gk i wq => ∃ n y : Nat, n ≤ 8 ∧ gk = 8 - n ∧ i = .int .i64 n ∧ Seen wx wq E r wa n t y O S P)
        case atStart => exact ⟨0, _, by omega, rfl, rfl, HS.out⟩
        case round =>
          obtain ⟨n, y, hn, rfl, rfl, hS⟩ := hrel
          by_cases hlt : n < 8
          · have HS1 : Hid (Seen wx wr E r wa n t y O S P) := hS
            have hyk := hS.yk
            have i1 : (n : Int) < 8 := by omega
            clear hS HS
            go_wp2_with fail
            refine (ramRead_any (n : Int) 0 4096 _ HS1.out.ram (by omega) (by omega) (by omega)).mono ?_
            rintro e w3 ⟨v, rfl, own3, h3, t3⟩
            have HS3 : Hid (Seen wx (w3.setCell ⟨wa, n, none⟩ v) E r wa (n + 1) t _ O S P) := HS1.out.next hlt h3 t3 own3
            have HW3 := HS1.out.was.turns t3
            obtain ⟨vo, cw⟩ := HW3.some hlt
            have fw := HW3.frozen n
            obtain ⟨pv, cv, rfl⟩ := row_slice own3
            generalize thB O (n : Int) 0 4096 = bt at *
            clear own3 h3 t3 HW3
            go_wp2
            go_roundg (8 - (n + 1))
            case measure => omega
            case rel => exact ⟨n + 1, _, by omega, rfl, by go_num, HS3.out⟩
          · have e : n = 8 := by omega
            subst e
            have HS1 : Hid (Seen wx wr E r wa 8 t y O S P) := hS
            have hyk := hS.yk
            have k1 : wr.cell? ⟨bb, 1, none⟩ = some (.int .i64 d.N) := by rw [cell_of_row wr bb 1 _ _ _ (CL.out hS.bel)]; rfl
            have k2 : wr.cell? ⟨bb, 2, none⟩ = some (.int .i64 d.A) := by rw [cell_of_row wr bb 2 _ _ _ (CL.out hS.bel)]; rfl
            have k5 : wr.cell? ⟨bb, 5, none⟩ = some (.slice d.p d.l d.c) := by rw [cell_of_row wr bb 5 _ _ _ (CL.out hS.bel)]; rfl
            clear hS HS
            go_wp2_with fail
            refine (ramWrite_any d.N d.A _ HS1.out.ram (by omega) HDD.out.l HDD.out.bl (nums_later HDD.out.nums HS1.out.bel) HDD.out.byte ?_).mono ?_
            · intro q hq hne
              have e1 := HDD.out.old q hq hne
              have e2 := HS1.out.ram.hi
              omega
            rintro e w3 ⟨rfl, h3, t3⟩
            have HPL : Hid (P.length = 8 * 4096) := HS1.out.ram.len
            have HOL : Hid (O.length = 8) := HS1.out.ram.good.len
            obtain ⟨ok, hok⟩ : ∃ ok, thB O d.N d.A d.l = ok := ⟨_, rfl⟩
            have HTB : Hid (thB O d.N d.A d.b.length = ok) := by show _ = _; rw [HDD.out.bl]; exact hok
            rw [hok] at h3 ⊢
            have HPP : Hid ((wrP O P d.N d.A d.b).length = P.length) := wr_len HPL.out HOL.out
            obtain ⟨P', hP'⟩ : ∃ P', wrP O P d.N d.A d.b = P' := ⟨_, rfl⟩
            have HPE : Hid (wrP O P d.N d.A d.b = P') := hP'
            rw [hP'] at h3 HPP
            have hyk3 := up_le y ok
            generalize up y ok = y3 at *
            have HK3 : Hid (Kp wx w3 E r wa t y3 O S P P') := ⟨h3, HS1.out.was.turns t3, HS1.out.bel.trans (t3.below HS1.out.bel.size)⟩
            clear h3 t3 k1 k2 k5 hok hP'
            go_wp2_with fail
            go_loopg [11, 12, 13, 14, 15, 16, 17, 18, 19] 8 (fun gk i _ _ _ _ _ _ _ _ wq => ∃ n y : Nat, n ≤ 8 ∧ gk = 8 - n ∧ i = .int .i64 n ∧ y ≤ 69 + 2 * n ∧ Kp wx wq E r wa t y O S P P')
            case atStart => exact ⟨0, y3, by omega, rfl, rfl, by omega, HK3.out⟩
            case round =>
              obtain ⟨n, y4, hn, rfl, rfl, hy4, hK⟩ := hrel
              have HK : Hid (Kp wx wr E r wa t y4 O S P P') := hK
              clear hK
              by_cases hlt : n < 8
              · have i1 : (n : Int) < 8 := by omega
                generalize wr = w0 at *
                go_wp2_with fail
                refine (ramRead_any (n : Int) 0 4096 _ HK.out.ram (by omega) (by omega) (by omega)).mono ?_
                rintro e w4 ⟨v, rfl, own4, h4, t4⟩
                obtain ⟨q, hq⟩ : ∃ q, ownI O (n : Int) = q := ⟨_, rfl⟩
                have HQ : Hid (ownI O (n : Int) = q) := hq
                obtain ⟨bt, hbt⟩ : ∃ bt, thB O (n : Int) 0 4096 = bt := ⟨_, rfl⟩
                have HBT : Hid (bt = decide (q ≠ 0)) := by
                  show _ = _
                  rw [← hbt, ← hq, thB]
                  simp
                rw [hbt] at h4 ⊢
                obtain ⟨M, hM⟩ : ∃ M, (all O P' n).length = M := ⟨_, rfl⟩
                have own4' : w4.ownsRow w0.heap.size 5 1 v (all O P' n).length (bv (all O P' n)) := own4
                rw [hM] at own4'
                have hMw : (all O P n).length = M := by rw [← hM]; exact (all_len HPL.out HPP.out HOL.out).symm
                have HMW : Hid ((all O P n).length = M) := hMw
                have hM4 : M ≤ 4096 := by rw [← hM]; unfold all rdL; split; · simp [seg]; omega
                                          · simp
                have hyu := up_le y4 bt
                generalize up y4 bt = y5 at *
                have HK4 : Hid (Kp wx w4 E r wa t y5 O S P P') := HK.out.turn h4 t4
                have HT4 : Hid (Turns wx.heap.size E w0 w4) := t4
                obtain ⟨vw, cw, ownw⟩ := HK4.out.was.cell hlt
                rw [hMw] at ownw
                have HOW : Hid (w4.ownsRow E 5 1 vw M (bv (all O P n))) := ownw
                have HON : Hid (w4.ownsRow w0.heap.size 5 1 v M (bv (all O P' n))) := own4'
                obtain ⟨pn, cn, rfl⟩ := row_slice own4'
                obtain ⟨pw, cww, rfl⟩ := row_slice ownw
                clear own4 own4' ownw h4 t4 hq hbt hM hMw
                go_upto_region 21 with (fail)
                go_cut [119] (fun c wz => c = .bool false ∧ w4 = wz)
                case first =>
                  by_cases hq0 : q = 0
                  · have hb0 : bt = false := by rw [HBT.out, hq0]; rfl
                    subst hb0 hq0
                    go_wp2_with fail
                    refine (ramOwner_is _ _ HK4.out.ram HQ.out).mono ?_
                    rintro e w5 ⟨rfl, rfl⟩
                    go_wp2
                    go_meet
                    exact ⟨rfl, rfl⟩
                  · have hb0 : bt = true := by rw [HBT.out, decide_eq_true hq0]
                    subst hb0
                    have hq1 : (q == 0) = false := by rw [beq_eq_false_iff_ne]; exact hq0
                    have hq2 : (q != 0) = true := by rw [bne_iff_ne]; exact hq0
                    go_wp2_with fail
                    refine (ramOwner_is _ _ HK4.out.ram HQ.out).mono ?_
                    rintro e w5 ⟨rfl, rfl⟩
                    go_wp2
                    go_meet
                    exact ⟨rfl, rfl⟩
                case rest =>
                  obtain ⟨rfl, rfl⟩ := hcut
                  have HCW : Hid (w4.cell? ⟨wa, n, none⟩ = some (.slice pw M cww)) := cw
                  clear cw
                  go_wp2_with fail
                  go_loopg [14, 15] M (fun gk i _ wq => ∃ j m : Nat, j ≤ M ∧ gk = M - j ∧ i = .int .i64 j ∧ wq = w4.drewN m)
                  case atStart => exact ⟨0, 0, Nat.zero_le _, rfl, rfl, rfl⟩
                  case round =>
                    obtain ⟨j, m, hj, rfl, rfl, rfl⟩ := hrel
                    by_cases hjM : j < M
                    · have k1 : w4.cell? ⟨bb, 1, none⟩ = some (.int .i64 d.N) := by rw [cell_of_row w4 bb 1 _ _ _ (CL.out HK4.out.bel)]; rfl
                      have k2 : w4.cell? ⟨bb, 2, none⟩ = some (.int .i64 d.A) := by rw [cell_of_row w4 bb 2 _ _ _ (CL.out HK4.out.bel)]; rfl
                      have k5 : w4.cell? ⟨bb, 5, none⟩ = some (.slice d.p d.l d.c) := by rw [cell_of_row w4 bb 5 _ _ _ (CL.out HK4.out.bel)]; rfl
                      have jM : (j : Int) < (M : Int) := by omega
                      obtain ⟨inn, hinn⟩ : ∃ inn : Bool, inn = (ok && decide ((n : Int) = d.N ∧ d.A ≤ (j : Int) ∧ (j : Int) - d.A < (d.l : Int))) := ⟨_, rfl⟩
                      have HIN : Hid (inn = (ok && decide ((n : Int) = d.N ∧ d.A ≤ (j : Int) ∧ (j : Int) - d.A < (d.l : Int)))) := hinn
                      clear hinn
                      go_upto_region 26 with (fail)
                      go_cut [15] (fun c wz => c = .bool inn ∧ wz = w4.drewN m)
                      case first =>
                        cases ok with
                        | false =>
                          have hi0 : inn = false := by rw [HIN.out]; rfl
                          subst hi0
                          go_wp2
                          go_meet
                          exact ⟨rfl, rfl⟩
                        | true =>
                          have HI2 : Hid (inn = decide ((n : Int) = d.N ∧ d.A ≤ (j : Int) ∧ (j : Int) - d.A < (d.l : Int))) := HIN.out
                          obtain ⟨nd, ad, sd, hnd, had, hsd, hnl, h0, has⟩ := th_of HTB.out
                          rw [hnd] at k1
                          rw [had] at k2
                          rw [hnd, had] at HI2
                          clear hnd had hsd hnl h0 HIN
                          by_cases c1 : n = nd
                          · subst c1
                            have e1 : ((n : Int) == (n : Int)) = true := beq_self_eq_true _
                            by_cases c2 : ad ≤ j
                            · have e2 : (ad : Int) ≤ (j : Int) := by omega
                              go_wp2
                              go_meet
                              refine ⟨congrArg Value.bool ?_, rfl⟩
                              rw [HI2.out]
                              apply decide_eq_decide.2
                              exact ⟨fun h => ⟨trivial, e2, h⟩, fun h => h.2.2⟩
                            · have e2 : ¬ (ad : Int) ≤ (j : Int) := by omega
                              have hi0 : inn = false := by rw [HI2.out]; exact decide_eq_false (by omega)
                              subst hi0
                              go_wp2
                              go_meet
                              exact ⟨rfl, rfl⟩
                          · have e1 : ((n : Int) == (nd : Int)) = false := by rw [beq_eq_false_iff_ne]; omega
                            have hi0 : inn = false := by rw [HI2.out]; exact decide_eq_false (by omega)
                            subst hi0
                            go_wp2
                            go_meet
                            exact ⟨rfl, rfl⟩
                      case rest =>
                        obtain ⟨rfl, rfl⟩ := hcut
                        obtain ⟨gn, rfl, cnj, _⟩ := row_at HON.out hjM
                        have hjn : j < (all O P' n).length := by have := HON.out.1; simp at this; omega
                        rw [bv_at _ _ hjn] at cnj
                        cases inn with
                        | true =>
                          obtain ⟨hok, hcond⟩ : ok = true ∧ ((n : Int) = d.N ∧ d.A ≤ (j : Int) ∧ (j : Int) - d.A < (d.l : Int)) := by
                            have h := HIN.out.symm
                            rw [Bool.and_eq_true] at h
                            exact ⟨h.1, of_decide_eq_true h.2⟩
                          subst hok
                          obtain ⟨nd, ad, sd, hnd, had, hsd, hnl, h0, has⟩ := th_of HTB.out
                          have hna := now_at (n := n) (i := j) (P := P) (b := d.b) (nd := nd) (ad := ad) HPL.out HOL.out (by rw [← hnd, ← had]; exact HTB.out) (by rw [HMW.out]; exact hjM)
                          have hbl := HDD.out.bl
                          rw [← hnd, ← had, HPE.out, if_pos (by omega)] at hna
                          rcases nums_later HDD.out.nums HK4.out.bel with hbn | ⟨pb, po, hp, _, hcb⟩
                          · rw [hbn] at hbl; simp at hbl; omega
                          have cb := hcb (j - ad) (by omega)
                          rw [hp] at k5
                          rw [hna] at cnj
                          rw [had] at k2
                          generalize d.b.getD (j - ad) 0 = q4 at *
                          obtain ⟨i2, hi2⟩ : ∃ i2, j - ad = i2 := ⟨_, rfl⟩
                          rw [hi2] at cb
                          have e3 : (j : Int) - (ad : Int) = (i2 : Int) := by omega
                          have e4 : (i2 : Int) < (d.l : Int) := by omega
                          have e5 : IntKind.i64.wrap (i2 : Int) = (i2 : Int) := IntWalk.i64_in _ (by omega)
                          clear hcond hnd had hsd hnl h0 has hna hbl hp hcb hi2 HIN k1 hjn
                          go_upto_region 27 with (fail)
                          first | (go_quiet (fail)) | (fail "the region")
                          go_wp2
                          go_roundg (M - (j + 1))
                          case measure => omega
                          case rel => exact ⟨j + 1, _, by omega, rfl, by go_num, rfl⟩
                        | false =>
                          obtain ⟨gw, rfl, cwj, _⟩ := row_at HOW.out hjM
                          rw [bv_at _ _ (by rw [HMW.out]; exact hjM)] at cwj
                          have hsame : (all O P' n).getD j 0 = (all O P n).getD j 0 := by
                            cases ok with
                            | false => rw [← HPE.out, now_no HTB.out]
                            | true =>
                              obtain ⟨nd, ad, sd, hnd, had, hsd, hnl, h0, has⟩ := th_of HTB.out
                              have hna := now_at (n := n) (i := j) (P := P) (b := d.b) (nd := nd) (ad := ad) HPL.out HOL.out (by rw [← hnd, ← had]; exact HTB.out) (by rw [HMW.out]; exact hjM)
                              have hbl := HDD.out.bl
                              have hcond : ¬ ((n : Int) = d.N ∧ d.A ≤ (j : Int) ∧ (j : Int) - d.A < (d.l : Int)) := of_decide_eq_false HIN.out.symm
                              rw [← hnd, ← had, HPE.out, if_neg (by omega)] at hna
                              exact hna
                          rw [hsame] at cnj
                          generalize (all O P n).getD j 0 = q4 at *
                          have cw := HCW.out
                          clear hsame hjn k1 k2 k5
                          go_upto_region 27 with (fail)
                          first | (go_quiet (fail)) | (fail "the region")
                          go_wp2
                          go_roundg (M - (j + 1))
                          case measure => omega
                          case rel => exact ⟨j + 1, _, by omega, rfl, by go_num, rfl⟩
                    · have e : j = M := by omega
                      have jj : ¬ (j : Int) < (M : Int) := by omega
                      have HEE : Hid (E ≤ w0.heap.size) := HK.out.ram.hi.1
                      have HMD : Hid (Mod wx w0 (w4.drewN m) E r t y5 O S P' (.slice pn M cn) M (all O P' n)) := ⟨HK4.out.ram.below (drewN_below _ _ _), row_below HON.out (drewN_below _ _ _), HT4.out.trans (Turns.of_below (drewN_below _ _ _))⟩
                      have HTL : Hid ((all O P' n).length = M) := by have := HON.out.1; simp at this; exact this
                      generalize w4.drewN m = w5 at *
                      clear HON HOW HCW e
                      go_wp2_with fail
                      go_loopg [16] M (fun gk i wq => ∃ (l : Nat) (T : List Nat), l ≤ M ∧ gk = M - l ∧ i = .int .i64 l ∧ T.length = M ∧ Mod wx w0 wq E r t y5 O S P' (.slice pn M cn) M T)
                      case atStart => exact ⟨0, _, Nat.zero_le _, rfl, rfl, HTL.out, HMD.out⟩
                      case round =>
                        obtain ⟨l, T, hl2, rfl, rfl, hT, hmod⟩ := hrel
                        have HMD2 : Hid (Mod wx w0 _ E r t y5 O S P' (.slice pn M cn) M T) := hmod
                        clear hmod HMD
                        by_cases hlM : l < M
                        · obtain ⟨gn, rfl, cl, fl, hg1, hg2⟩ := row_at HMD2.out.row hlM
                          rw [bv_at _ _ (by rw [hT]; exact hlM)] at cl
                          generalize T.getD l 0 = qq at *
                          have lM : (l : Int) < (M : Int) := by omega
                          have HM3 : Hid _ := HMD2.out.set HEE.out hg1 l
                          have HT3 : Hid ((T.set l 99).length = M) := by show _ = _; rw [List.length_set]; exact hT
                          clear hg1 hg2 hT
                          go_wp2
                          go_roundg (M - (l + 1))
                          case measure => omega
                          case rel => exact ⟨l + 1, _, by omega, rfl, by go_num, HT3.out, HM3.out⟩
                        · have lM : ¬ (l : Int) < (M : Int) := by omega
                          clear hT
                          go_wp2_with fail
                          refine (ramRead_any (n : Int) 0 4096 _ HMD2.out.ram (by omega) (by omega) (by omega)).mono ?_
                          rintro e w6 ⟨v6, rfl, own6, h6, t6⟩
                          have hyu6 := up_le y5 (thB O (n : Int) 0 4096)
                          generalize up y5 (thB O (n : Int) 0 4096) = y6 at *
                          generalize thB O (n : Int) 0 4096 = bt6 at *
                          have HK6 : Hid (Kp wx w6 E r wa t y6 O S P P') := HK.out.turn h6 (HMD2.out.turn.trans t6)
                          obtain ⟨vw, cw, ownw⟩ := HK6.out.was.cell hlt
                          rw [HMW.out] at ownw
                          have own6' : w6.ownsRow _ 5 1 v6 (all O P' n).length (bv (all O P' n)) := own6
                          rw [HTL.out] at own6'
                          obtain ⟨p6, c6, rfl⟩ := row_slice own6'
                          obtain ⟨pw6, cw6, rfl⟩ := row_slice ownw
                          have HO6 : Hid (w6.ownsRow _ 5 1 (.slice p6 M c6) M (bv (all O P' n))) := own6'
                          have HW6 : Hid (w6.ownsRow E 5 1 (.slice pw6 M cw6) M (bv (all O P n))) := ownw
                          have HCW : Hid (w6.cell? ⟨wa, n, none⟩ = some (.slice pw6 M cw6)) := cw
                          clear own6 own6' ownw cw h6 t6
                          go_wp2_with fail
                          go_loopg [19] M (fun gk i wq => ∃ j2 m2 : Nat, j2 ≤ M ∧ gk = M - j2 ∧ i = .int .i64 j2 ∧ wq = w6.drewN m2)
                          case atStart => exact ⟨0, 0, Nat.zero_le _, rfl, rfl, rfl⟩
                          case round =>
                            obtain ⟨j2, m2, hj2, rfl, rfl, rfl⟩ := hrel
                            cases ok with
                            | true =>
                              by_cases hjM2 : j2 < M
                              · have e1 : (j2 : Int) < (M : Int) := by omega
                                go_wp2
                                go_roundg (8 - (n + 1))
                                case measure => omega
                                case rel => exact ⟨n + 1, _, by omega, rfl, by go_num, by omega, HK6.out.drewN _⟩
                              · have e1 : ¬ (j2 : Int) < (M : Int) := by omega
                                go_wp2
                                go_roundg (8 - (n + 1))
                                case measure => omega
                                case rel => exact ⟨n + 1, _, by omega, rfl, by go_num, by omega, HK6.out.drewN _⟩
                            | false =>
                              by_cases hjM2 : j2 < M
                              · have e1 : (j2 : Int) < (M : Int) := by omega
                                obtain ⟨gn, rfl, cnj, _⟩ := row_at HO6.out hjM2
                                obtain ⟨gw, rfl, cwj, _⟩ := row_at HW6.out hjM2
                                rw [bv_at _ _ (by rw [HMW.out]; exact hjM2)] at cwj
                                rw [bv_at _ _ (by rw [HTL.out]; exact hjM2), ← HPE.out, now_no HTB.out] at cnj
                                generalize (all O P n).getD j2 0 = q4 at *
                                have cw := HCW.out
                                go_wp2_with fail
                                go_quiet (fail)
                                go_wp2
                                go_roundg (M - (j2 + 1))
                                case measure => omega
                                case rel => exact ⟨j2 + 1, _, by omega, rfl, by go_num, rfl⟩
                              · have e1 : ¬ (j2 : Int) < (M : Int) := by omega
                                go_wp2
                                go_roundg (8 - (n + 1))
                                case measure => omega
                                case rel => exact ⟨n + 1, _, by omega, rfl, by go_num, by omega, HK6.out.drewN _⟩
              · have e : n = 8 := by omega
                subst e
                cases ok with
                | false =>
                  go_wp2_with fail
                  refine (lives_any _).mono ?_
                  rintro e w5 ⟨rfl, b5⟩
                  have hfin := HBX.out.trans ((HK.out.bel.trans (b5.mono HK.out.bel.size)).mono HBX.out.size)
                  clear b5
                  go_wp2
                  go_ret
                  exact ⟨rfl, hfin⟩
                | true =>
                  obtain ⟨nd, ad, sd, hnd, had, hsd, hnl, h0, has⟩ := th_of HTB.out
                  rw [HOL.out] at hnl
                  have k1 : wr.cell? ⟨bb, 1, none⟩ = some (.int .i64 (nd : Int)) := by rw [cell_of_row wr bb 1 _ _ _ (CL.out HK.out.bel), ← hnd]; rfl
                  have HPL' : Hid (P'.length = 8 * 4096) := HPP.out.trans HPL.out
                  have hgv : gvB O (nd : Int) = true := gv_yes h0
                  have hgo : gvO O (nd : Int) = O.set nd 0 := by simp [gvO, hgv]
                  have hgs : gvS O S (nd : Int) = S ++ [nd] := by simp [gvS, hgv]
                  have HG : Hid (gvB O (nd : Int) = true ∧ gvO O (nd : Int) = O.set nd 0 ∧ gvS O S (nd : Int) = S ++ [nd]) := ⟨hgv, hgo, hgs⟩
                  have HND : Hid (d.N = (nd : Int)) := hnd
                  have HNL : Hid (nd < 8) := hnl
                  clear hnd had hsd hnl h0 has hgv hgo hgs
                  go_wp2_with fail
                  refine (ramGive_any (nd : Int) _ HK.out.ram (by omega)).mono ?_
                  rintro e w5 ⟨rfl, h5, t5⟩
                  rw [HG.out.1, HG.out.2.1, HG.out.2.2] at h5
                  rw [HG.out.1]
                  have hb5 := HK.out.bel.trans (t5.below HK.out.bel.size)
                  have hu5 := up_le t true
                  generalize up t true = t6 at *
                  have H5 : Hid (RamAt wx.heap.size E w5 r 8 t6 y4 (O.set nd 0) (S ++ [nd]) P') := h5
                  have HB5 : Hid (Below wx.heap.size wx w5) := hb5
                  clear h5 t5 hb5 k1
                  go_wp2_with fail
                  refine (ramTake_any 3 _ H5.out (by omega)).mono ?_
                  rintro e w6 ⟨rfl, h6, t6'⟩
                  have hpt : tkP (S ++ [nd]) P' 3 = putAt P' (nd * 4096) (List.replicate 4096 0) := by rw [tkP, if_pos (tk_back S nd).1, (tk_back S nd).2]
                  have hot : tkO (O.set nd 0) (S ++ [nd]) 3 = (O.set nd 0).set nd 3 := by
                    have := (tk_back S nd).2
                    rw [tkN, if_pos (tk_back S nd).1] at this
                    rw [tkO, if_pos (tk_back S nd).1, this]
                  rw [hpt, hot, (tk_back S nd).1] at h6
                  rw [(tk_back S nd).1, (tk_back S nd).2]
                  have H6 : Hid (RamAt wx.heap.size E w6 r 8 (up t6 true) y4 ((O.set nd 0).set nd 3) (tkS (S ++ [nd]) 3) (putAt P' (nd * 4096) (List.replicate 4096 0))) := h6
                  have HB6 : Hid (Below wx.heap.size wx w6) := HB5.out.trans (t6'.below HB5.out.size)
                  clear h6 t6' hpt hot
                  go_wp2_with fail
                  refine (ramRead_any (nd : Int) 0 4096 _ H6.out (by omega) (by omega) (by omega)).mono ?_
                  rintro e w7 ⟨v, rfl, own7, h7, t7⟩
                  obtain ⟨ht7, ha7⟩ := all_taken (P := P') (O := O) (m := 8) HPL'.out HOL.out HNL.out
                  rw [ht7]
                  have own7' : w7.ownsRow w6.heap.size 5 1 v 4096 (bv (List.replicate 4096 0)) := by
                    have e : rdL ((O.set nd 0).set nd 3) (putAt P' (nd * 4096) (List.replicate 4096 0)) (nd : Int) 0 4096 = List.replicate 4096 0 := ha7
                    rw [e, List.length_replicate] at own7
                    exact own7
                  have HO7 : Hid (w7.ownsRow w6.heap.size 5 1 v 4096 (bv (List.replicate 4096 0))) := own7'
                  have hb7 := HB6.out.trans (t7.below HB6.out.size)
                  have HB7 : Hid (Below wx.heap.size wx w7) := hb7
                  have k1 : w7.cell? ⟨bb, 1, none⟩ = some (.int .i64 (nd : Int)) := by rw [cell_of_row w7 bb 1 _ _ _ (CL.out hb7), ← HND.out]; rfl
                  obtain ⟨Z, hZ⟩ : ∃ Z, Z = madeCells #[Value.int .u8 0] 4096 := ⟨_, rfl⟩
                  have hmk : ∀ w, (Instr.makeSlice 24 (.int .i64 4096) (.int .i64 4096)).run Try.prog w = .ok (.slice (some ⟨w.heap.size, 0, none⟩) 4096 4096) (w.alloc (.cells Z 5)) := by
                    intro w
                    rw [hZ]
                    exact run_make_row' (P := Try.prog) 24 5 (.int .u8 0) 1 Try.underlying24 Try.info5 rfl .i64 .i64 4096 (by omega) (by omega) w
                  have HMR : Hid (∀ w : World, (w.alloc (.cells Z 5)).ownsRow w.heap.size 5 1 (.slice (some ⟨w.heap.size, 0, none⟩) 4096 4096) 4096 (bv (List.replicate 4096 0))) := by
                    intro w
                    have h := World.ownsRow_lit (base := w.heap.size) (e := 5) (size := 1) w Z 4096 (Nat.le_refl _) (by unfold maxLen; omega) (by rw [hZ, size_madeCells])
                    rw [hZ, made_bytes] at h
                    rw [hZ]
                    exact h
                  have hnn : ((nd : Int) == (nd : Int)) = true := beq_self_eq_true _
                  obtain ⟨pv, cv, rfl⟩ := row_slice own7'
                  clear own7 own7' h7 t7 hb7 hZ ht7 ha7
                  go_wp2_with fail
                  refine (refBytes_same _ _ (List.replicate 4096 0) _ (conv_any (HO7.out.alloc _)) (conv_any (HMR.out w7))).mono ?_
                  rintro e w8 ⟨rfl, rfl⟩
                  have hb8 : Below wx.heap.size wx (w7.alloc (.cells Z 5)) := HB7.out.alloc HB7.out.size _
                  go_wp2_with fail
                  refine (lives_any _).mono ?_
                  rintro e w9 ⟨rfl, b9⟩
                  have hfin := HBX.out.trans ((hb8.trans (b9.mono hb8.size)).mono HBX.out.size)
                  clear b9 hb8 hmk
                  go_wp2
                  go_ret
                  exact ⟨rfl, hfin⟩

theorem walk {H : Type} {enc : TypeId × Value → H} {w : World} {base : Nat} {v0 v1 : Value} {d0 d1 : DataW H} {p0 p1 : List MemPlace}
    (o0 : Value.okWide Try.prog w .any base 22 v0) (o1 : Value.okWide Try.prog w .any base 50 v1)
    (h0 : DataW.Trod enc Try.prog w 0 (fun _ => true) true 22 v0 d0 p0) (h1 : DataW.Trod enc Try.prog w 0 (fun _ => true) true 50 v1 d1 p1) :
    Calls Try.prog 4 #[v0, v1] w fun e w' => e = .returned (.bool true) ∧ Below w.heap.size w w' := by
  obtain ⟨a, L, c, D, rfl, hL, hds⟩ := openDeeds Try.underlying22 Try.underlying50 (by kernel_rfl) (by kernel_rfl) Try.underlying3 Try.underlying3 Try.underlying3 Try.underlying3 Try.underlying27 Try.underlying24 Try.underlying5 (by kernel_rfl) o0 h0
  obtain ⟨q, rfl, hq⟩ := openDeed Try.underlying50 (by kernel_rfl) (by kernel_rfl) Try.underlying3 Try.underlying3 Try.underlying3 Try.underlying3 Try.underlying27 Try.underlying24 Try.underlying5 (by kernel_rfl) o1 h1
  exact run a L c D q w hL hds hq

set_option maxRecDepth 100000 in
theorem lifted (os : Os) (started : os.Started) (H : Type) (enc : TypeId × Value → H) :
    ReturnsInHanded {} Try.checked os 4 .any (Rows.ramKeepsSpec.pre6 enc Try.prog Try.f4 Rows.ramKeepsRow.domain false) (Rows.ramKeepsSpec.post enc Try.prog Try.f4 false true false false) := by
  refine returnsInHanded_of_change (C := Try.checked) own started (by kernel_rfl) Try.func4
    (ChangeSpec.witness6 (enc := enc) (C := Try.checked) false ⟨#[], #[.slice none 0 0, .agg #[.int .i64 0, .int .i64 0, .int .i64 0, .int .i64 0, .int .u64 0, .slice none 0 0]], []⟩ 8 (by kernel_rfl) (by kernel_rfl) (by kernel_rfl) (by kernel_rfl)) ?_
  intro W base args ds gs before hval0 hW hcnd _
  have hval : ∀ (j : Nat) t v, Try.f4.params[j]? = some t → args[j]? = some v → Value.okWide Try.prog W .any base t v := hval0
  have hW' := hW
  obtain ⟨p, q, hA0, hV, rfl, hfz, hnd⟩ := hW
  have hA : DataW.TrodAll enc Try.prog W 0 (fun _ => true) true Try.f4.params.toList args.toList ds p := hA0
  rw [Try.params4] at hA hval
  obtain ⟨v0, vs0, d0, ds0, p0, q0, hargs, rfl, rfl, h0, r0⟩ := trodAll_cons hA
  obtain ⟨v1, vs1, d1, ds1, p1, q1, rfl, rfl, rfl, h1, r1⟩ := trodAll_cons r0
  obtain ⟨rfl, rfl, rfl⟩ := trodAll_nil r1
  obtain rfl : args = #[v0, v1] := by cases args; simp_all
  obtain ⟨rfl, rfl⟩ := trodVars_none hV
  have o0 := hval 0 22 v0 rfl rfl
  have lt0 : ∀ x ∈ p0, x.block < W.heap.size := by obtain ⟨m, hm⟩ := h0; exact DataW.trod_lt m _ _ _ hm
  have o1 := hval 1 50 v1 rfl rfl
  have lt1 : ∀ x ∈ p1, x.block < W.heap.size := by obtain ⟨m, hm⟩ := h1; exact DataW.trod_lt m _ _ _ hm
  clear hA0 hval0
  refine (walk o0 o1 h0 h1).mono fun e W' ⟨he, bel⟩ => ?_
  subst he
  exact ⟨_, rfl, _, _, _, [], _, [], hW', trodAll_mk1 (shut_bool Try.underlying4 _), (trodAll_cons_mk (Below.trod laidOut (by kernel_rfl) (of_decide_eq_true (by kernel_rfl)) h0 bel lt0) (trodAll_cons_mk (Below.trod laidOut (by kernel_rfl) (of_decide_eq_true (by kernel_rfl)) h1 bel lt1) trodAll_mk0)), rfl, bel.frame _, fun h => by cases h⟩

theorem over : Rows.ramKeepsRow.holds Try.pinned (OpenSpec.ofChange Rows.ramKeepsSpec) :=
  OpenClaim.holds_of_wide 4 Try.f4 rfl rfl rfl rfl rfl rfl rfl ⟨rfl, rfl, rfl, rfl, rfl⟩ rfl rfl rfl rfl rfl (by kernel_rfl) Try.func4 (by kernel_rfl)
    (of_decide_eq_true (by kernel_rfl)) (by unfold Func.isWrapper; first | (rw [if_pos (by decide +kernel)]; kernel_rfl) | (rw [if_neg (by decide +kernel)]; exact ⟨rfl, rfl⟩))
    (fun os started H enc _ => lifted os started H enc)
end Go.Proofs.Yteebjeifbccbnaa.RamKeeps
namespace Go.Proofs.Yteebjeifbccbnaa
/-- The statement. -/
theorem ramKeeps_holds : Rows.RamKeepsSaid := RamKeeps.over
#print axioms ramKeeps_holds
end Go.Proofs.Yteebjeifbccbnaa
