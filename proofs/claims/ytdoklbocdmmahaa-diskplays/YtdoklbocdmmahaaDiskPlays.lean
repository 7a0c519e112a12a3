/- Proved: gunnylaw08.DiskPlays returns true for all ints, all lists of bools and all lists of deeds: what any calls of a disk of any number of sectors answer, by any choices, and how many accesses were asked for, failed and are left, is the document's; of a disk that isn't there nothing is. No conditions. -/
import Derived.Test.YtdoklbocdmmahaaDGreat
import Derived.Test.YtdoklbocdmmahaaDDocW
import Derived.Deep.LoopGhost
import Derived.Deep.RegionHeld3
import Derived.Deep.DeepCutAuto
namespace Go.Proofs.Ytdoklbocdmmahaa.DiskPlays
open Go.ChangeShapes Go.WideShapes Go.ChangeAt Go.RowKit
set_option linter.unusedVariables false
theorem own : ownKnob Try.prog.godebug = none := by kernel_rfl
theorem laidOut : laidOutB Try.prog = true := by kernel_rfl
/-- The rounds' state. -/
structure Play (wx wq : World) (B E xb r m j k : Nat) (zs : List Bool) (vz vL : Value) (P : List Nat) (L : List Wt) : Prop where
  disk : DiskAt B E wq r m zs k P
  log : LogAt E wq vL L
  asl : AsLog m P L
  var : wq.heap[xb]? = some (.cells #[.int .i64 (m : Int), vz, .int .i64 (k : Int), vL] 39 (0, 0))
  bel : Below wx.heap.size wx wq
  lo : wx.heap.size ≤ B ∧ E ≤ xb
  kj : k ≤ j
  lj : L.length ≤ j
section
variable {wx wq w2 : World} {B E xb r m j k : Nat} {zs : List Bool} {vz vL : Value} {P : List Nat} {L : List Wt}
theorem Play.below (h : Play wx wq B E xb r m j k zs vz vL P L) (hb : Below wq.heap.size wq w2) : Play wx w2 B E xb r m j k zs vz vL P L :=
  ⟨h.disk.below hb, h.log.below hb, h.asl, (hb.block xb (Array.getElem?_eq_some_iff.1 h.var).1).trans h.var, h.bel.trans (hb.mono h.bel.size), h.lo, h.kj, h.lj⟩
theorem Play.more (h : Play wx wq B E xb r m j k zs vz vL P L) : Play wx wq B E xb r m (j + 1) k zs vz vL P L :=
  ⟨h.disk, h.log, h.asl, h.var, h.bel, h.lo, by have := h.kj; omega, by have := h.lj; omega⟩
theorem Play.xlt (h : Play wx wq B E xb r m j k zs vz vL P L) : xb < wq.heap.size := (Array.getElem?_eq_some_iff.1 h.var).1
theorem Play.elt (h : Play wx wq B E xb r m j k zs vz vL P L) : E ≤ wq.heap.size := h.disk.hi.1
/-- Behind a call of the document (to wz) and one of the disk (to w4), x is laid anew. -/
theorem Play.next {wz w4 : World} {k' : Nat} {vL' : Value} {P' : List Nat} {L' : List Wt} (h : Play wx wq B E xb r m j k zs vz vL P L) (hb : Below wq.heap.size wq wz) (hl : LogAt E wz vL' L') (hd : DiskAt B E w4 r m zs k' P') (ht : Turns B E wz w4) (ha : AsLog m P' L') (hk : k' ≤ k + 1) (hn : L'.length ≤ L.length + 1) :
    Play wx ((((w4.setCell ⟨xb, 0, none⟩ (.int .i64 (m : Int))).setCell ⟨xb, 1, none⟩ vz).setCell ⟨xb, 2, none⟩ (.int .i64 (k' : Int))).setCell ⟨xb, 3, none⟩ vL') B E xb r m (j + 1) k' zs vz vL' P' L' := by
  have hx4 : w4.heap[xb]? = some (.cells #[.int .i64 (m : Int), vz, .int .i64 (k : Int), vL] 39 (0, 0)) := (ht.block xb (Nat.lt_of_lt_of_le h.xlt hb.size) (.inr h.lo.2)).trans ((hb.block xb h.xlt).trans h.var)
  have e := hd.hi
  have hlo := h.lo
  have e2 := h.disk.hi
  have e3 := hb.size
  have hb4 : Below wx.heap.size wx w4 := (h.bel.trans (hb.mono h.bel.size)).trans ((ht.below (by omega)).mono hlo.1)
  exact ⟨hd.kept (by simp) (fun i _ hi => res4_block (by omega)), (hl.turns ht (Nat.le_refl _)).tag hx4 (fun g hg => res4_block hg), ha, res4_kept hx4, res4_below hb4 (by omega), hlo, by have := h.kj; omega, by have := h.lj; omega⟩
/-- Behind a call of the document (to wz), x is laid anew, and then the disk is asked (to w4). -/
theorem Play.next2 {wz w4 : World} {k' : Nat} {vL' : Value} {P' : List Nat} {L' : List Wt} (h : Play wx wq B E xb r m j k zs vz vL P L) (hb : Below wq.heap.size wq wz) (hl : LogAt E wz vL' L') (hd : DiskAt B E w4 r m zs k' P')
    (ht : Turns B E ((((wz.setCell ⟨xb, 0, none⟩ (.int .i64 (m : Int))).setCell ⟨xb, 1, none⟩ vz).setCell ⟨xb, 2, none⟩ (.int .i64 (k' : Int))).setCell ⟨xb, 3, none⟩ vL') w4) (ha : AsLog m P' L') (hk : k' ≤ k + 1) (hn : L'.length ≤ L.length + 1) : Play wx w4 B E xb r m (j + 1) k' zs vz vL' P' L' := by
  have hxz : wz.heap[xb]? = some (.cells #[.int .i64 (m : Int), vz, .int .i64 (k : Int), vL] 39 (0, 0)) := (hb.block xb h.xlt).trans h.var
  have hlo := h.lo
  have e2 := h.disk.hi
  have e3 := hb.size
  have hlt := h.xlt
  have hv := res4_kept (u0 := .int .i64 (m : Int)) (u1 := vz) (u2 := .int .i64 (k' : Int)) (u3 := vL') hxz
  have hs := (Array.getElem?_eq_some_iff.1 hv).1
  exact ⟨hd, (hl.tag hxz (fun g hg => res4_block hg)).turns ht (Nat.le_refl _), ha, (ht.block xb hs (.inr hlo.2)).trans hv, (res4_below (h.bel.trans (hb.mono h.bel.size)) (by omega)).trans ((ht.below (by omega)).mono hlo.1), hlo, by have := h.kj; omega, by have := h.lj; omega⟩
end
/-- What stands behind the document's Read. -/
def Aft (wr : World) (X : Array Value) (x : Nat) (l : List Nat) (p want no : Value) (wz : World) : Prop :=
  ∃ yb, p = .pointer (some ⟨yb, 0, none⟩) ∧ no = .int .i64 (x : Nat) ∧ wr.heap.size ≤ yb ∧ wz.heap[yb]? = some (.cells X 39 (0, 0)) ∧ wz.ownsRow wr.heap.size 5 1 want l.length (bv l) ∧ Below wr.heap.size wr wz
/-- What stands behind the document's Write. -/
def AftW (wr : World) (E m k : Nat) (zs : List Bool) (n : Int) (b : List Nat) (L : List Wt) (vz : Value) (k' x : Nat) (p no : Value) (wz : World) : Prop :=
  ∃ yb vL' L', p = .pointer (some ⟨yb, 0, none⟩) ∧ no = .int .i64 (x : Nat) ∧ wr.heap.size ≤ yb ∧ wz.heap[yb]? = some (.cells #[.int .i64 (m : Int), vz, .int .i64 (k' : Int), vL'] 39 (0, 0)) ∧ LogAt E wz vL' L' ∧ Wrote m zs k n b L L' ∧ Below wr.heap.size wr wz
/-- Bytes that stay wherever no old block but x turns. -/
def Stay (wq : World) (B E xb : Nat) (v : Value) (q : Nat) (b : List Nat) : Prop :=
  ∀ w3 : World, wq.heap.size ≤ w3.heap.size → (∀ g, g < wq.heap.size → g ≠ xb → w3.heap[g]? = wq.heap[g]?) → SrcAt w3 v q 1 (bv b)
theorem stay_below {wq w3 : World} {B E xb q : Nat} {v : Value} {b : List Nat} (h : Stay wq B E xb v q b) (hb : Below wq.heap.size wq w3) : SrcAt w3 v q 1 (bv b) := h w3 hb.size (fun g hg _ => hb.block g hg)
theorem stay_of {wq : World} {B E xb q : Nat} {v : Value} {b : List Nat} (h : SrcAt wq v q 1 (bv b)) (hx : ∀ ad m c, v = .slice (some ad) m c → b ≠ [] → ad.block ≠ xb) : Stay wq B E xb v q b := by
  intro w3 hs hk
  rcases h with h | ⟨ad, c, h1, h2, h3⟩
  · exact .inl h
  · refine .inr ⟨ad, c, h1, h2, fun j u hj => ?_⟩
    obtain ⟨h4, h5⟩ := h3 j u hj
    have hb : b ≠ [] := fun e => by rw [e] at hj; simp [bv] at hj
    refine ⟨Nat.lt_of_lt_of_le h4 hs, ?_⟩
    rw [← h5]
    exact World.cell?_of_block (by rw [block_add]; exact hk _ h4 (hx ad q c h1 hb))
theorem nat_bne (k : Nat) : ((k : Int) != (k : Int)) = false := by simp

theorem refRead_is {C m k k' x : Nat} {a0 : Option Addr} {L0 c0 : Nat} {zs : List Bool} {vL : Value} {L : List Wt} {l : List Nat} (n : Int) (w : World) (h : LogAt C w vL L) (hL : L.length ≤ 1000) (hz : BoolsAt w a0 L0 c0 zs) (hk : k < 1000000000) (e1 : acK m k n 512 = k') (e2 : acE m zs k n 512 = x) (e3 : rdL m zs k L n = l) :
    Calls Try.prog 14 #[.agg #[.int .i64 (m : Int), .slice a0 L0 c0, .int .i64 (k : Int), vL], .int .i64 n] w fun e w' => ∃ v, e = .returned (.tuple #[.agg #[.int .i64 (m : Int), .slice a0 L0 c0, .int .i64 (k' : Nat), vL], v, .int .i64 (x : Nat)]) ∧
      w'.ownsRow w.heap.size 5 1 v l.length (bv l) ∧ Below w.heap.size w w' := by
  subst e1 e2 e3
  exact refRead_any n w h hL hz hk
theorem refWrite_is {C m k q k' x : Nat} {a0 : Option Addr} {L0 c0 : Nat} {zs : List Bool} {vL vb : Value} {L : List Wt} {b : List Nat} (n : Int) (w : World) (h : LogAt C w vL L) (hL : L.length ≤ 1000) (hz : BoolsAt w a0 L0 c0 zs) (hk : k < 1000000000) (hC : C ≤ w.heap.size) (hb : SrcAt w vb q 1 (bv b)) (hq : q ≤ maxLen) (e1 : acK m k n q = k') (e2 : acE m zs k n q = x) :
    Calls Try.prog 16 #[.agg #[.int .i64 (m : Int), .slice a0 L0 c0, .int .i64 (k : Int), vL], .int .i64 n, vb] w (DocWrote C m k zs n b L (.slice a0 L0 c0) k' x w) := by
  subst e1 e2
  exact refWrite_any n w h hL hz hk hC hb hq
theorem acK_le (m k : Nat) (n : Int) (s : Nat) : acK m k n s ≤ k + 1 := by unfold acK inc; split <;> omega

set_option maxRecDepth 100000 in
set_option maxHeartbeats 8000000 in
theorem run (sn : Int) (a0 : Option Addr) (L0 c0 : Nat) (zs : List Bool) (a : Option Addr) (L c : Nat) (D : Nat → Dd) (w : World) (hL0 : L0 ≤ maxLen) (hz : BoolsAt w a0 L0 c0 zs) (hL : L ≤ maxLen) (hds : DeedsAt w a L D) :
    Calls Try.prog 3 #[.int .i64 sn, .slice a0 L0 c0, .slice a L c] w fun e w' => e = .returned (.bool true) ∧ Below w.heap.size w w' := by
  have HDS : Hid (DeedsAt w a L D) := hds
  have HZ : Hid (BoolsAt w a0 L0 c0 zs) := hz
  have HZL : Hid (zs.length = L0) := hz.1
  have HLM : Hid (L ≤ maxLen) := hL
  unfold maxLen at hL hL0
  clear hds hz
  go_enter Try.func3, Try.ntmps3
  go_wp2_with fail
  refine (dRead_nil 0 _).mono ?_
  rintro e w1 ⟨rfl, b1⟩
  have HB1 : Hid (Below w.heap.size w w1) := b1
  clear b1
  go_wp2_with fail
  refine (filled_any 1 _).mono ?_
  rintro e w2 ⟨rfl, _, b2⟩
  have HB2 : Hid (Below w.heap.size w w2) := HB1.out.trans (b2.mono HB1.out.size)
  clear b2
  go_wp2_with fail
  refine (dWrite_nil 0 _).mono ?_
  rintro e w3 ⟨rfl, b3⟩
  have HB3 : Hid (Below w.heap.size w w3) := HB2.out.trans (b3.mono HB2.out.size)
  clear b3
  go_wp2_with fail
  refine (dMany_nil _).mono ?_
  rintro e w4 ⟨rfl, b4⟩
  have HB4 : Hid (Below w.heap.size w w4) := HB3.out.trans (b4.mono HB3.out.size)
  clear b4
  go_wp2_with fail
  refine (dPeek_nil 0 _).mono ?_
  rintro e w5 ⟨rfl, b5⟩
  have HBB : Hid (Below w.heap.size w w5) := HB4.out.trans (b5.mono HB4.out.size)
  clear b5 HB1 HB2 HB3 HB4
  by_cases hlong : 500 < L0
  · have i1 : (500 : Int) < (L0 : Int) := by omega
    go_wp2_with fail
    refine (lives_any _).mono ?_
    rintro e wl ⟨rfl, hb⟩
    have hb2 := HBB.out.trans (hb.mono HBB.out.size)
    clear hb
    go_wp2
    go_ret
    exact ⟨rfl, hb2⟩
  have i1 : ¬ (500 : Int) < (L0 : Int) := by omega
  go_wp2_with fail
  refine (great_any a L c D w5 HLM.out (HDS.out.below HBB.out)).mono ?_
  rintro e w' ⟨v, rfl, rfl, b, rfl, hg⟩
  cases b with
  | true =>
    clear hg
    go_wp2_with fail
    refine (lives_any _).mono ?_
    rintro e wl ⟨rfl, hb⟩
    have hb2 := HBB.out.trans (hb.mono HBB.out.size)
    clear hb
    go_wp2
    go_ret
    exact ⟨rfl, hb2⟩
  | false =>
    have hL60 := hg rfl
    clear hg
    go_wp2_with fail
    by_cases hbad : sn < 0 ∨ 1024 < sn
    · refine (dNew_bad sn hbad _).mono ?_
      rintro e w7 ⟨rfl, rfl⟩
      by_cases hneg : sn < 0
      · clear hbad
        go_wp2_with fail
        refine (lives_any _).mono ?_
        rintro e wl ⟨rfl, hb⟩
        have hb2 := HBB.out.trans (hb.mono HBB.out.size)
        clear hb
        go_wp2
        go_ret
        exact ⟨rfl, hb2⟩
      · have hbig : 1024 < sn := by omega
        clear hbad
        go_wp2_with fail
        refine (lives_any _).mono ?_
        rintro e wl ⟨rfl, hb⟩
        have hb2 := HBB.out.trans (hb.mono HBB.out.size)
        clear hb
        go_wp2
        go_ret
        exact ⟨rfl, hb2⟩
    obtain ⟨m, rfl⟩ := Int.eq_ofNat_of_zero_le (show 0 ≤ sn by omega)
    have hm : m ≤ 1024 := by omega
    refine (dNew_any m _ hm (HZ.out.below HBB.out) (by omega)).mono ?_
    rintro e w7 ⟨r, rfl, h7, b7⟩
    have H7 : Hid (DiskAt w5.heap.size w7.heap.size w7 r m zs 0 (zeros m)) := h7
    have HB7 : Hid (Below w5.heap.size w5 w7) := b7
    have HDX : Hid (DeedsAt w5 a L D) := HDS.out.below HBB.out
    have HZX : Hid (BoolsAt w5 a0 L0 c0 zs) := HZ.out.below HBB.out
    have i2 : ¬ (m : Int) < 0 := by omega
    have i3 : ¬ (1024 : Int) < (m : Int) := by omega
    have i4 := nat_bne m
    clear h7 b7 hbad HDS HZ
    go_wp2_with fail
    refine (dMany_any _ H7.out).mono ?_
    rintro e w' ⟨rfl, rfl⟩
    have b9 : Below w7.heap.size w7 (w7.alloc (.cells #[.int .i64 (m : Int), .slice a0 L0 c0, .int .i64 0, .slice none 0 0] 39)) := (Below.refl _ w7).alloc (Nat.le_refl _) _
    have HP : Hid (Play w5 (w7.alloc (.cells #[.int .i64 (m : Int), .slice a0 L0 c0, .int .i64 0, .slice none 0 0] 39)) w5.heap.size w7.heap.size w7.heap.size r m 0 0 zs (.slice a0 L0 c0) (.slice none 0 0) (zeros m) []) :=
      ⟨H7.out.below b9, LogAt.nil _ _, AsLog.start m, heap_alloc_new w7 _, HB7.out.alloc HB7.out.size _, ⟨Nat.le_refl _, Nat.le_refl _⟩, Nat.le_refl _, Nat.le_refl _⟩
    clear b9
    go_upto_region 13 with (fail)
    generalize w7.alloc (.cells #[.int .i64 (m : Int), .slice a0 L0 c0, .int .i64 0, .slice none 0 0] 39) = w9 at *
    obtain ⟨xb, hxb⟩ : ∃ xb, w7.heap.size = xb := ⟨_, rfl⟩
    have HP0 : Hid (Play w5 w9 w5.heap.size w7.heap.size xb r m 0 0 zs (.slice a0 L0 c0) (.slice none 0 0) (zeros m) []) := by have := HP.out; rw [hxb] at this ⊢; exact this
    rw [hxb]
    clear hxb HP H7 HB7
    generalize w7.heap.size = E at *
    obtain ⟨B, hB⟩ : ∃ B, w5.heap.size = B := ⟨_, rfl⟩
    have HP1 : Hid (Play w5 w9 B E xb r m 0 0 zs (.slice a0 L0 c0) (.slice none 0 0) (zeros m) []) := by have := HP0.out; rw [hB] at this; exact this
    clear hB HP0
    generalize zeros m = P0 at *
    go_wp2_with fail
    go_loopg [13] L (fun gk i wq => ∃ (j k : Nat) (vL : Value) (P : List Nat) (Lg : List Wt), j ≤ L ∧ gk = L - j ∧ i = .int .i64 j ∧ Play w5 wq B E xb r m j k zs (.slice a0 L0 c0) vL P Lg)
    case atStart => exact ⟨0, 0, _, _, _, Nat.zero_le _, rfl, rfl, HP1.out⟩
    case round =>
      obtain ⟨j, k, vL, P, Lg, hj, rfl, rfl, hP⟩ := hrel
      by_cases hlt : j < L
      · obtain ⟨bz, off, rfl, hbz, d0, d1, d2, d3⟩ := HDX.out.later hP.bel hlt
        have HOK : Hid (DeedOk w5 (D j)) := HDX.out.ok hlt
        generalize D j = dk at *
        have i5 : (j : Int) < (L : Int) := by omega
        obtain ⟨aL, cL, rfl⟩ := row_slice hP.log.row
        have HPP : Hid (Play w5 wr B E xb r m j k zs (.slice a0 L0 c0) (.slice aL Lg.length cL) P Lg) := hP
        have hkj := hP.kj
        have hlj := hP.lj
        have HBZ : Hid (bz < w5.heap.size) := hbz
        have HLO : Hid (w5.heap.size ≤ B ∧ E ≤ xb) := hP.lo
        have HDC : Hid (∀ w2, Below w5.heap.size w5 w2 → w2.cell? ⟨bz, off + j * 4, none⟩ = some (.int .i64 dk.K) ∧ w2.cell? ⟨bz, off + j * 4 + 1, none⟩ = some (.int .i64 dk.N) ∧ w2.cell? ⟨bz, off + j * 4 + 2, none⟩ = some (.int .u8 (dk.V : Int)) ∧ w2.cell? ⟨bz, off + j * 4 + 3, none⟩ = some (.slice dk.p dk.l dk.c)) := by
          intro w2 hb2
          have hcl : ∀ q : Addr, q.block < w5.heap.size → w2.cell? q = wr.cell? q := fun q hq => (hb2.cell (p := q) hq).trans (HPP.out.bel.cell (p := q) hq).symm
          exact ⟨(hcl ⟨bz, off + j * 4, none⟩ hbz).trans d0, (hcl ⟨bz, off + j * 4 + 1, none⟩ hbz).trans d1, (hcl ⟨bz, off + j * 4 + 2, none⟩ hbz).trans d2, (hcl ⟨bz, off + j * 4 + 3, none⟩ hbz).trans d3⟩
        clear hP HP1 hbz
        by_cases hK0 : dk.K = 0
        · rw [hK0] at d0
          obtain ⟨k', hk'⟩ : ∃ k', acK m k dk.N 512 = k' := ⟨_, rfl⟩
          have HK : Hid (acK m k dk.N 512 = k') := hk'
          have hkl : k' ≤ k + 1 := by rw [← hk']; exact acK_le _ _ _ _
          obtain ⟨x, hx⟩ : ∃ x, acE m zs k dk.N 512 = x := ⟨_, rfl⟩
          have HX : Hid (acE m zs k dk.N 512 = x) := hx
          obtain ⟨l, hl⟩ : ∃ l, rdL m zs k Lg dk.N = l := ⟨_, rfl⟩
          have HL : Hid (rdL m zs k Lg dk.N = l) := hl
          have HRD : Hid (rdD m zs k P dk.N = l) := (HPP.out.asl.read dk.N).symm.trans hl
          clear hk' hx hl
          have HPW := HPP
          go_upto_region 23 with (fail)
          have x0 : wr.cell? ⟨xb, 0, none⟩ = some (.int .i64 (m : Int)) := cell_of_row wr xb 0 _ _ _ HPW.out.var
          have x1 : wr.cell? ⟨xb, 1, none⟩ = some (.slice a0 L0 c0) := cell_of_row wr xb 1 _ _ _ HPW.out.var
          have x2 : wr.cell? ⟨xb, 2, none⟩ = some (.int .i64 (k : Int)) := cell_of_row wr xb 2 _ _ _ HPW.out.var
          have x3 : wr.cell? ⟨xb, 3, none⟩ = some (.slice aL Lg.length cL) := cell_of_row wr xb 3 _ _ _ HPW.out.var
          have f1 := (HDC.out wr HPW.out.bel).2.1
          have nxw2 : xb < wr.heap.size := HPW.out.xlt
          have nxw : xb ≠ wr.heap.size := Nat.ne_of_lt nxw2
          have nbw : bz < wr.heap.size := Nat.lt_of_lt_of_le HBZ.out HPW.out.bel.size
          have nbw2 : bz ≠ wr.heap.size := Nat.ne_of_lt nbw
          have HBa : Hid (Below wr.heap.size wr wr.drew) := drew_below _ _
          have HBb : Hid (Below wr.heap.size wr (wr.alloc (.cells #[.int .i64 0, .slice none 0 0, .int .i64 0, .slice none 0 0] 39)).drew) := ((Below.refl _ wr).alloc (Nat.le_refl _) _).trans (drew_below _ _)
          have HPa : Hid (Play w5 wr.drew B E xb r m j k zs (.slice a0 L0 c0) (.slice aL Lg.length cL) P Lg) := HPW.out.below HBa.out
          have HPb : Hid (Play w5 (wr.alloc (.cells #[.int .i64 0, .slice none 0 0, .int .i64 0, .slice none 0 0] 39)).drew B E xb r m j k zs (.slice a0 L0 c0) (.slice aL Lg.length cL) P Lg) := HPW.out.below HBb.out
          have HZa : Hid (BoolsAt wr.drew a0 L0 c0 zs) := HZX.out.below HPa.out.bel
          have HZb : Hid (BoolsAt (wr.alloc (.cells #[.int .i64 0, .slice none 0 0, .int .i64 0, .slice none 0 0] 39)).drew a0 L0 c0 zs) := HZX.out.below HPb.out.bel
          have HYA : Hid ((wr.alloc (.cells #[.int .i64 0, .slice none 0 0, .int .i64 0, .slice none 0 0] 39)).drew.heap[wr.heap.size]? = some (.cells #[.int .i64 0, .slice none 0 0, .int .i64 0, .slice none 0 0] 39 (0, 0))) := heap_alloc_new wr _
          go_cut [15, 16, 17] (fun p want no wz => Aft wr #[.int .i64 (m : Int), .slice a0 L0 c0, .int .i64 (k' : Int), .slice aL Lg.length cL] x l p want no wz)
          case first =>
            go_region_held3 (fun w2 => w2.cell? ⟨xb, 0, none⟩ = some (.int .i64 (m : Int)) ∧ w2.cell? ⟨xb, 1, none⟩ = some (.slice a0 L0 c0) ∧ w2.cell? ⟨xb, 2, none⟩ = some (.int .i64 (k : Int)) ∧ w2.cell? ⟨xb, 3, none⟩ = some (.slice aL Lg.length cL) ∧ w2.cell? ⟨bz, off + j * 4 + 1, none⟩ = some (.int .i64 dk.N)) (first | (go_keep; done) | (simp only [cell_res4 nxw, cell_res4 nbw2]; first | done | (go_keep; done))) (first | (go_at_call 14; refine (refRead_is dk.N _ HPb.out.log (by omega) HZb.out (by omega) HK.out HX.out HL.out).mono ?_; rintro e w2 ⟨v2, rfl, own2, b2⟩; have HB2 : Hid (Below wr.heap.size wr w2) := HBb.out.trans (b2.mono HBb.out.size); have HO2 : Hid (w2.ownsRow wr.heap.size 5 1 v2 l.length (bv l)) := rowMono own2 HBb.out.size; have HX2 : Hid (w2.heap[xb]? = some (.cells #[.int .i64 (m : Int), .slice a0 L0 c0, .int .i64 (k : Int), .slice aL Lg.length cL] 39 (0, 0))) := (HB2.out.block xb nxw2).trans HPW.out.var; have z0 : w2.cell? ⟨xb, 0, none⟩ = some (.int .i64 (m : Int)) := cell_of_row w2 xb 0 _ _ _ HX2.out; have z1 : w2.cell? ⟨xb, 1, none⟩ = some (.slice a0 L0 c0) := cell_of_row w2 xb 1 _ _ _ HX2.out; have z2 : w2.cell? ⟨xb, 2, none⟩ = some (.int .i64 (k : Int)) := cell_of_row w2 xb 2 _ _ _ HX2.out; have z3 : w2.cell? ⟨xb, 3, none⟩ = some (.slice aL Lg.length cL) := cell_of_row w2 xb 3 _ _ _ HX2.out; have f2 := (HDC.out w2 (HPW.out.bel.trans (HB2.out.mono HPW.out.bel.size))).2.1; have nx : xb < w2.heap.size := (Array.getElem?_eq_some_iff.1 HX2.out).1; have nx2 : xb ≠ w2.heap.size := Nat.ne_of_lt nx; have nb : bz < w2.heap.size := Nat.lt_of_lt_of_le nbw HB2.out.size; have nb2 : bz ≠ w2.heap.size := Nat.ne_of_lt nb; have HY2 : Hid (w2.heap[wr.heap.size]? = some (.cells #[.int .i64 0, .slice none 0 0, .int .i64 0, .slice none 0 0] 39 (0, 0))) := (b2.block wr.heap.size (Array.getElem?_eq_some_iff.1 HYA.out).1).trans HYA.out; have q0 : w2.cell? ⟨wr.heap.size, 0, none⟩ = some (.int .i64 0) := cell_of_row w2 wr.heap.size 0 _ _ _ HY2.out; have q1 : w2.cell? ⟨wr.heap.size, 1, none⟩ = some (.slice none 0 0) := cell_of_row w2 wr.heap.size 1 _ _ _ HY2.out; have q2 : w2.cell? ⟨wr.heap.size, 2, none⟩ = some (.int .i64 0) := cell_of_row w2 wr.heap.size 2 _ _ _ HY2.out; have q3 : w2.cell? ⟨wr.heap.size, 3, none⟩ = some (.slice none 0 0) := cell_of_row w2 wr.heap.size 3 _ _ _ HY2.out; have g0 : w2.frozen? ⟨wr.heap.size, 0, none⟩ = false := frozen_of_row w2 _ 0 _ _ HY2.out; have g1 : w2.frozen? ⟨wr.heap.size, 1, none⟩ = false := frozen_of_row w2 _ 1 _ _ HY2.out; have g2 : w2.frozen? ⟨wr.heap.size, 2, none⟩ = false := frozen_of_row w2 _ 2 _ _ HY2.out; have g3 : w2.frozen? ⟨wr.heap.size, 3, none⟩ = false := frozen_of_row w2 _ 3 _ _ HY2.out; clear own2 b2) | (go_at_call 14; refine (refRead_is dk.N _ HPa.out.log (by omega) HZa.out (by omega) HK.out HX.out HL.out).mono ?_; rintro e w2 ⟨v2, rfl, own2, b2⟩; have HB2 : Hid (Below wr.heap.size wr w2) := HBa.out.trans (b2.mono HBa.out.size); have HO2 : Hid (w2.ownsRow wr.heap.size 5 1 v2 l.length (bv l)) := rowMono own2 HBa.out.size; have HX2 : Hid (w2.heap[xb]? = some (.cells #[.int .i64 (m : Int), .slice a0 L0 c0, .int .i64 (k : Int), .slice aL Lg.length cL] 39 (0, 0))) := (HB2.out.block xb nxw2).trans HPW.out.var; have z0 : w2.cell? ⟨xb, 0, none⟩ = some (.int .i64 (m : Int)) := cell_of_row w2 xb 0 _ _ _ HX2.out; have z1 : w2.cell? ⟨xb, 1, none⟩ = some (.slice a0 L0 c0) := cell_of_row w2 xb 1 _ _ _ HX2.out; have z2 : w2.cell? ⟨xb, 2, none⟩ = some (.int .i64 (k : Int)) := cell_of_row w2 xb 2 _ _ _ HX2.out; have z3 : w2.cell? ⟨xb, 3, none⟩ = some (.slice aL Lg.length cL) := cell_of_row w2 xb 3 _ _ _ HX2.out; have f2 := (HDC.out w2 (HPW.out.bel.trans (HB2.out.mono HPW.out.bel.size))).2.1; have nx : xb < w2.heap.size := (Array.getElem?_eq_some_iff.1 HX2.out).1; have nx2 : xb ≠ w2.heap.size := Nat.ne_of_lt nx; have nb : bz < w2.heap.size := Nat.lt_of_lt_of_le nbw HB2.out.size; have nb2 : bz ≠ w2.heap.size := Nat.ne_of_lt nb; clear own2 b2))
            all_goals go_wp2
            all_goals go_meet
            all_goals first | exact ⟨_, rfl, rfl, HB2.out.size, heap_alloc_new w2 _, HO2.out.alloc _, HB2.out.alloc HB2.out.size _⟩ | exact ⟨_, rfl, rfl, Nat.le_refl _, res4_kept HY2.out, row_tag HO2.out HY2.out (by decide) (fun g hg => res4_block hg), res4_below HB2.out (Nat.le_refl _)⟩
          case rest =>
            obtain ⟨yb, rfl, rfl, hyb, hY, hown, hbl⟩ := hcut
            have HBc : Hid (Below wr.heap.size wr wc) := hbl
            have HPc : Hid (Play w5 wc B E xb r m j k zs (.slice a0 L0 c0) (.slice aL Lg.length cL) P Lg) := HPP.out.below hbl
            have HYc : Hid (wc.heap[yb]? = some (.cells #[.int .i64 (m : Int), .slice a0 L0 c0, .int .i64 (k' : Int), .slice aL Lg.length cL] 39 (0, 0))) := hY
            obtain ⟨p2, c2, rfl⟩ := row_slice hown
            have HOc : Hid (wc.ownsRow wr.heap.size 5 1 (.slice p2 l.length c2) l.length (bv l)) := hown
            have HYB : Hid (wr.heap.size ≤ yb) := hyb
            have HYX : Hid (xb ≠ yb) := by show _ ≠ _; omega
            have c1 := (HDC.out wc HPc.out.bel).2.1
            clear hbl hY hown hyb x0 x1 x2 x3 f1 HPa HPb HBa HBb HZa HZb HYA d0 d1 d2 d3
            go_wp2_with fail
            refine (dRead_is dk.N _ HPc.out.disk (by omega) HX.out).mono ?_
            rintro e w4 ⟨v4, rfl, own4, h4, t4⟩
            rw [HRD.out] at own4
            rw [HK.out] at h4
            obtain ⟨p4, c4, rfl⟩ := row_slice own4
            have HX4 : Hid (w4.heap[xb]? = some (.cells #[.int .i64 (m : Int), .slice a0 L0 c0, .int .i64 (k : Int), .slice aL Lg.length cL] 39 (0, 0))) := (t4.block xb HPc.out.xlt (.inr HLO.out.2)).trans HPc.out.var
            have HY4 : Hid (w4.heap[yb]? = some (.cells #[.int .i64 (m : Int), .slice a0 L0 c0, .int .i64 (k' : Int), .slice aL Lg.length cL] 39 (0, 0))) := (t4.block yb (Array.getElem?_eq_some_iff.1 HYc.out).1 (.inr (by have := HYB.out; have := HPP.out.elt; omega))).trans HYc.out
            have HO4 : Hid (w4.ownsRow wc.heap.size 5 1 (.slice p4 l.length c4) l.length (bv l)) := own4
            have HO5 : Hid (w4.ownsRow wr.heap.size 5 1 (.slice p2 l.length c2) l.length (bv l)) := t4.row HOc.out HPP.out.elt
            have HP6 : Hid (Play w5 ((((w4.setCell ⟨xb, 0, none⟩ (.int .i64 (m : Int))).setCell ⟨xb, 1, none⟩ (.slice a0 L0 c0)).setCell ⟨xb, 2, none⟩ (.int .i64 (k' : Int))).setCell ⟨xb, 3, none⟩ (.slice aL Lg.length cL)) B E xb r m (j + 1) k' zs (.slice a0 L0 c0) (.slice aL Lg.length cL) P Lg) := HPP.out.next HBc.out HPc.out.log h4 t4 HPP.out.asl hkl (by omega)
            have HO6 : Hid (((((w4.setCell ⟨xb, 0, none⟩ (.int .i64 (m : Int))).setCell ⟨xb, 1, none⟩ (.slice a0 L0 c0)).setCell ⟨xb, 2, none⟩ (.int .i64 (k' : Int))).setCell ⟨xb, 3, none⟩ (.slice aL Lg.length cL)).ownsRow wc.heap.size 5 1 (.slice p4 l.length c4) l.length (bv l)) := row_tag HO4.out HX4.out (by decide) (fun g hg => res4_block hg)
            have HO7 : Hid (((((w4.setCell ⟨xb, 0, none⟩ (.int .i64 (m : Int))).setCell ⟨xb, 1, none⟩ (.slice a0 L0 c0)).setCell ⟨xb, 2, none⟩ (.int .i64 (k' : Int))).setCell ⟨xb, 3, none⟩ (.slice aL Lg.length cL)).ownsRow wr.heap.size 5 1 (.slice p2 l.length c2) l.length (bv l)) := row_tag HO5.out HX4.out (by decide) (fun g hg => res4_block hg)
            have y0 : w4.cell? ⟨yb, 0, none⟩ = some (.int .i64 (m : Int)) := cell_of_row w4 yb 0 _ _ _ HY4.out
            have y1 : w4.cell? ⟨yb, 1, none⟩ = some (.slice a0 L0 c0) := cell_of_row w4 yb 1 _ _ _ HY4.out
            have y2 : w4.cell? ⟨yb, 2, none⟩ = some (.int .i64 (k' : Int)) := cell_of_row w4 yb 2 _ _ _ HY4.out
            have y3 : w4.cell? ⟨yb, 3, none⟩ = some (.slice aL Lg.length cL) := cell_of_row w4 yb 3 _ _ _ HY4.out
            have j0 : w4.cell? ⟨xb, 0, none⟩ = some (.int .i64 (m : Int)) := cell_of_row w4 xb 0 _ _ _ HX4.out
            have j1 : w4.cell? ⟨xb, 1, none⟩ = some (.slice a0 L0 c0) := cell_of_row w4 xb 1 _ _ _ HX4.out
            have j2 : w4.cell? ⟨xb, 2, none⟩ = some (.int .i64 (k : Int)) := cell_of_row w4 xb 2 _ _ _ HX4.out
            have j3 : w4.cell? ⟨xb, 3, none⟩ = some (.slice aL Lg.length cL) := cell_of_row w4 xb 3 _ _ _ HX4.out
            have fj0 : w4.frozen? ⟨xb, 0, none⟩ = false := frozen_of_row w4 xb 0 _ _ HX4.out
            have fj1 : w4.frozen? ⟨xb, 1, none⟩ = false := frozen_of_row w4 xb 1 _ _ HX4.out
            have fj2 : w4.frozen? ⟨xb, 2, none⟩ = false := frozen_of_row w4 xb 2 _ _ HX4.out
            have fj3 : w4.frozen? ⟨xb, 3, none⟩ = false := frozen_of_row w4 xb 3 _ _ HX4.out
            clear own4 h4 t4 c1
            go_upto_region 26 with (fail)
            generalize ((((w4.setCell ⟨xb, 0, none⟩ (.int .i64 (m : Int))).setCell ⟨xb, 1, none⟩ (.slice a0 L0 c0)).setCell ⟨xb, 2, none⟩ (.int .i64 (k' : Int))).setCell ⟨xb, 3, none⟩ (.slice aL Lg.length cL)) = w6 at *
            have HC1 : Hid ((convert 25 9 (.slice p4 l.length c4)).run Try.prog w6 = .ok (.string (strB l)) w6) := conv_any HO6.out
            have HC2 : Hid ((convert 25 9 (.slice p2 l.length c2)).run Try.prog w6 = .ok (.string (strB l)) w6) := conv_any HO7.out
            have hxx := nat_bne x
            clear HO4 HO5 HO6 HO7 HX4 HY4 HOc HYc y0 y1 y2 y3 j0 j1 j2 j3 fj0 fj1 fj2 fj3
            go_wp2_with fail
            refine (refBytes_same _ _ l _ HC1.out HC2.out).mono ?_
            rintro e w' ⟨rfl, rfl⟩
            go_upto_region 34 with (fail)
            obtain ⟨tt, ht⟩ : ∃ tt, ft zs k' = tt := ⟨_, rfl⟩
            have HT : Hid (ft zs k' = tt) := ht
            obtain ⟨qq, hq⟩ : ∃ qq, zs.length - k' = qq := ⟨_, rfl⟩
            have HQ : Hid (zs.length - k' = qq) := hq
            have hk6 := HP6.out.kj
            have hmax : ∀ (ts : Array TypeId) (t : TypeId) (w : World), (Builtin.max_ ts t #[.int .i64 0, .int .i64 ((L0 : Int) - (k' : Int))]).run Try.prog w = .ok (.int .i64 (qq : Int)) w := by
              intro ts t w
              have := HZL.out
              rw [run_max_int2]
              congr 2
              split <;> omega
            have u1 := nat_bne k'
            have u2 := nat_bne tt
            have u3 := nat_bne qq
            have v2 : w6.cell? ⟨xb, 2, none⟩ = some (.int .i64 (k' : Int)) := cell_of_row w6 xb 2 _ _ _ HP6.out.var
            clear ht hq
            go_quiet (first | (go_at_call 18; exact quietSame (dAsked_is _ (HP6.out.disk.drewN _) rfl)) | (go_at_call 19; exact quietSame (dFailed_is _ (HP6.out.disk.drewN _) HT.out)) | (go_at_call 20; exact quietSame (refFailed_is _ _ (HZX.out.below (HP6.out.bel.trans ((drewN_below _ _ _).mono HP6.out.bel.size))) (by omega) (by omega) HT.out)) | (go_at_call 21; exact quietSame (dLeft_is _ (HP6.out.disk.drewN _) HQ.out)))
            go_wp2
            go_roundg (L - (j + 1))
            case measure => omega
            case rel => exact ⟨j + 1, k', _, _, _, by omega, rfl, by go_num, HP6.out.below (drewN_below _ _ _)⟩
        · by_cases hK1 : dk.K = 1
          · rw [hK1] at d0
            have HPW := HPP
            have HAP : Hid (Apart B E (.slice dk.p dk.l dk.c) dk.b) := HOK.out.apart HLO.out.1
            have HQM : Hid (dk.l ≤ maxLen) := HOK.out.l
            have HBY : Hid (∀ x ∈ dk.b, x < 256) := HOK.out.byte
            have HSB : Hid (Stay wr B E xb (.slice dk.p dk.l dk.c) dk.l dk.b) := stay_of (HOK.out.src.later HPP.out.bel) (fun ad q cc e hne => by
              have h1 := (HOK.out.apart (B := w5.heap.size) (E := xb + 1) (Nat.le_refl _)) ad q cc e hne
              have h2 := HLO.out
              have h3 := HPP.out.disk.hi
              omega)
            obtain ⟨k', hk'⟩ : ∃ k', acK m k dk.N dk.l = k' := ⟨_, rfl⟩
            have HK : Hid (acK m k dk.N dk.l = k') := hk'
            have hkl : k' ≤ k + 1 := by rw [← hk']; exact acK_le _ _ _ _
            obtain ⟨x, hx⟩ : ∃ x, acE m zs k dk.N dk.l = x := ⟨_, rfl⟩
            have HX : Hid (acE m zs k dk.N dk.l = x) := hx
            clear hk' hx
            go_upto_region 30 with (fail)
            have x0 : wr.cell? ⟨xb, 0, none⟩ = some (.int .i64 (m : Int)) := cell_of_row wr xb 0 _ _ _ HPW.out.var
            have x1 : wr.cell? ⟨xb, 1, none⟩ = some (.slice a0 L0 c0) := cell_of_row wr xb 1 _ _ _ HPW.out.var
            have x2 : wr.cell? ⟨xb, 2, none⟩ = some (.int .i64 (k : Int)) := cell_of_row wr xb 2 _ _ _ HPW.out.var
            have x3 : wr.cell? ⟨xb, 3, none⟩ = some (.slice aL Lg.length cL) := cell_of_row wr xb 3 _ _ _ HPW.out.var
            have f1 := (HDC.out wr HPW.out.bel).2.1
            have nxw2 : xb < wr.heap.size := HPW.out.xlt
            have nxw : xb ≠ wr.heap.size := Nat.ne_of_lt nxw2
            have nbw : bz < wr.heap.size := Nat.lt_of_lt_of_le HBZ.out HPW.out.bel.size
            have nbw2 : bz ≠ wr.heap.size := Nat.ne_of_lt nbw
            have HBa : Hid (Below wr.heap.size wr wr.drew) := drew_below _ _
            have HBb : Hid (Below wr.heap.size wr (wr.alloc (.cells #[.int .i64 0, .slice none 0 0, .int .i64 0, .slice none 0 0] 39)).drew) := ((Below.refl _ wr).alloc (Nat.le_refl _) _).trans (drew_below _ _)
            have HPa : Hid (Play w5 wr.drew B E xb r m j k zs (.slice a0 L0 c0) (.slice aL Lg.length cL) P Lg) := HPW.out.below HBa.out
            have HPb : Hid (Play w5 (wr.alloc (.cells #[.int .i64 0, .slice none 0 0, .int .i64 0, .slice none 0 0] 39)).drew B E xb r m j k zs (.slice a0 L0 c0) (.slice aL Lg.length cL) P Lg) := HPW.out.below HBb.out
            have HZa : Hid (BoolsAt wr.drew a0 L0 c0 zs) := HZX.out.below HPa.out.bel
            have HZb : Hid (BoolsAt (wr.alloc (.cells #[.int .i64 0, .slice none 0 0, .int .i64 0, .slice none 0 0] 39)).drew a0 L0 c0 zs) := HZX.out.below HPb.out.bel
            have HYA : Hid ((wr.alloc (.cells #[.int .i64 0, .slice none 0 0, .int .i64 0, .slice none 0 0] 39)).drew.heap[wr.heap.size]? = some (.cells #[.int .i64 0, .slice none 0 0, .int .i64 0, .slice none 0 0] 39 (0, 0))) := heap_alloc_new wr _
            have HSa : Hid (SrcAt wr.drew (.slice dk.p dk.l dk.c) dk.l 1 (bv dk.b)) := stay_below HSB.out HBa.out
            have HSb : Hid (SrcAt (wr.alloc (.cells #[.int .i64 0, .slice none 0 0, .int .i64 0, .slice none 0 0] 39)).drew (.slice dk.p dk.l dk.c) dk.l 1 (bv dk.b)) := stay_below HSB.out HBb.out
            go_cut [20, 21] (fun p no wz => AftW wr E m k zs dk.N dk.b Lg (.slice a0 L0 c0) k' x p no wz)
            case first =>
              go_region_held3 (fun w2 => w2.cell? ⟨xb, 0, none⟩ = some (.int .i64 (m : Int)) ∧ w2.cell? ⟨xb, 1, none⟩ = some (.slice a0 L0 c0) ∧ w2.cell? ⟨xb, 2, none⟩ = some (.int .i64 (k : Int)) ∧ w2.cell? ⟨xb, 3, none⟩ = some (.slice aL Lg.length cL) ∧ w2.cell? ⟨bz, off + j * 4 + 1, none⟩ = some (.int .i64 dk.N)) (first | (go_keep; done) | (simp only [cell_res4 nxw, cell_res4 nbw2]; first | done | (go_keep; done))) (first | (go_at_call 16; refine (refWrite_is dk.N _ HPb.out.log (by omega) HZb.out (by omega) HPb.out.elt HSb.out HQM.out HK.out HX.out).mono ?_; rintro e w2 ⟨vM, LM, rfl, hlog, hwr, b2⟩; obtain ⟨aM, cM, rfl⟩ := row_slice hlog.row; have HB2 : Hid (Below wr.heap.size wr w2) := HBb.out.trans (b2.mono HBb.out.size); have HLG : Hid (LogAt E w2 (.slice aM LM.length cM) LM) := hlog; have HWR : Hid (Wrote m zs k dk.N dk.b Lg LM) := hwr; have HX2 : Hid (w2.heap[xb]? = some (.cells #[.int .i64 (m : Int), .slice a0 L0 c0, .int .i64 (k : Int), .slice aL Lg.length cL] 39 (0, 0))) := (HB2.out.block xb nxw2).trans HPW.out.var; have z0 : w2.cell? ⟨xb, 0, none⟩ = some (.int .i64 (m : Int)) := cell_of_row w2 xb 0 _ _ _ HX2.out; have z1 : w2.cell? ⟨xb, 1, none⟩ = some (.slice a0 L0 c0) := cell_of_row w2 xb 1 _ _ _ HX2.out; have z2 : w2.cell? ⟨xb, 2, none⟩ = some (.int .i64 (k : Int)) := cell_of_row w2 xb 2 _ _ _ HX2.out; have z3 : w2.cell? ⟨xb, 3, none⟩ = some (.slice aL Lg.length cL) := cell_of_row w2 xb 3 _ _ _ HX2.out; have f2 := (HDC.out w2 (HPW.out.bel.trans (HB2.out.mono HPW.out.bel.size))).2.1; have nx : xb < w2.heap.size := (Array.getElem?_eq_some_iff.1 HX2.out).1; have nx2 : xb ≠ w2.heap.size := Nat.ne_of_lt nx; have nb : bz < w2.heap.size := Nat.lt_of_lt_of_le nbw HB2.out.size; have nb2 : bz ≠ w2.heap.size := Nat.ne_of_lt nb; have HY2 : Hid (w2.heap[wr.heap.size]? = some (.cells #[.int .i64 0, .slice none 0 0, .int .i64 0, .slice none 0 0] 39 (0, 0))) := (b2.block wr.heap.size (Array.getElem?_eq_some_iff.1 HYA.out).1).trans HYA.out; have q0 : w2.cell? ⟨wr.heap.size, 0, none⟩ = some (.int .i64 0) := cell_of_row w2 wr.heap.size 0 _ _ _ HY2.out; have q1 : w2.cell? ⟨wr.heap.size, 1, none⟩ = some (.slice none 0 0) := cell_of_row w2 wr.heap.size 1 _ _ _ HY2.out; have q2 : w2.cell? ⟨wr.heap.size, 2, none⟩ = some (.int .i64 0) := cell_of_row w2 wr.heap.size 2 _ _ _ HY2.out; have q3 : w2.cell? ⟨wr.heap.size, 3, none⟩ = some (.slice none 0 0) := cell_of_row w2 wr.heap.size 3 _ _ _ HY2.out; have g0 : w2.frozen? ⟨wr.heap.size, 0, none⟩ = false := frozen_of_row w2 _ 0 _ _ HY2.out; have g1 : w2.frozen? ⟨wr.heap.size, 1, none⟩ = false := frozen_of_row w2 _ 1 _ _ HY2.out; have g2 : w2.frozen? ⟨wr.heap.size, 2, none⟩ = false := frozen_of_row w2 _ 2 _ _ HY2.out; have g3 : w2.frozen? ⟨wr.heap.size, 3, none⟩ = false := frozen_of_row w2 _ 3 _ _ HY2.out; clear hlog hwr b2) | (go_at_call 16; refine (refWrite_is dk.N _ HPa.out.log (by omega) HZa.out (by omega) HPa.out.elt HSa.out HQM.out HK.out HX.out).mono ?_; rintro e w2 ⟨vM, LM, rfl, hlog, hwr, b2⟩; obtain ⟨aM, cM, rfl⟩ := row_slice hlog.row; have HB2 : Hid (Below wr.heap.size wr w2) := HBa.out.trans (b2.mono HBa.out.size); have HLG : Hid (LogAt E w2 (.slice aM LM.length cM) LM) := hlog; have HWR : Hid (Wrote m zs k dk.N dk.b Lg LM) := hwr; have HX2 : Hid (w2.heap[xb]? = some (.cells #[.int .i64 (m : Int), .slice a0 L0 c0, .int .i64 (k : Int), .slice aL Lg.length cL] 39 (0, 0))) := (HB2.out.block xb nxw2).trans HPW.out.var; have z0 : w2.cell? ⟨xb, 0, none⟩ = some (.int .i64 (m : Int)) := cell_of_row w2 xb 0 _ _ _ HX2.out; have z1 : w2.cell? ⟨xb, 1, none⟩ = some (.slice a0 L0 c0) := cell_of_row w2 xb 1 _ _ _ HX2.out; have z2 : w2.cell? ⟨xb, 2, none⟩ = some (.int .i64 (k : Int)) := cell_of_row w2 xb 2 _ _ _ HX2.out; have z3 : w2.cell? ⟨xb, 3, none⟩ = some (.slice aL Lg.length cL) := cell_of_row w2 xb 3 _ _ _ HX2.out; have f2 := (HDC.out w2 (HPW.out.bel.trans (HB2.out.mono HPW.out.bel.size))).2.1; have nx : xb < w2.heap.size := (Array.getElem?_eq_some_iff.1 HX2.out).1; have nx2 : xb ≠ w2.heap.size := Nat.ne_of_lt nx; have nb : bz < w2.heap.size := Nat.lt_of_lt_of_le nbw HB2.out.size; have nb2 : bz ≠ w2.heap.size := Nat.ne_of_lt nb; clear hlog hwr b2))
              all_goals go_wp2
              all_goals go_meet
              all_goals first | exact ⟨_, _, LM, rfl, rfl, HB2.out.size, heap_alloc_new w2 _, HLG.out.below ((Below.refl _ w2).alloc (Nat.le_refl _) _), HWR.out, HB2.out.alloc HB2.out.size _⟩ | exact ⟨_, _, LM, rfl, rfl, Nat.le_refl _, res4_kept HY2.out, HLG.out.tag HY2.out (fun g hg => res4_block hg), HWR.out, res4_below HB2.out (Nat.le_refl _)⟩
            case rest =>
              obtain ⟨yb, vM, LM, rfl, rfl, hyb, hY, hlog, hwr, hbl⟩ := hcut
              obtain ⟨aM, cM, rfl⟩ := row_slice hlog.row
              have HBc : Hid (Below wr.heap.size wr wc) := hbl
              have HY4 : Hid (wc.heap[yb]? = some (.cells #[.int .i64 (m : Int), .slice a0 L0 c0, .int .i64 (k' : Int), .slice aM LM.length cM] 39 (0, 0))) := hY
              have HX4 : Hid (wc.heap[xb]? = some (.cells #[.int .i64 (m : Int), .slice a0 L0 c0, .int .i64 (k : Int), .slice aL Lg.length cL] 39 (0, 0))) := (hbl.block xb nxw2).trans HPW.out.var
              have HLG : Hid (LogAt E wc (.slice aM LM.length cM) LM) := hlog
              have HWR : Hid (Wrote m zs k dk.N dk.b Lg LM) := hwr
              have HYX : Hid (xb ≠ yb) := by show _ ≠ _; omega
              have HDz : Hid (DiskAt B E ((((wc.setCell ⟨xb, 0, none⟩ (.int .i64 (m : Int))).setCell ⟨xb, 1, none⟩ (.slice a0 L0 c0)).setCell ⟨xb, 2, none⟩ (.int .i64 (k' : Int))).setCell ⟨xb, 3, none⟩ (.slice aM LM.length cM)) r m zs k P) := (HPW.out.disk.below hbl).kept (by simp) (fun i _ hi => res4_block (by have := HLO.out.2; omega))
              have HSz : Hid (SrcAt ((((wc.setCell ⟨xb, 0, none⟩ (.int .i64 (m : Int))).setCell ⟨xb, 1, none⟩ (.slice a0 L0 c0)).setCell ⟨xb, 2, none⟩ (.int .i64 (k' : Int))).setCell ⟨xb, 3, none⟩ (.slice aM LM.length cM)) (.slice dk.p dk.l dk.c) dk.l 1 (bv dk.b)) := HSB.out _ (by have := hbl.size; simpa using this) (fun g hg hne => (res4_block hne).trans (hbl.block g hg))
              have HNX : Hid (∀ w4 (k9 : Nat) (P9 : List Nat), DiskAt B E w4 r m zs k9 P9 → k9 = k' → AsLog m P9 LM → Turns B E ((((wc.setCell ⟨xb, 0, none⟩ (.int .i64 (m : Int))).setCell ⟨xb, 1, none⟩ (.slice a0 L0 c0)).setCell ⟨xb, 2, none⟩ (.int .i64 (k' : Int))).setCell ⟨xb, 3, none⟩ (.slice aM LM.length cM)) w4 → Play w5 w4 B E xb r m (j + 1) k' zs (.slice a0 L0 c0) (.slice aM LM.length cM) P9 LM) := by
                intro w4 k9 P9 h9 e9 ha9 t9
                subst e9
                exact HPW.out.next2 HBc.out HLG.out h9 t9 ha9 hkl HWR.out.1
              have c1 : ((((wc.setCell ⟨xb, 0, none⟩ (.int .i64 (m : Int))).setCell ⟨xb, 1, none⟩ (.slice a0 L0 c0)).setCell ⟨xb, 2, none⟩ (.int .i64 (k' : Int))).setCell ⟨xb, 3, none⟩ (.slice aM LM.length cM)).cell? ⟨bz, off + j * 4 + 1, none⟩ = some (.int .i64 dk.N) := (HDC.out _ (res4_below (HPW.out.bel.trans (hbl.mono HPW.out.bel.size)) (by have := HLO.out; have := HPW.out.disk.hi; omega))).2.1
              have y0 : wc.cell? ⟨yb, 0, none⟩ = some (.int .i64 (m : Int)) := cell_of_row wc yb 0 _ _ _ HY4.out
              have y1 : wc.cell? ⟨yb, 1, none⟩ = some (.slice a0 L0 c0) := cell_of_row wc yb 1 _ _ _ HY4.out
              have y2 : wc.cell? ⟨yb, 2, none⟩ = some (.int .i64 (k' : Int)) := cell_of_row wc yb 2 _ _ _ HY4.out
              have y3 : wc.cell? ⟨yb, 3, none⟩ = some (.slice aM LM.length cM) := cell_of_row wc yb 3 _ _ _ HY4.out
              have j0 : wc.cell? ⟨xb, 0, none⟩ = some (.int .i64 (m : Int)) := cell_of_row wc xb 0 _ _ _ HX4.out
              have j1 : wc.cell? ⟨xb, 1, none⟩ = some (.slice a0 L0 c0) := cell_of_row wc xb 1 _ _ _ HX4.out
              have j2 : wc.cell? ⟨xb, 2, none⟩ = some (.int .i64 (k : Int)) := cell_of_row wc xb 2 _ _ _ HX4.out
              have j3 : wc.cell? ⟨xb, 3, none⟩ = some (.slice aL Lg.length cL) := cell_of_row wc xb 3 _ _ _ HX4.out
              have fj0 : wc.frozen? ⟨xb, 0, none⟩ = false := frozen_of_row wc xb 0 _ _ HX4.out
              have fj1 : wc.frozen? ⟨xb, 1, none⟩ = false := frozen_of_row wc xb 1 _ _ HX4.out
              have fj2 : wc.frozen? ⟨xb, 2, none⟩ = false := frozen_of_row wc xb 2 _ _ HX4.out
              have fj3 : wc.frozen? ⟨xb, 3, none⟩ = false := frozen_of_row wc xb 3 _ _ HX4.out
              clear hbl hY hlog hwr hyb x0 x1 x2 x3 f1 HPa HPb HBa HBb HZa HZb HYA HSa HSb d0 d1 d2 d3
              go_upto_region 32 with (fail)
              generalize ((((wc.setCell ⟨xb, 0, none⟩ (.int .i64 (m : Int))).setCell ⟨xb, 1, none⟩ (.slice a0 L0 c0)).setCell ⟨xb, 2, none⟩ (.int .i64 (k' : Int))).setCell ⟨xb, 3, none⟩ (.slice aM LM.length cM)) = w8 at *
              clear HX4 HY4 y0 y1 y2 y3 j0 j1 j2 j3 fj0 fj1 fj2 fj3
              have hxx := nat_bne x
              go_wp2_with fail
              refine (dWrite_is dk.N _ HDz.out (by omega) HSz.out HAP.out HBY.out HQM.out HX.out).mono ?_
              rintro e w6 ⟨rfl, h6, t6⟩
              have HP6 : Hid (Play w5 w6 B E xb r m (j + 1) k' zs (.slice a0 L0 c0) (.slice aM LM.length cM) _ LM) := HNX.out w6 _ _ h6 HK.out (HWR.out.2 P HPW.out.disk.len HPW.out.asl) t6
              clear h6 t6 c1
              go_upto_region 34 with (fail)
              obtain ⟨tt, ht⟩ : ∃ tt, ft zs k' = tt := ⟨_, rfl⟩
              have HT : Hid (ft zs k' = tt) := ht
              obtain ⟨qq, hq⟩ : ∃ qq, zs.length - k' = qq := ⟨_, rfl⟩
              have HQ : Hid (zs.length - k' = qq) := hq
              have hk6 := HP6.out.kj
              have hmax : ∀ (ts : Array TypeId) (t : TypeId) (w : World), (Builtin.max_ ts t #[.int .i64 0, .int .i64 ((L0 : Int) - (k' : Int))]).run Try.prog w = .ok (.int .i64 (qq : Int)) w := by
                intro ts t w
                have := HZL.out
                rw [run_max_int2]
                congr 2
                split <;> omega
              have u1 := nat_bne k'
              have u2 := nat_bne tt
              have u3 := nat_bne qq
              have v2 : w6.cell? ⟨xb, 2, none⟩ = some (.int .i64 (k' : Int)) := cell_of_row w6 xb 2 _ _ _ HP6.out.var
              clear ht hq
              go_quiet (first | (go_at_call 18; exact quietSame (dAsked_is _ (HP6.out.disk.drewN _) rfl)) | (go_at_call 19; exact quietSame (dFailed_is _ (HP6.out.disk.drewN _) HT.out)) | (go_at_call 20; exact quietSame (refFailed_is _ _ (HZX.out.below (HP6.out.bel.trans ((drewN_below _ _ _).mono HP6.out.bel.size))) (by omega) (by omega) HT.out)) | (go_at_call 21; exact quietSame (dLeft_is _ (HP6.out.disk.drewN _) HQ.out)))
              go_wp2
              go_roundg (L - (j + 1))
              case measure => omega
              case rel => exact ⟨j + 1, k', _, _, _, by omega, rfl, by go_num, HP6.out.below (drewN_below _ _ _)⟩
          · by_cases hK2 : dk.K = 2
            · rw [hK2] at d0
              go_wp2_with fail
              refine (filled_any dk.V _).mono ?_
              rintro e wf ⟨rfl, hown, hbf⟩
              obtain ⟨bb, hbb⟩ : ∃ bb, List.replicate 512 dk.V = bb := ⟨_, rfl⟩
              have HBY : Hid (∀ x ∈ bb, x < 256) := by
                intro x hx
                rw [← hbb] at hx
                rw [(List.mem_replicate.1 hx).2]
                exact HOK.out.v
              rw [hbb] at hown
              clear hbb
              have HQM : Hid (512 ≤ maxLen) := by unfold maxLen; show _ ≤ _; omega
              have HPW : Hid (Play w5 wf B E xb r m j k zs (.slice a0 L0 c0) (.slice aL Lg.length cL) P Lg) := HPP.out.below hbf
              have HAP : Hid (Apart B E (.slice (some ⟨wr.heap.size, 0, none⟩) 512 512) bb) := apart_row hown HPP.out.elt
              have HSB : Hid (Stay wf B E xb (.slice (some ⟨wr.heap.size, 0, none⟩) 512 512) 512 bb) := stay_of (src_row hown) (fun ad q cc e hne => by
                simp only [Value.slice.injEq, Option.some.injEq] at e
                rw [← e.1]
                have := HPP.out.xlt
                show wr.heap.size ≠ xb
                omega)
              have d0f := (HDC.out wf HPW.out.bel).1
              rw [hK2] at d0f
              clear hown hbf d0 d1 d2 d3
              generalize wr.heap.size = af at *
              obtain ⟨k', hk'⟩ : ∃ k', acK m k dk.N 512 = k' := ⟨_, rfl⟩
              have HK : Hid (acK m k dk.N 512 = k') := hk'
              have hkl : k' ≤ k + 1 := by rw [← hk']; exact acK_le _ _ _ _
              obtain ⟨x, hx⟩ : ∃ x, acE m zs k dk.N 512 = x := ⟨_, rfl⟩
              have HX : Hid (acE m zs k dk.N 512 = x) := hx
              clear hk' hx
              go_upto_region 30 with (fail)
              have x0 : wf.cell? ⟨xb, 0, none⟩ = some (.int .i64 (m : Int)) := cell_of_row wf xb 0 _ _ _ HPW.out.var
              have x1 : wf.cell? ⟨xb, 1, none⟩ = some (.slice a0 L0 c0) := cell_of_row wf xb 1 _ _ _ HPW.out.var
              have x2 : wf.cell? ⟨xb, 2, none⟩ = some (.int .i64 (k : Int)) := cell_of_row wf xb 2 _ _ _ HPW.out.var
              have x3 : wf.cell? ⟨xb, 3, none⟩ = some (.slice aL Lg.length cL) := cell_of_row wf xb 3 _ _ _ HPW.out.var
              have f1 := (HDC.out wf HPW.out.bel).2.1
              have nxw2 : xb < wf.heap.size := HPW.out.xlt
              have nxw : xb ≠ wf.heap.size := Nat.ne_of_lt nxw2
              have nbw : bz < wf.heap.size := Nat.lt_of_lt_of_le HBZ.out HPW.out.bel.size
              have nbw2 : bz ≠ wf.heap.size := Nat.ne_of_lt nbw
              have HBa : Hid (Below wf.heap.size wf wf.drew) := drew_below _ _
              have HBb : Hid (Below wf.heap.size wf (wf.alloc (.cells #[.int .i64 0, .slice none 0 0, .int .i64 0, .slice none 0 0] 39)).drew) := ((Below.refl _ wf).alloc (Nat.le_refl _) _).trans (drew_below _ _)
              have HPa : Hid (Play w5 wf.drew B E xb r m j k zs (.slice a0 L0 c0) (.slice aL Lg.length cL) P Lg) := HPW.out.below HBa.out
              have HPb : Hid (Play w5 (wf.alloc (.cells #[.int .i64 0, .slice none 0 0, .int .i64 0, .slice none 0 0] 39)).drew B E xb r m j k zs (.slice a0 L0 c0) (.slice aL Lg.length cL) P Lg) := HPW.out.below HBb.out
              have HZa : Hid (BoolsAt wf.drew a0 L0 c0 zs) := HZX.out.below HPa.out.bel
              have HZb : Hid (BoolsAt (wf.alloc (.cells #[.int .i64 0, .slice none 0 0, .int .i64 0, .slice none 0 0] 39)).drew a0 L0 c0 zs) := HZX.out.below HPb.out.bel
              have HYA : Hid ((wf.alloc (.cells #[.int .i64 0, .slice none 0 0, .int .i64 0, .slice none 0 0] 39)).drew.heap[wf.heap.size]? = some (.cells #[.int .i64 0, .slice none 0 0, .int .i64 0, .slice none 0 0] 39 (0, 0))) := heap_alloc_new wf _
              have HSa : Hid (SrcAt wf.drew (.slice (some ⟨af, 0, none⟩) 512 512) 512 1 (bv bb)) := stay_below HSB.out HBa.out
              have HSb : Hid (SrcAt (wf.alloc (.cells #[.int .i64 0, .slice none 0 0, .int .i64 0, .slice none 0 0] 39)).drew (.slice (some ⟨af, 0, none⟩) 512 512) 512 1 (bv bb)) := stay_below HSB.out HBb.out
              go_cut [20, 21] (fun p no wz => AftW wf E m k zs dk.N bb Lg (.slice a0 L0 c0) k' x p no wz)
              case first =>
                go_region_held3 (fun w2 => w2.cell? ⟨xb, 0, none⟩ = some (.int .i64 (m : Int)) ∧ w2.cell? ⟨xb, 1, none⟩ = some (.slice a0 L0 c0) ∧ w2.cell? ⟨xb, 2, none⟩ = some (.int .i64 (k : Int)) ∧ w2.cell? ⟨xb, 3, none⟩ = some (.slice aL Lg.length cL) ∧ w2.cell? ⟨bz, off + j * 4 + 1, none⟩ = some (.int .i64 dk.N)) (first | (go_keep; done) | (simp only [cell_res4 nxw, cell_res4 nbw2]; first | done | (go_keep; done))) (first | (go_at_call 16; refine (refWrite_is dk.N _ HPb.out.log (by omega) HZb.out (by omega) HPb.out.elt HSb.out HQM.out HK.out HX.out).mono ?_; rintro e w2 ⟨vM, LM, rfl, hlog, hwr, b2⟩; obtain ⟨aM, cM, rfl⟩ := row_slice hlog.row; have HB2 : Hid (Below wf.heap.size wf w2) := HBb.out.trans (b2.mono HBb.out.size); have HLG : Hid (LogAt E w2 (.slice aM LM.length cM) LM) := hlog; have HWR : Hid (Wrote m zs k dk.N bb Lg LM) := hwr; have HX2 : Hid (w2.heap[xb]? = some (.cells #[.int .i64 (m : Int), .slice a0 L0 c0, .int .i64 (k : Int), .slice aL Lg.length cL] 39 (0, 0))) := (HB2.out.block xb nxw2).trans HPW.out.var; have z0 : w2.cell? ⟨xb, 0, none⟩ = some (.int .i64 (m : Int)) := cell_of_row w2 xb 0 _ _ _ HX2.out; have z1 : w2.cell? ⟨xb, 1, none⟩ = some (.slice a0 L0 c0) := cell_of_row w2 xb 1 _ _ _ HX2.out; have z2 : w2.cell? ⟨xb, 2, none⟩ = some (.int .i64 (k : Int)) := cell_of_row w2 xb 2 _ _ _ HX2.out; have z3 : w2.cell? ⟨xb, 3, none⟩ = some (.slice aL Lg.length cL) := cell_of_row w2 xb 3 _ _ _ HX2.out; have f2 := (HDC.out w2 (HPW.out.bel.trans (HB2.out.mono HPW.out.bel.size))).2.1; have nx : xb < w2.heap.size := (Array.getElem?_eq_some_iff.1 HX2.out).1; have nx2 : xb ≠ w2.heap.size := Nat.ne_of_lt nx; have nb : bz < w2.heap.size := Nat.lt_of_lt_of_le nbw HB2.out.size; have nb2 : bz ≠ w2.heap.size := Nat.ne_of_lt nb; have HY2 : Hid (w2.heap[wf.heap.size]? = some (.cells #[.int .i64 0, .slice none 0 0, .int .i64 0, .slice none 0 0] 39 (0, 0))) := (b2.block wf.heap.size (Array.getElem?_eq_some_iff.1 HYA.out).1).trans HYA.out; have q0 : w2.cell? ⟨wf.heap.size, 0, none⟩ = some (.int .i64 0) := cell_of_row w2 wf.heap.size 0 _ _ _ HY2.out; have q1 : w2.cell? ⟨wf.heap.size, 1, none⟩ = some (.slice none 0 0) := cell_of_row w2 wf.heap.size 1 _ _ _ HY2.out; have q2 : w2.cell? ⟨wf.heap.size, 2, none⟩ = some (.int .i64 0) := cell_of_row w2 wf.heap.size 2 _ _ _ HY2.out; have q3 : w2.cell? ⟨wf.heap.size, 3, none⟩ = some (.slice none 0 0) := cell_of_row w2 wf.heap.size 3 _ _ _ HY2.out; have g0 : w2.frozen? ⟨wf.heap.size, 0, none⟩ = false := frozen_of_row w2 _ 0 _ _ HY2.out; have g1 : w2.frozen? ⟨wf.heap.size, 1, none⟩ = false := frozen_of_row w2 _ 1 _ _ HY2.out; have g2 : w2.frozen? ⟨wf.heap.size, 2, none⟩ = false := frozen_of_row w2 _ 2 _ _ HY2.out; have g3 : w2.frozen? ⟨wf.heap.size, 3, none⟩ = false := frozen_of_row w2 _ 3 _ _ HY2.out; clear hlog hwr b2) | (go_at_call 16; refine (refWrite_is dk.N _ HPa.out.log (by omega) HZa.out (by omega) HPa.out.elt HSa.out HQM.out HK.out HX.out).mono ?_; rintro e w2 ⟨vM, LM, rfl, hlog, hwr, b2⟩; obtain ⟨aM, cM, rfl⟩ := row_slice hlog.row; have HB2 : Hid (Below wf.heap.size wf w2) := HBa.out.trans (b2.mono HBa.out.size); have HLG : Hid (LogAt E w2 (.slice aM LM.length cM) LM) := hlog; have HWR : Hid (Wrote m zs k dk.N bb Lg LM) := hwr; have HX2 : Hid (w2.heap[xb]? = some (.cells #[.int .i64 (m : Int), .slice a0 L0 c0, .int .i64 (k : Int), .slice aL Lg.length cL] 39 (0, 0))) := (HB2.out.block xb nxw2).trans HPW.out.var; have z0 : w2.cell? ⟨xb, 0, none⟩ = some (.int .i64 (m : Int)) := cell_of_row w2 xb 0 _ _ _ HX2.out; have z1 : w2.cell? ⟨xb, 1, none⟩ = some (.slice a0 L0 c0) := cell_of_row w2 xb 1 _ _ _ HX2.out; have z2 : w2.cell? ⟨xb, 2, none⟩ = some (.int .i64 (k : Int)) := cell_of_row w2 xb 2 _ _ _ HX2.out; have z3 : w2.cell? ⟨xb, 3, none⟩ = some (.slice aL Lg.length cL) := cell_of_row w2 xb 3 _ _ _ HX2.out; have f2 := (HDC.out w2 (HPW.out.bel.trans (HB2.out.mono HPW.out.bel.size))).2.1; have nx : xb < w2.heap.size := (Array.getElem?_eq_some_iff.1 HX2.out).1; have nx2 : xb ≠ w2.heap.size := Nat.ne_of_lt nx; have nb : bz < w2.heap.size := Nat.lt_of_lt_of_le nbw HB2.out.size; have nb2 : bz ≠ w2.heap.size := Nat.ne_of_lt nb; clear hlog hwr b2))
                all_goals go_wp2
                all_goals go_meet
                all_goals first | exact ⟨_, _, LM, rfl, rfl, HB2.out.size, heap_alloc_new w2 _, HLG.out.below ((Below.refl _ w2).alloc (Nat.le_refl _) _), HWR.out, HB2.out.alloc HB2.out.size _⟩ | exact ⟨_, _, LM, rfl, rfl, Nat.le_refl _, res4_kept HY2.out, HLG.out.tag HY2.out (fun g hg => res4_block hg), HWR.out, res4_below HB2.out (Nat.le_refl _)⟩
              case rest =>
                obtain ⟨yb, vM, LM, rfl, rfl, hyb, hY, hlog, hwr, hbl⟩ := hcut
                obtain ⟨aM, cM, rfl⟩ := row_slice hlog.row
                have HBc : Hid (Below wf.heap.size wf wc) := hbl
                have HY4 : Hid (wc.heap[yb]? = some (.cells #[.int .i64 (m : Int), .slice a0 L0 c0, .int .i64 (k' : Int), .slice aM LM.length cM] 39 (0, 0))) := hY
                have HX4 : Hid (wc.heap[xb]? = some (.cells #[.int .i64 (m : Int), .slice a0 L0 c0, .int .i64 (k : Int), .slice aL Lg.length cL] 39 (0, 0))) := (hbl.block xb nxw2).trans HPW.out.var
                have HLG : Hid (LogAt E wc (.slice aM LM.length cM) LM) := hlog
                have HWR : Hid (Wrote m zs k dk.N bb Lg LM) := hwr
                have HYX : Hid (xb ≠ yb) := by show _ ≠ _; omega
                have HDz : Hid (DiskAt B E ((((wc.setCell ⟨xb, 0, none⟩ (.int .i64 (m : Int))).setCell ⟨xb, 1, none⟩ (.slice a0 L0 c0)).setCell ⟨xb, 2, none⟩ (.int .i64 (k' : Int))).setCell ⟨xb, 3, none⟩ (.slice aM LM.length cM)) r m zs k P) := (HPW.out.disk.below hbl).kept (by simp) (fun i _ hi => res4_block (by have := HLO.out.2; omega))
                have HSz : Hid (SrcAt ((((wc.setCell ⟨xb, 0, none⟩ (.int .i64 (m : Int))).setCell ⟨xb, 1, none⟩ (.slice a0 L0 c0)).setCell ⟨xb, 2, none⟩ (.int .i64 (k' : Int))).setCell ⟨xb, 3, none⟩ (.slice aM LM.length cM)) (.slice (some ⟨af, 0, none⟩) 512 512) 512 1 (bv bb)) := HSB.out _ (by have := hbl.size; simpa using this) (fun g hg hne => (res4_block hne).trans (hbl.block g hg))
                have HNX : Hid (∀ w4 (k9 : Nat) (P9 : List Nat), DiskAt B E w4 r m zs k9 P9 → k9 = k' → AsLog m P9 LM → Turns B E ((((wc.setCell ⟨xb, 0, none⟩ (.int .i64 (m : Int))).setCell ⟨xb, 1, none⟩ (.slice a0 L0 c0)).setCell ⟨xb, 2, none⟩ (.int .i64 (k' : Int))).setCell ⟨xb, 3, none⟩ (.slice aM LM.length cM)) w4 → Play w5 w4 B E xb r m (j + 1) k' zs (.slice a0 L0 c0) (.slice aM LM.length cM) P9 LM) := by
                  intro w4 k9 P9 h9 e9 ha9 t9
                  subst e9
                  exact HPW.out.next2 HBc.out HLG.out h9 t9 ha9 hkl HWR.out.1
                have c1 : ((((wc.setCell ⟨xb, 0, none⟩ (.int .i64 (m : Int))).setCell ⟨xb, 1, none⟩ (.slice a0 L0 c0)).setCell ⟨xb, 2, none⟩ (.int .i64 (k' : Int))).setCell ⟨xb, 3, none⟩ (.slice aM LM.length cM)).cell? ⟨bz, off + j * 4 + 1, none⟩ = some (.int .i64 dk.N) := (HDC.out _ (res4_below (HPW.out.bel.trans (hbl.mono HPW.out.bel.size)) (by have := HLO.out; have := HPW.out.disk.hi; omega))).2.1
                have y0 : wc.cell? ⟨yb, 0, none⟩ = some (.int .i64 (m : Int)) := cell_of_row wc yb 0 _ _ _ HY4.out
                have y1 : wc.cell? ⟨yb, 1, none⟩ = some (.slice a0 L0 c0) := cell_of_row wc yb 1 _ _ _ HY4.out
                have y2 : wc.cell? ⟨yb, 2, none⟩ = some (.int .i64 (k' : Int)) := cell_of_row wc yb 2 _ _ _ HY4.out
                have y3 : wc.cell? ⟨yb, 3, none⟩ = some (.slice aM LM.length cM) := cell_of_row wc yb 3 _ _ _ HY4.out
                have j0 : wc.cell? ⟨xb, 0, none⟩ = some (.int .i64 (m : Int)) := cell_of_row wc xb 0 _ _ _ HX4.out
                have j1 : wc.cell? ⟨xb, 1, none⟩ = some (.slice a0 L0 c0) := cell_of_row wc xb 1 _ _ _ HX4.out
                have j2 : wc.cell? ⟨xb, 2, none⟩ = some (.int .i64 (k : Int)) := cell_of_row wc xb 2 _ _ _ HX4.out
                have j3 : wc.cell? ⟨xb, 3, none⟩ = some (.slice aL Lg.length cL) := cell_of_row wc xb 3 _ _ _ HX4.out
                have fj0 : wc.frozen? ⟨xb, 0, none⟩ = false := frozen_of_row wc xb 0 _ _ HX4.out
                have fj1 : wc.frozen? ⟨xb, 1, none⟩ = false := frozen_of_row wc xb 1 _ _ HX4.out
                have fj2 : wc.frozen? ⟨xb, 2, none⟩ = false := frozen_of_row wc xb 2 _ _ HX4.out
                have fj3 : wc.frozen? ⟨xb, 3, none⟩ = false := frozen_of_row wc xb 3 _ _ HX4.out
                clear hbl hY hlog hwr hyb x0 x1 x2 x3 f1 HPa HPb HBa HBb HZa HZb HYA HSa HSb d0f
                go_upto_region 32 with (fail)
                generalize ((((wc.setCell ⟨xb, 0, none⟩ (.int .i64 (m : Int))).setCell ⟨xb, 1, none⟩ (.slice a0 L0 c0)).setCell ⟨xb, 2, none⟩ (.int .i64 (k' : Int))).setCell ⟨xb, 3, none⟩ (.slice aM LM.length cM)) = w8 at *
                clear HX4 HY4 y0 y1 y2 y3 j0 j1 j2 j3 fj0 fj1 fj2 fj3
                have hxx := nat_bne x
                go_wp2_with fail
                refine (dWrite_is dk.N _ HDz.out (by omega) HSz.out HAP.out HBY.out HQM.out HX.out).mono ?_
                rintro e w6 ⟨rfl, h6, t6⟩
                have HP6 : Hid (Play w5 w6 B E xb r m (j + 1) k' zs (.slice a0 L0 c0) (.slice aM LM.length cM) _ LM) := HNX.out w6 _ _ h6 HK.out (HWR.out.2 P HPW.out.disk.len HPW.out.asl) t6
                clear h6 t6 c1
                go_upto_region 34 with (fail)
                obtain ⟨tt, ht⟩ : ∃ tt, ft zs k' = tt := ⟨_, rfl⟩
                have HT : Hid (ft zs k' = tt) := ht
                obtain ⟨qq, hq⟩ : ∃ qq, zs.length - k' = qq := ⟨_, rfl⟩
                have HQ : Hid (zs.length - k' = qq) := hq
                have hk6 := HP6.out.kj
                have hmax : ∀ (ts : Array TypeId) (t : TypeId) (w : World), (Builtin.max_ ts t #[.int .i64 0, .int .i64 ((L0 : Int) - (k' : Int))]).run Try.prog w = .ok (.int .i64 (qq : Int)) w := by
                  intro ts t w
                  have := HZL.out
                  rw [run_max_int2]
                  congr 2
                  split <;> omega
                have u1 := nat_bne k'
                have u2 := nat_bne tt
                have u3 := nat_bne qq
                have v2 : w6.cell? ⟨xb, 2, none⟩ = some (.int .i64 (k' : Int)) := cell_of_row w6 xb 2 _ _ _ HP6.out.var
                clear ht hq
                go_quiet (first | (go_at_call 18; exact quietSame (dAsked_is _ (HP6.out.disk.drewN _) rfl)) | (go_at_call 19; exact quietSame (dFailed_is _ (HP6.out.disk.drewN _) HT.out)) | (go_at_call 20; exact quietSame (refFailed_is _ _ (HZX.out.below (HP6.out.bel.trans ((drewN_below _ _ _).mono HP6.out.bel.size))) (by omega) (by omega) HT.out)) | (go_at_call 21; exact quietSame (dLeft_is _ (HP6.out.disk.drewN _) HQ.out)))
                go_wp2
                go_roundg (L - (j + 1))
                case measure => omega
                case rel => exact ⟨j + 1, k', _, _, _, by omega, rfl, by go_num, HP6.out.below (drewN_below _ _ _)⟩
            · have t0 : (dk.K == 0) = false := by rw [beq_eq_false_iff_ne]; exact hK0
              have t1 : (dk.K == 1) = false := by rw [beq_eq_false_iff_ne]; exact hK1
              have t2 : (dk.K == 2) = false := by rw [beq_eq_false_iff_ne]; exact hK2
              obtain ⟨l, hl⟩ : ∃ l, pkL m Lg dk.N = l := ⟨_, rfl⟩
              have HPL : Hid (pkL m Lg dk.N = l) := hl
              have HPK : Hid (pkD m P dk.N = l) := (HPP.out.asl.peek dk.N).symm.trans hl
              clear hl
              have HPW := HPP
              go_upto_region 20 with (fail)
              have x0 : wr.cell? ⟨xb, 0, none⟩ = some (.int .i64 (m : Int)) := cell_of_row wr xb 0 _ _ _ HPW.out.var
              have x1 : wr.cell? ⟨xb, 1, none⟩ = some (.slice a0 L0 c0) := cell_of_row wr xb 1 _ _ _ HPW.out.var
              have x2 : wr.cell? ⟨xb, 2, none⟩ = some (.int .i64 (k : Int)) := cell_of_row wr xb 2 _ _ _ HPW.out.var
              have x3 : wr.cell? ⟨xb, 3, none⟩ = some (.slice aL Lg.length cL) := cell_of_row wr xb 3 _ _ _ HPW.out.var
              have f1 := (HDC.out wr HPW.out.bel).2.1
              have nxw2 : xb < wr.heap.size := HPW.out.xlt
              have nxw : xb ≠ wr.heap.size := Nat.ne_of_lt nxw2
              have nbw : bz < wr.heap.size := Nat.lt_of_lt_of_le HBZ.out HPW.out.bel.size
              have nbw2 : bz ≠ wr.heap.size := Nat.ne_of_lt nbw
              have HBa : Hid (Below wr.heap.size wr wr.drew) := drew_below _ _
              have HBb : Hid (Below wr.heap.size wr (wr.alloc (.cells #[.int .i64 0, .slice none 0 0, .int .i64 0, .slice none 0 0] 39)).drew) := ((Below.refl _ wr).alloc (Nat.le_refl _) _).trans (drew_below _ _)
              have HPa : Hid (Play w5 wr.drew B E xb r m j k zs (.slice a0 L0 c0) (.slice aL Lg.length cL) P Lg) := HPW.out.below HBa.out
              have HPb : Hid (Play w5 (wr.alloc (.cells #[.int .i64 0, .slice none 0 0, .int .i64 0, .slice none 0 0] 39)).drew B E xb r m j k zs (.slice a0 L0 c0) (.slice aL Lg.length cL) P Lg) := HPW.out.below HBb.out
              have HZa : Hid (BoolsAt wr.drew a0 L0 c0 zs) := HZX.out.below HPa.out.bel
              have HZb : Hid (BoolsAt (wr.alloc (.cells #[.int .i64 0, .slice none 0 0, .int .i64 0, .slice none 0 0] 39)).drew a0 L0 c0 zs) := HZX.out.below HPb.out.bel
              have HYA : Hid ((wr.alloc (.cells #[.int .i64 0, .slice none 0 0, .int .i64 0, .slice none 0 0] 39)).drew.heap[wr.heap.size]? = some (.cells #[.int .i64 0, .slice none 0 0, .int .i64 0, .slice none 0 0] 39 (0, 0))) := heap_alloc_new wr _
              clear HPb HBb HZb HYA
              go_cut [138] (fun b wz => b = .bool false ∧ Below wr.heap.size wr wz)
              case first =>
                go_region_held3 (fun w2 => w2.cell? ⟨xb, 0, none⟩ = some (.int .i64 (m : Int)) ∧ w2.cell? ⟨xb, 1, none⟩ = some (.slice a0 L0 c0) ∧ w2.cell? ⟨xb, 2, none⟩ = some (.int .i64 (k : Int)) ∧ w2.cell? ⟨xb, 3, none⟩ = some (.slice aL Lg.length cL) ∧ w2.cell? ⟨bz, off + j * 4 + 1, none⟩ = some (.int .i64 dk.N)) (first | (go_keep; done) | (simp only [cell_res4 nxw, cell_res4 nbw2]; first | done | (go_keep; done))) (first | (go_at_call 10; refine (dPeek_any dk.N _ HPa.out.disk).mono ?_; rintro e w2 ⟨v2, rfl, own2, b2⟩; rw [HPK.out] at own2; obtain ⟨p2, c2, rfl⟩ := row_slice own2; have HB2 : Hid (Below wr.heap.size wr w2) := HBa.out.trans (b2.mono HBa.out.size); have HP2 : Hid (Play w5 w2 B E xb r m j k zs (.slice a0 L0 c0) (.slice aL Lg.length cL) P Lg) := HPP.out.below HB2.out; have HO2 : Hid (w2.ownsRow wr.heap.size 5 1 (.slice p2 l.length c2) l.length (bv l)) := rowMono own2 HBa.out.size; have HX2 : Hid (w2.heap[xb]? = some (.cells #[.int .i64 (m : Int), .slice a0 L0 c0, .int .i64 (k : Int), .slice aL Lg.length cL] 39 (0, 0))) := (HB2.out.block xb nxw2).trans HPW.out.var; have z0 : w2.cell? ⟨xb, 0, none⟩ = some (.int .i64 (m : Int)) := cell_of_row w2 xb 0 _ _ _ HX2.out; have z1 : w2.cell? ⟨xb, 1, none⟩ = some (.slice a0 L0 c0) := cell_of_row w2 xb 1 _ _ _ HX2.out; have z2 : w2.cell? ⟨xb, 2, none⟩ = some (.int .i64 (k : Int)) := cell_of_row w2 xb 2 _ _ _ HX2.out; have z3 : w2.cell? ⟨xb, 3, none⟩ = some (.slice aL Lg.length cL) := cell_of_row w2 xb 3 _ _ _ HX2.out; have f2 := (HDC.out w2 (HPW.out.bel.trans (HB2.out.mono HPW.out.bel.size))).2.1; have nx : xb < w2.heap.size := (Array.getElem?_eq_some_iff.1 HX2.out).1; have nx2 : xb ≠ w2.heap.size := Nat.ne_of_lt nx; have nb : bz < w2.heap.size := Nat.lt_of_lt_of_le nbw HB2.out.size; have nb2 : bz ≠ w2.heap.size := Nat.ne_of_lt nb; clear own2 b2) | (go_at_call 17; refine (refPeek_any dk.N w2 HP2.out.log (by omega)).mono ?_; rintro e w3 ⟨v3, rfl, own3, b3⟩; rw [HPL.out] at own3; obtain ⟨p3, c3, rfl⟩ := row_slice own3; have HB3 : Hid (Below wr.heap.size wr w3) := HB2.out.trans (b3.mono HB2.out.size); have HC1 : Hid ((convert 25 9 (.slice p2 l.length c2)).run Try.prog w3 = .ok (.string (strB l)) w3) := conv_any (row_below HO2.out b3); have HC2 : Hid ((convert 25 9 (.slice p3 l.length c3)).run Try.prog w3 = .ok (.string (strB l)) w3) := conv_any own3; have HX3 : Hid (w3.heap[xb]? = some (.cells #[.int .i64 (m : Int), .slice a0 L0 c0, .int .i64 (k : Int), .slice aL Lg.length cL] 39 (0, 0))) := (HB3.out.block xb nxw2).trans HPW.out.var; have o0 : w3.cell? ⟨xb, 0, none⟩ = some (.int .i64 (m : Int)) := cell_of_row w3 xb 0 _ _ _ HX3.out; have o1 : w3.cell? ⟨xb, 1, none⟩ = some (.slice a0 L0 c0) := cell_of_row w3 xb 1 _ _ _ HX3.out; have o2 : w3.cell? ⟨xb, 2, none⟩ = some (.int .i64 (k : Int)) := cell_of_row w3 xb 2 _ _ _ HX3.out; have o3 : w3.cell? ⟨xb, 3, none⟩ = some (.slice aL Lg.length cL) := cell_of_row w3 xb 3 _ _ _ HX3.out; have f3 := (HDC.out w3 (HPW.out.bel.trans (HB3.out.mono HPW.out.bel.size))).2.1; clear own3 b3) | (go_at_call 15; refine (refBytes_same _ _ l w3 HC1.out HC2.out).mono ?_; rintro e wt ⟨rfl, rfl⟩))
                all_goals go_wp2
                all_goals go_meet
                all_goals exact ⟨rfl, HB3.out⟩
              case rest =>
                obtain ⟨rfl, hbl⟩ := hcut
                have HP6 : Hid (Play w5 wc B E xb r m (j + 1) k zs (.slice a0 L0 c0) (.slice aL Lg.length cL) P Lg) := (HPP.out.below hbl).more
                clear hbl x0 x1 x2 x3 f1 HPa HBa HZa d0 d1 d2 d3
                generalize wc = w6 at *
                go_upto_region 34 with (fail)
                obtain ⟨tt, ht⟩ : ∃ tt, ft zs k = tt := ⟨_, rfl⟩
                have HT : Hid (ft zs k = tt) := ht
                obtain ⟨qq, hq⟩ : ∃ qq, zs.length - k = qq := ⟨_, rfl⟩
                have HQ : Hid (zs.length - k = qq) := hq
                have hk6 := HP6.out.kj
                have hmax : ∀ (ts : Array TypeId) (t : TypeId) (w : World), (Builtin.max_ ts t #[.int .i64 0, .int .i64 ((L0 : Int) - (k : Int))]).run Try.prog w = .ok (.int .i64 (qq : Int)) w := by
                  intro ts t w
                  have := HZL.out
                  rw [run_max_int2]
                  congr 2
                  split <;> omega
                have u1 := nat_bne k
                have u2 := nat_bne tt
                have u3 := nat_bne qq
                have v2 : w6.cell? ⟨xb, 2, none⟩ = some (.int .i64 (k : Int)) := cell_of_row w6 xb 2 _ _ _ HP6.out.var
                clear ht hq
                go_quiet (first | (go_at_call 18; exact quietSame (dAsked_is _ (HP6.out.disk.drewN _) rfl)) | (go_at_call 19; exact quietSame (dFailed_is _ (HP6.out.disk.drewN _) HT.out)) | (go_at_call 20; exact quietSame (refFailed_is _ _ (HZX.out.below (HP6.out.bel.trans ((drewN_below _ _ _).mono HP6.out.bel.size))) (by omega) (by omega) HT.out)) | (go_at_call 21; exact quietSame (dLeft_is _ (HP6.out.disk.drewN _) HQ.out)))
                go_wp2
                go_roundg (L - (j + 1))
                case measure => omega
                case rel => exact ⟨j + 1, k, _, _, _, by omega, rfl, by go_num, HP6.out.below (drewN_below _ _ _)⟩
      · have i5 : ¬ (j : Int) < (L : Int) := by omega
        have HPP : Hid (Play w5 _ B E xb r m j k zs (.slice a0 L0 c0) vL P Lg) := hP
        clear hP HP1
        go_wp2_with fail
        refine (lives_any _).mono ?_
        rintro e wl ⟨rfl, hb⟩
        have hb2 := HBB.out.trans ((HPP.out.bel.trans (hb.mono HPP.out.bel.size)).mono HBB.out.size)
        clear hb
        go_wp2
        go_ret
        exact ⟨rfl, hb2⟩

theorem walk {H : Type} {enc : TypeId × Value → H} {w : World} {base : Nat} {v0 v1 v2 : Value} {d0 d1 d2 : DataW H} {p0 p1 p2 : List MemPlace}
    (o0 : Value.okWide Try.prog w .any base 3 v0) (o1 : Value.okWide Try.prog w .any base 22 v1) (o2 : Value.okWide Try.prog w .any base 23 v2)
    (h0 : DataW.Trod enc Try.prog w 0 (fun _ => true) true 3 v0 d0 p0) (h1 : DataW.Trod enc Try.prog w 0 (fun _ => true) true 22 v1 d1 p1) (h2 : DataW.Trod enc Try.prog w 0 (fun _ => true) true 23 v2 d2 p2) :
    Calls Try.prog 3 #[v0, v1, v2] w fun e w' => e = .returned (.bool true) ∧ Below w.heap.size w w' := by
  obtain ⟨n, rfl, hn⟩ := openOne Try.underlying3 o0 h0
  obtain ⟨a0, L0, c0, zs, rfl, hL0, hz⟩ := openBools Try.underlying22 Try.underlying4 (by kernel_rfl) o1 h1
  obtain ⟨a, L, c, D, rfl, hL, hds⟩ := openDeeds Try.underlying23 Try.underlying41 (by kernel_rfl) (by kernel_rfl) Try.underlying3 Try.underlying3 Try.underlying5 Try.underlying25 Try.underlying5 (by kernel_rfl) o2 h2
  exact run n a0 L0 c0 zs a L c D w hL0 hz hL hds

set_option maxRecDepth 100000 in
theorem lifted (os : Os) (started : os.Started) (H : Type) (enc : TypeId × Value → H) :
    ReturnsInHanded {} Try.checked os 3 .any (Rows.diskPlaysSpec.pre6 enc Try.prog Try.f3 Rows.diskPlaysRow.domain false) (Rows.diskPlaysSpec.post enc Try.prog Try.f3 false true false false) := by
  refine returnsInHanded_of_change (C := Try.checked) own started (by kernel_rfl) Try.func3
    (ChangeSpec.witness6 (enc := enc) (C := Try.checked) false ⟨#[], #[.int .i64 0, .slice none 0 0, .slice none 0 0], []⟩ 8 (by kernel_rfl) (by kernel_rfl) (by kernel_rfl) (by kernel_rfl)) ?_
  intro W base args ds gs before hval0 hW hcnd _
  have hval : ∀ (j : Nat) t v, Try.f3.params[j]? = some t → args[j]? = some v → Value.okWide Try.prog W .any base t v := hval0
  have hW' := hW
  obtain ⟨p, q, hA0, hV, rfl, hfz, hnd⟩ := hW
  have hA : DataW.TrodAll enc Try.prog W 0 (fun _ => true) true Try.f3.params.toList args.toList ds p := hA0
  rw [Try.params3] at hA hval
  obtain ⟨v0, vs0, d0, ds0, p0, q0, hargs, rfl, rfl, h0, r0⟩ := trodAll_cons hA
  obtain ⟨v1, vs1, d1, ds1, p1, q1, rfl, rfl, rfl, h1, r1⟩ := trodAll_cons r0
  obtain ⟨v2, vs2, d2, ds2, p2, q2, rfl, rfl, rfl, h2, r2⟩ := trodAll_cons r1
  obtain ⟨rfl, rfl, rfl⟩ := trodAll_nil r2
  obtain rfl : args = #[v0, v1, v2] := by cases args; simp_all
  obtain ⟨rfl, rfl⟩ := trodVars_none hV
  have o0 := hval 0 3 v0 rfl rfl
  have lt0 : ∀ x ∈ p0, x.block < W.heap.size := by obtain ⟨m, hm⟩ := h0; exact DataW.trod_lt m _ _ _ hm
  have o1 := hval 1 22 v1 rfl rfl
  have lt1 : ∀ x ∈ p1, x.block < W.heap.size := by obtain ⟨m, hm⟩ := h1; exact DataW.trod_lt m _ _ _ hm
  have o2 := hval 2 23 v2 rfl rfl
  have lt2 : ∀ x ∈ p2, x.block < W.heap.size := by obtain ⟨m, hm⟩ := h2; exact DataW.trod_lt m _ _ _ hm
  clear hA0 hval0
  refine (walk o0 o1 o2 h0 h1 h2).mono fun e W' ⟨he, bel⟩ => ?_
  subst he
  exact ⟨_, rfl, _, _, _, [], _, [], hW', trodAll_mk1 (shut_bool Try.underlying4 _), (trodAll_cons_mk (Below.trod laidOut (by kernel_rfl) (of_decide_eq_true (by kernel_rfl)) h0 bel lt0) (trodAll_cons_mk (Below.trod laidOut (by kernel_rfl) (of_decide_eq_true (by kernel_rfl)) h1 bel lt1) (trodAll_cons_mk (Below.trod laidOut (by kernel_rfl) (of_decide_eq_true (by kernel_rfl)) h2 bel lt2) trodAll_mk0))), rfl, bel.frame _, fun h => by cases h⟩

theorem over : Rows.diskPlaysRow.holds Try.pinned (OpenSpec.ofChange Rows.diskPlaysSpec) :=
  OpenClaim.holds_of_wide 3 Try.f3 rfl rfl rfl rfl rfl rfl rfl ⟨rfl, rfl, rfl, rfl, rfl⟩ rfl rfl rfl rfl rfl (by kernel_rfl) Try.func3 (by kernel_rfl)
    (of_decide_eq_true (by kernel_rfl)) (by unfold Func.isWrapper; first | (rw [if_pos (by decide +kernel)]; kernel_rfl) | (rw [if_neg (by decide +kernel)]; exact ⟨rfl, rfl⟩))
    (fun os started H enc _ => lifted os started H enc)
end Go.Proofs.Ytdoklbocdmmahaa.DiskPlays
namespace Go.Proofs.Ytdoklbocdmmahaa
/-- The statement. -/
theorem diskPlays_holds : Rows.DiskPlaysSaid := DiskPlays.over
#print axioms diskPlays_holds
end Go.Proofs.Ytdoklbocdmmahaa
