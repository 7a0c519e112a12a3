/- Proved: gunnylaw08.DiskFails returns true for all lists of bools, all lists of deeds and all deeds: what was written is read, or ErrIO is told; what failed changed no sector; what is told shares nothing with the disk. No conditions. -/
import Derived.Test.YtdoklbocdmmahaaDGreat
import Derived.Test.YtdoklbocdmmahaaGWas
import Derived.Deep.LoopGhost
import Derived.Deep.DeepCutAuto
import Derived.Deep.RegionWith
import Derived.BigRegion
namespace Go.Proofs.Ytdoklbocdmmahaa.DiskFails
open Go.ChangeShapes Go.WideShapes Go.ChangeAt Go.RowKit
set_option linter.unusedVariables false
theorem own : ownKnob Try.prog.godebug = none := by kernel_rfl
theorem laidOut : laidOutB Try.prog = true := by kernel_rfl
theorem Try.zero50 : (Try.prog.info? 50).map (fun i => i.zero) = some (some (.agg (Array.replicate 6 (.slice none 0 0)))) := by kernel_rfl
theorem zero_was (w : World) : (zeroValue 50).run Try.prog w = .ok (.agg (Array.replicate 6 (.slice none 0 0))) w := by
  obtain ⟨i, hi, hz⟩ := Option.map_eq_some_iff.1 Try.zero50
  generalize (Array.replicate 6 (Value.slice none 0 0)) = Z at *
  simp [zeroValue, typeInfo, hi, hz, go_sem]
theorem inc_le (k : Nat) (b : Bool) : inc k b ≤ k + 1 := by unfold inc; split <;> omega

/-- The first rounds' state. -/
structure Held (wx wr : World) (Q E r j k : Nat) (zs : List Bool) (P : List Nat) : Prop where
  disk : DiskAt Q E wr r 6 zs k P
  bel : Below wx.heap.size wx wr
  qs : wx.heap.size ≤ Q
  kj : k ≤ j
theorem Held.step {wx wr w2 : World} {Q E r j k k' : Nat} {zs : List Bool} {P P' : List Nat} (h : Held wx wr Q E r j k zs P) (h2 : DiskAt Q E w2 r 6 zs k' P') (t2 : Turns Q E wr w2) (hk : k' ≤ k + 1) : Held wx w2 Q E r (j + 1) k' zs P' := by
  have e := h.disk.hi
  have := h.kj
  exact ⟨h2, h.bel.trans ((t2.below (by omega)).mono h.qs), h.qs, by omega⟩
/-- What sector n has. -/
def sec (P : List Nat) (n : Nat) : List Nat := seg P (n * 512) 512
theorem pk_sec {m : Nat} {P : List Nat} {n : Nat} (h : n < m) : pkD m P (n : Int) = sec P n := by rw [pkD, if_pos (inD_nat h), Int.toNat_natCast]; rfl
theorem sec_len {m : Nat} {P : List Nat} {n : Nat} (hl : P.length = m * 512) (h : n < m) : (sec P n).length = 512 := length_seg (by rw [hl]; exact sec_le h)
/-- The later rounds' state. -/
structure Seen (wx wr : World) (Q E r wa n k : Nat) (zs : List Bool) (P : List Nat) : Prop where
  disk : DiskAt Q E wr r 6 zs k P
  was : WAt 50 6 wr E wa n (sec P)
  bel : Below wx.heap.size wx wr
  qs : wx.heap.size ≤ Q
theorem Seen.next {wx wr w2 : World} {Q E r wa n k : Nat} {zs : List Bool} {P : List Nat} {v : Value} (h : Seen wx wr Q E r wa n k zs P) (hn : n < 6) (hb : Below wr.heap.size wr w2)
    (hv : w2.ownsRow wr.heap.size 5 1 v (sec P n).length (bv (sec P n))) : Seen wx (w2.setCell ⟨wa, n, none⟩ v) Q E r wa (n + 1) k zs P := by
  have e := h.disk.hi
  have lo := h.was.lo
  have qs := h.qs
  refine ⟨(h.disk.below hb).kept (by simp) (fun i _ hi => Below.heap_setCell _ _ _ _ (by show i ≠ wa; omega)), (h.was.below hb).set hn (fun j hj => ?_) (rowMono hv e.1), (h.bel.trans (hb.mono h.bel.size)).setCell (p := ⟨wa, n, none⟩) (by show _ ≤ wa; omega) _, qs⟩
  by_cases e : j = n
  · exact .inl e
  · exact .inr ⟨by omega, rfl⟩
theorem Seen.turn {wx wr w2 : World} {Q E r wa n k k' : Nat} {zs : List Bool} {P : List Nat} (h : Seen wx wr Q E r wa n k zs P) (h2 : DiskAt Q E w2 r 6 zs k' P) (ht : Turns Q E wr w2) : Seen wx w2 Q E r wa n k' zs P := by
  have e := h.disk.hi
  exact ⟨h2, h.was.turns ht, h.bel.trans ((ht.below (by omega)).mono h.qs), h.qs⟩
/-- Behind a write that was done: the sector's new bytes are noted. -/
theorem Seen.put {wx wr w2 w3 : World} {Q E r wa k k' i : Nat} {zs : List Bool} {P b : List Nat} {v : Value} (h : Seen wx wr Q E r wa 6 k zs P) (h2 : DiskAt Q E w2 r 6 zs k' (putAt P (i * 512) b)) (ht : Turns Q E wr w2) (hi : i < 6) (hl : b.length = 512) (hb : Below w2.heap.size w2 w3)
    (hv : w3.ownsRow w2.heap.size 5 1 v b.length (bv b)) : Seen wx (w3.setCell ⟨wa, i, none⟩ v) Q E r wa 6 k' zs (putAt P (i * 512) b) := by
  have e := h.disk.hi
  have lo := h.was.lo
  have qs := h.qs
  have hP := h.disk.len
  have hle := sec_le hi
  have hfit : i * 512 + b.length ≤ P.length := by rw [hP, hl]; exact hle
  have hbel := h.bel.trans ((ht.below (by omega)).mono h.qs)
  refine ⟨(h2.below hb).kept (by simp) (fun j _ hj => Below.heap_setCell _ _ _ _ (by show j ≠ wa; omega)), ((h.was.turns ht).below hb).set hi (fun n hn => ?_) ?_, (hbel.trans (hb.mono hbel.size)).setCell (p := ⟨wa, i, none⟩) (by show _ ≤ wa; omega) _, qs⟩
  · by_cases e : n = i
    · exact .inl e
    · refine .inr ⟨hn, seg_putAt_other hfit (by rw [hP]; exact sec_le hn) ?_⟩
      rw [hl]
      rcases Nat.lt_or_gt_of_ne e with h4 | h4
      · have := sec_le h4; left; omega
      · have := sec_le h4; right; omega
  · have e2 : sec (putAt P (i * 512) b) i = b := by
      have := seg_putAt hfit
      rw [hl] at this
      exact this
    rw [e2]
    exact rowMono hv (by have := h2.hi; omega)

def iv8 (l : List Int) : List Value := l.map (Value.int .u8)
theorem iv8_bv (l : List Nat) : bv l = iv8 (l.map fun x : Nat => (x : Int)) := by simp [bv, iv8]
theorem iv8_at (l : List Int) (i : Nat) (hi : i < l.length) : (iv8 l)[i]? = some (.int .u8 (l.getD i 0)) := by simp [iv8, List.getD, hi]
theorem iv8_set (l : List Int) (i : Nat) (z : Int) : (iv8 l).set i (.int .u8 z) = iv8 (l.set i z) := by simp [iv8, List.map_set]
/-- What was told is written over. -/
structure Mod (wr wq : World) (Q E r k : Nat) (zs : List Bool) (P : List Nat) (vn vb : Value) (G M : Nat) (T U : List Int) : Prop where
  disk : DiskAt Q E wq r 6 zs k P
  turn : Turns Q E wr wq
  now : wq.ownsRow wr.heap.size 5 1 vn 512 (iv8 T)
  nlt : ∀ g, vn.ownBlock = some g → g < G
  b : wq.ownsRow G 5 1 vb M (iv8 U)
  es : E ≤ wr.heap.size
  gs : wr.heap.size ≤ G
section
variable {wr wq : World} {Q E r k G M g c : Nat} {zs : List Bool} {P : List Nat} {vn vb : Value} {T U : List Int}
theorem Mod.setN (h : Mod wr wq Q E r k zs P (.slice (some ⟨g, 0, none⟩) 512 c) vb G M T U) (hg : wr.heap.size ≤ g) (i : Nat) (z : Int) :
    Mod wr (wq.setCell ⟨g, i, none⟩ (.int .u8 z)) Q E r k zs P (.slice (some ⟨g, 0, none⟩) 512 c) vb G M (T.set i z) U := by
  have es := h.es
  have hlt := h.nlt g rfl
  refine ⟨h.disk.kept (by simp) (fun j _ hj => Below.heap_setCell _ _ _ _ (by show j ≠ g; omega)), h.turn.setNew (p := ⟨g, i, none⟩) hg _, ?_, h.nlt, ?_, es, h.gs⟩
  · rw [← iv8_set]; exact (h.now.stored i _).1
  · refine ⟨h.b.1, ?_⟩
    rcases h.b.2 with h1 | ⟨g', cap, cur, h1, h2, h3, r⟩
    · exact .inl h1
    · exact .inr ⟨g', cap, cur, h1, h2, (Below.heap_setCell _ _ _ _ (by show g' ≠ g; omega)).trans h3, r⟩
theorem Mod.setB (h : Mod wr wq Q E r k zs P vn (.slice (some ⟨g, 0, none⟩) M c) G M T U) (hg : G ≤ g) (i : Nat) (z : Int) :
    Mod wr (wq.setCell ⟨g, i, none⟩ (.int .u8 z)) Q E r k zs P vn (.slice (some ⟨g, 0, none⟩) M c) G M T (U.set i z) := by
  have es := h.es
  have gs := h.gs
  refine ⟨h.disk.kept (by simp) (fun j _ hj => Below.heap_setCell _ _ _ _ (by show j ≠ g; omega)), h.turn.setNew (p := ⟨g, i, none⟩) (by show _ ≤ g; omega) _, ?_, h.nlt, ?_, es, h.gs⟩
  · refine ⟨h.now.1, ?_⟩
    rcases h.now.2 with h1 | ⟨g', cap, cur, h1, h2, h3, r⟩
    · exact .inl h1
    · refine .inr ⟨g', cap, cur, h1, h2, (Below.heap_setCell _ _ _ _ (by show g' ≠ g; have := h.nlt g' (by rw [h1]; rfl); omega)).trans h3, r⟩
  · rw [← iv8_set]; exact (h.b.stored i _).1
end

set_option maxRecDepth 100000 in
set_option maxHeartbeats 8000000 in
theorem run (a0 : Option Addr) (L0 c0 : Nat) (zs : List Bool) (a : Option Addr) (L c : Nat) (D : Nat → Dd) (d : Dd) (w : World) (hL0 : L0 ≤ maxLen) (hz : BoolsAt w a0 L0 c0 zs) (hL : L ≤ maxLen) (hds : DeedsAt w a L D) (hd : DeedOk w d) :
    Calls Try.prog 4 #[.slice a0 L0 c0, .slice a L c, .agg #[.int .i64 d.K, .int .i64 d.N, .int .u8 (d.V : Int), .slice d.p d.l d.c]] w fun e w' => e = .returned (.bool true) ∧ Below w.heap.size w w' := by
  have hbox : Below w.heap.size w (w.alloc (.cells #[.int .i64 d.K, .int .i64 d.N, .int .u8 (d.V : Int), .slice d.p d.l d.c] 41)) := (Below.refl _ w).alloc (Nat.le_refl _) _
  have HDD : Hid (DeedOk _ d) := hd.below hbox
  have HDS : Hid (DeedsAt _ a L D) := hds.below hbox
  have HZ : Hid (BoolsAt _ a0 L0 c0 zs) := hz.below hbox
  have HBX : Hid (Below w.heap.size w (w.alloc (.cells #[.int .i64 d.K, .int .i64 d.N, .int .u8 (d.V : Int), .slice d.p d.l d.c] 41))) := hbox
  have HCE : Hid ((w.alloc (.cells #[.int .i64 d.K, .int .i64 d.N, .int .u8 (d.V : Int), .slice d.p d.l d.c] 41)).heap[w.heap.size]? = some (.cells #[.int .i64 d.K, .int .i64 d.N, .int .u8 (d.V : Int), .slice d.p d.l d.c] 41 (0, 0))) := heap_alloc_new w _
  have HSZ : Hid (w.heap.size < (w.alloc (.cells #[.int .i64 d.K, .int .i64 d.N, .int .u8 (d.V : Int), .slice d.p d.l d.c] 41)).heap.size) := by show _ < _; simp
  have HL : Hid (L ≤ maxLen) := hL
  unfold maxLen at hL hL0
  clear hbox hds hd hz
  go_enter Try.func4, Try.ntmps4
  by_cases hlong : 500 < L0
  · go_wp2_with fail
    refine (lives_any _).mono ?_
    rintro e w1 ⟨rfl, hb⟩
    have hb2 := HBX.out.trans (hb.mono HBX.out.size)
    clear hb
    go_wp2
    go_ret
    exact ⟨rfl, hb2⟩
  go_wp2_with fail
  generalize w.alloc (.cells #[.int .i64 d.K, .int .i64 d.N, .int .u8 (d.V : Int), .slice d.p d.l d.c] 41) = wx at *
  obtain ⟨bb, hbb⟩ : ∃ bb, w.heap.size = bb := ⟨_, rfl⟩
  rw [hbb] at HCE HSZ
  rw [hbb]
  have CL : Hid (∀ {w2 : World}, Below wx.heap.size wx w2 → w2.heap[bb]? = some (.cells #[.int .i64 d.K, .int .i64 d.N, .int .u8 (d.V : Int), .slice d.p d.l d.c] 41 (0, 0))) := fun hb => (hb.block bb HSZ.out).trans HCE.out
  clear hbb HCE
  refine (great_any a L c D wx HL.out HDS.out).mono ?_
  rintro e w' ⟨v, rfl, rfl, b, rfl, hg⟩
  cases b with
  | true =>
    clear hg
    go_wp2_with fail
    refine (lives_any _).mono ?_
    rintro e w1 ⟨rfl, hb⟩
    have hb2 := HBX.out.trans (hb.mono HBX.out.size)
    clear hb
    go_wp2
    go_ret
    exact ⟨rfl, hb2⟩
  | false =>
    have hL60 := hg rfl
    clear hg
    go_wp2_with fail
    refine (dNew_any 6 _ (by omega) HZ.out (by omega)).mono ?_
    rintro e w1 ⟨r, rfl, h1, b1⟩
    have HH : Hid (Held wx w1 wx.heap.size w1.heap.size r 0 0 zs (zeros 6)) := ⟨h1, b1, Nat.le_refl _, Nat.le_refl _⟩
    clear h1 b1
    generalize zeros 6 = P0 at *
    generalize w1.heap.size = E at *
    obtain ⟨Q, hQ⟩ : ∃ Q, wx.heap.size = Q := ⟨_, rfl⟩
    have HH0 : Hid (Held wx w1 Q E r 0 0 zs P0) := by have := HH.out; rw [hQ] at this; exact this
    clear hQ HH
    go_wp2_with fail
    go_loopg [9] L (fun gk i wr => ∃ (j k : Nat) (P : List Nat), j ≤ L ∧ gk = L - j ∧ i = .int .i64 j ∧ Held wx wr Q E r j k zs P)
    case atStart => exact ⟨0, 0, _, Nat.zero_le _, rfl, rfl, HH0.out⟩
    case round =>
      obtain ⟨j, k, P, hj, rfl, rfl, hH⟩ := hrel
      have hkj := hH.kj
      have Hh : Hid (Held wx wr Q E r j k zs P) := hH
      clear hH HH0
      by_cases hlt : j < L
      · obtain ⟨b, off, rfl, hbz, _, c1, c2, _⟩ := HDS.out.later Hh.out.bel hlt
        have HOK : Hid (DeedOk wx (D j)) := HDS.out.ok hlt
        generalize D j = dj at *
        have i1 : (j : Int) < (L : Int) := by omega
        have HDD2 : Hid (∀ {w2 : World}, Below wr.heap.size wr.drew w2 → DiskAt Q E w2 r 6 zs k P) := fun hb => (Hh.out.disk.drewN 1).below hb
        have HC2 : Hid (∀ {w2 : World}, Below wr.heap.size wr.drew w2 → w2.cell? ⟨b, off + j * 4 + 1, none⟩ = some (.int .i64 dj.N)) := by
          intro w2 hb
          rw [← c1]
          have := Hh.out.bel.size
          exact World.cell?_of_block (hb.block b (by omega))
        have HE : Hid (E ≤ wr.heap.size) := Hh.out.disk.hi.1
        generalize hV : dj.V = V at *
        have H8 : Hid (∀ x ∈ List.replicate 512 V, x < 256) := rep_byte (by rw [← hV]; exact HOK.out.v)
        generalize hN : dj.N = N at *
        have hrl : (List.replicate 512 V).length = 512 := List.length_replicate
        have HFL : Hid (∀ w : World, Calls Try.prog 8 #[.int .u8 (V : Nat)] w fun e w' => e = .returned (.slice (some ⟨w.heap.size, 0, none⟩) 512 512) ∧ w'.ownsRow w.heap.size 5 1 (.slice (some ⟨w.heap.size, 0, none⟩) 512 512) 512 (bv (List.replicate 512 V)) ∧ Below w.heap.size w w') := filled_any V
        generalize List.replicate 512 V = Y at *
        clear hV hN HOK hrl
        go_wp2_with fail
        go_region_with (first | (go_at_call 8; refine (HFL.out _).mono ?_; rintro e w2 ⟨rfl, own2, b2⟩; have HO2 : Hid _ := own2; have HB2 : Hid (Below wr.heap.size wr.drew w2) := b2; have e1 := HC2.out b2; clear own2 b2) | (go_at_call 7; refine (dWrite_is N w2 (HDD2.out HB2.out) (by omega) (src_row HO2.out) (apart_row HO2.out HE.out) H8.out (by unfold maxLen; omega) rfl).mono ?_; rintro e w3 ⟨rfl, h3, t3⟩; have H3 : Hid _ := h3; have T3 : Hid _ := t3; clear h3 t3))
        all_goals
          have T4 : Turns Q E wr w3 := ((Turns.of_below (drew_below _ _)).trans (Turns.of_below HB2.out)).trans T3.out
          have HH2 : Hid (Held wx w3 Q E r (j + 1) _ zs _) := Hh.out.step H3.out T4 (inc_le _ _)
          clear T4 H3 T3 HO2 HB2
          go_wp2
          go_roundg (L - (j + 1))
          case measure => omega
          case rel => exact ⟨j + 1, _, _, by omega, rfl, by go_num, HH2.out⟩
      · have e : j = L := by omega
        have jj : ¬ (j : Int) < (L : Int) := by omega
        clear HDS HZ HL
        have hzw := zero_was
        have HSN : Hid (∀ {w2 : World}, w2 = wr.alloc (.cells (Array.replicate 6 (.slice none 0 0)) 50) → Seen wx w2 Q E r wr.heap.size 0 k zs P) := by
          rintro w2 rfl
          exact ⟨Hh.out.disk.below ((Below.refl _ wr).alloc (Nat.le_refl _) _), WAt.new wr E Hh.out.disk.hi.1 (by decide) _, Hh.out.bel.alloc Hh.out.bel.size _, Hh.out.qs⟩
        generalize Array.replicate 6 (Value.slice none 0 0) = Z at *
        go_wp2_with fail
        have HS := HSN.out rfl
        generalize wr.alloc (.cells Z 50) = w2 at *
        generalize wr.heap.size = wa at *
        have HSS : Hid (Seen wx w2 Q E r wa 0 k zs P) := HS
        clear HS HSN hzw e
        have HHk : Hid (k ≤ 60) := by show _ ≤ _; omega
        go_loopg [11] 6 (fun gk i wq => ∃ n : Nat, n ≤ 6 ∧ gk = 6 - n ∧ i = .int .i64 n ∧ Seen wx wq Q E r wa n k zs P)
        case atStart => exact ⟨0, by omega, rfl, rfl, HSS.out⟩
        case round =>
          obtain ⟨n, hn, rfl, rfl, hS⟩ := hrel
          have Hs : Hid (Seen wx _ Q E r wa n k zs P) := hS
          clear hS HSS Hh
          by_cases hlt : n < 6
          · have i1 : (n : Int) < 6 := by omega
            go_wp2_with fail
            refine (dPeek_any (n : Int) _ Hs.out.disk).mono ?_
            rintro e w3 ⟨v, rfl, own3, b3⟩
            rw [pk_sec hlt] at own3
            obtain ⟨a3, c3, rfl⟩ := row_slice own3
            obtain ⟨u, cu⟩ := (Hs.out.was.below b3).some hlt
            have cf := (Hs.out.was.below b3).frozen n
            have HN : Hid _ := Hs.out.next hlt b3 own3
            clear own3 b3
            go_wp2
            go_roundg (6 - (n + 1))
            case measure => omega
            case rel => exact ⟨n + 1, by omega, rfl, by go_num, HN.out⟩
          · obtain rfl : n = 6 := by omega
            clear hlt hn
            generalize hN : d.N = N at *
            generalize hV : d.V = V at *
            have H8 : Hid (∀ x ∈ List.replicate 512 V, x < 256) := rep_byte (by rw [← hV]; exact HDD.out.v)
            have hrl : (List.replicate 512 V).length = 512 := List.length_replicate
            have HFL : Hid (∀ w : World, Calls Try.prog 8 #[.int .u8 (V : Nat)] w fun e w' => e = .returned (.slice (some ⟨w.heap.size, 0, none⟩) 512 512) ∧ w'.ownsRow w.heap.size 5 1 (.slice (some ⟨w.heap.size, 0, none⟩) 512 512) 512 (bv (List.replicate 512 V)) ∧ Below w.heap.size w w') := filled_any V
            generalize List.replicate 512 V = Y at *
            have HYL : Hid (Y.length = 512) := hrl
            have hbw := Hs.out.bel
            have k1 : wr.cell? ⟨bb, 1, none⟩ = some (.int .i64 N) := by rw [cell_of_row wr bb 1 _ _ _ (CL.out hbw)]; rfl
            have k2 : wr.cell? ⟨bb, 2, none⟩ = some (.int .u8 (V : Int)) := by rw [cell_of_row wr bb 2 _ _ _ (CL.out hbw)]; rfl
            have HDD2 : Hid (∀ {w2 : World}, Below wr.heap.size wr.drew w2 → DiskAt Q E w2 r 6 zs k P) := fun hb => (Hs.out.disk.drewN 1).below hb
            have HC2 : Hid (∀ {w2 : World}, Below wr.heap.size wr.drew w2 → w2.cell? ⟨bb, 1, none⟩ = some (.int .i64 N)) := by
              intro w2 hb
              rw [← k1]
              have := Hs.out.bel.size
              have := HSZ.out
              exact World.cell?_of_block (hb.block bb (by omega))
            have HE : Hid (E ≤ wr.heap.size) := Hs.out.disk.hi.1
            clear hN hV hrl hbw HDD
            go_upto_region 15 with (fail)
            go_cut [12] (fun er wz => er = .int .i64 (acE 6 zs k N 512 : Nat) ∧ DiskAt Q E wz r 6 zs (acK 6 k N 512) (wrD 6 zs k P N Y) ∧ Turns Q E wr wz)
            case first =>
              go_region_with (first | (go_at_call 8; refine (HFL.out _).mono ?_; rintro e w2 ⟨rfl, own2, b2⟩; have HO2 : Hid _ := own2; have HB2 : Hid (Below wr.heap.size wr.drew w2) := b2; have e1 := HC2.out b2; clear own2 b2) | (go_at_call 7; refine (dWrite_is N w2 (HDD2.out HB2.out) (by have := HHk.out; omega) (src_row HO2.out) (apart_row HO2.out HE.out) H8.out (by unfold maxLen; omega) rfl).mono ?_; rintro e w3 ⟨rfl, h3, t3⟩; have H3 : Hid _ := h3; have T3 : Hid _ := t3; clear h3 t3))
              all_goals
                have T4 : Hid (Turns Q E wr w3) := ((Turns.of_below (drew_below _ _)).trans (Turns.of_below HB2.out)).trans T3.out
                go_wp2
                go_meet
                exact ⟨rfl, H3.out, T4.out⟩
            case rest =>
              obtain ⟨rfl, h5, t5⟩ := hcut
              have H5 : Hid (DiskAt Q E wc r 6 zs (acK 6 k N 512) (wrD 6 zs k P N Y)) := h5
              have T5 : Hid (Turns Q E wr wc) := t5
              have hbw : Below wx.heap.size wx wc := by have e := Hs.out.disk.hi; exact Hs.out.bel.trans ((t5.below (by omega)).mono Hs.out.qs)
              have HBW : Hid (Below wx.heap.size wx wc) := hbw
              have k1 : wc.cell? ⟨bb, 1, none⟩ = some (.int .i64 N) := by
                rw [cell_of_row wc bb 1 _ _ _ (CL.out hbw)]; rfl
              clear h5 t5 hbw k2 HDD2 HC2 HE
              go_upto_region 16 with (fail)
              go_cut [80] (fun c wz => c = .bool (inD 6 N) ∧ wc = wz)
              case first =>
                by_cases n0 : 0 ≤ N
                · by_cases n6 : N < 6
                  · have e : Hid (inD 6 N = true) := decide_eq_true ⟨n0, n6⟩
                    go_wp2
                    go_meet
                    exact ⟨by rw [e.out], rfl⟩
                  · have e : Hid (inD 6 N = false) := decide_eq_false (by omega)
                    go_wp2
                    go_meet
                    exact ⟨by rw [e.out], rfl⟩
                · have e : Hid (inD 6 N = false) := decide_eq_false (by omega)
                  go_wp2
                  go_meet
                  exact ⟨by rw [e.out], rfl⟩
              case rest =>
                obtain ⟨rfl, rfl⟩ := hcut
                go_upto_if 80 with (fail)
                go_cut [12] (fun _ wz => Seen wx wz Q E r wa 6 (acK 6 k N 512) zs (wrD 6 zs k P N Y))
                case first =>
                  cases hin : inD 6 N with
                  | false =>
                    have e1 := (ac_no (g := 0) (k := k) (s := 512) (zs := zs) hin).1
                    have e2 : wrD 6 zs k P N Y = P := by rw [wrD, HYL.out, e1]; rfl
                    rw [e2] at H5
                    have HF : Hid (Seen wx wc Q E r wa 6 (acK 6 k N 512) zs (wrD 6 zs k P N Y)) := by rw [e2]; exact Hs.out.turn H5.out T5.out
                    rw [e1]
                    clear e1 e2 hin
                    go_wp2
                    go_meet
                    exact HF.out
                  | true =>
                    cases hf : fa zs k with
                    | true =>
                      have e1 := (ac_fail (g := 0) hin hf).1
                      have e2 : wrD 6 zs k P N Y = P := by rw [wrD, HYL.out, e1]; rfl
                      rw [e2] at H5
                      have HF : Hid (Seen wx wc Q E r wa 6 (acK 6 k N 512) zs (wrD 6 zs k P N Y)) := by rw [e2]; exact Hs.out.turn H5.out T5.out
                      rw [e1]
                      clear e1 e2 hin hf
                      go_wp2
                      go_meet
                      exact HF.out
                    | false =>
                      obtain ⟨i, rfl, hi⟩ := inD_yes hin
                      have e1 := (ac_fine (g := 0) (k := k) (zs := zs) hi hf).1
                      have e2 : wrD 6 zs k P (i : Int) Y = putAt P (i * 512) Y := by rw [wrD, HYL.out, e1, if_pos rfl, Int.toNat_natCast]
                      rw [e2] at H5
                      rw [e1]
                      have HE2 : Hid (wrD 6 zs k P (i : Int) Y = putAt P (i * 512) Y) := e2
                      have k2 : wc.cell? ⟨bb, 2, none⟩ = some (.int .u8 (V : Int)) := by rw [cell_of_row wc bb 2 _ _ _ (CL.out HBW.out)]; rfl
                      have i6 : (i : Int) < 6 := by omega
                      have HPT : Hid (∀ {w3 : World} {v : Value}, Below wc.heap.size wc.drew w3 → w3.ownsRow wc.heap.size 5 1 v 512 (bv Y) → Seen wx (w3.setCell ⟨wa, i, none⟩ v) Q E r wa 6 (acK 6 k (i : Int) 512) zs (putAt P (i * 512) Y)) := by
                        intro w3 v hb hv
                        exact Hs.out.put (H5.out.drewN 1) (T5.out.trans (Turns.of_below (drew_below _ _))) hi HYL.out hb (by rw [HYL.out]; exact hv)
                      have HK1 : Hid (∀ {w3 : World}, Below wc.heap.size wc.drew w3 → w3.cell? ⟨bb, 1, none⟩ = some (.int .i64 (i : Int))) := by
                        intro w3 hb
                        rw [← k1]
                        have e4 := HBW.out.size
                        have e5 := HSZ.out
                        exact World.cell?_of_block (hb.block bb (by omega))
                      have HW3 : Hid (∀ {w3 : World}, Below wc.heap.size wc.drew w3 → (∃ u, w3.cell? ⟨wa, i, none⟩ = some u) ∧ w3.frozen? ⟨wa, i, none⟩ = false) := by
                        intro w3 hb
                        have hw := ((Hs.out.was.turns T5.out).below (drew_below _ _)).below hb
                        exact ⟨hw.some hi, hw.frozen i⟩
                      clear e1 e2 hf hin
                      go_upto_region 18 with (fail)
                      go_region_with (go_at_call 8; refine (HFL.out _).mono ?_; rintro e w3 ⟨rfl, own3, b3⟩; have HO3 : Hid _ := own3; have HB3 : Hid (Below wc.heap.size wc.drew w3) := b3; have q1 := HK1.out b3; obtain ⟨⟨u3, q2⟩, q3⟩ := HW3.out b3; clear own3 b3)
                      all_goals
                        have HF : Hid _ := HPT.out HB3.out HO3.out
                        go_wp2
                        go_meet
                        rw [HE2.out]
                        exact HF.out
                case rest =>
                  have HS0 : Hid (Seen wx _ Q E r wa 6 (acK 6 k N 512) zs (wrD 6 zs k P N Y)) := hcut
                  have hk0 : acK 6 k N 512 ≤ 61 := by have := inc_le k (acB 6 N 512); have := HHk.out; unfold acK; omega
                  generalize acK 6 k N 512 = k0 at *
                  generalize wrD 6 zs k P N Y = P' at *
                  clear hcut H5 T5 HBW Hs k1 HFL
                  go_wp2_with fail
                  clear HHk HYL H8
                  go_loopg [13] 6 (fun gk i wq => ∃ n k : Nat, n ≤ 6 ∧ gk = 6 - n ∧ i = .int .i64 n ∧ k ≤ 61 + n ∧ Seen wx wq Q E r wa 6 k zs P')
                  case atStart => exact ⟨0, k0, by omega, rfl, rfl, by omega, HS0.out⟩
                  case round =>
                    obtain ⟨n, k, hn, rfl, rfl, hk, hS⟩ := hrel
                    have Hs : Hid (Seen wx _ Q E r wa 6 k zs P') := hS
                    obtain ⟨w0, hw0⟩ : ∃ w0, w0 = wr := ⟨_, rfl⟩
                    subst hw0
                    clear hS HS0
                    by_cases hlt : n < 6
                    · have i1 : (n : Int) < 6 := by omega
                      have HSL : Hid ((sec P' n).length = 512) := sec_len Hs.out.disk.len hlt
                      go_wp2_with fail
                      refine (dPeek_any (n : Int) _ Hs.out.disk).mono ?_
                      rintro e w3 ⟨v3, rfl, own3, b3⟩
                      rw [pk_sec hlt, HSL.out] at own3
                      obtain ⟨a3, c3, rfl⟩ := row_slice own3
                      have HO3 : Hid (w3.ownsRow _ 5 1 (.slice a3 512 c3) 512 (bv (sec P' n))) := own3
                      have HB3 : Hid (Below _ _ w3) := b3
                      have HD3 : Hid (DiskAt Q E w3 r 6 zs k P') := Hs.out.disk.below b3
                      have HE : Hid (E ≤ w0.heap.size) := Hs.out.disk.hi.1
                      obtain ⟨er, her⟩ : ∃ er, acE 6 zs k (n : Int) 512 = er := ⟨_, rfl⟩
                      have HER : Hid (acE 6 zs k (n : Int) 512 = er) := her
                      clear own3 b3 her
                      go_wp2_with fail
                      refine (dRead_is (n : Int) _ HD3.out (by omega) HER.out).mono ?_
                      rintro e w4 ⟨v4, rfl, own4, h4, t4⟩
                      have hak : acK 6 k (n : Int) 512 = k + 1 := by rw [acK, acB, inD_nat hlt]; rfl
                      rw [hak] at h4
                      obtain ⟨U, hU⟩ : ∃ U, rdD 6 zs k P' (n : Int) = U := ⟨_, rfl⟩
                      have HUU : Hid (rdD 6 zs k P' (n : Int) = U) := hU
                      rw [hU] at own4
                      obtain ⟨M, hM⟩ : ∃ M, U.length = M := ⟨_, rfl⟩
                      have HM : Hid (U.length = M) := hM
                      rw [hM] at own4
                      obtain ⟨a4, c4, rfl⟩ := row_slice own4
                      have HO4 : Hid (w4.ownsRow w3.heap.size 5 1 (.slice a4 M c4) M (bv U)) := own4
                      have T4 : Hid (Turns Q E w0 w4) := (Turns.of_below HB3.out).trans t4
                      have HD4 : Hid (DiskAt Q E w4 r 6 zs (k + 1) P') := h4
                      have HO34 : Hid (w4.ownsRow w0.heap.size 5 1 (.slice a3 512 c3) 512 (bv (sec P' n))) := t4.row HO3.out HE.out
                      have HNL : Hid (∀ g, (Value.slice a3 512 c3).ownBlock = some g → g < w3.heap.size) := fun g hg => (HO3.out.lt g hg).2
                      have HG : Hid (w0.heap.size ≤ w3.heap.size) := HB3.out.size
                      have hMM : M ≤ 512 := by
                        rw [← hM, ← hU, rdD]
                        split
                        · have := HSL.out; unfold sec at this; rw [Int.toNat_natCast, this]; exact Nat.le_refl _
                        · simp
                      clear own4 h4 t4 hU hM hak HO3 HD3
                      obtain ⟨vw, cw, ownw⟩ := (Hs.out.was.turns T4.out).cell hlt
                      rw [HSL.out] at ownw
                      have HOW : Hid (w4.ownsRow E 5 1 vw 512 (bv (sec P' n))) := ownw
                      clear ownw
                      go_upto_region 28 with (fail)
                      go_cut [138] (fun c wz => c = .bool false ∧ w4 = wz)
                      case first =>
                        go_wp2_with fail
                        refine (refBytes_same _ _ (sec P' n) _ (conv_any HO34.out) (conv_any HOW.out)).mono ?_
                        rintro e w5 ⟨rfl, rfl⟩
                        cases hf : fa zs k with
                        | true =>
                          have e1 : er = 12 := by rw [← HER.out, (ac_fail (g := 0) (inD_nat hlt) hf).1]
                          have e2 : M = 0 := by rw [← HM.out, ← HUU.out, rdD, HER.out, e1]; rfl
                          subst e1
                          subst e2
                          clear hf
                          go_wp2
                          go_meet
                          exact ⟨rfl, rfl⟩
                        | false =>
                          have e1 : er = 0 := by rw [← HER.out, (ac_fine (g := 0) (zs := zs) hlt hf).1]
                          have e2 : U = sec P' n := by rw [← HUU.out, rdD, HER.out, e1, if_pos rfl, Int.toNat_natCast]; rfl
                          subst e1
                          have HOU : Hid (w4.ownsRow w3.heap.size 5 1 (.slice a4 M c4) M (bv (sec P' n))) := by rw [← e2]; exact HO4.out
                          clear hf e2
                          go_wp2_with fail
                          refine (refBytes_same _ _ (sec P' n) _ (conv_any HOU.out) (conv_any HO34.out)).mono ?_
                          rintro e w5 ⟨rfl, rfl⟩
                          go_wp2
                          go_meet
                          exact ⟨rfl, rfl⟩
                      case rest =>
                        obtain ⟨rfl, rfl⟩ := hcut
                        have HMD : Hid (Mod w0 w4 Q E r (k + 1) zs P' (.slice a3 512 c3) (.slice a4 M c4) w3.heap.size M ((sec P' n).map fun x : Nat => (x : Int)) (U.map fun x : Nat => (x : Int))) :=
                          ⟨HD4.out, T4.out, by rw [← iv8_bv]; exact HO34.out, HNL.out, by rw [← iv8_bv]; exact HO4.out, HE.out, HG.out⟩
                        have HTL : Hid (((sec P' n).map fun x : Nat => (x : Int)).length = 512) := by show _ = _; rw [List.length_map]; exact HSL.out
                        have HUL : Hid ((U.map fun x : Nat => (x : Int)).length = M) := by show _ = _; rw [List.length_map]; exact HM.out
                        generalize ((sec P' n).map fun x : Nat => (x : Int)) = T0 at *
                        generalize (U.map fun x : Nat => (x : Int)) = U0 at *
                        generalize w3.heap.size = G at *
                        clear HO34 HOW HO4 HD4 T4 HNL HUU HM HER cw
                        go_wp2_with fail
                        go_loopg [17] 512 (fun gk i wq => ∃ (l : Nat) (T : List Int), l ≤ 512 ∧ gk = 512 - l ∧ i = .int .i64 l ∧ T.length = 512 ∧ Mod w0 wq Q E r (k + 1) zs P' (.slice a3 512 c3) (.slice a4 M c4) G M T U0)
                        case atStart => exact ⟨0, T0, by omega, rfl, rfl, HTL.out, HMD.out⟩
                        case round =>
                          obtain ⟨l, T, hl, rfl, rfl, hT, hmod⟩ := hrel
                          have HM4 : Hid (Mod w0 _ Q E r (k + 1) zs P' (.slice a3 512 c3) (.slice a4 M c4) G M T U0) := hmod
                          clear hmod HMD
                          by_cases hlM : l < 512
                          · obtain ⟨g, rfl, cl, fl, hg1, hg2⟩ := row_at HM4.out.now hlM
                            rw [iv8_at _ _ (by rw [hT]; exact hlM)] at cl
                            generalize T.getD l 0 = qq at *
                            have lM : (l : Int) < 512 := by omega
                            have HM5 : Hid (∀ z, Mod w0 _ Q E r (k + 1) zs P' (.slice (some ⟨g, 0, none⟩) 512 c3) (.slice a4 M c4) G M (T.set l z) U0) := fun z => HM4.out.setN hg1 l z
                            have HT5 : Hid (∀ z, (T.set l z).length = 512) := fun z => by rw [List.length_set]; exact hT
                            clear hg1 hg2 hT
                            go_wp2
                            go_roundg (512 - (l + 1))
                            case measure => omega
                            case rel => exact ⟨l + 1, _, by omega, rfl, by go_num, HT5.out _, HM5.out _⟩
                          · have lM : ¬ (l : Int) < 512 := by omega
                            clear hT
                            go_wp2_with fail
                            go_loopg [18] M (fun gk i wq => ∃ (l : Nat) (U : List Int), l ≤ M ∧ gk = M - l ∧ i = .int .i64 l ∧ U.length = M ∧ Mod w0 wq Q E r (k + 1) zs P' (.slice a3 512 c3) (.slice a4 M c4) G M T U)
                            case atStart => exact ⟨0, U0, by omega, rfl, rfl, HUL.out, HM4.out⟩
                            case round =>
                              obtain ⟨l, U, hl, rfl, rfl, hU, hmod⟩ := hrel
                              have HM6 : Hid (Mod w0 _ Q E r (k + 1) zs P' (.slice a3 512 c3) (.slice a4 M c4) G M T U) := hmod
                              clear hmod HM4
                              by_cases hlM : l < M
                              · obtain ⟨g, rfl, cl, fl, hg1, hg2⟩ := row_at HM6.out.b hlM
                                rw [iv8_at _ _ (by rw [hU]; exact hlM)] at cl
                                generalize U.getD l 0 = qq at *
                                have lM : (l : Int) < (M : Int) := by omega
                                have HM7 : Hid (∀ z, Mod w0 _ Q E r (k + 1) zs P' (.slice a3 512 c3) (.slice (some ⟨g, 0, none⟩) M c4) G M T (U.set l z)) := fun z => HM6.out.setB hg1 l z
                                have HT5 : Hid (∀ z, (U.set l z).length = M) := fun z => by rw [List.length_set]; exact hU
                                clear hg1 hg2 hU
                                go_wp2
                                go_roundg (M - (l + 1))
                                case measure => omega
                                case rel => exact ⟨l + 1, _, by omega, rfl, by go_num, HT5.out _, HM7.out _⟩
                              · have lM : ¬ (l : Int) < (M : Int) := by omega
                                have HS9 : Hid (Seen wx _ Q E r wa 6 (k + 1) zs P') := Hs.out.turn HM6.out.disk HM6.out.turn
                                clear hU HM6 Hs
                                have HSD : Hid (Seen wx wr.drew Q E r wa 6 (k + 1) zs P') := HS9.out.turn (HS9.out.disk.drewN 1) (Turns.of_below (drew_below _ _))
                                obtain ⟨vw, cw, ownw⟩ := HSD.out.was.cell hlt
                                rw [HSL.out] at ownw
                                have HOW : Hid (∀ {w2 : World}, Below wr.heap.size wr.drew w2 → w2.ownsRow E 5 1 vw 512 (bv (sec P' n)) ∧ w2.cell? ⟨wa, n, none⟩ = some vw) := by
                                  intro w2 hb
                                  refine ⟨row_below ownw hb, ?_⟩
                                  rw [← cw]
                                  exact World.cell?_of_block (hb.block wa HSD.out.was.lt)
                                have HPK : Hid (pkD 6 P' (n : Int) = sec P' n) := pk_sec hlt
                                clear ownw
                                go_wp2_with fail
                                go_region_with (first | (go_at_call 10; refine (dPeek_any (n : Int) _ HSD.out.disk).mono ?_; rintro e w8 ⟨v8, rfl, own8, b8⟩; rw [HPK.out, HSL.out] at own8; have HO8 : Hid (w8.ownsRow _ 5 1 v8 512 (bv (sec P' n))) := own8; have HB8 : Hid (Below wr.heap.size wr.drew w8) := b8; have q8 := (HOW.out b8).2; have HW8 : Hid _ := (HOW.out b8).1; clear own8 b8) | (go_at_call 15; refine (refBytes_same _ _ (sec P' n) w8 (conv_any HO8.out) (conv_any HW8.out)).mono ?_; rintro e w9 ⟨rfl, rfl⟩))
                                all_goals
                                  have HF : Hid (Seen wx w8 Q E r wa 6 (k + 1) zs P') := HSD.out.turn (HSD.out.disk.below HB8.out) (Turns.of_below HB8.out)
                                  clear HO8 HB8 HW8
                                  go_wp2
                                  go_roundg (6 - (n + 1))
                                  case measure => omega
                                  case rel => exact ⟨n + 1, k + 1, by omega, rfl, by go_num, by omega, HF.out⟩
                    · have nn : ¬ (n : Int) < 6 := by omega
                      go_wp2_with fail
                      refine (lives_any _).mono ?_
                      rintro e w3 ⟨rfl, b3⟩
                      have hfin := HBX.out.trans ((Hs.out.bel.trans (b3.mono Hs.out.bel.size)).mono HBX.out.size)
                      clear b3
                      go_wp2
                      go_ret
                      exact ⟨rfl, hfin⟩

theorem walk {H : Type} {enc : TypeId × Value → H} {w : World} {base : Nat} {v0 v1 v2 : Value} {d0 d1 d2 : DataW H} {p0 p1 p2 : List MemPlace}
    (o0 : Value.okWide Try.prog w .any base 22 v0) (o1 : Value.okWide Try.prog w .any base 23 v1) (o2 : Value.okWide Try.prog w .any base 41 v2)
    (h0 : DataW.Trod enc Try.prog w 0 (fun _ => true) true 22 v0 d0 p0) (h1 : DataW.Trod enc Try.prog w 0 (fun _ => true) true 23 v1 d1 p1) (h2 : DataW.Trod enc Try.prog w 0 (fun _ => true) true 41 v2 d2 p2) :
    Calls Try.prog 4 #[v0, v1, v2] w fun e w' => e = .returned (.bool true) ∧ Below w.heap.size w w' := by
  obtain ⟨a0, L0, c0, zs, rfl, hL0, hz⟩ := openBools Try.underlying22 Try.underlying4 (by kernel_rfl) o0 h0
  obtain ⟨a, L, c, D, rfl, hL, hds⟩ := openDeeds Try.underlying23 Try.underlying41 (by kernel_rfl) (by kernel_rfl) Try.underlying3 Try.underlying3 Try.underlying5 Try.underlying25 Try.underlying5 (by kernel_rfl) o1 h1
  obtain ⟨q, rfl, hq⟩ := openDeed Try.underlying41 (by kernel_rfl) (by kernel_rfl) Try.underlying3 Try.underlying3 Try.underlying5 Try.underlying25 Try.underlying5 (by kernel_rfl) o2 h2
  exact run a0 L0 c0 zs a L c D q w hL0 hz hL hds hq

set_option maxRecDepth 100000 in
theorem lifted (os : Os) (started : os.Started) (H : Type) (enc : TypeId × Value → H) :
    ReturnsInHanded {} Try.checked os 4 .any (Rows.diskFailsSpec.pre6 enc Try.prog Try.f4 Rows.diskFailsRow.domain false) (Rows.diskFailsSpec.post enc Try.prog Try.f4 false true false false) := by
  refine returnsInHanded_of_change (C := Try.checked) own started (by kernel_rfl) Try.func4
    (ChangeSpec.witness6 (enc := enc) (C := Try.checked) false ⟨#[], #[.slice none 0 0, .slice none 0 0, .agg #[.int .i64 0, .int .i64 0, .int .u8 0, .slice none 0 0]], []⟩ 8 (by kernel_rfl) (by kernel_rfl) (by kernel_rfl) (by kernel_rfl)) ?_
  intro W base args ds gs before hval0 hW hcnd _
  have hval : ∀ (j : Nat) t v, Try.f4.params[j]? = some t → args[j]? = some v → Value.okWide Try.prog W .any base t v := hval0
  have hW' := hW
  obtain ⟨p, q, hA0, hV, rfl, hfz, hnd⟩ := hW
  have hA : DataW.TrodAll enc Try.prog W 0 (fun _ => true) true Try.f4.params.toList args.toList ds p := hA0
  rw [Try.params4] at hA hval
  obtain ⟨v0, vs0, d0, ds0, p0, q0, hargs, rfl, rfl, h0, r0⟩ := trodAll_cons hA
  obtain ⟨v1, vs1, d1, ds1, p1, q1, rfl, rfl, rfl, h1, r1⟩ := trodAll_cons r0
  obtain ⟨v2, vs2, d2, ds2, p2, q2, rfl, rfl, rfl, h2, r2⟩ := trodAll_cons r1
  obtain ⟨rfl, rfl, rfl⟩ := trodAll_nil r2
  obtain rfl : args = #[v0, v1, v2] := by cases args; simp_all
  obtain ⟨rfl, rfl⟩ := trodVars_none hV
  have o0 := hval 0 22 v0 rfl rfl
  have lt0 : ∀ x ∈ p0, x.block < W.heap.size := by obtain ⟨m, hm⟩ := h0; exact DataW.trod_lt m _ _ _ hm
  have o1 := hval 1 23 v1 rfl rfl
  have lt1 : ∀ x ∈ p1, x.block < W.heap.size := by obtain ⟨m, hm⟩ := h1; exact DataW.trod_lt m _ _ _ hm
  have o2 := hval 2 41 v2 rfl rfl
  have lt2 : ∀ x ∈ p2, x.block < W.heap.size := by obtain ⟨m, hm⟩ := h2; exact DataW.trod_lt m _ _ _ hm
  clear hA0 hval0
  refine (walk o0 o1 o2 h0 h1 h2).mono fun e W' ⟨he, bel⟩ => ?_
  subst he
  exact ⟨_, rfl, _, _, _, [], _, [], hW', trodAll_mk1 (shut_bool Try.underlying4 _), (trodAll_cons_mk (Below.trod laidOut (by kernel_rfl) (of_decide_eq_true (by kernel_rfl)) h0 bel lt0) (trodAll_cons_mk (Below.trod laidOut (by kernel_rfl) (of_decide_eq_true (by kernel_rfl)) h1 bel lt1) (trodAll_cons_mk (Below.trod laidOut (by kernel_rfl) (of_decide_eq_true (by kernel_rfl)) h2 bel lt2) trodAll_mk0))), rfl, bel.frame _, fun h => by cases h⟩

theorem over : Rows.diskFailsRow.holds Try.pinned (OpenSpec.ofChange Rows.diskFailsSpec) :=
  OpenClaim.holds_of_wide 4 Try.f4 rfl rfl rfl rfl rfl rfl rfl ⟨rfl, rfl, rfl, rfl, rfl⟩ rfl rfl rfl rfl rfl (by kernel_rfl) Try.func4 (by kernel_rfl)
    (of_decide_eq_true (by kernel_rfl)) (by unfold Func.isWrapper; first | (rw [if_pos (by decide +kernel)]; kernel_rfl) | (rw [if_neg (by decide +kernel)]; exact ⟨rfl, rfl⟩))
    (fun os started H enc _ => lifted os started H enc)
end Go.Proofs.Ytdoklbocdmmahaa.DiskFails
namespace Go.Proofs.Ytdoklbocdmmahaa
/-- The statement. -/
theorem diskFails_holds : Rows.DiskFailsSaid := DiskFails.over
#print axioms diskFails_holds
end Go.Proofs.Ytdoklbocdmmahaa
