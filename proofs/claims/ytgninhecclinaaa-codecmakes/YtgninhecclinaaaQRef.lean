/- The walk of the document's Unpack (layer 13). -/
import Derived.Test.YtgninhecclinaaaQPlain
import Derived.Test.YtgninhecclinaaaKRefT
import Derived.Test.YtgninhecclinaaaKGrow
import Derived.Test.YtgninhecclinaaaGRes
import Derived.Deep.LoopGhost
namespace Go.Proofs.Ytgninhecclinaaa
open Go.RowKit

/-- A page under way, beside a token's struct. -/
structure Rw (w wr : World) (fb : Nat) (X : Array Value) (v : Value) (m : Nat) (q : List Nat) : Prop where
  own : wr.ownsRow w.heap.size 5 1 v m (bv q)
  box : wr.heap[fb]? = some (.cells X 80 (0, 0))
  bel : Below w.heap.size w wr
  lo : w.heap.size ≤ fb
theorem Rw.step {w wr wa w2 : World} {fb m k : Nat} {X : Array Value} {v v2 : Value} {q x : List Nat} (h : Rw w wr fb X v m q) (ha : Below wr.heap.size wr wa) (hg : wa.grownBy w2 v.ownBlock) (hq : w2.ownsRow w.heap.size 5 1 v2 k (bv q ++ bv x)) : Rw w w2 fb X v2 k (q ++ x) := by
  have hlt : fb < wr.heap.size := (Array.getElem?_eq_some_iff.1 h.box).1
  have hsz := h.bel.size
  refine ⟨by rw [bv_append]; exact hq, ?_, (h.bel.trans (ha.mono hsz)).grown hg (by have := ha.size; omega) (fun i hi => (h.own.lt i hi).1), h.lo⟩
  have e := (ha.block fb hlt).trans h.box
  rw [← e]
  refine hg.block fb (Nat.lt_of_lt_of_le hlt ha.size) fun e2 => ?_
  rcases h.own.2 with ⟨rfl, _⟩ | ⟨g, cap, cur, rfl, _, hgb, _⟩
  · simp [Value.ownBlock] at e2
  · obtain rfl : fb = g := by simpa [Value.ownBlock] using e2
    have h2 := h.box
    rw [hgb] at h2
    cases h2

theorem take_pos {ab : List Nat} {an ad : Nat} (h : mayT ab.length (an : Int) (ad : Int) = true) : 0 < ab.length + an := by
  rcases may_ways h with ⟨h5, _⟩ | ⟨_, N, D, h6, _, h7, _⟩ <;> omega
set_option maxRecDepth 100000 in
set_option maxHeartbeats 1000000 in
theorem refUnpack_any {p : Option Addr} {L c : Nat} {b : List Nat} (w : World) (h : ByAt w p L c b) (hL : L ≤ 100000) :
    Calls Try.prog 27 #[.slice p L c] w fun e w' => ∃ v, e = .returned (.tuple #[v, .int .i64 ((unpA b).n : Nat), .int .i64 ((unpA b).e : Nat)]) ∧ w'.ownsRow w.heap.size 5 1 v (unpA b).q.length (bv (unpA b).q) ∧ Below w.heap.size w w' := by
  obtain ⟨i0, hi, hz0, hz1, hz2⟩ := info_parts Try.info5
  have HBY : Hid (∀ w', Below w.heap.size w w' → ByAt w' p L c b) := fun w' hw => h.later hw
  have HBL : Hid (b.length = L ∧ ∀ x ∈ b, x < 256) := ⟨h.len, h.byte⟩
  clear h
  go_enter Try.func27, Try.ntmps27
  go_wp2_with fail
  go_loopg [5, 6, 7] 5000 (fun gk v x y wr => ∃ (a n : Nat) (q : List Nat), gk = 5000 - q.length ∧ x = .int .i64 a ∧ y = .int .i64 n ∧ Und b a q n ∧ q.length ≤ 4096 ∧ wr.ownsRow w.heap.size 5 1 v q.length (bv q) ∧ Below w.heap.size w wr)
  case atStart => exact ⟨0, 0, [], rfl, rfl, rfl, Und.start b, by simp, World.ownsRow_nil _ _ _ _, Below.refl _ _⟩
  case round =>
    obtain ⟨a, n, q, rfl, rfl, rfl, hu, hq4, hown, hbel⟩ := hrel
    obtain ⟨av, cv, rfl⟩ := row_slice hown
    have HB : Hid (Below w.heap.size w wr) := hbel
    have HU : Hid (Und b a q n) := hu
    have hsz := hbel.size
    have haL := hu.le
    have hn5 : n ≤ 5000 := by have := hu.many; omega
    have HOW : Hid (wr.ownsRow w.heap.size 5 1 (.slice av q.length cv) q.length (bv q)) := hown
    obtain ⟨m, hm⟩ : ∃ m, q.length = m := ⟨_, rfl⟩
    have HM : Hid (q.length = m) := hm
    clear hbel hu hown
    rw [hm] at HOW hq4 ⊢
    clear hm
    by_cases hlt : m < 4096
    · have i1 : (m : Int) < 4096 := by omega
      go_wp2_with fail
      refine (refTake_any (a : Int) wr (HBY.out wr HB.out) hL).mono ?_
      rintro e w1 ⟨p1, l1, c1, rfl, hby1, b1⟩
      obtain ⟨⟨ae, ab, an, ad, az⟩, hA⟩ : ∃ A, takeA b (a : Int) = A := ⟨_, rfl⟩
      rw [hA] at hby1
      have HA : Hid (takeA b (a : Int) = ⟨ae, ab, an, ad, az⟩) := hA
      have HB1 : Hid (Below w.heap.size w w1) := HB.out.trans (b1.mono hsz)
      have HO1 : Hid (w1.ownsRow w.heap.size 5 1 (.slice av m cv) m (bv q)) := row_below HOW.out b1
      have HY1 : Hid (ByAt w1 p1 l1 c1 ab) := hby1
      have hal : ab.length = l1 := hby1.len
      have hl1 := hby1.short
      rw [hA]
      clear hby1 b1 hA HOW
      by_cases he : ae = 0
      · subst he
        have hAQ := take_ok HBL.out.2 HA.out rfl
        obtain ⟨o1, o2, o3⟩ := hAQ
        have hsz1 := HB1.out.size
        have HO : Hid (mayT ab.length (an : Int) (ad : Int) = true) := o1
        have hsl := sizeT_yes o1
        have hs130 := size_le ab.length an ad
        simp only [Int.toNat_natCast] at hsl
        have hX : (w1.alloc (.cells #[.slice p1 l1 c1, .int .i64 (an : Nat), .int .i64 (ad : Nat)] 80)).heap[w1.heap.size]? = some (.cells #[.slice p1 l1 c1, .int .i64 (an : Nat), .int .i64 (ad : Nat)] 80 (0, 0)) := heap_alloc_new _ _
        have HR : Hid (Rw w (w1.alloc (.cells #[.slice p1 l1 c1, .int .i64 (an : Nat), .int .i64 (ad : Nat)] 80)) w1.heap.size #[.slice p1 l1 c1, .int .i64 (an : Nat), .int .i64 (ad : Nat)] (.slice av m cv) m q) := ⟨HO1.out.alloc _, hX, HB1.out.alloc hsz1 _, hsz1⟩
        have HSL : Hid (sizeT ab.length (an : Int) (ad : Int) = ab.length + an) := hsl
        have hls : l1 + an ≤ 130 := by omega
        have HYS : Hid (∀ w', Below w1.heap.size w1 w' → SrcAt w' (.slice p1 l1 c1) l1 1 (bv ab)) := fun w' hw => (HY1.out.later hw).src
        have HW1 : Hid (Below w1.heap.size w1 (w1.alloc (.cells #[.slice p1 l1 c1, .int .i64 (an : Nat), .int .i64 (ad : Nat)] 80))) := (Below.refl _ _).alloc (Nat.le_refl _) _
        obtain ⟨d0, d1, d2⟩ := three_cells hX
        clear hX hsl hs130 o1
        by_cases hd : ad ≤ m
        · have i2 : ¬ (m : Int) < (ad : Int) := by omega
          by_cases hbig : 4096 < m + (l1 + an)
          · have i3 : (4096 : Int) < (m : Int) + ((an : Int) + (l1 : Int)) := by omega
            have HE : Hid (unpA b = noU 5) := by
              have h5 : Und b az (growB q ab (an : Nat) (ad : Nat)) (n + 1) := HU.out.step HBL.out.2 (by rw [HM.out]; exact hlt) HA.out rfl (by rw [HM.out]; exact hd)
              have h6 := grow_size (q := q) HO.out
              have h7 := HSL.out
              have h8 := HM.out
              show _ = _
              rw [h5.over (by omega), endU, if_pos (by omega)]
            go_wp2
            go_ret3
            rw [HE.out]
            exact ⟨_, rfl, World.ownsRow_nil _ _ _ _, HR.out.bel⟩
          · have i3 : ¬ (4096 : Int) < (m : Int) + ((an : Int) + (l1 : Int)) := by omega
            have HU2 : Hid (Und b az (growB q ab (an : Nat) (ad : Nat)) (n + 1)) := HU.out.step HBL.out.2 (by rw [HM.out]; exact hlt) HA.out rfl (by rw [HM.out]; exact hd)
            have HGS : Hid ((growB q ab (an : Nat) (ad : Nat)).length = m + l1 + an) := by
              have h6 := grow_size (q := q) HO.out
              have h7 := HSL.out
              have h8 := HM.out
              show _ = _
              omega
            have hdn : 0 < an → 1 ≤ ad := fun h5 => by rcases may_ways HO.out with ⟨_, _, h6, h7⟩ | ⟨_, N, D, h6, h7, _, _, h8, _⟩ <;> omega
            have HDN : Hid (0 < an → 1 ≤ ad) := hdn
            have HEG : Hid (growB q ab (an : Int) (ad : Int) = reach (q ++ ab) ad an) := rfl
            have HLQ : Hid ((q ++ ab).length = m + l1) := by show _ = _; rw [List.length_append, HM.out, hal]
            have HP : Hid (0 < l1 + an) := by have := take_pos HO.out; show _ < _; omega
            clear hdn hal
            go_wp2_with (at_builtin; refine wpList_append_src rfl _ _ 23 rfl w.heap.size 5 i0 (.int .u8 0) 1 1 Try.underlying23 hi hz0 hz1 hz2 rfl (by decide) _ m (bv q) rfl HR.out.own _ l1 (bv ab) rfl (HYS.out _ HW1.out) (bv_one _) ?y1 ?y2 ?y3 ?_)
            case y1 => unfold maxLen; omega
            case y2 => omega
            case y3 => exact HR.out.bel.size
            intro v6 w6 own6 gr6
            have HR6 : Hid (Rw w w6 w1.heap.size #[.slice p1 l1 c1, .int .i64 (an : Nat), .int .i64 (ad : Nat)] v6 (m + l1) (q ++ ab)) := HR.out.step (Below.refl _ _) gr6 own6
            clear own6 gr6 HR HYS HW1 d0 d1 d2
            obtain ⟨d0, d1, d2⟩ := three_cells HR6.out.box
            go_wp2_with fail
            go_loopg [5, 12] an (fun gk v i wr => ∃ (k : Nat), k ≤ an ∧ gk = an - k ∧ i = .int .i64 k ∧ Rw w wr w1.heap.size #[.slice p1 l1 c1, .int .i64 (an : Nat), .int .i64 (ad : Nat)] v (m + l1 + k) (reach (q ++ ab) ad k))
            case atStart => exact ⟨0, Nat.zero_le _, rfl, rfl, HR6.out⟩
            case round =>
              obtain ⟨k, hk, rfl, rfl, hG⟩ := hrel
              obtain ⟨ag, cg, rfl⟩ := row_slice hG.own
              have HG : Hid (Rw w wr w1.heap.size #[.slice p1 l1 c1, .int .i64 (an : Nat), .int .i64 (ad : Nat)] (.slice ag (m + l1 + k) cg) (m + l1 + k) (reach (q ++ ab) ad k)) := hG
              clear hG HR6 d0 d1 d2
              obtain ⟨d0, d1, d2⟩ := three_cells HG.out.box
              by_cases hkn : k < an
              · have i4 : (k : Int) < (an : Int) := by omega
                have hD1 : 1 ≤ ad := HDN.out (by omega)
                obtain ⟨g, rfl, hc, _, _, _⟩ := row_at HG.out.own (i := m + l1 + k - ad) (by omega)
                have hrl : (reach (q ++ ab) ad k).length = m + l1 + k := by rw [reach_len, HLQ.out]
                rw [bv_at _ _ (by rw [hrl]; omega)] at hc
                have HRS : Hid (reach (q ++ ab) ad (k + 1) = reach (q ++ ab) ad k ++ [(reach (q ++ ab) ad k).getD (m + l1 + k - ad) 0]) := reach_step (by rw [HLQ.out])
                obtain ⟨y, hy⟩ : ∃ y, (reach (q ++ ab) ad k).getD (m + l1 + k - ad) 0 = y := ⟨_, rfl⟩
                rw [hy] at hc HRS
                clear hrl hy
                generalize reach (q ++ ab) ad k = qk at *
                obtain ⟨mk, hmk⟩ : ∃ mk, m + l1 + k = mk := ⟨_, rfl⟩
                have HMM : Hid (m + l1 + (k + 1) = mk + 1) := by show _ = _; omega
                have hmD : ad ≤ mk ∧ mk ≤ 10000 := by omega
                rw [hmk] at HG hc
                rw [hmk]
                have hix := index_at (g := g) (o := 0) (L := mk) (c := cg) (q := mk - ad) (I := (mk : Int) - (ad : Int)) (mk - ad) (by omega) (by omega) (by omega)
                have hszr := HG.out.bel.size
                clear hmk
                go_wp2_with (at_builtin; refine wpList_append_src rfl _ _ 23 rfl w.heap.size 5 i0 (.int .u8 0) 1 1 Try.underlying23 hi hz0 hz1 hz2 rfl (by decide) _ mk (bv qk) rfl (HG.out.own.alloc _) _ 1 (bv [y]) rfl (src_one _ _ y _ rfl rfl _) (bv_one _) ?q1 ?q2 ?q3 ?_)
                case q1 => unfold maxLen; omega
                case q2 => omega
                case q3 => simp; omega
                intro v7 w7 own7 gr7
                have HG7 : Hid (Rw w w7 w1.heap.size #[.slice p1 l1 c1, .int .i64 (an : Nat), .int .i64 (ad : Nat)] v7 (m + l1 + (k + 1)) (reach (q ++ ab) ad (k + 1))) := by
                  show Rw _ _ _ _ _ _ _
                  rw [HMM.out, HRS.out]
                  exact HG.out.step ((Below.refl _ _).alloc (Nat.le_refl _) _) gr7 own7
                clear own7 gr7
                go_wp2
                go_roundg (an - (k + 1))
                case measure => omega
                case rel => exact ⟨k + 1, by omega, rfl, by go_num, HG7.out⟩
              · obtain rfl : k = an := by omega
                have HG2 : Hid (wr.ownsRow w.heap.size 5 1 (.slice ag (m + l1 + k) cg) (growB q ab (k : Int) (ad : Int)).length (bv (growB q ab (k : Int) (ad : Int)))) := by
                  show World.ownsRow _ _ _ _ _ _ _
                  rw [HGS.out, HEG.out]
                  exact HG.out.own
                go_wp2
                go_roundg (5000 - (growB q ab (k : Int) (ad : Int)).length)
                case measure => have := HGS.out; have := HM.out; have := HP.out; omega
                case rel => exact ⟨az, n + 1, growB q ab (k : Int) (ad : Int), rfl, rfl, by go_num, HU2.out, by rw [HGS.out]; omega, HG2.out, HG.out.bel⟩
        · have i2 : (m : Int) < (ad : Int) := by omega
          have HE : Hid (unpA b = noU 3) := HU.out.form (by rw [HM.out]; exact hlt) HA.out rfl (by rw [HM.out]; exact hd)
          have hd5 : ad ≤ 4095 := by rcases may_ways HO.out with ⟨_, _, _, h5⟩ | ⟨_, N, D, _, h5, _⟩ <;> omega
          go_wp2
          go_ret3
          rw [HE.out]
          exact ⟨_, rfl, World.ownsRow_nil _ _ _ _, HR.out.bel⟩
      · have i2 : ((ae : Int) == 0) = false := by rw [beq_eq_false_iff_ne]; omega
        have i3 : ((ae : Int) != 0) = true := by rw [bne_iff_ne]; omega
        have HE : Hid (unpA b = noU ae) := HU.out.err (by rw [HM.out]; exact hlt) HA.out he
        have HB2 : Hid (Below w.heap.size w (w1.alloc (.cells #[.slice p1 l1 c1, .int .i64 (an : Nat), .int .i64 (ad : Nat)] 80))) := HB1.out.alloc HB1.out.size _
        go_wp2
        go_ret3
        rw [HE.out]
        exact ⟨_, rfl, World.ownsRow_nil _ _ _ _, HB2.out⟩
    · have i1 : ¬ (m : Int) < 4096 := by omega
      by_cases ha : a = L
      · subst ha
        have HE : Hid (unpA b = ⟨0, q, n⟩) := by
          show _ = _
          rw [HU.out.over (by rw [HM.out]; omega), endU, if_neg (by rw [HM.out]; omega), if_neg (by rw [HBL.out.1]; omega)]
        go_wp2
        go_ret3
        rw [HE.out, HM.out]
        exact ⟨_, rfl, HOW.out, HB.out⟩
      · have i2 : ((a : Int) == (L : Int)) = false := by rw [beq_eq_false_iff_ne]; omega
        have i3 : ((a : Int) != (L : Int)) = true := by rw [bne_iff_ne]; omega
        have HE : Hid (unpA b = noU 3) := by
          have h5 := HBL.out.1
          show _ = _
          rw [HU.out.over (by rw [HM.out]; omega), endU, if_neg (by rw [HM.out]; omega), if_pos (by omega)]
        go_wp2
        go_ret3
        rw [HE.out]
        exact ⟨_, rfl, World.ownsRow_nil _ _ _ _, HB.out⟩
end Go.Proofs.Ytgninhecclinaaa
