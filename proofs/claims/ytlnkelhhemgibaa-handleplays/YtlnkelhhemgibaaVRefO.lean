/- The walk of the document's Of. -/
import Derived.Test.YtlnkelhhemgibaaVRef
namespace Go.Proofs.Ytlnkelhhemgibaa
open Go.RowKit

set_option maxRecDepth 100000 in
set_option maxHeartbeats 1000000 in
theorem refOf_any {base : Nat} {v : Value} {X : List Hd} {T : Int → Pl} (pg : Int) (w : World) (h : DsAt w base v X) (hR : Rel T X) (hT : TOk T) (hL : X.length ≤ 1000) :
    Calls Try.prog 18 #[v, .int .i64 pg] w fun e w' => ∃ u, e = .returned u ∧ w'.ownsRow w.heap.size 3 1 u (ofT T pg 513).length (vI (ofT T pg 513)) ∧ Below w.heap.size w w' := by
  obtain ⟨i0, hi0, hz0, hz1, hz2⟩ := info_parts Try.infoIn
  have H : Hid (DsAt w base v X) := h
  have HR : Hid (Rel T X) := hR
  have hz1' : ofT T pg 1 = [] := by
    have e : T (0 : Nat) = zP := hT.out _ (by omega)
    show (List.range 1).filter (inF T pg) = []
    have e2 : inF T pg 0 = false := by unfold inF; rw [isU_not.2 e]; rfl
    simp [List.range_succ, e2]
  have HZ : Hid (ofT T pg 1 = []) := hz1'
  clear h hR hT hz1'
  obtain ⟨a, c, rfl⟩ := row_slice H.out
  go_enter Try.func18, Try.ntmps18
  go_wp2_with fail
  go_loopg [5, 6] 512 (fun gk o i wr => ∃ k : Nat, 1 ≤ k ∧ k ≤ 513 ∧ gk = 513 - k ∧ i = .int .i64 k ∧ wr.ownsRow w.heap.size 3 1 o (ofT T pg k).length (vI (ofT T pg k)) ∧ Below w.heap.size w wr)
  case atStart => exact ⟨1, by omega, by omega, rfl, rfl, by rw [HZ.out]; exact World.ownsRow_nil _ _ _ _, Below.refl _ _⟩
  case round =>
    obtain ⟨k, hk1, hk, rfl, rfl, hown, hbw⟩ := hrel
    have HOWN : Hid (wr.ownsRow w.heap.size 3 1 u5 (ofT T pg k).length (vI (ofT T pg k))) := hown
    have HBW : Hid (Below w.heap.size w wr) := hbw
    have HD : Hid (DsAt wr base (.slice a X.length c) X) := H.out.below hbw
    by_cases hlt : k < 513
    · have i1 : (k : Int) < 513 := by omega
      have HAT : Hid _ := refAt_any (k : Nat) wr HD.out hL
      clear hown hbw
      go_wp2_with fail
      refine Calls.mono HAT.out ?_
      rintro e w1 ⟨x, rfl, rfl, hp⟩
      have hus := hp.used HR.out
      by_cases hx : 0 ≤ x
      · obtain ⟨j, e, rfl, hj, hjn⟩ := hp.yes hx
        obtain ⟨g, rfl, _, hg, _, q0, _, _⟩ := HD.out.at hj
        have hjl := (List.getElem?_eq_some_iff.1 hj).1
        have hTe := HR.out.at (List.mem_of_getElem? hj)
        rw [hjn] at hTe
        have i2 : (j : Int) < (X.length : Int) := by omega
        have i3 : 0 ≤ (j : Int) := by omega
        have HGP : Hid (Gap T k k) := fun i h1 h2 => by omega
        have HTE : Hid (T (k : Nat) = e.q ∧ e.q ≠ zP) := hTe
        obtain ⟨y, hy⟩ : ∃ y, e.q.p = y := ⟨_, rfl⟩
        have HY : Hid (e.q.p = y) := hy
        rw [hy] at q0
        clear hp hus hx hj hjn hTe hy HAT
        by_cases hpg : y = pg
        · have e1 : (y == pg) = true := by rw [beq_iff_eq]; exact hpg
          have HIN : Hid (ofT T pg (k + 1) = ofT T pg k ++ [k]) := of_in HGP.out (Nat.le_refl _) (by rw [HTE.out.1]; exact HTE.out.2) (by rw [HTE.out.1, HY.out]; exact hpg)
          obtain ⟨L, hL2⟩ : ∃ L, ofT T pg k = L := ⟨_, rfl⟩
          have hLl := of_le T pg k
          obtain ⟨n, hn⟩ : ∃ n, L.length = n := ⟨_, rfl⟩
          have HN : Hid (L.length = n) := hn
          have hown := HOWN.out
          rw [hL2, hn] at hown hLl
          rw [hL2] at HIN
          have hn5 : n ≤ 513 := by omega
          obtain ⟨av, cv, rfl⟩ := row_slice hown
          have HO2 : Hid (wr.ownsRow w.heap.size 3 1 (.slice av n cv) n (vI L)) := hown
          clear hpg hown hL2 hn HOWN hLl
          go_wp2_with (at_builtin; refine wpList_append_own _ rfl _ _ 33 rfl w.heap.size 3 i0 _ 1 8 Try.underlying33 hi0 hz0 hz1 hz2 rfl (by decide) (.slice av n cv) n (vI L) rfl (HO2.out.alloc _) ⟨wr.heap.size, 0, none⟩ 1 1 [.int .i64 (k : Nat)] rfl rfl (World.news_of_block (heap_alloc_new _ _)) ?c2 ?c3 ?c4 ?c5 ?_)
          case c2 => intro u hu; simp only [List.mem_singleton] at hu; rw [hu]; rfl
          case c3 => unfold maxLen; omega
          case c4 => omega
          case c5 => simp; have := HBW.out.size; omega
          intro v3 w3 own3 gr3 _
          have HF : Hid (w3.ownsRow w.heap.size 3 1 v3 (ofT T pg (k + 1)).length (vI (ofT T pg (k + 1))) ∧ Below w.heap.size w w3) := by
            refine ⟨?_, (HBW.out.alloc HBW.out.size _).grown gr3 (by simp; have := HBW.out.size; omega) (fun i hi => (HO2.out.lt i hi).1)⟩
            rw [HIN.out, vI_snoc, List.length_append, HN.out]
            exact own3
          clear own3 gr3
          go_wp2
          go_roundg (513 - (k + 1))
          case measure => omega
          case rel => exact ⟨k + 1, by omega, by omega, rfl, by go_num, HF.out.1, HF.out.2⟩
        · have e1 : (y == pg) = false := by rw [beq_eq_false_iff_ne]; exact hpg
          have HSK : Hid (ofT T pg (k + 1) = ofT T pg k) := of_out HGP.out (Nat.le_refl _) (by rw [HTE.out.1, HY.out]; exact hpg)
          clear hpg
          go_wp2
          go_roundg (513 - (k + 1))
          case measure => omega
          case rel => exact ⟨k + 1, by omega, by omega, rfl, by go_num, by rw [HSK.out]; exact HOWN.out, HBW.out⟩
      · obtain rfl : x = -1 := (hp.no (by omega)).1
        have HSK : Hid (ofT T pg (k + 1) = ofT T pg k) := by
          have hz : T (k : Nat) = zP := isU_not.1 (by rw [hus]; exact decide_eq_false hx)
          have hg : Gap T k (k + 1) := fun i h1 h2 => by rw [show i = k by omega]; exact hz
          exact hg.of (by omega) pg
        clear hp hus hx HAT
        go_wp2
        go_roundg (513 - (k + 1))
        case measure => omega
        case rel => exact ⟨k + 1, by omega, by omega, rfl, by go_num, by rw [HSK.out]; exact HOWN.out, HBW.out⟩
    · obtain rfl : k = 513 := by omega
      clear hown hbw
      go_wp2
      go_ret
      exact ⟨_, rfl, HOWN.out, HBW.out⟩
end Go.Proofs.Ytlnkelhhemgibaa
