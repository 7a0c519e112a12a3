/- Proved: gunnylaw19.HandleKeeps returns true for all slices of places, nil and empty ones among them, and all deeds: whatever is done with one handle changes no other one's place. No conditions. -/
import Derived.Test.YtlnkelhhemgibaaVKeeps
import Derived.Test.YtlnkelhhemgibaaVLives
import Derived.Test.YtlnkelhhemgibaaGRange
import Derived.Deep.DeepCutAuto
namespace Go.Proofs.Ytlnkelhhemgibaa.HandleKeeps
open Go.ChangeShapes Go.WideShapes Go.ChangeAt Go.RowKit
set_option linter.unusedVariables false
theorem own : ownKnob Try.prog.godebug = none := by kernel_rfl
theorem laidOut : laidOutB Try.prog = true := by kernel_rfl

set_option maxRecDepth 100000 in
set_option maxHeartbeats 4000000 in
theorem run {a : Option Addr} {c : Nat} {Z : List Pl} (k h p o l : Int) (w : World) (hZ : ArgP w a Z) :
    Calls Try.prog 5 #[.slice a Z.length c, .agg #[.int .i64 k, .int .i64 h, .int .i64 p, .int .i64 o, .int .i64 l]] w fun e w' => e = .returned (.bool true) ∧ Below w.heap.size w w' := by
  obtain ⟨ip, hip, hz0, hz1, hz2⟩ := info_parts Try.infoPl
  obtain ⟨W1, hW1⟩ : ∃ W1, W1 = w.alloc (.cells #[.int .i64 k, .int .i64 h, .int .i64 p, .int .i64 o, .int .i64 l] 41) := ⟨_, rfl⟩
  have hb1 : Below w.heap.size w W1 := by rw [hW1]; exact (Below.refl _ w).alloc (Nat.le_refl _) _
  have hx1 : W1.heap[w.heap.size]? = some (.cells #[.int .i64 k, .int .i64 h, .int .i64 p, .int .i64 o, .int .i64 l] 41 (0, 0)) := by rw [hW1]; exact heap_alloc_new w _
  have HZ : Hid (ArgP w a Z) := hZ
  have HB1 : Hid (Below w.heap.size w W1) := hb1
  have HX1 : Hid (W1.heap[w.heap.size]? = some (.cells #[.int .i64 k, .int .i64 h, .int .i64 p, .int .i64 o, .int .i64 l] 41 (0, 0))) := hx1
  clear hZ hb1 hx1
  go_enter Try.func5, Try.ntmps5
  by_cases hl : 60 < Z.length
  · have i1 : (60 : Int) < (Z.length : Int) := by omega
    go_wp2_with fail
    rw [← hW1]
    clear hW1
    refine (lives_any _).mono ?_
    rintro e w' ⟨rfl, b1⟩
    have HB : Hid (Below w.heap.size w w') := HB1.out.trans (b1.mono HB1.out.size)
    clear b1
    go_wp2
    go_ret
    exact ⟨rfl, HB.out⟩
  · have i1 : ¬ (60 : Int) < (Z.length : Int) := by omega
    have HN : Hid _ := new_any W1
    go_wp2_with fail
    rw [← hW1]
    clear hW1
    refine Calls.mono HN.out ?_
    rintro e W2 ⟨rfl, hT2, hb2, hs2⟩
    obtain ⟨t, ht⟩ : ∃ t, W1.heap.size = t := ⟨_, rfl⟩
    rw [ht] at hT2 ⊢
    have hbt : w.heap.size < t := by have := (Array.getElem?_eq_some_iff.1 HX1.out).1; omega
    have HK0 : Hid (Kp w W2 w.heap.size t ⟨k, h, ⟨p, o, l⟩⟩ noT) := ⟨HB1.out.trans (hb2.mono HB1.out.size), by rw [hb2.block w.heap.size (by omega)]; exact HX1.out, hT2, by omega, hbt⟩
    clear hT2 hb2 hs2 HN HX1 HB1 ht
    go_wp2_with fail
    go_loopg [6] Z.length (fun gk i wr => ∃ (j n : Nat) (T : Int → Pl), j ≤ Z.length ∧ gk = Z.length - j ∧ i = .int .i64 j ∧ Kp w wr w.heap.size t ⟨k, h, ⟨p, o, l⟩⟩ T ∧ Pre T n ∧ n ≤ j)
    case atStart => exact ⟨0, 0, noT, by omega, rfl, rfl, HK0.out, pre_no, Nat.le_refl _⟩
    case round =>
      obtain ⟨j, n, T, hj, rfl, rfl, hkp, hpre, hnj⟩ := hrel
      have HKP : Hid (Kp w wr w.heap.size t ⟨k, h, ⟨p, o, l⟩⟩ T) := hkp
      have HPRE : Hid (Pre T n) := hpre
      by_cases hlt : j < Z.length
      · have i3 : (j : Int) < (Z.length : Int) := by omega
        obtain ⟨x, hx⟩ : ∃ x, Z[j]? = some x := ⟨_, List.getElem?_eq_getElem hlt⟩
        obtain ⟨ba, off, rfl, hba, c0, c1, c2⟩ := HZ.out.later hkp.bel j x hx
        obtain ⟨xp, xo, xl⟩ := x
        simp only at c0 c1 c2
        by_cases hm : mayP ⟨xp, xo, xl⟩ = true
        · have HM : Hid _ := make_free xp xo xl wr hkp.tab hm (hpre.free (by omega))
          have HMA : Hid (mayP ⟨xp, xo, xl⟩ = true) := hm
          clear hkp hpre hm hx
          go_wp2_with fail
          refine Calls.mono HM.out ?_
          rintro e W3 ⟨rfl, hT3, ht3⟩
          have HK3 : Hid (Kp w W3 w.heap.size t ⟨k, h, ⟨p, o, l⟩⟩ _) := HKP.out.turns ht3 hT3
          have HP3 : Hid _ := HPRE.out.put (by omega) HMA.out
          clear hT3 ht3 HM c0 c1 c2
          go_wp2
          go_roundg (Z.length - (j + 1))
          case measure => omega
          case rel => exact ⟨j + 1, n + 1, _, by omega, rfl, by go_num, HK3.out, HP3.out, by omega⟩
        · have HM : Hid _ := make_bad (v := .pointer (some ⟨t, 0, none⟩)) xp xo xl wr (by simpa using hm)
          clear hkp hpre hm hx
          go_wp2_with fail
          refine Calls.mono HM.out ?_
          rintro e W3 ⟨rfl, hb3⟩
          have HK3 : Hid (Kp w W3 w.heap.size t ⟨k, h, ⟨p, o, l⟩⟩ T) := HKP.out.below hb3
          clear hb3 HM c0 c1 c2
          go_wp2
          go_roundg (Z.length - (j + 1))
          case measure => omega
          case rel => exact ⟨j + 1, n, T, by omega, rfl, by go_num, HK3.out, HPRE.out, by omega⟩
      · have i3 : ¬ (j : Int) < (Z.length : Int) := by omega
        have hn : n ≤ 60 := by omega
        have HL : Hid _ := len_is wr hkp.tab.p hpre.cnt
        clear hkp hpre hlt hj hnj
        go_wp2_with fail
        refine Calls.mono HL.out ?_
        rintro e W3 ⟨rfl, hb3⟩
        have HK3 : Hid (Kp w W3 w.heap.size t ⟨k, h, ⟨p, o, l⟩⟩ T) := HKP.out.below hb3
        clear hb3 HL HKP
        go_wp2_with fail
        go_loopg [8, 9] n (fun gk va i wr => ∃ j : Nat, 1 ≤ j ∧ j ≤ n + 1 ∧ gk = n + 1 - j ∧ i = .int .i64 j ∧ Kp w wr w.heap.size t ⟨k, h, ⟨p, o, l⟩⟩ T ∧ PsAt wr (t + 1) va (wasT T (j - 1)))
        case atStart => exact ⟨1, by omega, by omega, rfl, rfl, HK3.out, psAt_nil _ _⟩
        case round =>
          obtain ⟨j, hj1, hj, rfl, rfl, hkp, hps⟩ := hrel
          have HKP : Hid (Kp w wr w.heap.size t ⟨k, h, ⟨p, o, l⟩⟩ T) := hkp
          have HPS : Hid (PsAt wr (t + 1) u8 (wasT T (j - 1))) := hps
          by_cases hlt : j ≤ n
          · have i3 : (j : Int) ≤ (n : Int) := by omega
            have hu : isU (T (j : Nat)) = true := isU_iff.2 ((HPRE.out.used j hj1).2 hlt)
            have HG : Hid _ := get_any (j : Nat) wr hkp.tab.p
            obtain ⟨x, hx⟩ : ∃ x, T (j : Nat) = x := ⟨_, rfl⟩
            rw [hx] at HG hu
            unfold gotV at HG
            rw [hu] at HG
            have HTX : Hid (T (j : Nat) = x) := hx
            clear hkp hps hx hu
            go_wp2_with fail
            refine Calls.mono HG.out ?_
            rintro e Wg ⟨rfl, bg⟩
            obtain ⟨W5, hW5⟩ : ∃ W5, W5 = Wg.alloc (.cells #[.int .i64 x.p, .int .i64 x.o, .int .i64 x.l] 28) := ⟨_, rfl⟩
            have hb5 : Below Wg.heap.size Wg W5 := by rw [hW5]; exact (Below.refl _ Wg).alloc (Nat.le_refl _) _
            have hx5 : W5.heap[Wg.heap.size]? = some (.cells #[.int .i64 x.p, .int .i64 x.o, .int .i64 x.l] 28 (0, 0)) := by rw [hW5]; exact place_new Wg x
            have hk5 := (HKP.out.below bg).below hb5
            have hp5 := (HPS.out.upto bg).upto hb5
            have HK5 : Hid (Kp w W5 w.heap.size t ⟨k, h, ⟨p, o, l⟩⟩ T) := hk5
            have hlen : (wasT T (j - 1)).length = j - 1 := wasT_len _ _
            unfold PsAt at hp5
            rw [hlen] at hp5
            obtain ⟨av, cv, rfl⟩ := row_slice hp5
            have HO5 : Hid (W5.ownsRow (t + 1) 28 3 (.slice av (j - 1) cv) (j - 1) (rowQ (wasT T (j - 1)))) := hp5
            have hs5 := hk5.sz
            obtain ⟨z0, z1, z2⟩ := cells_three hx5
            obtain ⟨xp, xo, xl⟩ := x
            simp only at z0 z1 z2 hW5 ⊢
            clear bg hb5 hx5 hk5 hp5 HG HKP HPS hlen
            go_upto_region 14 with (fail)
            rw [← hW5]
            clear hW5
            go_wp2_with (at_builtin; refine wpList_append_own _ rfl _ _ 50 rfl (t + 1) 28 ip _ 3 24 Try.underlying50 hip hz0 hz1 hz2 rfl (by decide) (.slice av (j - 1) cv) (j - 1) (rowQ (wasT T (j - 1))) rfl (HO5.out.alloc _) ⟨W5.heap.size, 0, none⟩ 1 1 [.int .i64 xp, .int .i64 xo, .int .i64 xl] rfl rfl (World.news_of_block (heap_alloc_new _ _)) ?c2 ?c3 ?c4 ?c5 ?_)
            case c2 => exact cs_one ⟨xp, xo, xl⟩
            case c3 => unfold maxLen; omega
            case c4 => omega
            case c5 => simp; omega
            intro v3 w3 own3 gr3 _
            have HF : Hid (Kp w w3 w.heap.size t ⟨k, h, ⟨p, o, l⟩⟩ T ∧ PsAt w3 (t + 1) v3 (wasT T j)) := by
              refine ⟨(HK5.out.below ((Below.refl _ W5).alloc (Nat.le_refl _) _)).grown gr3 (fun i hi => (HO5.out.lt i hi).1), ?_⟩
              unfold PsAt
              rw [wasT_len, wasT_put T hj1, rowQ_snoc, HTX.out]
              exact own3
            clear own3 gr3
            go_wp2
            go_roundg (n + 1 - (j + 1))
            case measure => omega
            case rel => exact ⟨j + 1, by omega, by omega, rfl, by go_num, HF.out.1, by rw [show j + 1 - 1 = j by omega]; exact HF.out.2⟩
          · obtain rfl : j = n + 1 := by omega
            have i3 : ¬ ((n + 1 : Nat) : Int) ≤ (n : Int) := by omega
            rw [show n + 1 - 1 = n by omega] at hps HPS
            have hvs := hps
            unfold PsAt at hvs
            rw [wasT_len] at hvs
            obtain ⟨av, cv, rfl⟩ := row_slice hvs
            obtain ⟨y0, y1, y2, y3, y4⟩ := cells_five hkp.box
            simp only at y0 y1 y2 y3 y4
            clear hlt hj hj1 hvs hps
            by_cases h0 : k = 0
            · subst h0
              by_cases hm : mayP ⟨p, o, l⟩ = true
              · have HM : Hid _ := make_free p o l wr HKP.out.tab hm (HPRE.out.free (by omega))
                have HMA : Hid (mayP ⟨p, o, l⟩ = true) := hm
                clear hkp hm
                go_wp2_with fail
                refine Calls.mono HM.out ?_
                rintro e W3 ⟨rfl, hT3, ht3⟩
                obtain ⟨M, hM⟩ : ∃ M : Int, ((n + 1 : Nat) : Int) = M := ⟨_, rfl⟩
                rw [hM] at hT3 ⊢
                obtain ⟨T', hT'⟩ : ∃ T', putT T M ⟨p, o, l⟩ = T' := ⟨_, rfl⟩
                rw [hT'] at hT3
                have HMM : Hid (0 < M) := by show _ < _; omega
                have HAF : Hid (Aft T T' n M ⟨0, h, ⟨p, o, l⟩⟩) := ⟨fun j h1 h2 h3 => by rw [← hT']; exact putT_other _ h3, fun _ _ => ⟨by rw [← hT']; exact putT_same _ _ _, isU_iff.2 (may_used HMA.out)⟩⟩
                have HKT : Hid (Kp w W3 w.heap.size t ⟨0, h, ⟨p, o, l⟩⟩ T') := HKP.out.turns ht3 hT3
                have HPT : Hid (PsAt W3 (t + 1) (.slice av n cv) (wasT T n)) := HPS.out.turns ht3 (Nat.le_refl _)
                clear hT3 ht3 hM hT' HM y0 y1 y2 y3 y4
                go_wp2_with fail
                go_loopg [13] n (fun gk i wr => ∃ r : Nat, 1 ≤ r ∧ r ≤ n + 1 ∧ gk = n + 1 - r ∧ i = .int .i64 r ∧ Kp w wr w.heap.size t ⟨0, h, ⟨p, o, l⟩⟩ T' ∧ PsAt wr (t + 1) (.slice av n cv) (wasT T n))
                case atStart => exact ⟨1, by omega, by omega, rfl, rfl, HKT.out, HPT.out⟩
                case round =>
                  obtain ⟨r, hr1, hr, rfl, rfl, hkp, hps⟩ := hrel
                  have HKR : Hid (Kp w wr w.heap.size t ⟨0, h, ⟨p, o, l⟩⟩ T') := hkp
                  have HPR : Hid (PsAt wr (t + 1) (.slice av n cv) (wasT T n)) := hps
                  obtain ⟨y0, y1, y2, y3, y4⟩ := cells_five hkp.box
                  simp only at y0 y1 y2 y3 y4
                  by_cases hlt : r ≤ n
                  · have i1 : (r : Int) ≤ (n : Int) := by omega
                    have HG : Hid _ := get_any (r : Nat) wr hkp.tab.p
                    clear hkp hps y0 y1 y2 y3 y4
                    go_wp2_with fail
                    refine Calls.mono HG.out ?_
                    rintro e Wg ⟨rfl, bg⟩
                    obtain ⟨x, hx⟩ : ∃ x, T' (r : Nat) = x := ⟨_, rfl⟩
                    rw [hx]
                    unfold gotV
                    obtain ⟨u, hu⟩ : ∃ u, isU x = u := ⟨_, rfl⟩
                    rw [hu]
                    have HXU : Hid (T' (r : Nat) = x ∧ isU x = u) := ⟨hx, hu⟩
                    obtain ⟨W5, hW5⟩ : ∃ W5, W5 = Wg.alloc (.cells #[.int .i64 x.p, .int .i64 x.o, .int .i64 x.l] 28) := ⟨_, rfl⟩
                    have hb5 : Below Wg.heap.size Wg W5 := by rw [hW5]; exact (Below.refl _ Wg).alloc (Nat.le_refl _) _
                    have hx5 : W5.heap[Wg.heap.size]? = some (.cells #[.int .i64 x.p, .int .i64 x.o, .int .i64 x.l] 28 (0, 0)) := by rw [hW5]; exact place_new Wg x
                    have hk5 := (HKR.out.below bg).below hb5
                    have hp5 := (HPR.out.upto bg).upto hb5
                    have HK5 : Hid (Kp w W5 w.heap.size t ⟨0, h, ⟨p, o, l⟩⟩ T') := hk5
                    have HP5 : Hid (PsAt W5 (t + 1) (.slice av n cv) (wasT T n)) := hp5
                    obtain ⟨z0, z1, z2⟩ := cells_three hx5
                    obtain ⟨g, rfl, q0, q1, q2⟩ := hp5.at (wasT_len T n) (wasT_at T hr1 hlt)
                    obtain ⟨xp, xo, xl⟩ := x
                    simp only at z0 z1 z2 hW5 ⊢
                    by_cases hne : (r : Int) = M
                    · have hb : ((r : Int) != M) = false := by rw [hne]; exact bne_self_eq_false _
                      clear bg hb5 hx5 hk5 hp5 HG HKR HPR hx hu q0 q1 q2 hne
                      go_upto_region 32 with (fail)
                      rw [← hW5]
                      clear hW5
                      go_quiet (fail)
                      go_wp2
                      go_roundg (n + 1 - (r + 1))
                      case measure => omega
                      case rel => exact ⟨r + 1, by omega, by omega, rfl, by go_num, HK5.out.below (drewN_below _ _ _), HP5.out.upto (drewN_below _ _ _)⟩
                    · have hs := HAF.out.same r hr1 hlt hne
                      rw [← hs, HXU.out.1] at q0 q1 q2
                      have hut : u = true := by
                        rw [← HXU.out.2, ← HXU.out.1, hs]
                        exact isU_iff.2 ((HPRE.out.used r hr1).2 hlt)
                      subst hut
                      have hb : ((r : Int) != M) = true := by rw [bne_iff_ne]; exact hne
                      simp only at q0 q1 q2
                      have hsame : sameP ⟨xp, xo, xl⟩ ⟨xp, xo, xl⟩ = true := sameP_iff.2 rfl
                      have heq := Try.neqP xp xo xl xp xo xl
                      rw [hsame] at heq
                      have j1 : IntKind.i64.wrap ((r : Int) - 1) = (r : Int) - 1 := IntWalk.i64_in _ (by omega)
                      have j2 : 0 ≤ (r : Int) - 1 := by omega
                      have j3 : (r : Int) - 1 < (n : Int) := by omega
                      have j4 : ((r : Int) - 1).toNat = r - 1 := by omega
                      have j5 : ¬ (r : Int) - 1 < 0 := by omega
                      clear bg hb5 hx5 hk5 hp5 HG HKR HPR hx hu hs hsame
                      go_upto_region 32 with (fail)
                      rw [← hW5]
                      clear hW5
                      go_quiet (fail)
                      go_wp2
                      go_roundg (n + 1 - (r + 1))
                      case measure => omega
                      case rel => exact ⟨r + 1, by omega, by omega, rfl, by go_num, HK5.out.below (drewN_below _ _ _), HP5.out.upto (drewN_below _ _ _)⟩
                  · have i1 : ¬ (r : Int) ≤ (n : Int) := by omega
                    clear hkp hps HPR
                    have hm0 : 0 < M := HMM.out
                    obtain ⟨e1, e2⟩ := HAF.out.made hm0 (by simp)
                    have HG : Hid _ := get_any M wr HKR.out.tab.p
                    rw [e1] at HG
                    unfold gotV at HG
                    rw [e2] at HG
                    clear e1 e2
                    go_wp2_with fail
                    refine Calls.mono HG.out ?_
                    rintro e Wg ⟨rfl, bg⟩
                    obtain ⟨W5, hW5⟩ : ∃ W5, W5 = Wg.alloc (.cells #[.int .i64 p, .int .i64 o, .int .i64 l] 28) := ⟨_, rfl⟩
                    have hb5 : Below Wg.heap.size Wg W5 := by rw [hW5]; exact (Below.refl _ Wg).alloc (Nat.le_refl _) _
                    have hx5 : W5.heap[Wg.heap.size]? = some (.cells #[.int .i64 p, .int .i64 o, .int .i64 l] 28 (0, 0)) := by rw [hW5]; exact place_new Wg ⟨p, o, l⟩
                    have hk5 := (HKR.out.below bg).below hb5
                    have HK5 : Hid (Kp w W5 w.heap.size t _ T') := hk5
                    obtain ⟨z0, z1, z2⟩ := cells_three hx5
                    obtain ⟨y0, y1, y2, y3, y4⟩ := cells_five hk5.box
                    simp only at y0 y1 y2 y3 y4
                    have hsame : sameP ⟨p, o, l⟩ ⟨p, o, l⟩ = true := sameP_iff.2 rfl
                    have heq := Try.eqlP p o l p o l
                    rw [hsame] at heq
                    clear bg hb5 hx5 hk5 HG HKR
                    go_upto_region 36 with (fail)
                    rw [← hW5]
                    clear hW5
                    go_wp2_with fail
                    refine (lives_any _).mono ?_
                    rintro e w' ⟨rfl, b1⟩
                    have HB : Hid (Below w.heap.size w w') := HK5.out.bel.trans (b1.mono HK5.out.bel.size)
                    clear b1
                    go_wp2
                    go_ret
                    exact ⟨rfl, HB.out⟩
              · have HM : Hid _ := make_bad (v := .pointer (some ⟨t, 0, none⟩)) p o l wr (by simpa using hm)
                clear hkp hm
                go_wp2_with fail
                refine Calls.mono HM.out ?_
                rintro e W3 ⟨rfl, hb3⟩
                obtain ⟨T', hT'⟩ : ∃ T', T = T' := ⟨_, rfl⟩
                have HAF : Hid (Aft T T' n 0 ⟨0, h, ⟨p, o, l⟩⟩) := ⟨fun j _ _ _ => by rw [hT'], fun h1 _ => by omega⟩
                have HKT : Hid (Kp w W3 w.heap.size t ⟨0, h, ⟨p, o, l⟩⟩ T') := by rw [← hT']; exact HKP.out.below hb3
                have HPT : Hid (PsAt W3 (t + 1) (.slice av n cv) (wasT T n)) := HPS.out.upto hb3
                clear hb3 hT' HM y0 y1 y2 y3 y4
                go_wp2_with fail
                go_loopg [13] n (fun gk i wr => ∃ r : Nat, 1 ≤ r ∧ r ≤ n + 1 ∧ gk = n + 1 - r ∧ i = .int .i64 r ∧ Kp w wr w.heap.size t ⟨0, h, ⟨p, o, l⟩⟩ T' ∧ PsAt wr (t + 1) (.slice av n cv) (wasT T n))
                case atStart => exact ⟨1, by omega, by omega, rfl, rfl, HKT.out, HPT.out⟩
                case round =>
                  obtain ⟨r, hr1, hr, rfl, rfl, hkp, hps⟩ := hrel
                  have HKR : Hid (Kp w wr w.heap.size t ⟨0, h, ⟨p, o, l⟩⟩ T') := hkp
                  have HPR : Hid (PsAt wr (t + 1) (.slice av n cv) (wasT T n)) := hps
                  obtain ⟨y0, y1, y2, y3, y4⟩ := cells_five hkp.box
                  simp only at y0 y1 y2 y3 y4
                  by_cases hlt : r ≤ n
                  · have i1 : (r : Int) ≤ (n : Int) := by omega
                    have HG : Hid _ := get_any (r : Nat) wr hkp.tab.p
                    clear hkp hps y0 y1 y2 y3 y4
                    go_wp2_with fail
                    refine Calls.mono HG.out ?_
                    rintro e Wg ⟨rfl, bg⟩
                    obtain ⟨x, hx⟩ : ∃ x, T' (r : Nat) = x := ⟨_, rfl⟩
                    rw [hx]
                    unfold gotV
                    obtain ⟨u, hu⟩ : ∃ u, isU x = u := ⟨_, rfl⟩
                    rw [hu]
                    have HXU : Hid (T' (r : Nat) = x ∧ isU x = u) := ⟨hx, hu⟩
                    obtain ⟨W5, hW5⟩ : ∃ W5, W5 = Wg.alloc (.cells #[.int .i64 x.p, .int .i64 x.o, .int .i64 x.l] 28) := ⟨_, rfl⟩
                    have hb5 : Below Wg.heap.size Wg W5 := by rw [hW5]; exact (Below.refl _ Wg).alloc (Nat.le_refl _) _
                    have hx5 : W5.heap[Wg.heap.size]? = some (.cells #[.int .i64 x.p, .int .i64 x.o, .int .i64 x.l] 28 (0, 0)) := by rw [hW5]; exact place_new Wg x
                    have hk5 := (HKR.out.below bg).below hb5
                    have hp5 := (HPR.out.upto bg).upto hb5
                    have HK5 : Hid (Kp w W5 w.heap.size t ⟨0, h, ⟨p, o, l⟩⟩ T') := hk5
                    have HP5 : Hid (PsAt W5 (t + 1) (.slice av n cv) (wasT T n)) := hp5
                    obtain ⟨z0, z1, z2⟩ := cells_three hx5
                    obtain ⟨g, rfl, q0, q1, q2⟩ := hp5.at (wasT_len T n) (wasT_at T hr1 hlt)
                    obtain ⟨xp, xo, xl⟩ := x
                    simp only at z0 z1 z2 hW5 ⊢
                    by_cases hne : (r : Int) = 0
                    · have hb : ((r : Int) != 0) = false := by rw [hne]; exact bne_self_eq_false _
                      clear bg hb5 hx5 hk5 hp5 HG HKR HPR hx hu q0 q1 q2 hne
                      go_upto_region 32 with (fail)
                      rw [← hW5]
                      clear hW5
                      go_quiet (fail)
                      go_wp2
                      go_roundg (n + 1 - (r + 1))
                      case measure => omega
                      case rel => exact ⟨r + 1, by omega, by omega, rfl, by go_num, HK5.out.below (drewN_below _ _ _), HP5.out.upto (drewN_below _ _ _)⟩
                    · have hs := HAF.out.same r hr1 hlt hne
                      rw [← hs, HXU.out.1] at q0 q1 q2
                      have hut : u = true := by
                        rw [← HXU.out.2, ← HXU.out.1, hs]
                        exact isU_iff.2 ((HPRE.out.used r hr1).2 hlt)
                      subst hut
                      have hb : ((r : Int) != 0) = true := by rw [bne_iff_ne]; exact hne
                      simp only at q0 q1 q2
                      have hsame : sameP ⟨xp, xo, xl⟩ ⟨xp, xo, xl⟩ = true := sameP_iff.2 rfl
                      have heq := Try.neqP xp xo xl xp xo xl
                      rw [hsame] at heq
                      have j1 : IntKind.i64.wrap ((r : Int) - 1) = (r : Int) - 1 := IntWalk.i64_in _ (by omega)
                      have j2 : 0 ≤ (r : Int) - 1 := by omega
                      have j3 : (r : Int) - 1 < (n : Int) := by omega
                      have j4 : ((r : Int) - 1).toNat = r - 1 := by omega
                      have j5 : ¬ (r : Int) - 1 < 0 := by omega
                      clear bg hb5 hx5 hk5 hp5 HG HKR HPR hx hu hs hsame
                      go_upto_region 32 with (fail)
                      rw [← hW5]
                      clear hW5
                      go_quiet (fail)
                      go_wp2
                      go_roundg (n + 1 - (r + 1))
                      case measure => omega
                      case rel => exact ⟨r + 1, by omega, by omega, rfl, by go_num, HK5.out.below (drewN_below _ _ _), HP5.out.upto (drewN_below _ _ _)⟩
                  · have i1 : ¬ (r : Int) ≤ (n : Int) := by omega
                    clear hkp hps HPR
                    go_wp2_with fail
                    refine (lives_any _).mono ?_
                    rintro e w' ⟨rfl, b1⟩
                    have HB : Hid (Below w.heap.size w w') := HKR.out.bel.trans (b1.mono HKR.out.bel.size)
                    clear b1
                    go_wp2
                    go_ret
                    exact ⟨rfl, HB.out⟩
            · by_cases h1 : k = 1
              · subst h1
                by_cases hm : mayP ⟨p, o, l⟩ = true
                · have HM : Hid _ := make_free p o l wr HKP.out.tab hm (HPRE.out.free (by omega))
                  have HMA : Hid (mayP ⟨p, o, l⟩ = true) := hm
                  clear hkp hm
                  go_wp2_with fail
                  refine Calls.mono HM.out ?_
                  rintro e W3 ⟨rfl, hT3, ht3⟩
                  obtain ⟨M, hM⟩ : ∃ M : Int, ((n + 1 : Nat) : Int) = M := ⟨_, rfl⟩
                  rw [hM] at hT3 ⊢
                  obtain ⟨T', hT'⟩ : ∃ T', putT T M ⟨p, o, l⟩ = T' := ⟨_, rfl⟩
                  rw [hT'] at hT3
                  have HMM : Hid (0 < M) := by show _ < _; omega
                  have HAF : Hid (Aft T T' n M ⟨1, h, ⟨p, o, l⟩⟩) := ⟨fun j h1 h2 h3 => by rw [← hT']; exact putT_other _ h3, fun _ _ => ⟨by rw [← hT']; exact putT_same _ _ _, isU_iff.2 (may_used HMA.out)⟩⟩
                  have HKT : Hid (Kp w W3 w.heap.size t ⟨1, h, ⟨p, o, l⟩⟩ T') := HKP.out.turns ht3 hT3
                  have HPT : Hid (PsAt W3 (t + 1) (.slice av n cv) (wasT T n)) := HPS.out.turns ht3 (Nat.le_refl _)
                  clear hT3 ht3 hM hT' HM y0 y1 y2 y3 y4
                  go_wp2_with fail
                  go_loopg [13] n (fun gk i wr => ∃ r : Nat, 1 ≤ r ∧ r ≤ n + 1 ∧ gk = n + 1 - r ∧ i = .int .i64 r ∧ Kp w wr w.heap.size t ⟨1, h, ⟨p, o, l⟩⟩ T' ∧ PsAt wr (t + 1) (.slice av n cv) (wasT T n))
                  case atStart => exact ⟨1, by omega, by omega, rfl, rfl, HKT.out, HPT.out⟩
                  case round =>
                    obtain ⟨r, hr1, hr, rfl, rfl, hkp, hps⟩ := hrel
                    have HKR : Hid (Kp w wr w.heap.size t ⟨1, h, ⟨p, o, l⟩⟩ T') := hkp
                    have HPR : Hid (PsAt wr (t + 1) (.slice av n cv) (wasT T n)) := hps
                    obtain ⟨y0, y1, y2, y3, y4⟩ := cells_five hkp.box
                    simp only at y0 y1 y2 y3 y4
                    by_cases hlt : r ≤ n
                    · have i1 : (r : Int) ≤ (n : Int) := by omega
                      have HG : Hid _ := get_any (r : Nat) wr hkp.tab.p
                      clear hkp hps y0 y1 y2 y3 y4
                      go_wp2_with fail
                      refine Calls.mono HG.out ?_
                      rintro e Wg ⟨rfl, bg⟩
                      obtain ⟨x, hx⟩ : ∃ x, T' (r : Nat) = x := ⟨_, rfl⟩
                      rw [hx]
                      unfold gotV
                      obtain ⟨u, hu⟩ : ∃ u, isU x = u := ⟨_, rfl⟩
                      rw [hu]
                      have HXU : Hid (T' (r : Nat) = x ∧ isU x = u) := ⟨hx, hu⟩
                      obtain ⟨W5, hW5⟩ : ∃ W5, W5 = Wg.alloc (.cells #[.int .i64 x.p, .int .i64 x.o, .int .i64 x.l] 28) := ⟨_, rfl⟩
                      have hb5 : Below Wg.heap.size Wg W5 := by rw [hW5]; exact (Below.refl _ Wg).alloc (Nat.le_refl _) _
                      have hx5 : W5.heap[Wg.heap.size]? = some (.cells #[.int .i64 x.p, .int .i64 x.o, .int .i64 x.l] 28 (0, 0)) := by rw [hW5]; exact place_new Wg x
                      have hk5 := (HKR.out.below bg).below hb5
                      have hp5 := (HPR.out.upto bg).upto hb5
                      have HK5 : Hid (Kp w W5 w.heap.size t ⟨1, h, ⟨p, o, l⟩⟩ T') := hk5
                      have HP5 : Hid (PsAt W5 (t + 1) (.slice av n cv) (wasT T n)) := hp5
                      obtain ⟨z0, z1, z2⟩ := cells_three hx5
                      obtain ⟨g, rfl, q0, q1, q2⟩ := hp5.at (wasT_len T n) (wasT_at T hr1 hlt)
                      obtain ⟨xp, xo, xl⟩ := x
                      simp only at z0 z1 z2 hW5 ⊢
                      by_cases hne : (r : Int) = M
                      · have hb : ((r : Int) != M) = false := by rw [hne]; exact bne_self_eq_false _
                        clear bg hb5 hx5 hk5 hp5 HG HKR HPR hx hu q0 q1 q2 hne
                        go_upto_region 32 with (fail)
                        rw [← hW5]
                        clear hW5
                        go_quiet (fail)
                        go_wp2
                        go_roundg (n + 1 - (r + 1))
                        case measure => omega
                        case rel => exact ⟨r + 1, by omega, by omega, rfl, by go_num, HK5.out.below (drewN_below _ _ _), HP5.out.upto (drewN_below _ _ _)⟩
                      · have hs := HAF.out.same r hr1 hlt hne
                        rw [← hs, HXU.out.1] at q0 q1 q2
                        have hut : u = true := by
                          rw [← HXU.out.2, ← HXU.out.1, hs]
                          exact isU_iff.2 ((HPRE.out.used r hr1).2 hlt)
                        subst hut
                        have hb : ((r : Int) != M) = true := by rw [bne_iff_ne]; exact hne
                        simp only at q0 q1 q2
                        have hsame : sameP ⟨xp, xo, xl⟩ ⟨xp, xo, xl⟩ = true := sameP_iff.2 rfl
                        have heq := Try.neqP xp xo xl xp xo xl
                        rw [hsame] at heq
                        have j1 : IntKind.i64.wrap ((r : Int) - 1) = (r : Int) - 1 := IntWalk.i64_in _ (by omega)
                        have j2 : 0 ≤ (r : Int) - 1 := by omega
                        have j3 : (r : Int) - 1 < (n : Int) := by omega
                        have j4 : ((r : Int) - 1).toNat = r - 1 := by omega
                        have j5 : ¬ (r : Int) - 1 < 0 := by omega
                        clear bg hb5 hx5 hk5 hp5 HG HKR HPR hx hu hs hsame
                        go_upto_region 32 with (fail)
                        rw [← hW5]
                        clear hW5
                        go_quiet (fail)
                        go_wp2
                        go_roundg (n + 1 - (r + 1))
                        case measure => omega
                        case rel => exact ⟨r + 1, by omega, by omega, rfl, by go_num, HK5.out.below (drewN_below _ _ _), HP5.out.upto (drewN_below _ _ _)⟩
                    · have i1 : ¬ (r : Int) ≤ (n : Int) := by omega
                      clear hkp hps HPR
                      have hm0 : 0 < M := HMM.out
                      obtain ⟨e1, e2⟩ := HAF.out.made hm0 (by simp)
                      have HG : Hid _ := get_any M wr HKR.out.tab.p
                      rw [e1] at HG
                      unfold gotV at HG
                      rw [e2] at HG
                      clear e1 e2
                      go_wp2_with fail
                      refine Calls.mono HG.out ?_
                      rintro e Wg ⟨rfl, bg⟩
                      obtain ⟨W5, hW5⟩ : ∃ W5, W5 = Wg.alloc (.cells #[.int .i64 p, .int .i64 o, .int .i64 l] 28) := ⟨_, rfl⟩
                      have hb5 : Below Wg.heap.size Wg W5 := by rw [hW5]; exact (Below.refl _ Wg).alloc (Nat.le_refl _) _
                      have hx5 : W5.heap[Wg.heap.size]? = some (.cells #[.int .i64 p, .int .i64 o, .int .i64 l] 28 (0, 0)) := by rw [hW5]; exact place_new Wg ⟨p, o, l⟩
                      have hk5 := (HKR.out.below bg).below hb5
                      have HK5 : Hid (Kp w W5 w.heap.size t _ T') := hk5
                      obtain ⟨z0, z1, z2⟩ := cells_three hx5
                      obtain ⟨y0, y1, y2, y3, y4⟩ := cells_five hk5.box
                      simp only at y0 y1 y2 y3 y4
                      have hsame : sameP ⟨p, o, l⟩ ⟨p, o, l⟩ = true := sameP_iff.2 rfl
                      have heq := Try.eqlP p o l p o l
                      rw [hsame] at heq
                      clear bg hb5 hx5 hk5 HG HKR
                      go_upto_region 36 with (fail)
                      rw [← hW5]
                      clear hW5
                      go_wp2_with fail
                      refine (lives_any _).mono ?_
                      rintro e w' ⟨rfl, b1⟩
                      have HB : Hid (Below w.heap.size w w') := HK5.out.bel.trans (b1.mono HK5.out.bel.size)
                      clear b1
                      go_wp2
                      go_ret
                      exact ⟨rfl, HB.out⟩
                · have HM : Hid _ := make_bad (v := .pointer (some ⟨t, 0, none⟩)) p o l wr (by simpa using hm)
                  clear hkp hm
                  go_wp2_with fail
                  refine Calls.mono HM.out ?_
                  rintro e W3 ⟨rfl, hb3⟩
                  obtain ⟨T', hT'⟩ : ∃ T', T = T' := ⟨_, rfl⟩
                  have HAF : Hid (Aft T T' n 0 ⟨1, h, ⟨p, o, l⟩⟩) := ⟨fun j _ _ _ => by rw [hT'], fun h1 _ => by omega⟩
                  have HKT : Hid (Kp w W3 w.heap.size t ⟨1, h, ⟨p, o, l⟩⟩ T') := by rw [← hT']; exact HKP.out.below hb3
                  have HPT : Hid (PsAt W3 (t + 1) (.slice av n cv) (wasT T n)) := HPS.out.upto hb3
                  clear hb3 hT' HM y0 y1 y2 y3 y4
                  go_wp2_with fail
                  go_loopg [13] n (fun gk i wr => ∃ r : Nat, 1 ≤ r ∧ r ≤ n + 1 ∧ gk = n + 1 - r ∧ i = .int .i64 r ∧ Kp w wr w.heap.size t ⟨1, h, ⟨p, o, l⟩⟩ T' ∧ PsAt wr (t + 1) (.slice av n cv) (wasT T n))
                  case atStart => exact ⟨1, by omega, by omega, rfl, rfl, HKT.out, HPT.out⟩
                  case round =>
                    obtain ⟨r, hr1, hr, rfl, rfl, hkp, hps⟩ := hrel
                    have HKR : Hid (Kp w wr w.heap.size t ⟨1, h, ⟨p, o, l⟩⟩ T') := hkp
                    have HPR : Hid (PsAt wr (t + 1) (.slice av n cv) (wasT T n)) := hps
                    obtain ⟨y0, y1, y2, y3, y4⟩ := cells_five hkp.box
                    simp only at y0 y1 y2 y3 y4
                    by_cases hlt : r ≤ n
                    · have i1 : (r : Int) ≤ (n : Int) := by omega
                      have HG : Hid _ := get_any (r : Nat) wr hkp.tab.p
                      clear hkp hps y0 y1 y2 y3 y4
                      go_wp2_with fail
                      refine Calls.mono HG.out ?_
                      rintro e Wg ⟨rfl, bg⟩
                      obtain ⟨x, hx⟩ : ∃ x, T' (r : Nat) = x := ⟨_, rfl⟩
                      rw [hx]
                      unfold gotV
                      obtain ⟨u, hu⟩ : ∃ u, isU x = u := ⟨_, rfl⟩
                      rw [hu]
                      have HXU : Hid (T' (r : Nat) = x ∧ isU x = u) := ⟨hx, hu⟩
                      obtain ⟨W5, hW5⟩ : ∃ W5, W5 = Wg.alloc (.cells #[.int .i64 x.p, .int .i64 x.o, .int .i64 x.l] 28) := ⟨_, rfl⟩
                      have hb5 : Below Wg.heap.size Wg W5 := by rw [hW5]; exact (Below.refl _ Wg).alloc (Nat.le_refl _) _
                      have hx5 : W5.heap[Wg.heap.size]? = some (.cells #[.int .i64 x.p, .int .i64 x.o, .int .i64 x.l] 28 (0, 0)) := by rw [hW5]; exact place_new Wg x
                      have hk5 := (HKR.out.below bg).below hb5
                      have hp5 := (HPR.out.upto bg).upto hb5
                      have HK5 : Hid (Kp w W5 w.heap.size t ⟨1, h, ⟨p, o, l⟩⟩ T') := hk5
                      have HP5 : Hid (PsAt W5 (t + 1) (.slice av n cv) (wasT T n)) := hp5
                      obtain ⟨z0, z1, z2⟩ := cells_three hx5
                      obtain ⟨g, rfl, q0, q1, q2⟩ := hp5.at (wasT_len T n) (wasT_at T hr1 hlt)
                      obtain ⟨xp, xo, xl⟩ := x
                      simp only at z0 z1 z2 hW5 ⊢
                      by_cases hne : (r : Int) = 0
                      · have hb : ((r : Int) != 0) = false := by rw [hne]; exact bne_self_eq_false _
                        clear bg hb5 hx5 hk5 hp5 HG HKR HPR hx hu q0 q1 q2 hne
                        go_upto_region 32 with (fail)
                        rw [← hW5]
                        clear hW5
                        go_quiet (fail)
                        go_wp2
                        go_roundg (n + 1 - (r + 1))
                        case measure => omega
                        case rel => exact ⟨r + 1, by omega, by omega, rfl, by go_num, HK5.out.below (drewN_below _ _ _), HP5.out.upto (drewN_below _ _ _)⟩
                      · have hs := HAF.out.same r hr1 hlt hne
                        rw [← hs, HXU.out.1] at q0 q1 q2
                        have hut : u = true := by
                          rw [← HXU.out.2, ← HXU.out.1, hs]
                          exact isU_iff.2 ((HPRE.out.used r hr1).2 hlt)
                        subst hut
                        have hb : ((r : Int) != 0) = true := by rw [bne_iff_ne]; exact hne
                        simp only at q0 q1 q2
                        have hsame : sameP ⟨xp, xo, xl⟩ ⟨xp, xo, xl⟩ = true := sameP_iff.2 rfl
                        have heq := Try.neqP xp xo xl xp xo xl
                        rw [hsame] at heq
                        have j1 : IntKind.i64.wrap ((r : Int) - 1) = (r : Int) - 1 := IntWalk.i64_in _ (by omega)
                        have j2 : 0 ≤ (r : Int) - 1 := by omega
                        have j3 : (r : Int) - 1 < (n : Int) := by omega
                        have j4 : ((r : Int) - 1).toNat = r - 1 := by omega
                        have j5 : ¬ (r : Int) - 1 < 0 := by omega
                        clear bg hb5 hx5 hk5 hp5 HG HKR HPR hx hu hs hsame
                        go_upto_region 32 with (fail)
                        rw [← hW5]
                        clear hW5
                        go_quiet (fail)
                        go_wp2
                        go_roundg (n + 1 - (r + 1))
                        case measure => omega
                        case rel => exact ⟨r + 1, by omega, by omega, rfl, by go_num, HK5.out.below (drewN_below _ _ _), HP5.out.upto (drewN_below _ _ _)⟩
                    · have i1 : ¬ (r : Int) ≤ (n : Int) := by omega
                      clear hkp hps HPR
                      go_wp2_with fail
                      refine (lives_any _).mono ?_
                      rintro e w' ⟨rfl, b1⟩
                      have HB : Hid (Below w.heap.size w w') := HKR.out.bel.trans (b1.mono HKR.out.bel.size)
                      clear b1
                      go_wp2
                      go_ret
                      exact ⟨rfl, HB.out⟩
              · by_cases h2 : k = 2
                · subst h2
                  have HD : Hid _ := drop_any h wr HKP.out.tab.p
                  clear hkp
                  go_wp2_with fail
                  refine Calls.mono HD.out ?_
                  rintro e W3 ⟨rfl, hT, hw⟩
                  generalize gotV _ = gv
                  obtain ⟨T', hT'⟩ : ∃ T', putT T h zP = T' := ⟨_, rfl⟩
                  have ht3 : Turns t (t + 1) wr W3 := turns_or rfl hw
                  have hT3 : TabAt W3 t T' := by rw [← hT']; exact hT.at rfl
                  have HAF : Hid (Aft T T' n h ⟨2, h, ⟨p, o, l⟩⟩) := ⟨fun j h1 h2 h3 => by rw [← hT']; exact putT_other _ h3, fun _ h2 => by simp at h2⟩
                  have HKT : Hid (Kp w W3 w.heap.size t ⟨2, h, ⟨p, o, l⟩⟩ T') := HKP.out.turns ht3 hT3
                  have HPT : Hid (PsAt W3 (t + 1) (.slice av n cv) (wasT T n)) := HPS.out.turns ht3 (Nat.le_refl _)
                  clear y0 y1 y2 y3 y4
                  obtain ⟨y0, y1, y2, y3, y4⟩ := cells_five HKT.out.box
                  simp only at y0 y1 y2 y3 y4
                  clear hT3 ht3 hT' HD hT hw
                  go_wp2_with fail
                  go_loopg [13] n (fun gk i wr => ∃ r : Nat, 1 ≤ r ∧ r ≤ n + 1 ∧ gk = n + 1 - r ∧ i = .int .i64 r ∧ Kp w wr w.heap.size t ⟨2, h, ⟨p, o, l⟩⟩ T' ∧ PsAt wr (t + 1) (.slice av n cv) (wasT T n))
                  case atStart => exact ⟨1, by omega, by omega, rfl, rfl, HKT.out, HPT.out⟩
                  case round =>
                    obtain ⟨r, hr1, hr, rfl, rfl, hkp, hps⟩ := hrel
                    have HKR : Hid (Kp w wr w.heap.size t ⟨2, h, ⟨p, o, l⟩⟩ T') := hkp
                    have HPR : Hid (PsAt wr (t + 1) (.slice av n cv) (wasT T n)) := hps
                    obtain ⟨y0, y1, y2, y3, y4⟩ := cells_five hkp.box
                    simp only at y0 y1 y2 y3 y4
                    by_cases hlt : r ≤ n
                    · have i1 : (r : Int) ≤ (n : Int) := by omega
                      have HG : Hid _ := get_any (r : Nat) wr hkp.tab.p
                      clear hkp hps y0 y1 y2 y3 y4
                      go_wp2_with fail
                      refine Calls.mono HG.out ?_
                      rintro e Wg ⟨rfl, bg⟩
                      obtain ⟨x, hx⟩ : ∃ x, T' (r : Nat) = x := ⟨_, rfl⟩
                      rw [hx]
                      unfold gotV
                      obtain ⟨u, hu⟩ : ∃ u, isU x = u := ⟨_, rfl⟩
                      rw [hu]
                      have HXU : Hid (T' (r : Nat) = x ∧ isU x = u) := ⟨hx, hu⟩
                      obtain ⟨W5, hW5⟩ : ∃ W5, W5 = Wg.alloc (.cells #[.int .i64 x.p, .int .i64 x.o, .int .i64 x.l] 28) := ⟨_, rfl⟩
                      have hb5 : Below Wg.heap.size Wg W5 := by rw [hW5]; exact (Below.refl _ Wg).alloc (Nat.le_refl _) _
                      have hx5 : W5.heap[Wg.heap.size]? = some (.cells #[.int .i64 x.p, .int .i64 x.o, .int .i64 x.l] 28 (0, 0)) := by rw [hW5]; exact place_new Wg x
                      have hk5 := (HKR.out.below bg).below hb5
                      have hp5 := (HPR.out.upto bg).upto hb5
                      have HK5 : Hid (Kp w W5 w.heap.size t ⟨2, h, ⟨p, o, l⟩⟩ T') := hk5
                      have HP5 : Hid (PsAt W5 (t + 1) (.slice av n cv) (wasT T n)) := hp5
                      obtain ⟨z0, z1, z2⟩ := cells_three hx5
                      obtain ⟨g, rfl, q0, q1, q2⟩ := hp5.at (wasT_len T n) (wasT_at T hr1 hlt)
                      obtain ⟨xp, xo, xl⟩ := x
                      simp only at z0 z1 z2 hW5 ⊢
                      by_cases hne : (r : Int) = h
                      · have hb : ((r : Int) != h) = false := by rw [hne]; exact bne_self_eq_false _
                        clear bg hb5 hx5 hk5 hp5 HG HKR HPR hx hu q0 q1 q2 hne
                        go_upto_region 32 with (fail)
                        rw [← hW5]
                        clear hW5
                        go_quiet (fail)
                        go_wp2
                        go_roundg (n + 1 - (r + 1))
                        case measure => omega
                        case rel => exact ⟨r + 1, by omega, by omega, rfl, by go_num, HK5.out.below (drewN_below _ _ _), HP5.out.upto (drewN_below _ _ _)⟩
                      · have hs := HAF.out.same r hr1 hlt hne
                        rw [← hs, HXU.out.1] at q0 q1 q2
                        have hut : u = true := by
                          rw [← HXU.out.2, ← HXU.out.1, hs]
                          exact isU_iff.2 ((HPRE.out.used r hr1).2 hlt)
                        subst hut
                        have hb : ((r : Int) != h) = true := by rw [bne_iff_ne]; exact hne
                        simp only at q0 q1 q2
                        have hsame : sameP ⟨xp, xo, xl⟩ ⟨xp, xo, xl⟩ = true := sameP_iff.2 rfl
                        have heq := Try.neqP xp xo xl xp xo xl
                        rw [hsame] at heq
                        have j1 : IntKind.i64.wrap ((r : Int) - 1) = (r : Int) - 1 := IntWalk.i64_in _ (by omega)
                        have j2 : 0 ≤ (r : Int) - 1 := by omega
                        have j3 : (r : Int) - 1 < (n : Int) := by omega
                        have j4 : ((r : Int) - 1).toNat = r - 1 := by omega
                        have j5 : ¬ (r : Int) - 1 < 0 := by omega
                        clear bg hb5 hx5 hk5 hp5 HG HKR HPR hx hu hs hsame
                        go_upto_region 32 with (fail)
                        rw [← hW5]
                        clear hW5
                        go_quiet (fail)
                        go_wp2
                        go_roundg (n + 1 - (r + 1))
                        case measure => omega
                        case rel => exact ⟨r + 1, by omega, by omega, rfl, by go_num, HK5.out.below (drewN_below _ _ _), HP5.out.upto (drewN_below _ _ _)⟩
                    · have i1 : ¬ (r : Int) ≤ (n : Int) := by omega
                      clear hkp hps HPR
                      by_cases hm0 : 0 < h
                      · go_wp2_with fail
                        refine (lives_any _).mono ?_
                        rintro e w' ⟨rfl, b1⟩
                        have HB : Hid (Below w.heap.size w w') := HKR.out.bel.trans (b1.mono HKR.out.bel.size)
                        clear b1
                        go_wp2
                        go_ret
                        exact ⟨rfl, HB.out⟩
                      · go_wp2_with fail
                        refine (lives_any _).mono ?_
                        rintro e w' ⟨rfl, b1⟩
                        have HB : Hid (Below w.heap.size w w') := HKR.out.bel.trans (b1.mono HKR.out.bel.size)
                        clear b1
                        go_wp2
                        go_ret
                        exact ⟨rfl, HB.out⟩
                · by_cases h3 : k = 3
                  · subst h3
                    have HD : Hid _ := set_any h p o l wr HKP.out.tab.p
                    clear hkp
                    go_wp2_with fail
                    refine Calls.mono HD.out ?_
                    rintro e W3 ⟨rfl, hT, hw⟩
                    generalize hsb : setB T h ⟨p, o, l⟩ = gv
                    rw [hsb] at hw
                    clear hsb
                    obtain ⟨T', hT'⟩ : ∃ T', setT T h ⟨p, o, l⟩ = T' := ⟨_, rfl⟩
                    have ht3 : Turns t (t + 1) wr W3 := turns_or rfl hw
                    have hT3 : TabAt W3 t T' := by rw [← hT']; exact hT.at rfl
                    have HAF : Hid (Aft T T' n h ⟨3, h, ⟨p, o, l⟩⟩) := ⟨fun j h1 h2 h3 => by rw [← hT']; exact setT_other _ h3, fun _ h2 => by simp at h2⟩
                    have HKT : Hid (Kp w W3 w.heap.size t ⟨3, h, ⟨p, o, l⟩⟩ T') := HKP.out.turns ht3 hT3
                    have HPT : Hid (PsAt W3 (t + 1) (.slice av n cv) (wasT T n)) := HPS.out.turns ht3 (Nat.le_refl _)
                    clear y0 y1 y2 y3 y4
                    obtain ⟨y0, y1, y2, y3, y4⟩ := cells_five HKT.out.box
                    simp only at y0 y1 y2 y3 y4
                    clear hT3 ht3 hT' HD hT hw
                    go_wp2_with fail
                    go_loopg [13] n (fun gk i wr => ∃ r : Nat, 1 ≤ r ∧ r ≤ n + 1 ∧ gk = n + 1 - r ∧ i = .int .i64 r ∧ Kp w wr w.heap.size t ⟨3, h, ⟨p, o, l⟩⟩ T' ∧ PsAt wr (t + 1) (.slice av n cv) (wasT T n))
                    case atStart => exact ⟨1, by omega, by omega, rfl, rfl, HKT.out, HPT.out⟩
                    case round =>
                      obtain ⟨r, hr1, hr, rfl, rfl, hkp, hps⟩ := hrel
                      have HKR : Hid (Kp w wr w.heap.size t ⟨3, h, ⟨p, o, l⟩⟩ T') := hkp
                      have HPR : Hid (PsAt wr (t + 1) (.slice av n cv) (wasT T n)) := hps
                      obtain ⟨y0, y1, y2, y3, y4⟩ := cells_five hkp.box
                      simp only at y0 y1 y2 y3 y4
                      by_cases hlt : r ≤ n
                      · have i1 : (r : Int) ≤ (n : Int) := by omega
                        have HG : Hid _ := get_any (r : Nat) wr hkp.tab.p
                        clear hkp hps y0 y1 y2 y3 y4
                        go_wp2_with fail
                        refine Calls.mono HG.out ?_
                        rintro e Wg ⟨rfl, bg⟩
                        obtain ⟨x, hx⟩ : ∃ x, T' (r : Nat) = x := ⟨_, rfl⟩
                        rw [hx]
                        unfold gotV
                        obtain ⟨u, hu⟩ : ∃ u, isU x = u := ⟨_, rfl⟩
                        rw [hu]
                        have HXU : Hid (T' (r : Nat) = x ∧ isU x = u) := ⟨hx, hu⟩
                        obtain ⟨W5, hW5⟩ : ∃ W5, W5 = Wg.alloc (.cells #[.int .i64 x.p, .int .i64 x.o, .int .i64 x.l] 28) := ⟨_, rfl⟩
                        have hb5 : Below Wg.heap.size Wg W5 := by rw [hW5]; exact (Below.refl _ Wg).alloc (Nat.le_refl _) _
                        have hx5 : W5.heap[Wg.heap.size]? = some (.cells #[.int .i64 x.p, .int .i64 x.o, .int .i64 x.l] 28 (0, 0)) := by rw [hW5]; exact place_new Wg x
                        have hk5 := (HKR.out.below bg).below hb5
                        have hp5 := (HPR.out.upto bg).upto hb5
                        have HK5 : Hid (Kp w W5 w.heap.size t ⟨3, h, ⟨p, o, l⟩⟩ T') := hk5
                        have HP5 : Hid (PsAt W5 (t + 1) (.slice av n cv) (wasT T n)) := hp5
                        obtain ⟨z0, z1, z2⟩ := cells_three hx5
                        obtain ⟨g, rfl, q0, q1, q2⟩ := hp5.at (wasT_len T n) (wasT_at T hr1 hlt)
                        obtain ⟨xp, xo, xl⟩ := x
                        simp only at z0 z1 z2 hW5 ⊢
                        by_cases hne : (r : Int) = h
                        · have hb : ((r : Int) != h) = false := by rw [hne]; exact bne_self_eq_false _
                          clear bg hb5 hx5 hk5 hp5 HG HKR HPR hx hu q0 q1 q2 hne
                          go_upto_region 32 with (fail)
                          rw [← hW5]
                          clear hW5
                          go_quiet (fail)
                          go_wp2
                          go_roundg (n + 1 - (r + 1))
                          case measure => omega
                          case rel => exact ⟨r + 1, by omega, by omega, rfl, by go_num, HK5.out.below (drewN_below _ _ _), HP5.out.upto (drewN_below _ _ _)⟩
                        · have hs := HAF.out.same r hr1 hlt hne
                          rw [← hs, HXU.out.1] at q0 q1 q2
                          have hut : u = true := by
                            rw [← HXU.out.2, ← HXU.out.1, hs]
                            exact isU_iff.2 ((HPRE.out.used r hr1).2 hlt)
                          subst hut
                          have hb : ((r : Int) != h) = true := by rw [bne_iff_ne]; exact hne
                          simp only at q0 q1 q2
                          have hsame : sameP ⟨xp, xo, xl⟩ ⟨xp, xo, xl⟩ = true := sameP_iff.2 rfl
                          have heq := Try.neqP xp xo xl xp xo xl
                          rw [hsame] at heq
                          have j1 : IntKind.i64.wrap ((r : Int) - 1) = (r : Int) - 1 := IntWalk.i64_in _ (by omega)
                          have j2 : 0 ≤ (r : Int) - 1 := by omega
                          have j3 : (r : Int) - 1 < (n : Int) := by omega
                          have j4 : ((r : Int) - 1).toNat = r - 1 := by omega
                          have j5 : ¬ (r : Int) - 1 < 0 := by omega
                          clear bg hb5 hx5 hk5 hp5 HG HKR HPR hx hu hs hsame
                          go_upto_region 32 with (fail)
                          rw [← hW5]
                          clear hW5
                          go_quiet (fail)
                          go_wp2
                          go_roundg (n + 1 - (r + 1))
                          case measure => omega
                          case rel => exact ⟨r + 1, by omega, by omega, rfl, by go_num, HK5.out.below (drewN_below _ _ _), HP5.out.upto (drewN_below _ _ _)⟩
                      · have i1 : ¬ (r : Int) ≤ (n : Int) := by omega
                        clear hkp hps HPR
                        by_cases hm0 : 0 < h
                        · go_wp2_with fail
                          refine (lives_any _).mono ?_
                          rintro e w' ⟨rfl, b1⟩
                          have HB : Hid (Below w.heap.size w w') := HKR.out.bel.trans (b1.mono HKR.out.bel.size)
                          clear b1
                          go_wp2
                          go_ret
                          exact ⟨rfl, HB.out⟩
                        · go_wp2_with fail
                          refine (lives_any _).mono ?_
                          rintro e w' ⟨rfl, b1⟩
                          have HB : Hid (Below w.heap.size w w') := HKR.out.bel.trans (b1.mono HKR.out.bel.size)
                          clear b1
                          go_wp2
                          go_ret
                          exact ⟨rfl, HB.out⟩
                  · have e0 : (k == 0) = false := by rw [beq_eq_false_iff_ne]; exact h0
                    have e1 : (k == 1) = false := by rw [beq_eq_false_iff_ne]; exact h1
                    have e2 : (k == 2) = false := by rw [beq_eq_false_iff_ne]; exact h2
                    have e3 : (k == 3) = false := by rw [beq_eq_false_iff_ne]; exact h3
                    obtain ⟨T', hT'⟩ : ∃ T', T = T' := ⟨_, rfl⟩
                    have HAF : Hid (Aft T T' n 0 ⟨k, h, ⟨p, o, l⟩⟩) := ⟨fun j _ _ _ => by rw [hT'], fun h1 _ => by omega⟩
                    have HKT : Hid (Kp w wr w.heap.size t ⟨k, h, ⟨p, o, l⟩⟩ T') := by rw [← hT']; exact HKP.out
                    have HPT : Hid (PsAt wr (t + 1) (.slice av n cv) (wasT T n)) := HPS.out
                    obtain ⟨wq, hwq⟩ : ∃ wq, wr = wq := ⟨_, rfl⟩
                    rw [hwq] at HKT HPT y0 y1 y2 y3 y4 ⊢
                    clear hT' hkp h0 h1 h2 h3 hwq HKP HPS
                    go_wp2_with fail
                    go_loopg [13] n (fun gk i wr => ∃ r : Nat, 1 ≤ r ∧ r ≤ n + 1 ∧ gk = n + 1 - r ∧ i = .int .i64 r ∧ Kp w wr w.heap.size t ⟨k, h, ⟨p, o, l⟩⟩ T' ∧ PsAt wr (t + 1) (.slice av n cv) (wasT T n))
                    case atStart => exact ⟨1, by omega, by omega, rfl, rfl, HKT.out, HPT.out⟩
                    case round =>
                      obtain ⟨r, hr1, hr, rfl, rfl, hkp, hps⟩ := hrel
                      have HKR : Hid (Kp w wr w.heap.size t ⟨k, h, ⟨p, o, l⟩⟩ T') := hkp
                      have HPR : Hid (PsAt wr (t + 1) (.slice av n cv) (wasT T n)) := hps
                      obtain ⟨y0, y1, y2, y3, y4⟩ := cells_five hkp.box
                      simp only at y0 y1 y2 y3 y4
                      by_cases hlt : r ≤ n
                      · have i1 : (r : Int) ≤ (n : Int) := by omega
                        have HG : Hid _ := get_any (r : Nat) wr hkp.tab.p
                        clear hkp hps y0 y1 y2 y3 y4
                        go_wp2_with fail
                        refine Calls.mono HG.out ?_
                        rintro e Wg ⟨rfl, bg⟩
                        obtain ⟨x, hx⟩ : ∃ x, T' (r : Nat) = x := ⟨_, rfl⟩
                        rw [hx]
                        unfold gotV
                        obtain ⟨u, hu⟩ : ∃ u, isU x = u := ⟨_, rfl⟩
                        rw [hu]
                        have HXU : Hid (T' (r : Nat) = x ∧ isU x = u) := ⟨hx, hu⟩
                        obtain ⟨W5, hW5⟩ : ∃ W5, W5 = Wg.alloc (.cells #[.int .i64 x.p, .int .i64 x.o, .int .i64 x.l] 28) := ⟨_, rfl⟩
                        have hb5 : Below Wg.heap.size Wg W5 := by rw [hW5]; exact (Below.refl _ Wg).alloc (Nat.le_refl _) _
                        have hx5 : W5.heap[Wg.heap.size]? = some (.cells #[.int .i64 x.p, .int .i64 x.o, .int .i64 x.l] 28 (0, 0)) := by rw [hW5]; exact place_new Wg x
                        have hk5 := (HKR.out.below bg).below hb5
                        have hp5 := (HPR.out.upto bg).upto hb5
                        have HK5 : Hid (Kp w W5 w.heap.size t ⟨k, h, ⟨p, o, l⟩⟩ T') := hk5
                        have HP5 : Hid (PsAt W5 (t + 1) (.slice av n cv) (wasT T n)) := hp5
                        obtain ⟨z0, z1, z2⟩ := cells_three hx5
                        obtain ⟨g, rfl, q0, q1, q2⟩ := hp5.at (wasT_len T n) (wasT_at T hr1 hlt)
                        obtain ⟨xp, xo, xl⟩ := x
                        simp only at z0 z1 z2 hW5 ⊢
                        by_cases hne : (r : Int) = 0
                        · have hb : ((r : Int) != 0) = false := by rw [hne]; exact bne_self_eq_false _
                          clear bg hb5 hx5 hk5 hp5 HG HKR HPR hx hu q0 q1 q2 hne
                          go_upto_region 32 with (fail)
                          rw [← hW5]
                          clear hW5
                          go_quiet (fail)
                          go_wp2
                          go_roundg (n + 1 - (r + 1))
                          case measure => omega
                          case rel => exact ⟨r + 1, by omega, by omega, rfl, by go_num, HK5.out.below (drewN_below _ _ _), HP5.out.upto (drewN_below _ _ _)⟩
                        · have hs := HAF.out.same r hr1 hlt hne
                          rw [← hs, HXU.out.1] at q0 q1 q2
                          have hut : u = true := by
                            rw [← HXU.out.2, ← HXU.out.1, hs]
                            exact isU_iff.2 ((HPRE.out.used r hr1).2 hlt)
                          subst hut
                          have hb : ((r : Int) != 0) = true := by rw [bne_iff_ne]; exact hne
                          simp only at q0 q1 q2
                          have hsame : sameP ⟨xp, xo, xl⟩ ⟨xp, xo, xl⟩ = true := sameP_iff.2 rfl
                          have heq := Try.neqP xp xo xl xp xo xl
                          rw [hsame] at heq
                          have j1 : IntKind.i64.wrap ((r : Int) - 1) = (r : Int) - 1 := IntWalk.i64_in _ (by omega)
                          have j2 : 0 ≤ (r : Int) - 1 := by omega
                          have j3 : (r : Int) - 1 < (n : Int) := by omega
                          have j4 : ((r : Int) - 1).toNat = r - 1 := by omega
                          have j5 : ¬ (r : Int) - 1 < 0 := by omega
                          clear bg hb5 hx5 hk5 hp5 HG HKR HPR hx hu hs hsame
                          go_upto_region 32 with (fail)
                          rw [← hW5]
                          clear hW5
                          go_quiet (fail)
                          go_wp2
                          go_roundg (n + 1 - (r + 1))
                          case measure => omega
                          case rel => exact ⟨r + 1, by omega, by omega, rfl, by go_num, HK5.out.below (drewN_below _ _ _), HP5.out.upto (drewN_below _ _ _)⟩
                      · have i1 : ¬ (r : Int) ≤ (n : Int) := by omega
                        clear hkp hps HPR
                        go_wp2_with fail
                        refine (lives_any _).mono ?_
                        rintro e w' ⟨rfl, b1⟩
                        have HB : Hid (Below w.heap.size w w') := HKR.out.bel.trans (b1.mono HKR.out.bel.size)
                        clear b1
                        go_wp2
                        go_ret
                        exact ⟨rfl, HB.out⟩

set_option maxRecDepth 100000 in
theorem walk {H : Type} {enc : TypeId × Value → H} {w : World} {base : Nat} {v0 v1 : Value} {d0 d1 : DataW H} {p0 p1 : List MemPlace}
    (o0 : Value.okWide Try.prog w .any base 50 v0) (o1 : Value.okWide Try.prog w .any base 41 v1)
    (h0 : DataW.Trod enc Try.prog w 0 (fun _ => true) true 50 v0 d0 p0) (h1 : DataW.Trod enc Try.prog w 0 (fun _ => true) true 41 v1 d1 p1) :
    Calls Try.prog 5 #[v0, v1] w fun e w' => e = .returned (.bool true) ∧ Below w.heap.size w w' := by
  obtain ⟨a, c, Z, rfl, _, hZ⟩ := openPs Try.underlying50 Try.underlying28 (by kernel_rfl) (by kernel_rfl) (by kernel_rfl) (by kernel_rfl) (by kernel_rfl) (by kernel_rfl) (by kernel_rfl) Try.underlying3 Try.underlying3 Try.underlying3 o0 h0
  obtain ⟨⟨k, h, ⟨p, o, l⟩⟩, rfl⟩ := openD1 Try.underlying41 Try.underlying28 (by kernel_rfl) (by kernel_rfl) (by kernel_rfl) (by kernel_rfl) (by kernel_rfl) (by kernel_rfl) (by kernel_rfl) Try.underlying3 Try.underlying3 (by kernel_rfl) (by kernel_rfl) (by kernel_rfl) (by kernel_rfl) (by kernel_rfl) (by kernel_rfl) Try.underlying3 Try.underlying3 Try.underlying3 o1 h1
  exact run k h p o l w hZ

set_option maxRecDepth 100000 in
theorem lifted (os : Os) (started : os.Started) (H : Type) (enc : TypeId × Value → H) :
    ReturnsInHanded {} Try.checked os 5 .any (Rows.handleKeepsSpec.pre6 enc Try.prog Try.f5 Rows.handleKeepsRow.domain false) (Rows.handleKeepsSpec.post enc Try.prog Try.f5 false true false false) := by
  refine returnsInHanded_of_change (C := Try.checked) own started (by kernel_rfl) Try.func5
    (ChangeSpec.witness6 (enc := enc) (C := Try.checked) false ⟨#[], #[.slice none 0 0, .agg #[.int .i64 0, .int .i64 0, .int .i64 0, .int .i64 0, .int .i64 0]], []⟩ 8 (by kernel_rfl) (by kernel_rfl) (by kernel_rfl) (by kernel_rfl)) ?_
  intro W base args ds gs before hval0 hW hcnd _
  have hval : ∀ (j : Nat) t v, Try.f5.params[j]? = some t → args[j]? = some v → Value.okWide Try.prog W .any base t v := hval0
  have hW' := hW
  obtain ⟨p, q, hA0, hV, rfl, hfz, hnd⟩ := hW
  have hA : DataW.TrodAll enc Try.prog W 0 (fun _ => true) true Try.f5.params.toList args.toList ds p := hA0
  rw [Try.params5] at hA hval
  obtain ⟨v0, vs0, d0, ds0, p0, q0, hargs, rfl, rfl, h0, r0⟩ := trodAll_cons hA
  obtain ⟨v1, vs1, d1, ds1, p1, q1, rfl, rfl, rfl, h1, r1⟩ := trodAll_cons r0
  obtain ⟨rfl, rfl, rfl⟩ := trodAll_nil r1
  obtain rfl : args = #[v0, v1] := by cases args; simp_all
  obtain ⟨rfl, rfl⟩ := trodVars_none hV
  have o0 := hval 0 50 v0 rfl rfl
  have lt0 : ∀ x ∈ p0, x.block < W.heap.size := by obtain ⟨m, hm⟩ := h0; exact DataW.trod_lt m _ _ _ hm
  have o1 := hval 1 41 v1 rfl rfl
  have lt1 : ∀ x ∈ p1, x.block < W.heap.size := by obtain ⟨m, hm⟩ := h1; exact DataW.trod_lt m _ _ _ hm
  clear hA0 hval0
  refine (walk o0 o1 h0 h1).mono fun e W' ⟨he, bel⟩ => ?_
  subst he
  exact ⟨_, rfl, _, _, _, [], _, [], hW', trodAll_mk1 (shut_bool Try.underlying4 _), (trodAll_cons_mk (Below.trod laidOut (by kernel_rfl) (of_decide_eq_true (by kernel_rfl)) h0 bel lt0) (trodAll_cons_mk (Below.trod laidOut (by kernel_rfl) (of_decide_eq_true (by kernel_rfl)) h1 bel lt1) trodAll_mk0)), rfl, bel.frame _, fun h => by cases h⟩

theorem over : Rows.handleKeepsRow.holds Try.pinned (OpenSpec.ofChange Rows.handleKeepsSpec) :=
  OpenClaim.holds_of_wide 5 Try.f5 rfl rfl rfl rfl rfl rfl rfl ⟨rfl, rfl, rfl, rfl, rfl⟩ rfl rfl rfl rfl rfl (by kernel_rfl) Try.func5 (by kernel_rfl)
    (of_decide_eq_true (by kernel_rfl)) (by unfold Func.isWrapper; first | (rw [if_pos (by decide +kernel)]; kernel_rfl) | (rw [if_neg (by decide +kernel)]; exact ⟨rfl, rfl⟩))
    (fun os started H enc _ => lifted os started H enc)
end Go.Proofs.Ytlnkelhhemgibaa.HandleKeeps
namespace Go.Proofs.Ytlnkelhhemgibaa
/-- The statement. -/
theorem handleKeeps_holds : Rows.HandleKeepsSaid := HandleKeeps.over
#print axioms handleKeeps_holds
end Go.Proofs.Ytlnkelhhemgibaa
