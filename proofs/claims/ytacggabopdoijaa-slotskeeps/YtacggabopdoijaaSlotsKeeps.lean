/- Proved: gunnylaw09.SlotsKeeps returns true for all lists of bools and all lists of deeds: whatever is put, read and given back, by any choices: a slot in use has, by Look, what was put there, and tells that, or ErrIO. No conditions. -/
import Derived.Test.YtacggabopdoijaaSKeepsC
import Derived.Test.YtacggabopdoijaaSGreat
namespace Go.Proofs.Ytacggabopdoijaa.SlotsKeeps
open Go.ChangeShapes Go.WideShapes Go.ChangeAt Go.RowKit
set_option linter.unusedVariables false
theorem own : ownKnob Try.prog.godebug = none := by kernel_rfl
theorem laidOut : laidOutB Try.prog = true := by kernel_rfl

set_option maxRecDepth 100000 in
set_option maxHeartbeats 8000000 in
theorem run (a0 : Option Addr) (L0 c0 : Nat) (zs : List Bool) (a : Option Addr) (L c : Nat) (D : Nat → Dd) (w : World) (hL0 : L0 ≤ maxLen) (hz : BoolsAt w a0 L0 c0 zs) (hL : L ≤ maxLen) (hds : DeedsAt w a L D) :
    Calls Try.prog 4 #[.slice a0 L0 c0, .slice a L c] w fun e w' => e = .returned (.bool true) ∧ Below w.heap.size w w' := by
  have HDS : Hid (DeedsAt w a L D) := hds
  have HZ : Hid (BoolsAt w a0 L0 c0 zs) := hz
  have HL : Hid (L ≤ maxLen) := hL
  unfold maxLen at hL hL0
  clear hds hz
  go_enter Try.func4, Try.ntmps4
  by_cases hlong : 3000 < L0
  · go_wp2_with fail
    refine (lives_any _).mono ?_
    rintro e w1 ⟨rfl, hb⟩
    go_wp2
    go_ret
    exact ⟨rfl, hb⟩
  go_wp2_with fail
  refine (great_any a L c D w HL.out HDS.out).mono ?_
  rintro e w' ⟨v, rfl, rfl, b, rfl, hg⟩
  cases b with
  | true =>
    clear hg
    go_wp2_with fail
    refine (lives_any _).mono ?_
    rintro e w1 ⟨rfl, hb⟩
    go_wp2
    go_ret
    exact ⟨rfl, hb⟩
  | false =>
    have hL40 := hg rfl
    clear hg
    go_wp2_with fail
    refine (slNew 5 (hpg fun _ => 0) _ (by omega) HZ.out (by omega)).mono ?_
    rintro e w1 ⟨r, rfl, h1, b1⟩
    obtain ⟨E, hE⟩ : ∃ E, w1.heap.size = E := ⟨_, rfl⟩
    obtain ⟨Q, hQ⟩ : ∃ Q, w.heap.size = Q := ⟨_, rfl⟩
    rw [hE, hQ] at h1
    have HS1 : Hid (SlotsAt Q E w1 r 5 zs 0 (List.replicate 5 false) (hpg fun _ => 0)) := h1
    have HK1 : Hid (∀ {w2 : World}, w2 = w1.alloc (.cells (Array.replicate 5 (.int .i64 0)) 53) → Kp w w2 Q E r w1.heap.size zs 0 (List.replicate 5 false) (fun _ => 0)) := by
      rintro w2 rfl
      refine ⟨HS1.out.below ((Below.refl _ w1).alloc (Nat.le_refl _) _), fun n hn => by rw [rep_false]; simp, HasAt.new w1, fun n _ => by omega, by omega, b1.alloc b1.size _, by omega⟩
    have hzh := zero_has
    generalize Array.replicate 5 (Value.int .i64 0) = Z at *
    clear h1 b1 hE hQ
    go_wp2_with fail
    have HK2 : Hid (Kp w _ Q E r w1.heap.size zs 0 (List.replicate 5 false) (fun _ => 0)) := HK1.out rfl
    generalize w1.alloc (.cells Z 53) = w2 at *
    generalize w1.heap.size = hb at *
    clear HK1 HS1 hzh HZ
    generalize List.replicate 5 false = x0 at *
    go_loopg [8, 9, 10, 11, 12, 13, 14, 15, 16, 17] L (fun gk i _ _ _ _ _ _ _ _ _ wr => ∃ (j k : Nat) (x : List Bool) (H : Nat → Nat), j ≤ L ∧ gk = L - j ∧ i = .int .i64 j ∧ k ≤ 16 * j ∧ Kp w wr Q E r hb zs k x H)
    case atStart => exact ⟨0, 0, _, _, Nat.zero_le _, rfl, rfl, by omega, HK2.out⟩
    case round =>
      obtain ⟨j, k, x, H, hj, rfl, rfl, hk, hH⟩ := hrel
      have Hh : Hid (Kp w wr Q E r hb zs k x H) := hH
      clear hH HK2
      by_cases hlt : j < L
      · obtain ⟨b, off, rfl, hbz, c0', c1', c2', c3'⟩ := HDS.out.later Hh.out.bel hlt
        have HOK : Hid (DeedOk w (D j)) := HDS.out.ok hlt
        generalize D j = dj at *
        have i1 : (j : Int) < (L : Int) := by omega
        have hV := HOK.out.v
        have hNb := HOK.out.n
        generalize dj.K = K at *
        generalize dj.N = N at *
        generalize dj.V = V at *
        generalize dj.p = pp at *
        generalize dj.l = ll at *
        generalize dj.c = cc at *
        clear HOK
        go_upto_region 11 with (fail)
        have HK3 : Hid (Kp w _ Q E r hb zs k x H) := Hh.out.below ((Below.refl _ wr).alloc (Nat.le_refl _) (.cells #[.int .i64 K, .int .i64 N, .int .u8 (V : Int), .slice pp ll cc] 46))
        have HD3 : Hid (Dat _ wr.heap.size K N V (.slice pp ll cc)) := heap_alloc_new wr _
        have HDB : Hid (E ≤ wr.heap.size ∧ wr.heap.size ≠ hb ∧ w.heap.size ≤ wr.heap.size) := by have h1 := Hh.out.slots.hi; have h2 := Hh.out.has.lt; have h3 := Hh.out.bel.size; exact ⟨h1.1, by omega, h3⟩
        generalize wr.alloc (.cells #[.int .i64 K, .int .i64 N, .int .u8 (V : Int), .slice pp ll cc] 46) = w3 at *
        generalize wr.heap.size = db at *
        have d0 := HD3.out.c0
        have d1 := HD3.out.c1
        have d2 := HD3.out.c2
        clear c0' c1' c2' c3' Hh
        go_upto_if 49 with (fail)
        have HMD : Hid (Kp w w3 Q E r hb zs k x H ∧ k ≤ 16 * j ∧ Dat w3 db K N V (.slice pp ll cc)) := ⟨HK3.out, hk, HD3.out⟩
        refine keepsWays _ _ _ _ _ _ _ _ _ _ _ _ _ _ _ _ _ _ _ _ _ _ _ _ _ _ _ _ _ _ _ _ _ _ _ _ _ _ _ _ _ _ _ _ _ _ _ _ _ _ _ _ _ _ _ _ _ _ _ _ _ _ _ _ _ _ _ _ _ _ _ _ _ _ _ _ _ _ _ _ _ _ _ _ _ _ _ _ _ _ _ _ _ _ _ _ _ _ _ _ _ _ _ _ _ _ _ _ _ _ _ _ _ _ _ _ _ _ _ _ _ _ _ _ _ _ _ _ _ _ _ _ _ _ _ _ _ _ _ _ _ _ _ _ _ _ _ _ _ _ _ _ _ _ _ _ _ _ _ _ _ _ _ _ _ _ _ _ _ _ _ _ _ _ _ _ _ _ _ _ _ _ _ _ _ _ _ _ _ _ _ _ _ _ _ _ _ _ _ _ _ _ _ _ _ hV hL40 hlt HDB.out.1 HDB.out.2.1 HMD.out.1 HMD.out.2.1 HMD.out.2.2 ?_
        intro wz v10 v11 v12 v49 v50 v51 v52 v53 v54 v55 v56 v57 v58 v59 v60 v61 v62 v63 v64 v65 v66 v67 v68 v69 v70 v71 v72 v73 v74 v75 v76 v77 v78 v79 v80 v81 v82 v83 v84 v85 v86 v87 v88 v89 v90 v91 v92 v93 v94 v95 v96 v97 v98 v99 v100 v101 v102 v103 v104 v105 v106 v107 v108 v109 v110 v111 v112 v113 v114 v115 v116 v117 v118 v119 v120 v121 v122 hcut
        clear HMD
        · obtain ⟨k, x, H, hK, hk2, hD⟩ := hcut
          have HK0 : Hid (Kp w _ Q E r hb zs k x H) := hK
          have HD0 : Hid (Dat _ db K N V (.slice pp ll cc)) := hD
          clear hK hD HK3 HD3 d0 d1 d2
          go_wp2_with fail
          go_loopg [13, 14, 15] 5 (fun gk i _ _ wq => ∃ n : Nat, n ≤ 5 ∧ gk = 5 - n ∧ i = .int .i64 n ∧ Kp w wq Q E r hb zs k x H ∧ Dat wq db K N V (.slice pp ll cc))
          case atStart => exact ⟨0, by omega, rfl, rfl, HK0.out, HD0.out⟩
          case round =>
            obtain ⟨n, hn, rfl, rfl, hK, hD⟩ := hrel
            obtain ⟨w0, hw0⟩ : ∃ w0, w0 = wr := ⟨_, rfl⟩
            subst hw0
            have Hk : Hid (Kp w w0 Q E r hb zs k x H) := hK
            have Hd : Hid (Dat w0 db K N V (.slice pp ll cc)) := hD
            clear hK hD HK0 HD0
            by_cases hn5 : n < 5
            · have j1 : (0 : Int) ≤ n := by omega
              have j2 : (n : Int) < 5 := by omega
              have HHB : Hid (hasB x (n : Int) = decide (H n ≠ 0)) := Hk.out.has_in hn5
              cases hh : decide (H n ≠ 0) with
              | true =>
                rw [hh] at HHB
                obtain ⟨u, hu⟩ : ∃ u, H n = u + 1 := ⟨H n - 1, by simp at hh; omega⟩
                have hlim := Hk.out.lim n hn5
                have HLK : Hid (lkB x (hpg H) (n : Int) = fillP u) := by show _ = _; rw [lkB, HHB.out, if_pos rfl, Int.toNat_natCast]; unfold hpg; rw [hu]; rfl
                clear hh
                go_wp2_with fail
                refine (slLook (n : Int) _ Hk.out.slots HHB.out).mono ?_
                rintro e w2 ⟨v2, rfl, own2, b2⟩
                rw [HLK.out, fillP_len] at own2
                obtain ⟨a2, c2, rfl⟩ := row_slice own2
                have HK2 : Hid (Kp w w2 Q E r hb zs k x H) := Hk.out.below b2
                have HD2 : Hid (Dat w2 db K N V (.slice pp ll cc)) := Hd.out.below b2
                have HO2 : Hid (w2.ownsRow w0.heap.size 5 1 (.slice a2 4096 c2) 4096 (bv (fillP u))) := own2
                have hcj : w2.cell? ⟨hb, n, none⟩ = some (.int .i64 ((u : Int) + 1)) := by have := HK2.out.has.cell hn5; rw [hu] at this; exact this
                have hu256 : u < 256 := by omega
                have hne : ((u : Int) + 1 != 0) = true := by rw [bne_iff_ne]; omega
                clear own2 b2 hu hlim
                go_upto_region 29 with (fail)
                refine keeps29 _ _ _ _ _ _ _ _ _ _ _ _ _ _ _ _ _ _ _ _ _ _ _ _ _ _ _ _ _ _ _ _ _ _ _ _ _ _ _ _ _ _ _ _ _ _ _ _ _ _ _ _ _ _ _ _ _ _ _ _ _ _ _ _ _ _ _ _ _ _ _ _ _ _ _ _ _ _ _ _ _ _ _ _ _ _ _ _ _ _ _ _ _ _ _ _ _ _ _ _ _ _ _ _ _ _ _ _ _ _ _ _ _ _ _ _ _ _ _ _ _ _ _ _ _ _ _ _ _ _ _ _ _ _ _ _ _ _ _ _ _ _ _ _ _ _ _ _ _ _ _ _ _ _ _ _ _ _ _ _ _ _ _ _ _ _ _ _ _ _ _ _ _ _ _ _ _ _ _ _ _ _ _ _ _ _ _ _ _ _ _ _ _ _ _ _ _ _ _ _ _ _ _ _ _ hu256 hn5 HO2.out hcj ?_
                intro w9 v133 v134 v135 v136 v137 v138 v139 v140 v141 v142 v143 v144 v145 v146 v147 v148 v149 v150 v151 v152 b9
                have HK9 : Hid (Kp w w9 Q E r hb zs k x H) := HK2.out.below b9
                have HD9 : Hid (Dat w9 db K N V (.slice pp ll cc)) := HD2.out.below b9
                clear b9 hcj
                go_wp2
                go_roundg (5 - (n + 1))
                case measure => omega
                case rel => exact ⟨n + 1, by omega, rfl, by go_num, HK9.out, HD9.out⟩
              | false =>
                rw [hh] at HHB
                have hu : H n = 0 := by simpa using hh
                have HLK : Hid (lkB x (hpg H) (n : Int) = []) := by show _ = _; rw [lkB, HHB.out]; rfl
                clear hh
                go_wp2_with fail
                refine (slLook (n : Int) _ Hk.out.slots HHB.out).mono ?_
                rintro e w2 ⟨v2, rfl, own2, b2⟩
                have HK2 : Hid (Kp w w2 Q E r hb zs k x H) := Hk.out.below b2
                have HD2 : Hid (Dat w2 db K N V (.slice pp ll cc)) := Hd.out.below b2
                rw [HLK.out] at own2
                obtain ⟨a2, c2, rfl⟩ := row_slice own2
                have hcj : w2.cell? ⟨hb, n, none⟩ = some (.int .i64 0) := by have := HK2.out.has.cell hn5; rw [hu] at this; exact this
                clear own2 b2 hu
                go_wp2_with fail
                go_quiet (fail)
                have HK3 : Hid (∀ m, Kp w (w2.drewN m) Q E r hb zs k x H) := fun m => HK2.out.below (drewN_below _ _ _)
                have HD3 : Hid (∀ m, Dat (w2.drewN m) db K N V (.slice pp ll cc)) := fun m => HD2.out.below (drewN_below _ _ _)
                go_wp2
                go_roundg (5 - (n + 1))
                case measure => omega
                case rel => exact ⟨n + 1, by omega, rfl, by go_num, HK3.out _, HD3.out _⟩
            · have j0 : ¬ (n : Int) < 5 := by omega
              have d1 := Hd.out.c1
              by_cases h0 : N < 0
              · have j1 : ¬ (0 : Int) ≤ N := by omega
                go_wp2
                go_roundg (L - (j + 1))
                case measure => omega
                case rel => exact ⟨j + 1, k, x, H, by omega, rfl, by go_num, by omega, Hk.out⟩
              · by_cases h4 : 4 < N
                · go_wp2
                  go_roundg (L - (j + 1))
                  case measure => omega
                  case rel => exact ⟨j + 1, k, x, H, by omega, rfl, by go_num, by omega, Hk.out⟩
                · obtain ⟨q, rfl⟩ := Int.eq_ofNat_of_zero_le (show 0 ≤ N by omega)
                  have hq5 : q < 5 := by omega
                  have j1 : (0 : Int) ≤ q := by omega
                  have j2 : (q : Int) < 5 := by omega
                  have HHB : Hid (hasB x (q : Int) = decide (H q ≠ 0)) := Hk.out.has_in hq5
                  have hc := Hk.out.has.cell hq5
                  cases hh : decide (H q ≠ 0) with
                  | false =>
                    have hu : H q = 0 := by simpa using hh
                    rw [hu] at hc
                    clear hh hu
                    go_wp2
                    go_roundg (L - (j + 1))
                    case measure => omega
                    case rel => exact ⟨j + 1, k, x, H, by omega, rfl, by go_num, by omega, Hk.out⟩
                  | true =>
                    rw [hh] at HHB
                    obtain ⟨u, hu⟩ : ∃ u, H q = u + 1 := ⟨H q - 1, by simp at hh; omega⟩
                    have hlim := Hk.out.lim q hq5
                    have hc' : w0.cell? ⟨hb, q, none⟩ = some (.int .i64 ((u : Int) + 1)) := by rw [hu] at hc; exact hc
                    have hu256 : u < 256 := by omega
                    have hne : ((u : Int) + 1 != 0) = true := by rw [bne_iff_ne]; omega
                    have hne3 : ((u : Int) + 1 == 0) = false := by rw [beq_eq_false_iff_ne]; omega
                    clear hc hh
                    go_wp2_with fail
                    refine (slPage (q : Int) _ Hk.out.slots (by omega)).mono ?_
                    rintro e w2 ⟨v2, rfl, own2, h2, t2⟩
                    have hkl := pgK_le x zs k (q : Int)
                    have HK2 : Hid (Kp w w2 Q E r hb zs (pgK x zs k (q : Int)) x H) := Hk.out.turn h2 t2
                    have HD2 : Hid (Dat w2 db K (q : Int) V (.slice pp ll cc)) := Hd.out.turns t2 HDB.out.1
                    generalize pgK x zs k (q : Int) = k2 at *
                    clear h2 t2 Hk Hd d1 hc'
                    cases hab : askB zs k with
                    | true =>
                      obtain ⟨e1, _, e3⟩ := pg_bad (pg := hpg H) HHB.out hab
                      rw [e3] at own2
                      rw [e1]
                      obtain ⟨a2, c2, rfl⟩ := row_slice own2
                      clear e1 e3 own2 hab hu hlim
                      go_wp2_with fail
                      go_quiet (fail)
                      have HK3 : Hid (∀ m, Kp w (w2.drewN m) Q E r hb zs k2 x H) := fun m => HK2.out.below (drewN_below _ _ _)
                      go_wp2
                      go_roundg (L - (j + 1))
                      case measure => omega
                      case rel => exact ⟨j + 1, k2, x, H, by omega, rfl, by go_num, by omega, HK3.out _⟩
                    | false =>
                      obtain ⟨e1, _, e3⟩ := pg_fine (pg := hpg H) HHB.out hab
                      have e4 : hpg H (Int.toNat (q : Int)) = fillP u := by rw [Int.toNat_natCast]; unfold hpg; rw [hu]; rfl
                      rw [e3, e4, fillP_len] at own2
                      rw [e1]
                      obtain ⟨a2, c2, rfl⟩ := row_slice own2
                      have HO2 : Hid (w2.ownsRow w0.heap.size 5 1 (.slice a2 4096 c2) 4096 (bv (fillP u))) := own2
                      have hcj : w2.cell? ⟨hb, q, none⟩ = some (.int .i64 ((u : Int) + 1)) := by have := HK2.out.has.cell hq5; rw [hu] at this; exact this
                      have hdj : w2.cell? ⟨db, 1, none⟩ = some (.int .i64 (q : Int)) := HD2.out.c1
                      clear e1 e3 e4 own2 hab hu hlim
                      go_upto_region 33 with (fail)
                      refine keeps33 _ _ _ _ _ _ _ _ _ _ _ _ _ _ _ _ _ _ _ _ _ _ _ _ _ _ _ _ _ _ _ _ _ _ _ _ _ _ _ _ _ _ _ _ _ _ _ _ _ _ _ _ _ _ _ _ _ _ _ _ _ _ _ _ _ _ _ _ _ _ _ _ _ _ _ _ _ _ _ _ _ _ _ _ _ _ _ _ _ _ _ _ _ _ _ _ _ _ _ _ _ _ _ _ _ _ _ _ _ _ _ _ _ _ _ _ _ _ _ _ _ _ _ _ _ _ _ _ _ _ _ _ _ _ _ _ _ _ _ _ _ _ _ _ _ _ _ _ _ _ _ _ _ _ _ _ _ _ _ _ _ _ _ _ _ _ _ _ _ _ _ _ _ _ _ _ _ _ _ _ _ _ _ _ _ _ _ _ _ _ _ _ _ _ _ _ _ _ _ _ _ _ _ _ _ hu256 hq5 HO2.out hcj hdj ?_
                      intro w9 v176 v177 v178 v179 v180 v181 v182 v183 v184 v185 v186 v187 v188 v189 v190 v191 v192 v193 v194 v195 v196 v197 v198 v199 v200 v201 v202 v203 v204 v205 v206 b9
                      have HK9 : Hid (Kp w w9 Q E r hb zs k2 x H) := HK2.out.below b9
                      clear b9 hcj hdj
                      go_wp2
                      go_roundg (L - (j + 1))
                      case measure => omega
                      case rel => exact ⟨j + 1, k2, x, H, by omega, rfl, by go_num, by omega, HK9.out⟩
      · have jj : ¬ (j : Int) < (L : Int) := by omega
        go_wp2_with fail
        refine (lives_any _).mono ?_
        rintro e w3 ⟨rfl, b3⟩
        have hfin := Hh.out.bel.trans (b3.mono Hh.out.bel.size)
        clear b3
        go_wp2
        go_ret
        exact ⟨rfl, hfin⟩

theorem walk {H : Type} {enc : TypeId × Value → H} {w : World} {base : Nat} {v0 v1 : Value} {d0 d1 : DataW H} {p0 p1 : List MemPlace}
    (o0 : Value.okWide Try.prog w .any base 22 v0) (o1 : Value.okWide Try.prog w .any base 23 v1)
    (h0 : DataW.Trod enc Try.prog w 0 (fun _ => true) true 22 v0 d0 p0) (h1 : DataW.Trod enc Try.prog w 0 (fun _ => true) true 23 v1 d1 p1) :
    Calls Try.prog 4 #[v0, v1] w fun e w' => e = .returned (.bool true) ∧ Below w.heap.size w w' := by
  obtain ⟨a0, L0, c0, zs, rfl, hL0, hz⟩ := openBools Try.underlying22 Try.underlying4 (by kernel_rfl) o0 h0
  obtain ⟨a, L, c, D, rfl, hL, hds⟩ := openDeeds Try.underlying23 Try.underlying46 (by kernel_rfl) (by kernel_rfl) Try.underlying3 Try.underlying3 Try.underlying5 Try.underlying28 Try.underlying5 (by kernel_rfl) o1 h1
  exact run a0 L0 c0 zs a L c D w hL0 hz hL hds

set_option maxRecDepth 100000 in
theorem lifted (os : Os) (started : os.Started) (H : Type) (enc : TypeId × Value → H) :
    ReturnsInHanded {} Try.checked os 4 .any (Rows.slotsKeepsSpec.pre6 enc Try.prog Try.f4 Rows.slotsKeepsRow.domain false) (Rows.slotsKeepsSpec.post enc Try.prog Try.f4 false true false false) := by
  refine returnsInHanded_of_change (C := Try.checked) own started (by kernel_rfl) Try.func4
    (ChangeSpec.witness6 (enc := enc) (C := Try.checked) false ⟨#[], #[.slice none 0 0, .slice none 0 0], []⟩ 8 (by kernel_rfl) (by kernel_rfl) (by kernel_rfl) (by kernel_rfl)) ?_
  intro W base args ds gs before hval0 hW hcnd _
  have hval : ∀ (j : Nat) t v, Try.f4.params[j]? = some t → args[j]? = some v → Value.okWide Try.prog W .any base t v := hval0
  have hW' := hW
  obtain ⟨p, q, hA0, hV, rfl, hfz, hnd⟩ := hW
  have hA : DataW.TrodAll enc Try.prog W 0 (fun _ => true) true Try.f4.params.toList args.toList ds p := hA0
  rw [Try.params4] at hA hval
  obtain ⟨v0, vs0, d0, ds0, p0, q0, hargs, rfl, rfl, h0, r0⟩ := trodAll_cons hA
  obtain ⟨v1, vs1, d1, ds1, p1, q1, rfl, rfl, rfl, h1, r1⟩ := trodAll_cons r0
  obtain ⟨rfl, rfl, rfl⟩ := trodAll_nil r1
  obtain rfl : args = #[v0, v1] := by cases args; simp_all
  obtain ⟨rfl, rfl⟩ := trodVars_none hV
  have o0 := hval 0 22 v0 rfl rfl
  have lt0 : ∀ x ∈ p0, x.block < W.heap.size := by obtain ⟨m, hm⟩ := h0; exact DataW.trod_lt m _ _ _ hm
  have o1 := hval 1 23 v1 rfl rfl
  have lt1 : ∀ x ∈ p1, x.block < W.heap.size := by obtain ⟨m, hm⟩ := h1; exact DataW.trod_lt m _ _ _ hm
  clear hA0 hval0
  refine (walk o0 o1 h0 h1).mono fun e W' ⟨he, bel⟩ => ?_
  subst he
  exact ⟨_, rfl, _, _, _, [], _, [], hW', trodAll_mk1 (shut_bool Try.underlying4 _), (trodAll_cons_mk (Below.trod laidOut (by kernel_rfl) (of_decide_eq_true (by kernel_rfl)) h0 bel lt0) (trodAll_cons_mk (Below.trod laidOut (by kernel_rfl) (of_decide_eq_true (by kernel_rfl)) h1 bel lt1) trodAll_mk0)), rfl, bel.frame _, fun h => by cases h⟩

theorem over : Rows.slotsKeepsRow.holds Try.pinned (OpenSpec.ofChange Rows.slotsKeepsSpec) :=
  OpenClaim.holds_of_wide 4 Try.f4 rfl rfl rfl rfl rfl rfl rfl ⟨rfl, rfl, rfl, rfl, rfl⟩ rfl rfl rfl rfl rfl (by kernel_rfl) Try.func4 (by kernel_rfl)
    (of_decide_eq_true (by kernel_rfl)) (by unfold Func.isWrapper; first | (rw [if_pos (by decide +kernel)]; kernel_rfl) | (rw [if_neg (by decide +kernel)]; exact ⟨rfl, rfl⟩))
    (fun os started H enc _ => lifted os started H enc)
end Go.Proofs.Ytacggabopdoijaa.SlotsKeeps
namespace Go.Proofs.Ytacggabopdoijaa
/-- The statement. -/
theorem slotsKeeps_holds : Rows.SlotsKeepsSaid := SlotsKeeps.over
#print axioms slotsKeeps_holds
end Go.Proofs.Ytacggabopdoijaa
