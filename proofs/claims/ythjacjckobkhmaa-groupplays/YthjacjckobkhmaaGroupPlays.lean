/- Proved: gunnylaw18.GroupPlays returns true for all slices of structs of three ints and all slices of ints, nil and empty ones among them: what any calls of a book answer, and who is best, and worst, how much room there is, and how many are as full, behind each, is the document's. No conditions. -/
import Derived.Test.YthjacjckobkhmaaUBoth
import Derived.Test.YthjacjckobkhmaaUCount
import Derived.Deep.DeepCutAuto
namespace Go.Proofs.Ythjacjckobkhmaa.GroupPlays
open Go.ChangeShapes Go.WideShapes Go.ChangeAt Go.RowKit
set_option linter.unusedVariables false
theorem own : ownKnob Try.prog.godebug = none := by kernel_rfl
theorem laidOut : laidOutB Try.prog = true := by kernel_rfl

theorem ints_below {w w' : World} {a : Option Addr} {bs : List Int} (h : IntsAt .i64 w a bs) (hb : Below w.heap.size w w') : IntsAt .i64 w' a bs := by
  rcases h with h | ⟨b, off, rfl, hlt, hc⟩
  · exact .inl h
  · exact .inr ⟨b, off, rfl, Nat.lt_of_lt_of_le hlt hb.size, fun i hi => (hb.cell (p := ⟨b, off + i, none⟩) hlt).trans (hc i hi)⟩
set_option maxRecDepth 100000 in
set_option maxHeartbeats 2000000 in
theorem run {a : Option Addr} {c : Nat} {T : List Gh} {a2 : Option Addr} {c2 : Nat} {bs : List Int} (w : World) (hT : ArgH w a T) (hI : IntsAt .i64 w a2 bs) (hbs : ∀ x ∈ bs, -9223372036854775808 ≤ x ∧ x ≤ 9223372036854775807) :
    Calls Try.prog 4 #[.slice a T.length c, .slice a2 bs.length c2] w fun e w' => e = .returned (.bool true) ∧ Below w.heap.size w w' := by
  have HT : Hid (ArgH w a T) := hT
  have HI : Hid (IntsAt .i64 w a2 bs) := hI
  have HBS : Hid (∀ x ∈ bs, -9223372036854775808 ≤ x ∧ x ≤ 9223372036854775807) := hbs
  obtain ⟨nb, hnb⟩ : ∃ nb, bs.length = nb := ⟨_, rfl⟩
  have HNB : Hid (bs.length = nb) := hnb
  have N1 : Hid _ := gBest_any (v := .pointer none) (L := []) (bs := []) (a := none) (c := 0) w (bookP_nil w) gok_nil (.inl rfl) (fun _ h => (by cases h)) (by simp) (by simp)
  rw [hnb]
  clear hT hI hbs hnb
  go_enter Try.func4, Try.ntmps4
  go_wp2_with fail
  refine Calls.mono N1.out ?_
  rintro e v1 ⟨rfl, e1⟩
  have hb1 : bN (bestD (butG [] [])) = 0 := rfl
  have hb2 : bS (bestD (butG [] [])) = false := rfl
  rw [hb1, hb2]
  have V1 : Hid (Below w.heap.size w v1) := e1
  have N2 : Hid _ := gWorst_any (v := .pointer none) (L := []) v1 (bookP_nil v1) gok_nil (by simp)
  clear e1 N1 hb1 hb2
  go_wp2_with fail
  refine Calls.mono N2.out ?_
  rintro e v2 ⟨rfl, e1⟩
  have hb1 : bN (worstD []) = 0 := rfl
  have hb2 : bS (worstD []) = false := rfl
  rw [hb1, hb2]
  have V2 : Hid (Below w.heap.size w v2) := V1.out.trans (e1.mono V1.out.size)
  have N3 : Hid _ := gPut_nil 0 0 1 v2
  have N4 : Hid _ := gDrop_nil 0 v2
  have N5 : Hid _ := gRoom_any (v := .pointer none) (L := []) (bs := []) (a := none) (c := 0) v2 (bookP_nil v2) gok_nil (.inl rfl) (fun _ h => (by cases h)) (by simp) (by simp)
  clear e1 N2 hb1 hb2
  go_wp2_with fail
  refine Calls.mono N3.out ?_
  rintro e v3 ⟨rfl, rfl⟩
  go_wp2_with fail
  refine Calls.mono N4.out ?_
  rintro e v4 ⟨rfl, rfl⟩
  go_wp2_with fail
  refine Calls.mono N5.out ?_
  rintro e v3 ⟨rfl, e1⟩
  have hb1 : roomG (butG [] []) = 0 := rfl
  rw [hb1]
  have V3 : Hid (Below w.heap.size w v3) := V2.out.trans (e1.mono V2.out.size)
  have N6 : Hid _ := gCount_any (v := .pointer none) (L := []) 0 v3 (bookP_nil v3) gok_nil (by simp)
  clear e1 N3 N4 N5 hb1
  go_wp2_with fail
  refine Calls.mono N6.out ?_
  rintro e v4 ⟨rfl, e1⟩
  have hb1 : (cntG 0 [] : Nat) = 0 := rfl
  rw [hb1]
  have V4 : Hid (Below w.heap.size w v4) := V3.out.trans (e1.mono V3.out.size)
  clear e1 N6 hb1 V1 V2 V3
  by_cases hl : 60 < T.length
  · have i1 : (60 : Int) < (T.length : Int) := by omega
    go_wp2_with fail
    refine (lives_any _).mono ?_
    rintro e w' ⟨rfl, b1⟩
    have HB : Hid (Below w.heap.size w w') := V4.out.trans (b1.mono V4.out.size)
    clear b1
    go_wp2
    go_ret
    exact ⟨rfl, HB.out⟩
  · by_cases hl2 : 20 < nb
    · have i1 : ¬ (60 : Int) < (T.length : Int) := by omega
      have i2 : (20 : Int) < (nb : Int) := by omega
      go_wp2_with fail
      refine (lives_any _).mono ?_
      rintro e w' ⟨rfl, b1⟩
      have HB : Hid (Below w.heap.size w w') := V4.out.trans (b1.mono V4.out.size)
      clear b1
      go_wp2
      go_ret
      exact ⟨rfl, HB.out⟩
    · have i1 : ¬ (60 : Int) < (T.length : Int) := by omega
      have i2 : ¬ (20 : Int) < (nb : Int) := by omega
      have HN : Hid _ := gNew_any v4
      go_wp2_with fail
      refine Calls.mono HN.out ?_
      rintro e w1 ⟨rfl, hbk, hb1⟩
      obtain ⟨r, hr⟩ : ∃ r, v4.heap.size + 1 = r := ⟨_, rfl⟩
      obtain ⟨b, hb⟩ : ∃ b, v4.heap.size = b := ⟨_, rfl⟩
      obtain ⟨B, hB⟩ : ∃ B, w1.heap.size = B := ⟨_, rfl⟩
      have hlt := hbk.lt
      rw [hr, hb] at hbk hlt
      rw [hr]
      have hv4 := V4.out.size
      have HB0 : Hid (BothG w w1 r b B (.slice none 0 0) [] 0) := ⟨hbk, hsAt_nil _ _, gok_nil, Nat.le_refl _, V4.out.trans (hb1.mono hv4), by omega, by omega, by omega⟩
      have hwb : w.heap.size ≤ b := by omega
      clear hbk hb1 hlt HN hB hv4 V4
      go_wp2_with fail
      go_loopg [11, 12] T.length (fun gk xv i wr => ∃ (k : Nat) (X : List Gh), k ≤ T.length ∧ gk = T.length - k ∧ i = .int .i64 k ∧ BothG w wr r b B xv X k)
      case atStart => exact ⟨0, [], by omega, rfl, rfl, HB0.out⟩
      case round =>
        obtain ⟨k, X, hk, rfl, rfl, hbo⟩ := hrel
        have HBO : Hid (BothG w wr r b B u11 X k) := hbo
        by_cases hlt : k < T.length
        · have i3 : (k : Int) < (T.length : Int) := by omega
          obtain ⟨x, hx⟩ : ∃ x, T[k]? = some x := ⟨_, List.getElem?_eq_getElem hlt⟩
          have hxo := HT.out.ok x (List.mem_of_getElem? hx)
          obtain ⟨ba, off, rfl, hba, c0, c1, c2'⟩ := (HT.out.later hbo.bel).at_ k x hx
          obtain ⟨n, u, m⟩ := x
          simp only at c0 c1 c2' hxo
          obtain ⟨hq, hhq⟩ : ∃ hq, wr.heap.size = hq := ⟨_, rfl⟩
          obtain ⟨W1, hW1⟩ : ∃ W1, W1 = wr.alloc (.cells #[.int .i64 n, .int .i64 u, .int .i64 m] 37) := ⟨_, rfl⟩
          have hbW : Below wr.heap.size wr W1 := by rw [hW1]; exact (Below.refl _ wr).alloc (Nat.le_refl _) _
          have hxc : W1.heap[hq]? = some (.cells #[.int .i64 n, .int .i64 u, .int .i64 m] 37 (0, 0)) := by rw [hW1, ← hhq]; exact heap_alloc_new wr _
          have hB1 := hbo.below hbW
          have hqB : B ≤ hq := by have := hbo.siz; omega
          have HB1 : Hid (BothG w W1 r b B u11 X k) := hB1
          have HBW : Hid (Below w.heap.size w W1) := hB1.bel
          have HXC : Hid (W1.heap[hq]? = some (.cells #[.int .i64 n, .int .i64 u, .int .i64 m] 37 (0, 0))) := hxc
          have hlen := hbo.len
          clear hbo hx HBO hbW hB1
          go_wp2_with fail
          rw [← hW1]
          obtain ⟨d0, d1, d2⟩ := cells_three hxc
          clear hW1 hxc c0 c1 c2' hba hhq
          by_cases hu : u < -100000000 ∨ 100000000 < u
          · have H1 : Hid _ := big_yes u W1 hu
            clear hu
            go_wp2_with fail
            refine Calls.mono H1.out ?_
            rintro e w' ⟨rfl, rfl⟩
            go_wp2_with fail
            refine (lives_any _).mono ?_
            rintro e w' ⟨rfl, b1⟩
            have HB : Hid (Below w.heap.size w w') := HBW.out.trans (b1.mono HBW.out.size)
            clear b1
            go_wp2
            go_ret
            exact ⟨rfl, HB.out⟩
          · have H1 : Hid _ := big_no u W1 (by omega)
            by_cases hm : m < -100000000 ∨ 100000000 < m
            · have H2 : Hid _ := big_yes m W1 hm
              clear hu hm
              go_wp2_with fail
              refine Calls.mono H1.out ?_
              rintro e w' ⟨rfl, rfl⟩
              go_wp2_with fail
              refine Calls.mono H2.out ?_
              rintro e w' ⟨rfl, rfl⟩
              go_wp2_with fail
              refine (lives_any _).mono ?_
              rintro e w' ⟨rfl, b1⟩
              have HB : Hid (Below w.heap.size w w') := HBW.out.trans (b1.mono HBW.out.size)
              clear b1
              go_wp2
              go_ret
              exact ⟨rfl, HB.out⟩
            · have H2 : Hid _ := big_no m W1 (by omega)
              have hm2 : m ≤ 100000000 := by omega
              clear hu hm
              go_wp2_with fail
              refine Calls.mono H1.out ?_
              rintro e w' ⟨rfl, rfl⟩
              go_wp2_with fail
              refine Calls.mono H2.out ?_
              rintro e w' ⟨rfl, rfl⟩
              clear H1 H2
              have hnI : -9223372036854775808 ≤ n ∧ n ≤ 9223372036854775807 := hxo.1
              have hX1 : X.length ≤ 1000 := by omega
              go_upto_if 99 with (fail)
              go_cut [11, 14, 15] (fun xv did does wx => ∃ (z : Bool) (X2 : List Gh), did = .bool z ∧ does = .bool z ∧ BothG w wx r b B xv X2 (k + 1))
              case first =>
                by_cases hu0 : u < 0
                · have HD1 : Hid _ := gDrop_any n W1 HB1.out.bk HB1.out.ok hnI
                  go_wp2_with fail
                  refine Calls.mono HD1.out ?_
                  rintro e W2 ⟨rfl, bk2, g2⟩
                  obtain ⟨t1, t2, t3⟩ := HB1.out.belT g2
                  have hx2 := (g2.block hq (by have := (Array.getElem?_eq_some_iff.1 HXC.out).1; omega) (by intro e; have := HB1.out.rb; simp at e; omega)).trans HXC.out
                  obtain ⟨f0, f1, f2⟩ := cells_three hx2
                  have HD2 : Hid _ := refDrop_any n W2 t3 HB1.out.ok hX1 t2
                  have BK : Hid (BookAt W2 r b (delG X n)) := bk2
                  have T1 : Hid (Below w.heap.size w W2) := t1
                  clear bk2 g2 t1 t3 hx2 HD1
                  go_wp2_with fail
                  refine Calls.mono HD2.out ?_
                  rintro e W3 ⟨v3', rfl, h3, b3⟩
                  have HF : Hid (BothG w W3 r b B v3' (delG X n) (k + 1)) :=
                    ⟨BK.out.below b3, h3, HB1.out.ok.filter _, by have := delG_len X n; omega, T1.out.trans (b3.mono T1.out.size), Nat.le_trans t2 b3.size, hwb, HB1.out.rb⟩
                  obtain ⟨z, hz⟩ : ∃ z, hasG X n = z := ⟨_, rfl⟩
                  rw [hz]
                  clear h3 b3 hz f0 f1 f2 HD2
                  go_wp2
                  go_meet
                  exact ⟨_, _, rfl, rfl, HF.out⟩
                · have HD1 : Hid _ := gPut_any n u m W1 HB1.out.bk HB1.out.ok hm2 (by omega)
                  go_wp2_with fail
                  refine Calls.mono HD1.out ?_
                  rintro e W2 ⟨rfl, bk2, g2⟩
                  obtain ⟨t1, t2, t3⟩ := HB1.out.belT g2
                  have hx2 := (g2.block hq (by have := (Array.getElem?_eq_some_iff.1 HXC.out).1; omega) (by intro e; have := HB1.out.rb; simp at e; omega)).trans HXC.out
                  obtain ⟨f0, f1, f2⟩ := cells_three hx2
                  have HD2 : Hid _ := refPut_any n u m W2 t3 HB1.out.ok hX1 t2
                  have BK : Hid (BookAt W2 r b (putR X ⟨n, u, m⟩)) := bk2
                  have T1 : Hid (Below w.heap.size w W2) := t1
                  clear bk2 g2 t1 t3 hx2 HD1
                  go_wp2_with fail
                  refine Calls.mono HD2.out ?_
                  rintro e W3 ⟨v3', rfl, h3, b3⟩
                  have HF : Hid (BothG w W3 r b B v3' (putR X ⟨n, u, m⟩) (k + 1)) :=
                    ⟨BK.out.below b3, h3, HB1.out.ok.putR hm2, by have := putR_len X ⟨n, u, m⟩; omega, T1.out.trans (b3.mono T1.out.size), Nat.le_trans t2 b3.size, hwb, HB1.out.rb⟩
                  obtain ⟨z, hz⟩ : ∃ z, okG ⟨n, u, m⟩ = z := ⟨_, rfl⟩
                  rw [hz]
                  clear h3 b3 hz f0 f1 f2 HD2
                  go_wp2
                  go_meet
                  exact ⟨_, _, rfl, rfl, HF.out⟩
              case rest =>
                obtain ⟨z, X2, rfl, rfl, hbo⟩ := hcut
                have HOK : Hid (Gok X2) := hbo.ok
                have hlx := hbo.len
                obtain ⟨aX, cX, rfl⟩ := row_slice hbo.hs
                obtain ⟨nx, hnx⟩ : ∃ nx, X2.length = nx := ⟨_, rfl⟩
                have HNX : Hid (X2.length = nx) := hnx
                have hx100 : X2.length ≤ 100 := by omega
                have hx1000 : X2.length ≤ 1000 := by omega
                have hnx2 : nx ≤ 60 := by omega
                have hb100 : bs.length ≤ 100 := by rw [HNB.out]; omega
                have hI : IntsAt .i64 wc a2 bs := ints_below HI.out hbo.bel
                have HBU := refBut_any (c := c2) wc hbo.hs hI hx1000 (by omega)
                rw [HNB.out] at HBU
                have HBU : Hid _ := HBU
                rw [hnx] at hbo HBU ⊢
                have HW : Hid (BothG w wc r b B (.slice aX nx cX) X2 (k + 1) ∧ IntsAt .i64 wc a2 bs) := ⟨hbo, hI⟩
                obtain ⟨D, hD⟩ : ∃ D, wc.heap.size = D := ⟨_, rfl⟩
                rw [hD] at HBU
                have HDD : Hid (wc.heap.size = D) := hD
                clear hbo hI d0 d1 d2 HB1 HBW HXC hnx HB0 hD hlen hX1 hnI hxo hqB
                go_wp2_with fail
                refine Calls.mono HBU.out ?_
                rintro e W2 ⟨yv, rfl, hy, e1⟩
                obtain ⟨Y, hY⟩ : ∃ Y, butG X2 bs = Y := ⟨_, rfl⟩
                have HYB : Hid (butG X2 bs = Y) := hY
                have hYG : Gok Y := by rw [← hY]; exact HOK.out.filter _
                have hYl : Y.length ≤ 60 := by rw [← hY]; exact Nat.le_trans (List.length_filter_le _ _) (by omega)
                rw [hY] at hy
                obtain ⟨aY, cY, rfl⟩ := row_slice hy
                obtain ⟨ny, hny⟩ : ∃ ny, Y.length = ny := ⟨_, rfl⟩
                have HNY : Hid (Y.length = ny) := hny
                rw [hny] at hy ⊢
                have e1 : Below wc.heap.size wc W2 := by rw [HDD.out]; exact e1
                have H2 : Hid (BothG w W2 r b B (.slice aX nx cX) X2 (k + 1) ∧ IntsAt .i64 W2 a2 bs ∧ HsAt W2 D (.slice aY ny cY) Y) := ⟨HW.out.1.below e1, ints_below HW.out.2 e1, hy⟩
                have hny2 : ny ≤ 60 := by omega
                have HYG : Hid (Gok Y) := hYG
                obtain ⟨P1, hP1⟩ : ∃ P1, bN (bestD Y) = P1 := ⟨_, rfl⟩
                obtain ⟨Z1, hZ1⟩ : ∃ Z1, bS (bestD Y) = Z1 := ⟨_, rfl⟩
                obtain ⟨Q1, hQ1⟩ : ∃ Q1, wantO (bestD Y) = Q1 := ⟨_, rfl⟩
                obtain ⟨P2, hP2⟩ : ∃ P2, bN (bestD X2) = P2 := ⟨_, rfl⟩
                obtain ⟨Z2, hZ2⟩ : ∃ Z2, bS (bestD X2) = Z2 := ⟨_, rfl⟩
                obtain ⟨Q2, hQ2⟩ : ∃ Q2, wantO (bestD X2) = Q2 := ⟨_, rfl⟩
                obtain ⟨P3, hP3⟩ : ∃ P3, bN (worstD X2) = P3 := ⟨_, rfl⟩
                obtain ⟨Z3, hZ3⟩ : ∃ Z3, bS (worstD X2) = Z3 := ⟨_, rfl⟩
                obtain ⟨Q3, hQ3⟩ : ∃ Q3, wantO (worstD X2) = Q3 := ⟨_, rfl⟩
                have T1 : Hid (∀ W, Calls Try.prog 20 #[.int .i64 P1, .bool Z1, .int .i64 Q1] W fun e w' => e = .returned (.bool true) ∧ W = w') := by
                  intro W; rw [← hP1, ← hZ1, ← hQ1]; exact told_any _ W fun x hx => want_mem hYG x (.inl hx)
                have T2 : Hid (∀ W, Calls Try.prog 20 #[.int .i64 P2, .bool Z2, .int .i64 Q2] W fun e w' => e = .returned (.bool true) ∧ W = w') := by
                  intro W; rw [← hP2, ← hZ2, ← hQ2]; exact told_any _ W fun x hx => want_mem HOK.out x (.inl hx)
                have T3 : Hid (∀ W, Calls Try.prog 20 #[.int .i64 P3, .bool Z3, .int .i64 Q3] W fun e w' => e = .returned (.bool true) ∧ W = w') := by
                  intro W; rw [← hP3, ← hZ3, ← hQ3]; exact told_any _ W fun x hx => want_mem HOK.out x (.inr hx)
                have B1 := gBest_any (c := c2) W2 H2.out.1.bk.p HOK.out H2.out.2.1 HBS.out hb100 hx100
                rw [HNB.out, hY, hP1, hZ1] at B1
                have B1 : Hid _ := B1
                have HV2 : Hid (bN (bestD X2) = P2 ∧ bS (bestD X2) = Z2) := ⟨hP2, hZ2⟩
                have HV3 : Hid (bN (worstD X2) = P3 ∧ bS (worstD X2) = Z3) := ⟨hP3, hZ3⟩
                have HQ : Hid (wantO (bestD Y) = Q1 ∧ wantO (bestD X2) = Q2 ∧ wantO (worstD X2) = Q3) := ⟨hQ1, hQ2, hQ3⟩
                clear hP1 hZ1 hQ1 hP2 hZ2 hQ2 hP3 hZ3 hQ3 hY hYG hny hy e1 HW HBU
                go_wp2_with fail
                refine Calls.mono B1.out ?_
                rintro e W3 ⟨rfl, e1⟩
                have H3 : Hid (BothG w W3 r b B (.slice aX nx cX) X2 (k + 1) ∧ IntsAt .i64 W3 a2 bs ∧ HsAt W3 D (.slice aY ny cY) Y) := ⟨H2.out.1.below e1, ints_below H2.out.2.1 e1, H2.out.2.2.below e1⟩
                have B2 := gBest_any (bs := []) (a := none) (c := 0) W3 H3.out.1.bk.p HOK.out (.inl rfl) (fun _ h => (by cases h)) (by simp) hx100
                rw [butG_nil, HV2.out.1, HV2.out.2] at B2
                have B2 : Hid _ := B2
                clear e1 H2 B1
                go_wp2_with fail
                refine Calls.mono B2.out ?_
                rintro e W4 ⟨rfl, e1⟩
                have H4 : Hid (BothG w W4 r b B (.slice aX nx cX) X2 (k + 1) ∧ IntsAt .i64 W4 a2 bs ∧ HsAt W4 D (.slice aY ny cY) Y) := ⟨H3.out.1.below e1, ints_below H3.out.2.1 e1, H3.out.2.2.below e1⟩
                have B3 := gWorst_any W4 H4.out.1.bk.p HOK.out hx100
                rw [HV3.out.1, HV3.out.2] at B3
                have B3 : Hid _ := B3
                clear e1 H3 B2
                go_wp2_with fail
                refine Calls.mono B3.out ?_
                rintro e W5 ⟨rfl, e1⟩
                have H5 : Hid (BothG w W5 r b B (.slice aX nx cX) X2 (k + 1) ∧ IntsAt .i64 W5 a2 bs ∧ HsAt W5 D (.slice aY ny cY) Y) := ⟨H4.out.1.below e1, ints_below H4.out.2.1 e1, H4.out.2.2.below e1⟩
                have R1 := refBest_any W5 H5.out.2.2 HYG.out (by omega)
                rw [HQ.out.1] at R1
                have R1 : Hid _ := R1
                clear e1 H4 B3
                go_wp2_with fail
                refine Calls.mono R1.out ?_
                rintro e W6 ⟨rfl, q6, hq6⟩
                have e1 : Below W5.heap.size W5 W6 := by rw [hq6]; exact drewN_below _ _ _
                have H6 : Hid (BothG w W6 r b B (.slice aX nx cX) X2 (k + 1) ∧ IntsAt .i64 W6 a2 bs ∧ HsAt W6 D (.slice aY ny cY) Y) := ⟨H5.out.1.below e1, ints_below H5.out.2.1 e1, H5.out.2.2.below e1⟩
                clear e1 H5 R1 hq6
                go_wp2_with fail
                refine Calls.mono (T1.out _) ?_
                rintro e W7 ⟨rfl, rfl⟩
                have R2 := refBest_any W6 H6.out.1.hs HOK.out hx1000
                rw [HQ.out.2.1] at R2
                have R2 : Hid _ := R2
                go_wp2_with fail
                refine Calls.mono R2.out ?_
                rintro e W7 ⟨rfl, q6, hq6⟩
                have e1 : Below W6.heap.size W6 W7 := by rw [hq6]; exact drewN_below _ _ _
                have H7 : Hid (BothG w W7 r b B (.slice aX nx cX) X2 (k + 1) ∧ IntsAt .i64 W7 a2 bs ∧ HsAt W7 D (.slice aY ny cY) Y) := ⟨H6.out.1.below e1, ints_below H6.out.2.1 e1, H6.out.2.2.below e1⟩
                clear e1 H6 R2 hq6
                go_wp2_with fail
                refine Calls.mono (T2.out _) ?_
                rintro e W8 ⟨rfl, rfl⟩
                have R3 := refWorst_any W7 H7.out.1.hs HOK.out hx1000
                rw [HQ.out.2.2] at R3
                have R3 : Hid _ := R3
                go_wp2_with fail
                refine Calls.mono R3.out ?_
                rintro e W8 ⟨rfl, q6, hq6⟩
                have e1 : Below W7.heap.size W7 W8 := by rw [hq6]; exact drewN_below _ _ _
                have H8 : Hid (BothG w W8 r b B (.slice aX nx cX) X2 (k + 1) ∧ IntsAt .i64 W8 a2 bs ∧ HsAt W8 D (.slice aY ny cY) Y) := ⟨H7.out.1.below e1, ints_below H7.out.2.1 e1, H7.out.2.2.below e1⟩
                clear e1 H7 R3 hq6
                go_wp2_with fail
                refine Calls.mono (T3.out _) ?_
                rintro e W9 ⟨rfl, rfl⟩
                clear T1 T2 T3 HQ HV2 HV3
                go_wp2_with fail
                go_loopg [23, 24] ny (fun gk rm i wx => ∃ t : Nat, t ≤ ny ∧ gk = ny - t ∧ i = .int .i64 t ∧ rm = .int .i64 (roomG (Y.take t)) ∧ ∃ q, wx = W8.drewN q)
                case atStart => exact ⟨0, by omega, rfl, rfl, rfl, 0, rfl⟩
                case round =>
                  obtain ⟨t, ht, rfl, rfl, rfl, hqq⟩ := hrel
                  have HQ : Hid (∃ q, wr = W8.drewN q) := hqq
                  by_cases hlt4 : t < ny
                  · have i4 : (t : Int) < (ny : Int) := by omega
                    have hty : t < Y.length := by rw [HNY.out]; exact hlt4
                    obtain ⟨y, hy⟩ : ∃ y, Y[t]? = some y := ⟨_, List.getElem?_eq_getElem hty⟩
                    have hs9 : HsAt wr D (.slice aY Y.length cY) Y := by
                      obtain ⟨q, rfl⟩ := hqq
                      rw [HNY.out]
                      exact H8.out.2.2.below (drewN_below _ _ _)
                    obtain ⟨g, rfl, _, _, p0, p1, p2⟩ := HsAt.at hs9 hy
                    have hyo := HYG.out.ok y (List.mem_of_getElem? hy)
                    have HRT : Hid (roomG (Y.take (t + 1)) = roomG (Y.take t) + (y.m - y.u)) := roomG_take hy
                    have hrb := roomG_bound (L := Y.take t) (fun x hx => by have := HYG.out.ok x (List.mem_of_mem_take hx); omega)
                    have htl : (Y.take t).length ≤ 60 := by rw [List.length_take]; omega
                    obtain ⟨R, hR⟩ : ∃ R, roomG (Y.take t) = R := ⟨_, rfl⟩
                    obtain ⟨yn, yu, ym⟩ := y
                    simp only at p0 p1 p2 hyo HRT
                    rw [hR] at HRT hrb ⊢
                    have hr2 : 0 ≤ R ∧ R ≤ 10000000000 := by omega
                    have hwr1 : IntKind.i64.wrap (R + ym) = R + ym := IntWalk.i64_in _ (by omega)
                    have hwr2 : IntKind.i64.wrap (R + ym - yu) = R + ym - yu := IntWalk.i64_in _ (by omega)
                    clear hy hs9 hqq hR hty htl hrb
                    go_wp2_with fail
                    go_quiet (fail)
                    go_wp2
                    go_roundg (ny - (t + 1))
                    case measure => omega
                    case rel => exact ⟨t + 1, by omega, rfl, by go_num, by rw [HRT.out]; exact congrArg (Value.int .i64) (by omega), quiet_more HQ.out _⟩
                  · have i4 : ¬ (t : Int) < (ny : Int) := by omega
                    have ht2 : Y.take t = Y := List.take_of_length_le (by rw [HNY.out]; omega)
                    have e1 : Below W8.heap.size W8 wr := by obtain ⟨q, rfl⟩ := hqq; exact drewN_below _ _ _
                    obtain ⟨R, hR⟩ : ∃ R, roomG Y = R := ⟨_, rfl⟩
                    rw [ht2, hR]
                    have h9 : BothG w wr r b B (.slice aX nx cX) X2 (k + 1) := H8.out.1.below e1
                    have H9 : Hid (BothG w wr r b B (.slice aX nx cX) X2 (k + 1)) := h9
                    have RM := gRoom_any (c := c2) wr h9.bk.p HOK.out (ints_below H8.out.2.1 e1) HBS.out hb100 hx100
                    rw [HNB.out, HYB.out, hR] at RM
                    have RM : Hid _ := RM
                    clear hqq HQ ht2 e1 hR h9 H8
                    go_wp2_with fail
                    refine Calls.mono RM.out ?_
                    rintro e Wa ⟨rfl, e1⟩
                    have Ha : Hid (BothG w Wa r b B (.slice aX nx cX) X2 (k + 1)) := H9.out.below e1
                    clear e1 H9 RM
                    go_wp2_with fail
                    go_loopg [25] 7 (fun gk gi wx => ∃ (j : Nat) (G : Int), j ≤ 7 ∧ gk = 7 - j ∧ gi = .int .i64 G ∧ G = (j : Int) - 1 ∧ BothG w wx r b B (.slice aX nx cX) X2 (k + 1))
                    case atStart => exact ⟨0, -1, by omega, rfl, rfl, rfl, Ha.out⟩
                    case round =>
                      obtain ⟨j, G, hj, rfl, rfl, hG, hb9⟩ := hrel
                      have HJ : Hid (G = (j : Int) - 1) := hG
                      have Hb : Hid (BothG w wr r b B (.slice aX nx cX) X2 (k + 1)) := hb9
                      have hG7 : -1 ≤ G ∧ G ≤ 6 := by omega
                      by_cases hlt5 : j < 7
                      · have i5 : G < 6 := by omega
                        clear hG hb9
                        go_wp2_with fail
                        go_loopg [26, 27] nx (fun gk cn i wx => ∃ t : Nat, t ≤ nx ∧ gk = nx - t ∧ i = .int .i64 t ∧ cn = .int .i64 (cntG G (X2.take t) : Nat) ∧ ∃ q, wx = wr.drewN q)
                        case atStart => exact ⟨0, by omega, rfl, rfl, rfl, 0, rfl⟩
                        case round =>
                          obtain ⟨t, ht, rfl, rfl, rfl, hqq⟩ := hrel
                          have HQ : Hid _ := hqq
                          by_cases hlt6 : t < nx
                          · have i6 : (t : Int) < (nx : Int) := by omega
                            obtain ⟨x, hx⟩ : ∃ x, X2[t]? = some x := ⟨_, List.getElem?_eq_getElem (by rw [HNX.out]; exact hlt6)⟩
                            have hs9 : HsAt wr B (.slice aX X2.length cX) X2 := by
                              obtain ⟨q, rfl⟩ := hqq
                              rw [HNX.out]
                              exact Hb.out.hs.below (drewN_below _ _ _)
                            obtain ⟨g, rfl, _, _, p0, p1, p2⟩ := HsAt.at hs9 hx
                            have hxo := HOK.out.ok x (List.mem_of_getElem? hx)
                            have HCT : Hid (cntG G (X2.take (t + 1)) = cntG G (X2.take t) + (if ofN x.u x.m = G then 1 else 0)) := cntG_take G hx
                            have hcl := cntG_le G (X2.take t)
                            rw [List.length_take] at hcl
                            obtain ⟨R, hR⟩ : ∃ R, cntG G (X2.take t) = R := ⟨_, rfl⟩
                            obtain ⟨xn, xu, xm⟩ := x
                            simp only at p0 p1 p2 hxo HCT
                            rw [hR] at HCT hcl ⊢
                            have hR2 : R ≤ 60 := by omega
                            obtain ⟨z, hz⟩ : ∃ z, ofN xu xm = z := ⟨_, rfl⟩
                            have HZ : Hid (ofN xu xm = z) := hz
                            rw [hz] at HCT
                            have hb2 : 0 ≤ xu ∧ xu ≤ xm ∧ xm ≤ 100000000 := by omega
                            clear hx hs9 hqq hR hcl hz hxo
                            by_cases hzG : z = G
                            · have hzb : (z == G) = true := by rw [beq_iff_eq]; exact hzG
                              have HC2 : Hid (cntG G (X2.take (t + 1)) = R + 1) := by show _ = _; rw [HCT.out, if_pos hzG]
                              clear hzG
                              go_wp2_with fail
                              go_quiet ((go_at_call 9; exact quietSame (refOf_is _ hb2 HZ.out)))
                              go_wp2
                              go_roundg (nx - (t + 1))
                              case measure => omega
                              case rel => exact ⟨t + 1, by omega, rfl, by go_num, by rw [HC2.out]; go_num, quiet_more HQ.out _⟩
                            · have hzb : (z == G) = false := by rw [beq_eq_false_iff_ne]; exact hzG
                              have HC2 : Hid (cntG G (X2.take (t + 1)) = R) := by show _ = _; rw [HCT.out, if_neg hzG]; rfl
                              clear hzG
                              go_wp2_with fail
                              go_quiet ((go_at_call 9; exact quietSame (refOf_is _ hb2 HZ.out)))
                              go_wp2
                              go_roundg (nx - (t + 1))
                              case measure => omega
                              case rel => exact ⟨t + 1, by omega, rfl, by go_num, by rw [HC2.out], quiet_more HQ.out _⟩
                          · have i6 : ¬ (t : Int) < (nx : Int) := by omega
                            have ht2 : X2.take t = X2 := List.take_of_length_le (by rw [HNX.out]; omega)
                            have h9 : BothG w wr r b B (.slice aX nx cX) X2 (k + 1) := by
                              obtain ⟨q, rfl⟩ := hqq
                              exact Hb.out.below (drewN_below _ _ _)
                            have H9 : Hid (BothG w wr r b B (.slice aX nx cX) X2 (k + 1)) := h9
                            have CN := gCount_any G wr h9.bk.p HOK.out hx100
                            obtain ⟨R, hR⟩ : ∃ R, cntG G X2 = R := ⟨_, rfl⟩
                            rw [hR] at CN
                            rw [ht2, hR]
                            have CN : Hid _ := CN
                            clear hqq HQ ht2 hR h9
                            go_wp2_with fail
                            refine Calls.mono CN.out ?_
                            rintro e Wc ⟨rfl, e1⟩
                            have Hc : Hid (BothG w Wc r b B (.slice aX nx cX) X2 (k + 1)) := H9.out.below e1
                            clear e1 H9 CN
                            go_wp2_with fail
                            go_roundg (7 - (j + 1))
                            case measure => omega
                            case rel => exact ⟨j + 1, _, by omega, rfl, rfl, by have := HJ.out; omega, Hc.out⟩
                      · have i5 : ¬ G < 6 := by omega
                        clear hG hb9
                        go_wp2_with fail
                        go_roundg (T.length - (k + 1))
                        case measure => omega
                        case rel => exact ⟨k + 1, _, by omega, rfl, by go_num, Hb.out⟩
        · have i3 : ¬ (k : Int) < (T.length : Int) := by omega
          have HBW : Hid (Below w.heap.size w wr) := hbo.bel
          clear hbo HBO
          go_wp2_with fail
          refine (lives_any _).mono ?_
          rintro e w' ⟨rfl, b1⟩
          have HB : Hid (Below w.heap.size w w') := HBW.out.trans (b1.mono HBW.out.size)
          clear b1
          go_wp2
          go_ret
          exact ⟨rfl, HB.out⟩

set_option maxRecDepth 100000 in
theorem walk {H : Type} {enc : TypeId × Value → H} {w : World} {base : Nat} {v0 v1 : Value} {d0 d1 : DataW H} {p0 p1 : List MemPlace}
    (o0 : Value.okWide Try.prog w .any base 26 v0) (o1 : Value.okWide Try.prog w .any base 27 v1)
    (h0 : DataW.Trod enc Try.prog w 0 (fun _ => true) true 26 v0 d0 p0) (h1 : DataW.Trod enc Try.prog w 0 (fun _ => true) true 27 v1 d1 p1) :
    Calls Try.prog 4 #[v0, v1] w fun e w' => e = .returned (.bool true) ∧ Below w.heap.size w w' := by
  obtain ⟨a, c, T, rfl, _, hT⟩ := openHs Try.underlying26 Try.underlying37 (by kernel_rfl) (by kernel_rfl) (by kernel_rfl) (by kernel_rfl) (by kernel_rfl) (by kernel_rfl) (by kernel_rfl) Try.underlying3 Try.underlying3 Try.underlying3 o0 h0
  obtain ⟨a2, L2, c2, bs, rfl, rfl, _, hI, hw⟩ := openList Try.underlying27 Try.underlying3 (by kernel_rfl) o1 h1
  exact run w hT hI (fun x hx => wf_64 (hw x hx))

set_option maxRecDepth 100000 in
theorem lifted (os : Os) (started : os.Started) (H : Type) (enc : TypeId × Value → H) :
    ReturnsInHanded {} Try.checked os 4 .any (Rows.groupPlaysSpec.pre6 enc Try.prog Try.f4 Rows.groupPlaysRow.domain false) (Rows.groupPlaysSpec.post enc Try.prog Try.f4 false true false false) := by
  refine returnsInHanded_of_change (C := Try.checked) own started (by kernel_rfl) Try.func4
    (ChangeSpec.witness6 (enc := enc) (C := Try.checked) false ⟨#[], #[.slice none 0 0, .slice none 0 0], []⟩ 8 (by kernel_rfl) (by kernel_rfl) (by kernel_rfl) (by kernel_rfl)) ?_
  intro W base args ds gs before hval0 hW hcnd _
  have hval : ∀ (j : Nat) t v, Try.f4.params[j]? = some t → args[j]? = some v → Value.okWide Try.prog W .any base t v := hval0
  have hW' := hW
  obtain ⟨p, q, hA0, hV, rfl, hfz, hnd⟩ := hW
  have hA : DataW.TrodAll enc Try.prog W 0 (fun _ => true) true Try.f4.params.toList args.toList ds p := hA0
  rw [Try.params4] at hA hval
  obtain ⟨v0, vs0, d0, ds0, p0, q0, hargs, rfl, rfl, h0, r0⟩ := trodAll_cons hA
  obtain ⟨v1, vs1, d1, ds1, p1, q1, rfl, rfl, rfl, h1, r1⟩ := trodAll_cons r0
  obtain ⟨rfl, rfl, rfl⟩ := trodAll_nil r1
  obtain rfl : args = #[v0, v1] := by cases args; simp_all
  obtain ⟨rfl, rfl⟩ := trodVars_none hV
  have o0 := hval 0 26 v0 rfl rfl
  have lt0 : ∀ x ∈ p0, x.block < W.heap.size := by obtain ⟨m, hm⟩ := h0; exact DataW.trod_lt m _ _ _ hm
  have o1 := hval 1 27 v1 rfl rfl
  have lt1 : ∀ x ∈ p1, x.block < W.heap.size := by obtain ⟨m, hm⟩ := h1; exact DataW.trod_lt m _ _ _ hm
  clear hA0 hval0
  refine (walk o0 o1 h0 h1).mono fun e W' ⟨he, bel⟩ => ?_
  subst he
  exact ⟨_, rfl, _, _, _, [], _, [], hW', trodAll_mk1 (shut_bool Try.underlying4 _), (trodAll_cons_mk (Below.trod laidOut (by kernel_rfl) (of_decide_eq_true (by kernel_rfl)) h0 bel lt0) (trodAll_cons_mk (Below.trod laidOut (by kernel_rfl) (of_decide_eq_true (by kernel_rfl)) h1 bel lt1) trodAll_mk0)), rfl, bel.frame _, fun h => by cases h⟩

theorem over : Rows.groupPlaysRow.holds Try.pinned (OpenSpec.ofChange Rows.groupPlaysSpec) :=
  OpenClaim.holds_of_wide 4 Try.f4 rfl rfl rfl rfl rfl rfl rfl ⟨rfl, rfl, rfl, rfl, rfl⟩ rfl rfl rfl rfl rfl (by kernel_rfl) Try.func4 (by kernel_rfl)
    (of_decide_eq_true (by kernel_rfl)) (by unfold Func.isWrapper; first | (rw [if_pos (by decide +kernel)]; kernel_rfl) | (rw [if_neg (by decide +kernel)]; exact ⟨rfl, rfl⟩))
    (fun os started H enc _ => lifted os started H enc)
end Go.Proofs.Ythjacjckobkhmaa.GroupPlays
namespace Go.Proofs.Ythjacjckobkhmaa
/-- The statement. -/
theorem groupPlays_holds : Rows.GroupPlaysSaid := GroupPlays.over
#print axioms groupPlays_holds
end Go.Proofs.Ythjacjckobkhmaa
