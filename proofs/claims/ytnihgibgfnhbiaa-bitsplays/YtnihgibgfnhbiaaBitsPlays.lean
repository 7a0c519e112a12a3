/- Proved: gunnylaw02.BitsPlays returns true for all ints size and all lists of calls l: what a set answers, and what is in it behind each call, is the document's; a set that isn't there has nothing. No conditions. -/
import Derived.Test.YtnihgibgfnhbiaaBSame
import Derived.Test.YtnihgibgfnhbiaaBLives
import Derived.Test.YtnihgibgfnhbiaaBDeeds
namespace Go.Proofs.Ytnihgibgfnhbiaa.BitsPlays
open Go.ChangeShapes Go.WideShapes Go.ChangeAt Go.RowKit
set_option linter.unusedVariables false
theorem own : ownKnob Try.prog.godebug = none := by kernel_rfl
theorem laidOut : laidOutB Try.prog = true := by kernel_rfl

theorem SetP.nil (B : Nat) (w : World) : SetP B w none none [] := .inl ⟨rfl, rfl, rfl⟩
theorem grown_below {w w' : World} (h : w.grownBy w' none) : Below w.heap.size w w' := ⟨h.os, h.tape, h.output, h.size, fun k hk => h.block k hk (by simp)⟩
theorem row_kept {w w' : World} {base g : Nat} {e : TypeId} {size n : Nat} {v : Value} {xs : List Value} (h : w.ownsRow base e size v n xs) (hg : w.grownBy w' (some g)) (hlt : g < base) : w'.ownsRow base e size v n xs :=
  h.kept hg (by
    cases hv : v.ownBlock
    · exact .inl rfl
    · right
      intro e
      have := h.lt _ hv
      cases e
      omega)
theorem mayNil : (mayB [] 0 && !hasB [] 0) = false := by decide
theorem hasNil : hasB [] 0 = false := by decide

/-- The round's state: the set and the document's list are one. -/
structure Both (w wr : World) (B b g : Nat) (v : Value) (x : List Bool) : Prop where
  set : SetP w.heap.size wr (some ⟨b, 0, none⟩) (some g) x
  row : wr.ownsRow B 4 1 v x.length (bo x)
  bel : Below w.heap.size w wr
  hi : B ≤ wr.heap.size
  lo : g < B
  wB : w.heap.size ≤ B


set_option maxRecDepth 100000 in
set_option maxHeartbeats 1000000 in
theorem run_far (size : Int) (a : Option Addr) (L c : Nat) (w : World) (hL : L ≤ maxLen) (hfar : 100 < L ∨ (400 < size ∧ size < 4000)) :
    Calls Try.prog 3 #[.int .i64 size, .slice a L c] w fun e w' => e = .returned (.bool true) ∧ Below w.heap.size w w' := by
  unfold maxLen at hL
  by_cases h1 : 100 < L
  · clear hfar
    go_enter Try.func3, Try.ntmps3
    go_wp2_with fail
    refine (all_any (B := 0) (-1) _ (SetP.nil 0 _)).mono ?_
    rw [upTo_neg]
    rintro e w1 ⟨v1, rfl, r1, b1⟩
    obtain ⟨a1, c1, rfl⟩ := row_slice r1
    rw [show (allL []).length = 0 from rfl]
    clear r1
    go_wp2_with fail
    refine (put_any (B := 0) 0 _ (SetP.nil 0 _)).mono ?_
    rw [mayNil]
    rintro e w2 ⟨rfl, _, g2⟩
    have b2 := b1.trans ((grown_below g2).mono b1.size)
    clear g2
    go_wp2_with fail
    refine (drop_any (B := 0) 0 _ (SetP.nil 0 _)).mono ?_
    rw [hasNil]
    rintro e w3 ⟨rfl, _, g3⟩
    have b3 := b2.trans ((grown_below g3).mono b2.size)
    clear g3
    go_wp2_with fail
    refine (has_any (B := 0) 0 _ (SetP.nil 0 _)).mono ?_
    rw [hasNil]
    rintro e w4 ⟨rfl, m4, rfl⟩
    go_wp2_with fail
    refine (size_any (B := 0) _ (SetP.nil 0 _)).mono ?_
    rintro e w4 ⟨rfl, rfl⟩
    rw [show ([] : List Bool).length = 0 from rfl]
    go_wp2_with fail
    refine (len_any (B := 0) _ (SetP.nil 0 _)).mono ?_
    rintro e w4 ⟨rfl, rfl⟩
    rw [show (allL []).length = 0 from rfl]
    have b4 : Below w.heap.size w (w3.drewN m4) := b3.trans (drewN_below _ _ m4)
    generalize w3.drewN m4 = w4 at *
    clear b1 b2 b3
    go_wp2_with (go_at_call 12; refine (lives_any _).mono ?_; rintro e w5 ⟨rfl, hb5⟩)
    go_ret
    exact ⟨rfl, b4.trans (hb5.mono b4.size)⟩
  · have h2 : 400 < size ∧ size < 4000 := by omega
    obtain ⟨h3, h4⟩ := h2
    clear hfar
    go_enter Try.func3, Try.ntmps3
    go_wp2_with fail
    refine (all_any (B := 0) (-1) _ (SetP.nil 0 _)).mono ?_
    rw [upTo_neg]
    rintro e w1 ⟨v1, rfl, r1, b1⟩
    obtain ⟨a1, c1, rfl⟩ := row_slice r1
    rw [show (allL []).length = 0 from rfl]
    clear r1
    go_wp2_with fail
    refine (put_any (B := 0) 0 _ (SetP.nil 0 _)).mono ?_
    rw [mayNil]
    rintro e w2 ⟨rfl, _, g2⟩
    have b2 := b1.trans ((grown_below g2).mono b1.size)
    clear g2
    go_wp2_with fail
    refine (drop_any (B := 0) 0 _ (SetP.nil 0 _)).mono ?_
    rw [hasNil]
    rintro e w3 ⟨rfl, _, g3⟩
    have b3 := b2.trans ((grown_below g3).mono b2.size)
    clear g3
    go_wp2_with fail
    refine (has_any (B := 0) 0 _ (SetP.nil 0 _)).mono ?_
    rw [hasNil]
    rintro e w4 ⟨rfl, m4, rfl⟩
    go_wp2_with fail
    refine (size_any (B := 0) _ (SetP.nil 0 _)).mono ?_
    rintro e w4 ⟨rfl, rfl⟩
    rw [show ([] : List Bool).length = 0 from rfl]
    go_wp2_with fail
    refine (len_any (B := 0) _ (SetP.nil 0 _)).mono ?_
    rintro e w4 ⟨rfl, rfl⟩
    rw [show (allL []).length = 0 from rfl]
    have b4 : Below w.heap.size w (w3.drewN m4) := b3.trans (drewN_below _ _ m4)
    generalize w3.drewN m4 = w4 at *
    clear b1 b2 b3
    go_wp2_with (go_at_call 12; refine (lives_any _).mono ?_; rintro e w5 ⟨rfl, hb5⟩)
    go_ret
    exact ⟨rfl, b4.trans (hb5.mono b4.size)⟩

theorem two_at1 (u v : Value) : (#[u, v] : Array Value)[1]? = some v := rfl
theorem Both.mid {w wr w2 : World} {B b g : Nat} {v : Value} {x : List Bool} (hB : Both w wr B b g v x) {o : Obj} (hg : (wr.alloc o).grownBy w2 (some g)) :
    w2.ownsRow B 4 1 v x.length (bo x) ∧ Below w.heap.size w w2 ∧ B ≤ w2.heap.size ∧ w2.heap[wr.heap.size]? = some o := by
  have h1 := hB.lo
  have h2 := hB.hi
  have h3 := hB.bel.size
  have h4 := (hB.set.lt g rfl).1
  refine ⟨row_kept (hB.row.alloc o) hg hB.lo, (hB.bel.alloc h3 o).grown hg (by simp; omega) (fun k hk => by cases hk; exact h4), by have := hg.size; simp at this; omega, ?_⟩
  rw [hg.block wr.heap.size (by simp) (by simp; omega)]
  exact heap_alloc_new wr o
theorem Both.on {w wr w2 : World} {B b g : Nat} {v : Value} {x : List Bool} (hB : Both w wr B b g v x) (hb : Below wr.heap.size wr w2) : Both w w2 B b g v x :=
  ⟨hB.set.below hb, row_below hB.row hb, hB.bel.trans (hb.mono hB.bel.size), Nat.le_trans hB.hi hb.size, hB.lo, hB.wB⟩
theorem same_at {w wr : World} {B b g : Nat} {v v' : Value} {x : List Bool} (hB : Both w wr B b g v x) {n : Int} (hv : v = v') :
    Calls Try.prog 15 #[.pointer (some ⟨b, 0, none⟩), v', .int .i64 n] wr fun e w' => e = .returned (.bool true) ∧ Below wr.heap.size wr w' := by
  subst hv
  exact same_any n wr hB.set hB.row
theorem SetP.up {B B' : Nat} {w : World} {p : Option Addr} {r : Option Nat} {x : List Bool} (h : SetP B w p r x) (hb : B' ≤ B) : SetP B' w p r x := by
  rcases h with h | ⟨b, g, h1, h2, h3⟩
  · exact .inl h
  · refine .inr ⟨b, g, h1, h2, h3.small, Nat.le_trans hb h3.lo, h3.ne, h3.head, ?_⟩
    obtain ⟨ws, hf, ho⟩ := h3.row
    exact ⟨ws, hf, rowMono ho hb⟩

set_option maxRecDepth 100000 in
set_option maxHeartbeats 1000000 in
theorem run_small (size : Int) (a : Option Addr) (L c : Nat) (K N : Nat → Int) (w : World) (hL : L ≤ 100) (hp : PairsAt w a L K N) (hsz : size ≤ 400) :
    Calls Try.prog 3 #[.int .i64 size, .slice a L c] w fun e w' => e = .returned (.bool true) ∧ Below w.heap.size w w' := by
  have HP : Hid (PairsAt w a L K N) := hp
  have HSZ : Hid (∀ x : List Bool, x.length = szN size → x.length < 1000) := by
    intro x hx
    rw [hx]
    unfold szN
    split
    · omega
    · split <;> omega
  clear hp
  go_enter Try.func3, Try.ntmps3
  go_wp2_with fail
  refine (all_any (B := 0) (-1) _ (SetP.nil 0 _)).mono ?_
  rw [upTo_neg]
  rintro e w1 ⟨v1, rfl, r1, b1⟩
  obtain ⟨a1, c1, rfl⟩ := row_slice r1
  rw [show (allL []).length = 0 from rfl]
  clear r1
  go_wp2_with fail
  refine (put_any (B := 0) 0 _ (SetP.nil 0 _)).mono ?_
  rw [mayNil]
  rintro e w2 ⟨rfl, _, g2⟩
  have b2 := b1.trans ((grown_below g2).mono b1.size)
  clear g2
  go_wp2_with fail
  refine (drop_any (B := 0) 0 _ (SetP.nil 0 _)).mono ?_
  rw [hasNil]
  rintro e w3 ⟨rfl, _, g3⟩
  have b3 := b2.trans ((grown_below g3).mono b2.size)
  clear g3
  go_wp2_with fail
  refine (has_any (B := 0) 0 _ (SetP.nil 0 _)).mono ?_
  rw [hasNil]
  rintro e w4 ⟨rfl, m4, rfl⟩
  go_wp2_with fail
  refine (size_any (B := 0) _ (SetP.nil 0 _)).mono ?_
  rintro e w4 ⟨rfl, rfl⟩
  rw [show ([] : List Bool).length = 0 from rfl]
  go_wp2_with fail
  refine (len_any (B := 0) _ (SetP.nil 0 _)).mono ?_
  rintro e w4 ⟨rfl, rfl⟩
  rw [show (allL []).length = 0 from rfl]
  have b4 : Below w.heap.size w (w3.drewN m4) := b3.trans (drewN_below _ _ m4)
  generalize w3.drewN m4 = w4 at *
  clear b1 b2 b3
  go_wp2_with fail
  refine (new_any _ _).mono ?_
  rintro e w5 ⟨b, g, rfl, h5, b5⟩
  go_wp2_with fail
  refine (refNew_any _ _).mono ?_
  rintro e w6 ⟨v6, rfl, r6, b6⟩
  have hbg := h5.bltg
  have h6 := h5.p.below b6
  have hl0 : (List.replicate (szN size) false).length = szN size := by simp
  generalize hx0 : List.replicate (szN size) false = x0 at *
  rw [← hl0] at r6
  have HX0 : Hid _ := hl0
  clear hl0
  go_wp2_with fail
  refine (same_any _ _ h6 r6).mono ?_
  rintro e w7 ⟨rfl, b7⟩
  have hboth : Both w w7 w5.heap.size b g v6 x0 := ⟨SetP.up (h6.below b7) b4.size, row_below r6 b7, (b4.trans (b5.mono b4.size)).trans ((b6.mono (Nat.le_trans b4.size b5.size)).trans (b7.mono (Nat.le_trans (Nat.le_trans b4.size b5.size) b6.size))), Nat.le_trans b6.size b7.size, hbg.2.1, Nat.le_trans b4.size b5.size⟩
  have HB0 : Hid _ := hboth
  clear hboth r6 h6 h5 b5 b6 b7 hbg hx0 b4
  generalize w5.heap.size = B at *
  go_wp2_with fail
  go_loopw [9, 10] (fun v i wr => ∃ (k : Nat) (x : List Bool), k ≤ L ∧ i = .int .i64 k ∧ x.length = szN size ∧ Both w wr B b g v x) (fun _ i _ => L - (intOf i).toNat)
  case atStart => exact ⟨0, _, Nat.zero_le _, rfl, HX0.out, HB0.out⟩
  case round =>
    obtain ⟨k, x, hk, rfl, hxl, hB⟩ := hrel
    have h1000 := HSZ.out x hxl
    have HXL : Hid _ := hxl
    clear hxl
    obtain ⟨a9, c9, rfl⟩ := row_slice hB.row
    by_cases hlt : k < L
    · obtain ⟨bz, off, rfl, hbz, cK, cN⟩ := HP.out.later hB.bel hlt
      generalize K k = kk at *
      generalize N k = nn at *
      have hsm := hB.set.small
      by_cases k0 : kk = 0
      · subst k0
        obtain ⟨q, hq⟩ : ∃ q, (mayB x nn && !hasB x nn) = q := ⟨_, rfl⟩
        have hq2 : (mayB x nn && (hasB x nn != true)) = q := by rw [← hq]; cases hasB x nn <;> rfl
        have HQ : Hid _ := hq
        have HQ2 : Hid _ := hq2
        clear hq hq2
        go_wp2_with fail
        refine (put_any nn _ (hB.set.below ((Below.refl _ wr).alloc (Nat.le_refl _) _))).mono ?_
        rw [HQ.out]
        rintro e w2 ⟨rfl, hs2, hg2⟩
        obtain ⟨r2, bel2, hi2, ho2⟩ := hB.mid hg2
        have cN2 := cell_of_row w2 wr.heap.size 1 _ _ _ ho2
        simp only [two_at1] at cN2
        go_wp2_with fail
        refine (with_any nn true _ r2 hsm hi2).mono ?_
        rw [HQ2.out]
        rintro e w3 ⟨v3, rfl, r3, b3⟩
        obtain ⟨a3, c3, rfl⟩ := row_slice r3
        have cN3 : w3.cell? ⟨wr.heap.size, 1, none⟩ = some (.int .i64 nn) := by rw [b3.cell (p := ⟨wr.heap.size, 1, none⟩) (lt_of_block ho2)]; exact cN2
        have hB3 : Both w w3 B b g (.slice a3 x.length c3) (putL x nn true) := ⟨hs2.below b3, by rw [len_putL]; exact r3, bel2.trans (b3.mono bel2.size), Nat.le_trans hi2 b3.size, hB.lo, hB.wB⟩
        have HL3 : Hid ((putL x nn true).length = szN size) := by show _ = _; rw [len_putL]; exact HXL.out
        have HB3 : Hid _ := hB3
        clear hs2 hg2 r2 bel2 hi2 ho2 cN2 r3 b3 hB3
        go_wp2_with (go_at_call 15; refine (same_at HB3.out rfl).mono ?_; rintro e w4 ⟨rfl, b4⟩)
        go_roundw
        case rel => exact ⟨k + 1, _, by omega, by go_num, HL3.out, HB3.out.on b4⟩
        case measure => simp [intOf]; omega
      · by_cases k1 : kk = 1
        · subst k1
          obtain ⟨q, hq⟩ : ∃ q, hasB x nn = q := ⟨_, rfl⟩
          have hq2 : (mayB x nn && (hasB x nn != false)) = q := by
            rw [← hq]
            cases hm : mayB x nn
            · rw [hasB_no hm]; rfl
            · cases hasB x nn <;> rfl
          have HQ : Hid _ := hq
          have HQ2 : Hid _ := hq2
          clear hq hq2
          go_wp2_with fail
          refine (drop_any nn _ (hB.set.below ((Below.refl _ wr).alloc (Nat.le_refl _) _))).mono ?_
          rw [HQ.out]
          rintro e w2 ⟨rfl, hs2, hg2⟩
          obtain ⟨r2, bel2, hi2, ho2⟩ := hB.mid hg2
          have cN2 := cell_of_row w2 wr.heap.size 1 _ _ _ ho2
          simp only [two_at1] at cN2
          go_wp2_with fail
          refine (with_any nn false _ r2 hsm hi2).mono ?_
          rw [HQ2.out]
          rintro e w3 ⟨v3, rfl, r3, b3⟩
          obtain ⟨a3, c3, rfl⟩ := row_slice r3
          have cN3 : w3.cell? ⟨wr.heap.size, 1, none⟩ = some (.int .i64 nn) := by rw [b3.cell (p := ⟨wr.heap.size, 1, none⟩) (lt_of_block ho2)]; exact cN2
          have hB3 : Both w w3 B b g (.slice a3 x.length c3) (putL x nn false) := ⟨hs2.below b3, by rw [len_putL]; exact r3, bel2.trans (b3.mono bel2.size), Nat.le_trans hi2 b3.size, hB.lo, hB.wB⟩
          have HL3 : Hid ((putL x nn false).length = szN size) := by show _ = _; rw [len_putL]; exact HXL.out
          have HB3 : Hid _ := hB3
          clear hs2 hg2 r2 bel2 hi2 ho2 cN2 r3 b3 hB3
          go_wp2_with (go_at_call 15; refine (same_at HB3.out rfl).mono ?_; rintro e w4 ⟨rfl, b4⟩)
          go_roundw
          case rel => exact ⟨k + 1, _, by omega, by go_num, HL3.out, HB3.out.on b4⟩
          case measure => simp [intOf]; omega
        · have k0' : (kk == 0) = false := by simpa using k0
          have k1' : (kk == 1) = false := by simpa using k1
          clear k0 k1
          cases hq : frstB x
          · have HQ : Hid _ := hq
            have HZ : Hid (frstN x = 0) := frstN_no hq
            have HP2 : Hid (putL x (frst x) true = x) := takeL_no hq
            clear hq
            go_wp2_with fail
            refine (take_any _ (hB.set.below ((Below.refl _ wr).alloc (Nat.le_refl _) _))).mono ?_
            rw [HQ.out, HZ.out]
            rintro e w2 ⟨rfl, hs2, hg2⟩
            obtain ⟨r2, bel2, hi2, ho2⟩ := hB.mid hg2
            have cN2 := cell_of_row w2 wr.heap.size 1 _ _ _ ho2
            simp only [two_at1] at cN2
            go_wp2_with fail
            refine (refFirst_any _ r2 hsm).mono ?_
            rw [HQ.out, HZ.out]
            rintro e w3 ⟨rfl, rfl⟩
            have hB3 : Both w w2 B b g (.slice a9 x.length c9) x := ⟨by rw [HP2.out] at hs2; exact hs2, r2, bel2, hi2, hB.lo, hB.wB⟩
            have cN3 := cN2
            have HL3 : Hid (x.length = szN size) := HXL.out
            have HB3 : Hid _ := hB3
            clear hs2 hg2 r2 bel2 hi2 ho2 hB3
            go_wp2_with (go_at_call 15; refine (same_at HB3.out rfl).mono ?_; rintro e w4 ⟨rfl, b4⟩)
            go_roundw
            case rel => exact ⟨k + 1, _, by omega, by go_num, HL3.out, HB3.out.on b4⟩
            case measure => simp [intOf]; omega
          · have HQ : Hid _ := hq
            obtain ⟨hz, hz2⟩ := frstN_yes hq
            have HZ : Hid (frstN x = frst x) := hz
            have HZ2 : Hid _ := hz2
            clear hq hz hz2
            obtain ⟨f, hf⟩ : ∃ f, frst x = f := ⟨_, rfl⟩
            rw [hf] at HZ
            have HF : Hid _ := hf
            have hfl : f ≤ x.length := by rw [← hf]; exact frst_le x
            clear hf
            go_wp2_with fail
            refine (take_any _ (hB.set.below ((Below.refl _ wr).alloc (Nat.le_refl _) _))).mono ?_
            rw [HQ.out, HZ.out]
            rintro e w2 ⟨rfl, hs2, hg2⟩
            obtain ⟨r2, bel2, hi2, ho2⟩ := hB.mid hg2
            have cN2 := cell_of_row w2 wr.heap.size 1 _ _ _ ho2
            simp only [two_at1] at cN2
            go_wp2_with fail
            refine (refFirst_any _ r2 hsm).mono ?_
            rw [HQ.out, HZ.out]
            rintro e w3 ⟨rfl, rfl⟩
            rw [HF.out] at hs2
            go_wp2_with fail
            refine (with_any f true _ r2 hsm hi2).mono ?_
            rintro e w3 ⟨v3, rfl, r3, b3⟩
            obtain ⟨a3, c3, rfl⟩ := row_slice r3
            have cN3 : w3.cell? ⟨wr.heap.size, 1, none⟩ = some (.int .i64 nn) := by rw [b3.cell (p := ⟨wr.heap.size, 1, none⟩) (lt_of_block ho2)]; exact cN2
            have hB3 : Both w w3 B b g (.slice a3 x.length c3) (putL x f true) := ⟨hs2.below b3, by rw [len_putL]; exact r3, bel2.trans (b3.mono bel2.size), Nat.le_trans hi2 b3.size, hB.lo, hB.wB⟩
            have HL3 : Hid ((putL x f true).length = szN size) := by show _ = _; rw [len_putL]; exact HXL.out
            have HB3 : Hid _ := hB3
            clear hs2 hg2 r2 bel2 hi2 ho2 cN2 r3 b3 hB3
            go_wp2_with (go_at_call 15; refine (same_at HB3.out rfl).mono ?_; rintro e w4 ⟨rfl, b4⟩)
            go_roundw
            case rel => exact ⟨k + 1, _, by omega, by go_num, HL3.out, HB3.out.on b4⟩
            case measure => simp [intOf]; omega
    · have e : k = L := by omega
      subst e
      go_wp2_with (first | (go_at_call 15; refine (same_at hB rfl).mono ?_; rintro e w4 ⟨rfl, b4⟩) | (go_at_call 12; refine (lives_any _).mono ?_; rintro e w5 ⟨rfl, b5⟩))
      go_ret
      exact ⟨rfl, hB.bel.trans ((b4.mono hB.bel.size).trans (b5.mono (Nat.le_trans hB.bel.size b4.size)))⟩

set_option maxRecDepth 100000 in
set_option maxHeartbeats 1000000 in
theorem run_great (size : Int) (a : Option Addr) (L c : Nat) (K N : Nat → Int) (w : World) (hL : L ≤ 100) (hp : PairsAt w a L K N) (hsz : 4000 ≤ size) :
    Calls Try.prog 3 #[.int .i64 size, .slice a L c] w fun e w' => e = .returned (.bool true) ∧ Below w.heap.size w w' := by
  have HP : Hid (PairsAt w a L K N) := hp
  have HSZ : Hid (∀ x : List Bool, x.length = szN size → 1000 ≤ x.length) := by
    intro x hx
    rw [hx]
    unfold szN
    split
    · omega
    · split <;> omega
  clear hp
  go_enter Try.func3, Try.ntmps3
  go_wp2_with fail
  refine (all_any (B := 0) (-1) _ (SetP.nil 0 _)).mono ?_
  rw [upTo_neg]
  rintro e w1 ⟨v1, rfl, r1, b1⟩
  obtain ⟨a1, c1, rfl⟩ := row_slice r1
  rw [show (allL []).length = 0 from rfl]
  clear r1
  go_wp2_with fail
  refine (put_any (B := 0) 0 _ (SetP.nil 0 _)).mono ?_
  rw [mayNil]
  rintro e w2 ⟨rfl, _, g2⟩
  have b2 := b1.trans ((grown_below g2).mono b1.size)
  clear g2
  go_wp2_with fail
  refine (drop_any (B := 0) 0 _ (SetP.nil 0 _)).mono ?_
  rw [hasNil]
  rintro e w3 ⟨rfl, _, g3⟩
  have b3 := b2.trans ((grown_below g3).mono b2.size)
  clear g3
  go_wp2_with fail
  refine (has_any (B := 0) 0 _ (SetP.nil 0 _)).mono ?_
  rw [hasNil]
  rintro e w4 ⟨rfl, m4, rfl⟩
  go_wp2_with fail
  refine (size_any (B := 0) _ (SetP.nil 0 _)).mono ?_
  rintro e w4 ⟨rfl, rfl⟩
  rw [show ([] : List Bool).length = 0 from rfl]
  go_wp2_with fail
  refine (len_any (B := 0) _ (SetP.nil 0 _)).mono ?_
  rintro e w4 ⟨rfl, rfl⟩
  rw [show (allL []).length = 0 from rfl]
  have b4 : Below w.heap.size w (w3.drewN m4) := b3.trans (drewN_below _ _ m4)
  generalize w3.drewN m4 = w4 at *
  clear b1 b2 b3
  go_wp2_with fail
  refine (new_any _ _).mono ?_
  rintro e w5 ⟨b, g, rfl, h5, b5⟩
  go_wp2_with fail
  refine (refNew_any _ _).mono ?_
  rintro e w6 ⟨v6, rfl, r6, b6⟩
  have hbg := h5.bltg
  have h6 := h5.p.below b6
  have hl0 : (List.replicate (szN size) false).length = szN size := by simp
  generalize hx0 : List.replicate (szN size) false = x0 at *
  rw [← hl0] at r6
  have HX0 : Hid _ := hl0
  clear hl0
  go_wp2_with fail
  refine (same_any _ _ h6 r6).mono ?_
  rintro e w7 ⟨rfl, b7⟩
  have hboth : Both w w7 w5.heap.size b g v6 x0 := ⟨SetP.up (h6.below b7) b4.size, row_below r6 b7, (b4.trans (b5.mono b4.size)).trans ((b6.mono (Nat.le_trans b4.size b5.size)).trans (b7.mono (Nat.le_trans (Nat.le_trans b4.size b5.size) b6.size))), Nat.le_trans b6.size b7.size, hbg.2.1, Nat.le_trans b4.size b5.size⟩
  have HB0 : Hid _ := hboth
  clear hboth r6 h6 h5 b5 b6 b7 hbg hx0 b4
  generalize w5.heap.size = B at *
  go_wp2_with fail
  go_loopw [9, 10] (fun v i wr => ∃ (k : Nat) (x : List Bool), k ≤ L ∧ i = .int .i64 k ∧ x.length = szN size ∧ Both w wr B b g v x) (fun _ i _ => L - (intOf i).toNat)
  case atStart => exact ⟨0, _, Nat.zero_le _, rfl, HX0.out, HB0.out⟩
  case round =>
    obtain ⟨k, x, hk, rfl, hxl, hB⟩ := hrel
    have h1000 := HSZ.out x hxl
    have HXL : Hid _ := hxl
    clear hxl
    obtain ⟨a9, c9, rfl⟩ := row_slice hB.row
    by_cases hlt : k < L
    · obtain ⟨bz, off, rfl, hbz, cK, cN⟩ := HP.out.later hB.bel hlt
      generalize K k = kk at *
      generalize N k = nn at *
      have hsm := hB.set.small
      by_cases k0 : kk = 0
      · subst k0
        obtain ⟨q, hq⟩ : ∃ q, (mayB x nn && !hasB x nn) = q := ⟨_, rfl⟩
        have hq2 : (mayB x nn && (hasB x nn != true)) = q := by rw [← hq]; cases hasB x nn <;> rfl
        have HQ : Hid _ := hq
        have HQ2 : Hid _ := hq2
        clear hq hq2
        go_wp2_with fail
        refine (put_any nn _ (hB.set.below ((Below.refl _ wr).alloc (Nat.le_refl _) _))).mono ?_
        rw [HQ.out]
        rintro e w2 ⟨rfl, hs2, hg2⟩
        obtain ⟨r2, bel2, hi2, ho2⟩ := hB.mid hg2
        have cN2 := cell_of_row w2 wr.heap.size 1 _ _ _ ho2
        simp only [two_at1] at cN2
        go_wp2_with fail
        refine (with_any nn true _ r2 hsm hi2).mono ?_
        rw [HQ2.out]
        rintro e w3 ⟨v3, rfl, r3, b3⟩
        obtain ⟨a3, c3, rfl⟩ := row_slice r3
        have cN3 : w3.cell? ⟨wr.heap.size, 1, none⟩ = some (.int .i64 nn) := by rw [b3.cell (p := ⟨wr.heap.size, 1, none⟩) (lt_of_block ho2)]; exact cN2
        have hB3 : Both w w3 B b g (.slice a3 x.length c3) (putL x nn true) := ⟨hs2.below b3, by rw [len_putL]; exact r3, bel2.trans (b3.mono bel2.size), Nat.le_trans hi2 b3.size, hB.lo, hB.wB⟩
        have HL3 : Hid ((putL x nn true).length = szN size) := by show _ = _; rw [len_putL]; exact HXL.out
        have HB3 : Hid _ := hB3
        clear hs2 hg2 r2 bel2 hi2 ho2 cN2 r3 b3 hB3
        go_wp2
        go_roundw
        case rel => exact ⟨k + 1, _, by omega, by go_num, HL3.out, HB3.out⟩
        case measure => simp [intOf]; omega
      · by_cases k1 : kk = 1
        · subst k1
          obtain ⟨q, hq⟩ : ∃ q, hasB x nn = q := ⟨_, rfl⟩
          have hq2 : (mayB x nn && (hasB x nn != false)) = q := by
            rw [← hq]
            cases hm : mayB x nn
            · rw [hasB_no hm]; rfl
            · cases hasB x nn <;> rfl
          have HQ : Hid _ := hq
          have HQ2 : Hid _ := hq2
          clear hq hq2
          go_wp2_with fail
          refine (drop_any nn _ (hB.set.below ((Below.refl _ wr).alloc (Nat.le_refl _) _))).mono ?_
          rw [HQ.out]
          rintro e w2 ⟨rfl, hs2, hg2⟩
          obtain ⟨r2, bel2, hi2, ho2⟩ := hB.mid hg2
          have cN2 := cell_of_row w2 wr.heap.size 1 _ _ _ ho2
          simp only [two_at1] at cN2
          go_wp2_with fail
          refine (with_any nn false _ r2 hsm hi2).mono ?_
          rw [HQ2.out]
          rintro e w3 ⟨v3, rfl, r3, b3⟩
          obtain ⟨a3, c3, rfl⟩ := row_slice r3
          have cN3 : w3.cell? ⟨wr.heap.size, 1, none⟩ = some (.int .i64 nn) := by rw [b3.cell (p := ⟨wr.heap.size, 1, none⟩) (lt_of_block ho2)]; exact cN2
          have hB3 : Both w w3 B b g (.slice a3 x.length c3) (putL x nn false) := ⟨hs2.below b3, by rw [len_putL]; exact r3, bel2.trans (b3.mono bel2.size), Nat.le_trans hi2 b3.size, hB.lo, hB.wB⟩
          have HL3 : Hid ((putL x nn false).length = szN size) := by show _ = _; rw [len_putL]; exact HXL.out
          have HB3 : Hid _ := hB3
          clear hs2 hg2 r2 bel2 hi2 ho2 cN2 r3 b3 hB3
          go_wp2
          go_roundw
          case rel => exact ⟨k + 1, _, by omega, by go_num, HL3.out, HB3.out⟩
          case measure => simp [intOf]; omega
        · have k0' : (kk == 0) = false := by simpa using k0
          have k1' : (kk == 1) = false := by simpa using k1
          clear k0 k1
          cases hq : frstB x
          · have HQ : Hid _ := hq
            have HZ : Hid (frstN x = 0) := frstN_no hq
            have HP2 : Hid (putL x (frst x) true = x) := takeL_no hq
            clear hq
            go_wp2_with fail
            refine (take_any _ (hB.set.below ((Below.refl _ wr).alloc (Nat.le_refl _) _))).mono ?_
            rw [HQ.out, HZ.out]
            rintro e w2 ⟨rfl, hs2, hg2⟩
            obtain ⟨r2, bel2, hi2, ho2⟩ := hB.mid hg2
            have cN2 := cell_of_row w2 wr.heap.size 1 _ _ _ ho2
            simp only [two_at1] at cN2
            go_wp2_with fail
            refine (refFirst_any _ r2 hsm).mono ?_
            rw [HQ.out, HZ.out]
            rintro e w3 ⟨rfl, rfl⟩
            have hB3 : Both w w2 B b g (.slice a9 x.length c9) x := ⟨by rw [HP2.out] at hs2; exact hs2, r2, bel2, hi2, hB.lo, hB.wB⟩
            have cN3 := cN2
            have HL3 : Hid (x.length = szN size) := HXL.out
            have HB3 : Hid _ := hB3
            clear hs2 hg2 r2 bel2 hi2 ho2 hB3
            go_wp2
            go_roundw
            case rel => exact ⟨k + 1, _, by omega, by go_num, HL3.out, HB3.out⟩
            case measure => simp [intOf]; omega
          · have HQ : Hid _ := hq
            obtain ⟨hz, hz2⟩ := frstN_yes hq
            have HZ : Hid (frstN x = frst x) := hz
            have HZ2 : Hid _ := hz2
            clear hq hz hz2
            obtain ⟨f, hf⟩ : ∃ f, frst x = f := ⟨_, rfl⟩
            rw [hf] at HZ
            have HF : Hid _ := hf
            have hfl : f ≤ x.length := by rw [← hf]; exact frst_le x
            clear hf
            go_wp2_with fail
            refine (take_any _ (hB.set.below ((Below.refl _ wr).alloc (Nat.le_refl _) _))).mono ?_
            rw [HQ.out, HZ.out]
            rintro e w2 ⟨rfl, hs2, hg2⟩
            obtain ⟨r2, bel2, hi2, ho2⟩ := hB.mid hg2
            have cN2 := cell_of_row w2 wr.heap.size 1 _ _ _ ho2
            simp only [two_at1] at cN2
            go_wp2_with fail
            refine (refFirst_any _ r2 hsm).mono ?_
            rw [HQ.out, HZ.out]
            rintro e w3 ⟨rfl, rfl⟩
            rw [HF.out] at hs2
            go_wp2_with fail
            refine (with_any f true _ r2 hsm hi2).mono ?_
            rintro e w3 ⟨v3, rfl, r3, b3⟩
            obtain ⟨a3, c3, rfl⟩ := row_slice r3
            have cN3 : w3.cell? ⟨wr.heap.size, 1, none⟩ = some (.int .i64 nn) := by rw [b3.cell (p := ⟨wr.heap.size, 1, none⟩) (lt_of_block ho2)]; exact cN2
            have hB3 : Both w w3 B b g (.slice a3 x.length c3) (putL x f true) := ⟨hs2.below b3, by rw [len_putL]; exact r3, bel2.trans (b3.mono bel2.size), Nat.le_trans hi2 b3.size, hB.lo, hB.wB⟩
            have HL3 : Hid ((putL x f true).length = szN size) := by show _ = _; rw [len_putL]; exact HXL.out
            have HB3 : Hid _ := hB3
            clear hs2 hg2 r2 bel2 hi2 ho2 cN2 r3 b3 hB3
            go_wp2
            go_roundw
            case rel => exact ⟨k + 1, _, by omega, by go_num, HL3.out, HB3.out⟩
            case measure => simp [intOf]; omega
    · have e : k = L := by omega
      subst e
      go_wp2_with (first | (go_at_call 15; refine (same_at hB rfl).mono ?_; rintro e w4 ⟨rfl, b4⟩) | (go_at_call 12; refine (lives_any _).mono ?_; rintro e w5 ⟨rfl, b5⟩))
      go_ret
      exact ⟨rfl, hB.bel.trans ((b4.mono hB.bel.size).trans (b5.mono (Nat.le_trans hB.bel.size b4.size)))⟩

theorem walk {H : Type} {enc : TypeId × Value → H} {w : World} {base : Nat} {v0 v1 : Value} {d0 d1 : DataW H} {p0 p1 : List MemPlace}
    (o0 : Value.okWide Try.prog w .any base 3 v0) (o1 : Value.okWide Try.prog w .any base 22 v1)
    (h0 : DataW.Trod enc Try.prog w 0 (fun _ => true) true 3 v0 d0 p0) (h1 : DataW.Trod enc Try.prog w 0 (fun _ => true) true 22 v1 d1 p1) :
    Calls Try.prog 3 #[v0, v1] w fun e w' => e = .returned (.bool true) ∧ Below w.heap.size w w' := by
  obtain ⟨size, rfl, _⟩ := openOne Try.underlying3 o0 h0
  obtain ⟨a, L, c, K, N, rfl, hL, hp⟩ := openPairs Try.underlying22 Try.underlying35 (by kernel_rfl) rfl rfl (by kernel_rfl) (by kernel_rfl) Try.underlying3 Try.underlying3 o1 h1
  by_cases hfar : 100 < L ∨ (400 < size ∧ size < 4000)
  · exact run_far size a L c w hL hfar
  · by_cases hs : size ≤ 400
    · exact run_small size a L c K N w (by omega) hp hs
    · exact run_great size a L c K N w (by omega) hp (by omega)

set_option maxRecDepth 100000 in
theorem lifted (os : Os) (started : os.Started) (H : Type) (enc : TypeId × Value → H) :
    ReturnsInHanded {} Try.checked os 3 .any (Rows.bitsPlaysSpec.pre6 enc Try.prog Try.f3 Rows.bitsPlaysRow.domain false) (Rows.bitsPlaysSpec.post enc Try.prog Try.f3 false true false false) := by
  refine returnsInHanded_of_change (C := Try.checked) own started (by kernel_rfl) Try.func3
    (ChangeSpec.witness6 (enc := enc) (C := Try.checked) false ⟨#[], #[.int .i64 0, .slice none 0 0], []⟩ 8 (by kernel_rfl) (by kernel_rfl) (by kernel_rfl) (by kernel_rfl)) ?_
  intro W base args ds gs before hval0 hW hcnd _
  have hval : ∀ (j : Nat) t v, Try.f3.params[j]? = some t → args[j]? = some v → Value.okWide Try.prog W .any base t v := hval0
  have hW' := hW
  obtain ⟨p, q, hA0, hV, rfl, hfz, hnd⟩ := hW
  have hA : DataW.TrodAll enc Try.prog W 0 (fun _ => true) true Try.f3.params.toList args.toList ds p := hA0
  rw [Try.params3] at hA hval
  obtain ⟨v0, vs0, d0, ds0, p0, q0, hargs, rfl, rfl, h0, r0⟩ := trodAll_cons hA
  obtain ⟨v1, vs1, d1, ds1, p1, q1, rfl, rfl, rfl, h1, r1⟩ := trodAll_cons r0
  obtain ⟨rfl, rfl, rfl⟩ := trodAll_nil r1
  obtain rfl : args = #[v0, v1] := by cases args; simp_all
  obtain ⟨rfl, rfl⟩ := trodVars_none hV
  have o0 := hval 0 3 v0 rfl rfl
  have lt0 : ∀ x ∈ p0, x.block < W.heap.size := by obtain ⟨m, hm⟩ := h0; exact DataW.trod_lt m _ _ _ hm
  have o1 := hval 1 22 v1 rfl rfl
  have lt1 : ∀ x ∈ p1, x.block < W.heap.size := by obtain ⟨m, hm⟩ := h1; exact DataW.trod_lt m _ _ _ hm
  clear hA0 hval0
  refine (walk o0 o1 h0 h1).mono fun e W' ⟨he, bel⟩ => ?_
  subst he
  exact ⟨_, rfl, _, _, _, [], _, [], hW', trodAll_mk1 (shut_bool Try.underlying4 _), (trodAll_cons_mk (Below.trod laidOut (by kernel_rfl) (of_decide_eq_true (by kernel_rfl)) h0 bel lt0) (trodAll_cons_mk (Below.trod laidOut (by kernel_rfl) (of_decide_eq_true (by kernel_rfl)) h1 bel lt1) trodAll_mk0)), rfl, bel.frame _, fun h => by cases h⟩

theorem over : Rows.bitsPlaysRow.holds Try.pinned (OpenSpec.ofChange Rows.bitsPlaysSpec) :=
  OpenClaim.holds_of_wide 3 Try.f3 rfl rfl rfl rfl rfl rfl rfl ⟨rfl, rfl, rfl, rfl, rfl⟩ rfl rfl rfl rfl rfl (by kernel_rfl) Try.func3 (by kernel_rfl)
    (of_decide_eq_true (by kernel_rfl)) (by unfold Func.isWrapper; first | (rw [if_pos (by decide +kernel)]; kernel_rfl) | (rw [if_neg (by decide +kernel)]; exact ⟨rfl, rfl⟩))
    (fun os started H enc _ => lifted os started H enc)
end Go.Proofs.Ytnihgibgfnhbiaa.BitsPlays
namespace Go.Proofs.Ytnihgibgfnhbiaa
/-- The statement. -/
theorem bitsPlays_holds : Rows.BitsPlaysSaid := BitsPlays.over
#print axioms bitsPlays_holds
end Go.Proofs.Ytnihgibgfnhbiaa
