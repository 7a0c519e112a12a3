/- Proved: gunnylaw09.SlotsFine returns true for all uint8 and all lists of uint8: if no access fails, as many pages are put as there are slots, and each is told as it was put. No conditions. -/
import Derived.Test.YtacggabopdoijaaSLives
import Derived.Test.YtacggabopdoijaaBOpen
namespace Go.Proofs.Ytacggabopdoijaa.SlotsFine
open Go.ChangeShapes Go.WideShapes Go.ChangeAt Go.RowKit
set_option linter.unusedVariables false
theorem own : ownKnob Try.prog.godebug = none := by kernel_rfl
theorem laidOut : laidOutB Try.prog = true := by kernel_rfl

/-- The first j of n slots are in use. -/
def fineX (n j : Nat) : List Bool := (List.range n).map fun i => decide (i < j)
theorem fx_len (n j : Nat) : (fineX n j).length = n := by simp [fineX]
theorem fx_get {n j i : Nat} (h : i < n) : (fineX n j).getD i false = decide (i < j) := by
  unfold fineX
  rw [List.getD_eq_getElem?_getD, List.getElem?_map, List.getElem?_range h]
  rfl
theorem fx_new (n : Nat) : List.replicate n false = fineX n 0 := by
  apply List.ext_getElem (by simp [fineX])
  intro i h1 h2
  simp [fineX]
theorem fx_frst {n j : Nat} (h : j < n) : frst (fineX n j) = j ∧ frstB (fineX n j) = true := by
  have e : frst (fineX n j) = j := frst_at (by rw [fx_len]; exact h) (by rw [fx_get h]; simp) (fun i hi => by rw [fx_get (by omega)]; simpa using hi)
  exact ⟨e, by rw [frstB, e, fx_len]; simpa using h⟩
theorem fx_full {n j : Nat} (h : n ≤ j) : frstB (fineX n j) = false := by
  have e : frst (fineX n j) = (fineX n j).length := frst_none (fun i hi => by rw [fx_len] at hi; rw [fx_get hi]; simp; omega)
  rw [frstB, e]
  simp
theorem fx_put {n j : Nat} (h : j < n) : putL (fineX n j) (j : Int) true = fineX n (j + 1) := by
  have e : putL (fineX n j) (j : Int) true = (fineX n j).set j true := by simp [putL]
  rw [e]
  apply List.ext_getElem (by simp [fineX])
  intro i h1 h2
  rw [List.getElem_set]
  simp only [fineX, List.getElem_map, List.getElem_range]
  by_cases e : j = i
  · subst e; simp
  · rw [if_neg e]
    by_cases e2 : i < j
    · rw [decide_eq_true e2, decide_eq_true (by omega)]
    · rw [decide_eq_false e2, decide_eq_false (by omega)]
theorem fx_past {n j : Nat} (h : n ≤ j) : fineX n j = fineX n (j + 1) := by
  apply List.ext_getElem (by simp [fineX])
  intro i h1 h2
  have hi : i < n := by simpa [fineX] using h1
  simp only [fineX, List.getElem_map, List.getElem_range]
  rw [decide_eq_true (by omega), decide_eq_true (by omega)]
theorem fa_nil (k : Nat) : fa [] k = false := fa_far (Nat.zero_le _)
theorem ask_nil (k : Nat) : askB [] k = false := (ask_fine (fun j _ => fa_nil _)).1
theorem ft_nil (k : Nat) : ft [] k = 0 := by simp [ft]

/-- The rounds' state: j pages were put. -/
structure Held (w wr : World) (Q E r n j k : Nat) (F : Nat → Nat) (pg : Nat → List Nat) : Prop where
  slots : SlotsAt Q E wr r n [] k (fineX n j) pg
  pgs : ∀ i, i < j → i < n → pg i = fillP (F i)
  bel : Below w.heap.size w wr
  qs : w.heap.size ≤ Q
  kj : k ≤ 8 * j
theorem Held.put {w wr w2 : World} {Q E r n j k : Nat} {F : Nat → Nat} {pg : Nat → List Nat} {page : List Nat} (h : Held w wr Q E r n j k F pg) (hp : page = fillP (F j)) (h2 : SlotsAt Q E w2 r n [] (puK 4096 [] k (fineX n j)) (puX 4096 [] k (fineX n j)) (puG 4096 [] k (fineX n j) pg page)) (t2 : Turns Q E wr w2) :
    Held w w2 Q E r n (j + 1) (puK 4096 [] k (fineX n j)) F (puG 4096 [] k (fineX n j) pg page) := by
  have e := h.slots.hi
  have hk := puK_le 4096 [] k (fineX n j)
  have kj := h.kj
  refine ⟨?_, fun i hi hin => ?_, h.bel.trans ((t2.below (by omega)).mono h.qs), h.qs, by omega⟩
  · rcases Nat.lt_or_ge j n with hlt | hge
    · obtain ⟨f1, f2⟩ := fx_frst hlt
      rw [(pu_ok (pg := pg) (page := page) (pu_fine f2 (ask_nil k)).1).2.1, f1, fx_put hlt] at h2
      exact h2
    · have f2 := (pu_full (zs := []) (k := k) (fx_full hge)).1
      rw [(pu_err (pg := pg) (page := page) (show puE 4096 [] k (fineX n j) ≠ 0 by rw [f2]; decide)).2.1] at h2
      rw [← fx_past hge]
      exact h2
  · rcases Nat.lt_or_ge j n with hlt | hge
    · obtain ⟨f1, f2⟩ := fx_frst hlt
      rw [(pu_ok (pg := pg) (page := page) (pu_fine f2 (ask_nil k)).1).2.2, f1]
      unfold upd
      by_cases e : i = j
      · subst e; rw [if_pos rfl]; exact hp
      · rw [if_neg e]; exact h.pgs i (by omega) hin
    · have f2 := (pu_full (zs := []) (k := k) (fx_full hge)).1
      rw [(pu_err (pg := pg) (page := page) (show puE 4096 [] k (fineX n j) ≠ 0 by rw [f2]; decide)).2.2]
      exact h.pgs i (by omega) hin
theorem Held.turn {w wr w2 : World} {Q E r n j k k' : Nat} {F : Nat → Nat} {pg : Nat → List Nat} (h : Held w wr Q E r n j k F pg) (h2 : SlotsAt Q E w2 r n [] k' (fineX n j) pg) (t2 : Turns Q E wr w2) : SlotsAt Q E w2 r n [] k' (fineX n j) pg ∧ Below w.heap.size w w2 := by
  have e := h.slots.hi
  exact ⟨h2, h.bel.trans ((t2.below (by omega)).mono h.qs)⟩

set_option maxRecDepth 100000 in
set_option maxHeartbeats 4000000 in
theorem run (v : Nat) (a : Option Addr) (c : Nat) (zs : List Int) (w : World) (hv : v < 256) (hL : zs.length ≤ maxLen) (hz : IntsAt .u8 w a zs) (hb : ∀ x ∈ zs, (Lit.int .u8 x).wf = true) :
    Calls Try.prog 5 #[.int .u8 (v : Int), .slice a zs.length c] w fun e w' => e = .returned (.bool true) ∧ Below w.heap.size w w' := by
  obtain ⟨L, hLL⟩ : ∃ L, zs.length = L := ⟨_, rfl⟩
  rw [hLL] at hL
  rw [hLL]
  have HLL : Hid (zs.length = L) := hLL
  have HZ : Hid (IntsAt .u8 w a zs) := hz
  have HB : Hid (∀ i, i < L → ∃ u : Nat, zs.getD i 0 = (u : Int) ∧ u < 256) := by
    intro i hi
    have hi' : i < zs.length := by omega
    have := bounds_u8 (hb _ (List.getElem_mem hi'))
    refine ⟨(zs.getD i 0).toNat, ?_, ?_⟩
    · rw [List.getD_eq_getElem?_getD, List.getElem?_eq_getElem hi', Option.getD_some]; omega
    · rw [List.getD_eq_getElem?_getD, List.getElem?_eq_getElem hi', Option.getD_some]; omega
  obtain ⟨F, hF⟩ : ∃ F : Nat → Nat, F = fun i => (zs.getD i 0).toNat := ⟨_, rfl⟩
  have HF : Hid (F = fun i => (zs.getD i 0).toNat) := hF
  clear hLL hz hb hF
  unfold maxLen at hL
  go_enter Try.func5, Try.ntmps5
  by_cases hlong : 12 < L
  · go_wp2_with fail
    refine (lives_any _).mono ?_
    rintro e w1 ⟨rfl, hb⟩
    go_wp2
    go_ret
    exact ⟨rfl, hb⟩
  go_wp2_with fail
  rw [show ((v : Int) % 9) = ((v % 9 : Nat) : Int) by omega]
  have hn9 : v % 9 < 9 := by omega
  generalize v % 9 = n at *
  refine (slNew n (fun _ => []) _ (by omega) (BoolsAt.none _) (by omega)).mono ?_
  rintro e w1 ⟨r, rfl, h1, b1⟩
  rw [fx_new] at h1
  have HH : Hid (Held w w1 w.heap.size w1.heap.size r n 0 0 F (fun _ => [])) := ⟨h1, fun i hi => by omega, b1, Nat.le_refl _, by omega⟩
  clear h1 b1
  generalize w1.heap.size = E at *
  obtain ⟨Q, hQ⟩ : ∃ Q, w.heap.size = Q := ⟨_, rfl⟩
  have HH0 : Hid (Held w w1 Q E r n 0 0 F (fun _ => [])) := by have := HH.out; rw [hQ] at this; exact this
  clear hQ HH
  go_wp2_with fail
  go_loopg [8, 9, 10] L (fun gk i _ _ wr => ∃ (j k : Nat) (pg : Nat → List Nat), j ≤ L ∧ gk = L - j ∧ i = .int .i64 j ∧ Held w wr Q E r n j k F pg)
  case atStart => exact ⟨0, 0, _, Nat.zero_le _, rfl, rfl, HH0.out⟩
  case round =>
    obtain ⟨j, k, pg, hj, rfl, rfl, hH⟩ := hrel
    have hkj := hH.kj
    have Hh : Hid (Held w wr Q E r n j k F pg) := hH
    clear hH HH0
    by_cases hlt : j < L
    · have i1 : (j : Int) < (L : Int) := by omega
      obtain ⟨b, off, rfl, cj⟩ := HZ.out.later Hh.out.bel (i := j) (by rw [HLL.out]; exact hlt)
      obtain ⟨u, hu, hu2⟩ := HB.out j hlt
      have HFJ : Hid (F j = u) := by show _ = _; rw [HF.out]; show (zs.getD j 0).toNat = u; rw [hu]; rfl
      rw [hu] at cj
      clear hu
      go_wp2_with fail
      refine (filled_is u _).mono ?_
      rintro e w2 ⟨g2, rfl, own2, b2⟩
      have HO2 : Hid (w2.ownsRow wr.heap.size 5 1 (.slice (some ⟨g2, 0, none⟩) 4096 4096) 4096 (bv (fillP u))) := own2
      have HS2 : Hid (SlotsAt Q E w2 r n [] k (fineX n j) pg) := Hh.out.slots.below b2
      have HB2 : Hid (Below wr.heap.size wr w2) := b2
      have HE : Hid (E ≤ wr.heap.size) := Hh.out.slots.hi.1
      clear own2 b2
      go_wp2_with fail
      refine (slPut (L := 4096) _ HS2.out (by omega) (by unfold maxLen; omega) (put_wants HO2.out (fillP_byte u) HE.out)).mono ?_
      rintro e w3 ⟨rfl, h3, t3⟩
      have H3 : Hid (Held w w3 Q E r n (j + 1) (puK 4096 [] k (fineX n j)) F (puG 4096 [] k (fineX n j) pg (fillP u))) := Hh.out.put (by rw [HFJ.out]) h3 ((Turns.of_below HB2.out).trans t3)
      clear h3 t3 HS2 HO2 HB2 HE
      by_cases hjn : j < n
      · have i2 : (j : Int) < (n : Int) := by omega
        obtain ⟨f1, f2⟩ := fx_frst hjn
        have hE := (pu_fine f2 (ask_nil k)).1
        have hN := (pu_ok (pg := pg) (page := []) hE).1
        rw [f1] at hN
        rw [hE, hN]
        clear hE hN f1 f2
        go_wp2
        go_roundg (L - (j + 1))
        case measure => omega
        case rel => exact ⟨j + 1, _, _, by omega, rfl, by go_num, H3.out⟩
      · have i2 : ¬ (j : Int) < (n : Int) := by omega
        have i3 : (n : Int) ≤ (j : Int) := by omega
        have hE := (pu_full (zs := []) (k := k) (fx_full (n := n) (j := j) (by omega))).1
        have hN := (pu_err (pg := pg) (page := []) (show puE 4096 [] k (fineX n j) ≠ 0 by rw [hE]; decide)).1
        rw [hE, hN]
        clear hE hN
        go_wp2
        go_roundg (L - (j + 1))
        case measure => omega
        case rel => exact ⟨j + 1, _, _, by omega, rfl, by go_num, H3.out⟩
    · have e : j = L := by omega
      have jj : ¬ (j : Int) < (L : Int) := by omega
      subst e
      go_wp2_with fail
      have HS0 : Hid (SlotsAt Q E wr r n [] k (fineX n j) pg) := Hh.out.slots
      have HB0 : Hid (Below w.heap.size w wr) := Hh.out.bel
      have HPG : Hid (∀ i, i < j → i < n → pg i = fillP (F i)) := Hh.out.pgs
      have HQS : Hid (w.heap.size ≤ Q) := Hh.out.qs
      have hk0 : k ≤ 96 := by have := Hh.out.kj; omega
      clear Hh
      go_loopg [11, 12, 13] j (fun gk i _ _ wq => ∃ (l k : Nat), l ≤ j ∧ l ≤ n ∧ gk = j - l ∧ i = .int .i64 l ∧ SlotsAt Q E wq r n [] k (fineX n j) pg ∧ Below w.heap.size w wq ∧ k ≤ 96 + 8 * l)
      case atStart => exact ⟨0, k, by omega, by omega, rfl, rfl, HS0.out, HB0.out, by omega⟩
      case round =>
        obtain ⟨l, k, hl, hln, rfl, rfl, hS, hB, hk⟩ := hrel
        obtain ⟨w0, hw0⟩ : ∃ w0, w0 = wr := ⟨_, rfl⟩
        subst hw0
        have Hs : Hid (SlotsAt Q E w0 r n [] k (fineX n j) pg) := hS
        have Hb : Hid (Below w.heap.size w w0) := hB
        clear hS hB HS0 HB0
        by_cases hlj : l < j
        · have i1 : (l : Int) < (j : Int) := by omega
          by_cases hln2 : l < n
          · have i2 : (l : Int) < (n : Int) := by omega
            have HAS : Hid (hasB (fineX n j) (l : Int) = true) := by show _ = _; rw [hasB_nat, fx_get hln2]; simpa using hlj
            go_wp2_with fail
            refine (slPage (l : Int) _ Hs.out (by omega)).mono ?_
            rintro e w2 ⟨v2, rfl, own2, h2, t2⟩
            obtain ⟨e1, e2, e3⟩ := pg_fine (pg := pg) HAS.out (ask_nil k)
            rw [e3, Int.toNat_natCast, HPG.out l hlj hln2, fillP_len] at own2
            rw [e2] at h2
            rw [e1]
            obtain ⟨a2, c2, rfl⟩ := row_slice own2
            have H2 : Hid (SlotsAt Q E w2 r n [] (k + 8) (fineX n j) pg) := h2
            have B2 : Hid (Below w.heap.size w w2) := Hb.out.trans ((t2.below (by have := Hs.out.hi; omega)).mono HQS.out)
            obtain ⟨b, off, rfl, cj⟩ := HZ.out.later B2.out (i := l) (by rw [HLL.out]; exact hlj)
            obtain ⟨u, hu, hu2⟩ := HB.out l hlj
            have HFJ : Hid (F l = u) := by show _ = _; rw [HF.out]; show (zs.getD l 0).toNat = u; rw [hu]; rfl
            rw [hu] at cj
            rw [HFJ.out] at own2
            have HO2 : Hid (w2.ownsRow w0.heap.size 5 1 (.slice a2 4096 c2) 4096 (bv (fillP u))) := own2
            have q0 := conv_any own2.drew
            have cjd : w2.drew.cell? ⟨b, off + l, none⟩ = some (.int .u8 (u : Int)) := cj
            have HFL : Hid (∀ w : World, Calls Try.prog 7 #[.int .u8 (u : Int)] w fun e w' => ∃ g, e = .returned (.slice (some ⟨g, 0, none⟩) 4096 4096) ∧ w'.ownsRow w.heap.size 5 1 (.slice (some ⟨g, 0, none⟩) 4096 4096) 4096 (bv (fillP u)) ∧ Below w.heap.size w w') := fun w => filled_is u w
            have hbl : b < w2.heap.size := by simpa using World.block_lt_of_cell? w2 _ cj
            clear own2 h2 t2 hu e1 e2 e3
            generalize fillP u = page at *
            go_upto_region 17 with (fail)
            refine wp_region_held_drew (S := fun w' => (convert 28 9 (.slice a2 4096 c2)).run Try.prog w' = .ok (.string (strB page)) w' ∧ w'.cell? ⟨b, off + l, none⟩ = some (.int .u8 (u : Int))) (by kernel_rfl) ⟨q0, cjd⟩ (fun hHeld => ?_)
            refine wpAnyH_take (i := 0) (oi := { dst := some 86, op := Op.move (Operand.tmp 13), type := 25, pos := "law.go:173", after := #[], guard := none }) (v := ?v0) rfl (by kernel_rfl) (by kernel_rfl) (by kernel_rfl) (fun _ _ _ h => h) (Or.inl ⟨by rfl, ?hy0⟩) (by assumption) ?rest0
            case hy0 =>
              intro w hSw
              try dsimp only at hSw
              go_simp
              try with_reducible rfl
            try simp only [Act.put, List.setIfInBounds_toArray, List.set_cons_zero, List.set_cons_succ]
            refine wpAnyH_take (i := 1) (oi := { dst := some 87, op := Op.binOp BinOp.neq 25 (Operand.tmp 86) (Operand.const (Value.int IntKind.i64 0)) 25, type := 4, pos := "law.go:173", after := #[{ on := 0, ground := Ground.data }], guard := none }) (v := ?v1) rfl (by kernel_rfl) (by kernel_rfl) (by kernel_rfl) (fun _ _ _ h => h) (Or.inl ⟨by rfl, ?hy1⟩) (by assumption) ?rest1
            case hy1 =>
              intro w hSw
              try dsimp only at hSw
              go_simp
              try with_reducible rfl
            try simp only [Act.put, List.setIfInBounds_toArray, List.set_cons_zero, List.set_cons_succ]
            refine wpAnyH_take (i := 2) (oi := { dst := some 88, op := Op.move (Operand.tmp 87), type := 4, pos := "law.go:173", after := #[{ on := 1, ground := Ground.data }], guard := none }) (v := ?v2) rfl (by kernel_rfl) (by kernel_rfl) (by kernel_rfl) (fun _ _ _ h => h) (Or.inl ⟨by rfl, ?hy2⟩) (by assumption) ?rest2
            case hy2 =>
              intro w hSw
              try dsimp only at hSw
              go_simp
              try with_reducible rfl
            try simp only [Act.put, List.setIfInBounds_toArray, List.set_cons_zero, List.set_cons_succ]
            refine wpAnyH_take (i := 3) (oi := { dst := some 89, op := Op.move (Operand.tmp 12), type := 28, pos := "law.go:173", after := #[{ on := 2, ground := Ground.guard }], guard := some (2, false) }) (v := ?v3) rfl (by kernel_rfl) (by kernel_rfl) (by kernel_rfl) (fun _ _ _ h => h) (Or.inl ⟨by rfl, ?hy3⟩) (by assumption) ?rest3
            case hy3 =>
              intro w hSw
              try dsimp only at hSw
              go_simp
              try with_reducible rfl
            try simp only [Act.put, List.setIfInBounds_toArray, List.set_cons_zero, List.set_cons_succ]
            refine wpAnyH_take (i := 4) (oi := { dst := some 90, op := Op.convert 28 9 (Operand.tmp 89), type := 9, pos := "law.go:173", after := #[{ on := 3, ground := Ground.data }, { on := 2, ground := Ground.guard }], guard := some (2, false) }) (v := ?v4) rfl (by kernel_rfl) (by kernel_rfl) (by kernel_rfl) (fun _ _ _ h => h) (Or.inl ⟨by rfl, ?hy4⟩) (by assumption) ?rest4
            case hy4 =>
              intro w hSw
              try dsimp only at hSw
              go_simp
              try with_reducible rfl
            try simp only [Act.put, List.setIfInBounds_toArray, List.set_cons_zero, List.set_cons_succ]
            refine wpAnyH_take (i := 5) (oi := { dst := some 91, op := Op.move (Operand.tmp 1), type := 28, pos := "law.go:173", after := #[{ on := 2, ground := Ground.guard }], guard := some (2, false) }) (v := ?v5) rfl (by kernel_rfl) (by kernel_rfl) (by kernel_rfl) (fun _ _ _ h => h) (Or.inl ⟨by rfl, ?hy5⟩) (by assumption) ?rest5
            case hy5 =>
              intro w hSw
              try dsimp only at hSw
              go_simp
              try with_reducible rfl
            try simp only [Act.put, List.setIfInBounds_toArray, List.set_cons_zero, List.set_cons_succ]
            refine wpAnyH_take (i := 6) (oi := { dst := some 92, op := Op.move (Operand.tmp 11), type := 3, pos := "law.go:173", after := #[{ on := 2, ground := Ground.guard }], guard := some (2, false) }) (v := ?v6) rfl (by kernel_rfl) (by kernel_rfl) (by kernel_rfl) (fun _ _ _ h => h) (Or.inl ⟨by rfl, ?hy6⟩) (by assumption) ?rest6
            case hy6 =>
              intro w hSw
              try dsimp only at hSw
              go_simp
              try with_reducible rfl
            try simp only [Act.put, List.setIfInBounds_toArray, List.set_cons_zero, List.set_cons_succ]
            refine wpAnyH_take (i := 7) (oi := { dst := some 93, op := Op.indexAddr 28 (Operand.tmp 91) (Operand.tmp 92), type := 0, pos := "law.go:173", after := #[{ on := 5, ground := Ground.data }, { on := 6, ground := Ground.data }, { on := 2, ground := Ground.guard }], guard := some (2, false) }) (v := ?v7) rfl (by kernel_rfl) (by kernel_rfl) (by kernel_rfl) (fun _ _ _ h => h) (Or.inl ⟨by rfl, ?hy7⟩) (by assumption) ?rest7
            case hy7 =>
              intro w hSw
              try dsimp only at hSw
              go_simp
              try with_reducible rfl
            try simp only [Act.put, List.setIfInBounds_toArray, List.set_cons_zero, List.set_cons_succ]
            refine wpAnyH_take (i := 8) (oi := { dst := some 94, op := Op.load 5 (Operand.tmp 93), type := 5, pos := "law.go:173", after := #[{ on := 7, ground := Ground.data }, { on := 2, ground := Ground.guard }], guard := some (2, false) }) (v := ?v8) rfl (by kernel_rfl) (by kernel_rfl) (by kernel_rfl) (fun _ _ _ h => h) (Or.inl ⟨by rfl, ?hy8⟩) (by assumption) ?rest8
            case hy8 =>
              intro w hSw
              try dsimp only at hSw
              go_simp
              try with_reducible rfl
            try simp only [Act.put, List.setIfInBounds_toArray, List.set_cons_zero, List.set_cons_succ]
            refine wpAnyH_ready (rs := [9]) (by kernel_rfl) (by simp) ?_
            refine AllReadyH.cons (o := { dst := some 95, op := Op.call { callee := Callee.value (Operand.func 7), args := #[Operand.tmp 94], argTypes := #[5] }, type := 28, pos := "law.go:173", after := #[{ on := 8, ground := Ground.data }, { on := 2, ground := Ground.chain }, { on := 2, ground := Ground.guard }], guard := some (2, false) }) rfl (fun KK9 hK9 => ?_) ?more9
            case more9 => exact AllReadyH.nil
            go_simp
            refine (HFL.out _).mono ?_
            rintro e w9 ⟨g9, rfl, own9, b9⟩
            go_simp
            refine hK9.out _ _ ?keep9 (fun hHeld => ?_)
            case keep9 => exact ⟨conv_any (row_below HO2.out.drew b9), by rw [← cjd]; exact World.cell?_of_block (b9.block b hbl)⟩
            have q2 := conv_any own9
            have H9 : Hid (SlotsAt Q E w9 r n [] (k + 8) (fineX n j) pg) := (H2.out.drewN 1).below b9
            have BF : Hid (Below w.heap.size w w9) := B2.out.trans (((drew_below _ _).trans b9).mono B2.out.size)
            clear hK9 KK9 own9 b9 q0 cj cjd
            try simp only [Act.put, List.setIfInBounds_toArray, List.set_cons_zero, List.set_cons_succ]
            refine wpAnyH_ready (rs := [10]) (by kernel_rfl) (by simp) ?_
            refine AllReadyH.cons (o := { dst := some 96, op := Op.convert 28 9 (Operand.tmp 95), type := 9, pos := "law.go:173", after := #[{ on := 9, ground := Ground.data }, { on := 2, ground := Ground.guard }], guard := some (2, false) }) rfl (fun KK9 hK9 => ?_) ?more10
            case more10 => exact AllReadyH.nil
            go_simp
            refine hK9.out _ _ (by assumption) (fun hHeld => ?_)
            clear hK9 KK9
            try simp only [Act.put, List.setIfInBounds_toArray, List.set_cons_zero, List.set_cons_succ]
            refine wpAnyH_take (i := 11) (oi := { dst := some 97, op := Op.binOp BinOp.neq 9 (Operand.tmp 90) (Operand.tmp 96) 9, type := 4, pos := "law.go:173", after := #[{ on := 4, ground := Ground.data }, { on := 10, ground := Ground.data }, { on := 2, ground := Ground.guard }], guard := some (2, false) }) (v := ?v11) rfl (by kernel_rfl) (by kernel_rfl) (by kernel_rfl) (fun _ _ _ h => h) (Or.inl ⟨by rfl, ?hy11⟩) (by assumption) ?rest11
            case hy11 =>
              intro w hSw
              try dsimp only at hSw
              go_simp
              try with_reducible rfl
            try simp only [Act.put, List.setIfInBounds_toArray, List.set_cons_zero, List.set_cons_succ]
            refine wpAnyH_take (i := 12) (oi := { dst := some 98, op := Op.pick (Operand.tmp 88) (Operand.const (Value.bool true)) (Operand.tmp 97), type := 4, pos := "law.go:173", after := #[{ on := 2, ground := Ground.data }, { on := 11, ground := Ground.data }], guard := none }) (v := ?v12) rfl (by kernel_rfl) (by kernel_rfl) (by kernel_rfl) (fun _ _ _ h => h) (Or.inl ⟨by rfl, ?hy12⟩) (by assumption) ?rest12
            case hy12 =>
              intro w hSw
              try dsimp only at hSw
              go_simp
              try with_reducible rfl
            try simp only [Act.put, List.setIfInBounds_toArray, List.set_cons_zero, List.set_cons_succ]
            refine wpAnyH_done (by kernel_rfl) ?_ _
            go_wp2
            go_roundg (j - (l + 1))
            case measure => omega
            case rel => exact ⟨l + 1, k + 8, by omega, by omega, rfl, by go_num, H9.out, BF.out, by omega⟩
          · have i2 : ¬ (l : Int) < (n : Int) := by omega
            obtain ⟨M, d, sb, g, P, hin, _⟩ := Hs.out
            have c0 := hin.c0
            have HD : Hid (DiskAt Q M w0 d (n * 8) [] k P) := hin.disk
            clear hin
            go_wp2_with fail
            refine (dFailed_is _ HD.out (ft_nil k)).mono ?_
            rintro e w' ⟨rfl, rfl⟩
            go_wp2_with fail
            refine (lives_any _).mono ?_
            rintro e w3 ⟨rfl, b3⟩
            have hfin := Hb.out.trans (b3.mono Hb.out.size)
            clear b3
            go_wp2
            go_ret
            exact ⟨rfl, hfin⟩
        · have i1 : ¬ (l : Int) < (j : Int) := by omega
          obtain ⟨M, d, sb, g, P, hin, _⟩ := Hs.out
          have c0 := hin.c0
          have HD : Hid (DiskAt Q M w0 d (n * 8) [] k P) := hin.disk
          clear hin
          go_wp2_with fail
          refine (dFailed_is _ HD.out (ft_nil k)).mono ?_
          rintro e w' ⟨rfl, rfl⟩
          go_wp2_with fail
          refine (lives_any _).mono ?_
          rintro e w3 ⟨rfl, b3⟩
          have hfin := Hb.out.trans (b3.mono Hb.out.size)
          clear b3
          go_wp2
          go_ret
          exact ⟨rfl, hfin⟩

theorem walk {H : Type} {enc : TypeId × Value → H} {w : World} {base : Nat} {v0 v1 : Value} {d0 d1 : DataW H} {p0 p1 : List MemPlace}
    (o0 : Value.okWide Try.prog w .any base 5 v0) (o1 : Value.okWide Try.prog w .any base 28 v1)
    (h0 : DataW.Trod enc Try.prog w 0 (fun _ => true) true 5 v0 d0 p0) (h1 : DataW.Trod enc Try.prog w 0 (fun _ => true) true 28 v1 d1 p1) :
    Calls Try.prog 5 #[v0, v1] w fun e w' => e = .returned (.bool true) ∧ Below w.heap.size w w' := by
  obtain ⟨z, rfl, hz⟩ := openOne Try.underlying5 o0 h0
  obtain ⟨a, L, c, zs, rfl, hl, hL, hzs, hb⟩ := openList Try.underlying28 Try.underlying5 (by kernel_rfl) o1 h1
  subst hl
  have hz2 := bounds_u8 hz
  obtain ⟨v, rfl⟩ := Int.eq_ofNat_of_zero_le hz2.1
  exact run v a c zs w (by omega) hL hzs hb

set_option maxRecDepth 100000 in
theorem lifted (os : Os) (started : os.Started) (H : Type) (enc : TypeId × Value → H) :
    ReturnsInHanded {} Try.checked os 5 .any (Rows.slotsFineSpec.pre6 enc Try.prog Try.f5 Rows.slotsFineRow.domain false) (Rows.slotsFineSpec.post enc Try.prog Try.f5 false true false false) := by
  refine returnsInHanded_of_change (C := Try.checked) own started (by kernel_rfl) Try.func5
    (ChangeSpec.witness6 (enc := enc) (C := Try.checked) false ⟨#[], #[.int .u8 0, .slice none 0 0], []⟩ 8 (by kernel_rfl) (by kernel_rfl) (by kernel_rfl) (by kernel_rfl)) ?_
  intro W base args ds gs before hval0 hW hcnd _
  have hval : ∀ (j : Nat) t v, Try.f5.params[j]? = some t → args[j]? = some v → Value.okWide Try.prog W .any base t v := hval0
  have hW' := hW
  obtain ⟨p, q, hA0, hV, rfl, hfz, hnd⟩ := hW
  have hA : DataW.TrodAll enc Try.prog W 0 (fun _ => true) true Try.f5.params.toList args.toList ds p := hA0
  rw [Try.params5] at hA hval
  obtain ⟨v0, vs0, d0, ds0, p0, q0, hargs, rfl, rfl, h0, r0⟩ := trodAll_cons hA
  obtain ⟨v1, vs1, d1, ds1, p1, q1, rfl, rfl, rfl, h1, r1⟩ := trodAll_cons r0
  obtain ⟨rfl, rfl, rfl⟩ := trodAll_nil r1
  obtain rfl : args = #[v0, v1] := by cases args; simp_all
  obtain ⟨rfl, rfl⟩ := trodVars_none hV
  have o0 := hval 0 5 v0 rfl rfl
  have lt0 : ∀ x ∈ p0, x.block < W.heap.size := by obtain ⟨m, hm⟩ := h0; exact DataW.trod_lt m _ _ _ hm
  have o1 := hval 1 28 v1 rfl rfl
  have lt1 : ∀ x ∈ p1, x.block < W.heap.size := by obtain ⟨m, hm⟩ := h1; exact DataW.trod_lt m _ _ _ hm
  clear hA0 hval0
  refine (walk o0 o1 h0 h1).mono fun e W' ⟨he, bel⟩ => ?_
  subst he
  exact ⟨_, rfl, _, _, _, [], _, [], hW', trodAll_mk1 (shut_bool Try.underlying4 _), (trodAll_cons_mk (Below.trod laidOut (by kernel_rfl) (of_decide_eq_true (by kernel_rfl)) h0 bel lt0) (trodAll_cons_mk (Below.trod laidOut (by kernel_rfl) (of_decide_eq_true (by kernel_rfl)) h1 bel lt1) trodAll_mk0)), rfl, bel.frame _, fun h => by cases h⟩

theorem over : Rows.slotsFineRow.holds Try.pinned (OpenSpec.ofChange Rows.slotsFineSpec) :=
  OpenClaim.holds_of_wide 5 Try.f5 rfl rfl rfl rfl rfl rfl rfl ⟨rfl, rfl, rfl, rfl, rfl⟩ rfl rfl rfl rfl rfl (by kernel_rfl) Try.func5 (by kernel_rfl)
    (of_decide_eq_true (by kernel_rfl)) (by unfold Func.isWrapper; first | (rw [if_pos (by decide +kernel)]; kernel_rfl) | (rw [if_neg (by decide +kernel)]; exact ⟨rfl, rfl⟩))
    (fun os started H enc _ => lifted os started H enc)
end Go.Proofs.Ytacggabopdoijaa.SlotsFine
namespace Go.Proofs.Ytacggabopdoijaa
/-- The statement. -/
theorem slotsFine_holds : Rows.SlotsFineSaid := SlotsFine.over
#print axioms slotsFine_holds
end Go.Proofs.Ytacggabopdoijaa
