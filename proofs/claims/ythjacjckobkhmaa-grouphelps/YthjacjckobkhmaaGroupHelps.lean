/- Proved: gunnylaw18.GroupHelps returns true for all slices of structs of three ints, nil and empty ones among them: who is best has room, and none with room has less; who is worst has something, and room, and none of these has less; all are as full as one of five. No conditions. -/
import Derived.Test.YthjacjckobkhmaaUBoth
import Derived.Test.YthjacjckobkhmaaUCount
namespace Go.Proofs.Ythjacjckobkhmaa.GroupHelps
open Go.ChangeShapes Go.WideShapes Go.ChangeAt Go.RowKit
set_option linter.unusedVariables false
theorem own : ownKnob Try.prog.godebug = none := by kernel_rfl
theorem laidOut : laidOutB Try.prog = true := by kernel_rfl

set_option maxRecDepth 100000 in
set_option maxHeartbeats 2000000 in
theorem run {a : Option Addr} {c : Nat} {T : List Gh} (w : World) (hT : ArgH w a T) : Calls Try.prog 5 #[.slice a T.length c] w fun e w' => e = .returned (.bool true) ∧ Below w.heap.size w w' := by
  by_cases hl : 60 < T.length
  · have i1 : (60 : Int) < (T.length : Int) := by omega
    go_enter Try.func5, Try.ntmps5
    go_wp2_with fail
    refine (lives_any _).mono ?_
    rintro e w' ⟨rfl, b1⟩
    have HB : Hid (Below w.heap.size w w') := (Below.refl w.heap.size w).trans (b1.mono (Below.refl w.heap.size w).size)
    clear b1
    go_wp2
    go_ret
    exact ⟨rfl, HB.out⟩
  · have i1 : ¬ (60 : Int) < (T.length : Int) := by omega
    have HT : Hid (ArgH w a T) := hT
    have HN : Hid _ := gNew_any w
    clear hT
    go_enter Try.func5, Try.ntmps5
    go_wp2_with fail
    refine Calls.mono HN.out ?_
    rintro e w1 ⟨rfl, hbk, hb1⟩
    obtain ⟨r, hr⟩ : ∃ r, w.heap.size + 1 = r := ⟨_, rfl⟩
    obtain ⟨b, hb⟩ : ∃ b, w.heap.size = b := ⟨_, rfl⟩
    obtain ⟨B, hB⟩ : ∃ B, w1.heap.size = B := ⟨_, rfl⟩
    have hlt := hbk.lt
    rw [hr, hb] at hbk hlt
    rw [hr]
    have HB0 : Hid (BothG w w1 r b B (.slice none 0 0) [] 0) := ⟨hbk, hsAt_nil _ _, gok_nil, Nat.le_refl _, hb1, by omega, by omega, by omega⟩
    clear hbk hb1 hlt HN hB
    go_wp2_with fail
    go_loopg [4, 5] T.length (fun gk xv i wr => ∃ (k : Nat) (X : List Gh), k ≤ T.length ∧ gk = T.length - k ∧ i = .int .i64 k ∧ BothG w wr r b B xv X k)
    case atStart => exact ⟨0, [], by omega, rfl, rfl, HB0.out⟩
    case round =>
      obtain ⟨k, X, hk, rfl, rfl, hbo⟩ := hrel
      have HBO : Hid (BothG w wr r b B u4 X k) := hbo
      by_cases hlt : k < T.length
      · have i2 : (k : Int) < (T.length : Int) := by omega
        obtain ⟨x, hx⟩ : ∃ x, T[k]? = some x := ⟨_, List.getElem?_eq_getElem hlt⟩
        have hxo := HT.out.ok x (List.mem_of_getElem? hx)
        obtain ⟨ba, off, rfl, hba, c0, c1, c2⟩ := (HT.out.later hbo.bel).at_ k x hx
        obtain ⟨ba', off', e', hba', _⟩ := HT.out.at_ k x hx
        obtain ⟨n, u, m⟩ := x
        cases e'
        simp only at c0 c1 c2 hxo
        have hbl := hbo.lo
        have HBW : Hid (Below w.heap.size w wr) := hbo.bel
        clear hbo hx
        by_cases hu : u < -100000000 ∨ 100000000 < u
        · have H1 : Hid _ := big_yes u wr hu
          clear hu
          go_wp2_with fail
          refine Calls.mono H1.out ?_
          rintro e w' ⟨rfl, rfl⟩
          go_wp2_with fail
          refine (lives_any _).mono ?_
          rintro e w' ⟨rfl, b1⟩
          have HB : Hid (Below w.heap.size w w') := HBW.out.trans (b1.mono HBW.out.size)
          clear b1
          go_wp2
          go_ret
          exact ⟨rfl, HB.out⟩
        · have H1 : Hid _ := big_no u wr (by omega)
          by_cases hm : m < -100000000 ∨ 100000000 < m
          · have H2 : Hid _ := big_yes m wr hm
            clear hu hm
            go_wp2_with fail
            refine Calls.mono H1.out ?_
            rintro e w' ⟨rfl, rfl⟩
            go_wp2_with fail
            refine Calls.mono H2.out ?_
            rintro e w' ⟨rfl, rfl⟩
            go_wp2_with fail
            refine (lives_any _).mono ?_
            rintro e w' ⟨rfl, b1⟩
            have HB : Hid (Below w.heap.size w w') := HBW.out.trans (b1.mono HBW.out.size)
            clear b1
            go_wp2
            go_ret
            exact ⟨rfl, HB.out⟩
          · have H2 : Hid _ := big_no m wr (by omega)
            have hm2 : m ≤ 100000000 := by omega
            clear hu hm
            go_wp2_with fail
            refine Calls.mono H1.out ?_
            rintro e w' ⟨rfl, rfl⟩
            go_wp2_with fail
            refine Calls.mono H2.out ?_
            rintro e w' ⟨rfl, rfl⟩
            go_wp2_with fail
            have q0 : wr.drew.cell? ⟨ba, off + k * 3, none⟩ = some (.int .i64 n) ∧ wr.drew.cell? ⟨ba, off + k * 3 + 1, none⟩ = some (.int .i64 u) ∧ wr.drew.cell? ⟨ba, off + k * 3 + 2, none⟩ = some (.int .i64 m) := ⟨c0, c1, c2⟩
            have hbX : BothG w wr.drew r b B u4 X k := HBO.out.below (drew_below _ _)
            clear H1 H2
            refine wp_region_held_drew (S := fun w' => w'.cell? ⟨ba, off + k * 3, none⟩ = some (.int .i64 n) ∧ w'.cell? ⟨ba, off + k * 3 + 1, none⟩ = some (.int .i64 u) ∧ w'.cell? ⟨ba, off + k * 3 + 2, none⟩ = some (.int .i64 m)) (by kernel_rfl) q0 (fun hHeld => ?_)
            generalize wr.drew = Y at *
            clear q0
            refine wpAnyH_take (i := 0) (oi := { dst := some 40, op := Op.move (Operand.tmp 3), type := 28, pos := "law.go:105", after := #[], guard := none }) (v := ?v0) rfl (by kernel_rfl) (by kernel_rfl) (by kernel_rfl) (fun _ _ _ h => h) (Or.inl ⟨by rfl, ?hy0⟩) (by assumption) ?rest0
            case hy0 =>
              intro w hSw
              try dsimp only at hSw
              go_simp
              try with_reducible rfl
            try simp only [Act.put, List.setIfInBounds_toArray, List.set_cons_zero, List.set_cons_succ]
            refine wpAnyH_take (i := 1) (oi := { dst := some 41, op := Op.move (Operand.tmp 0), type := 26, pos := "law.go:105", after := #[], guard := none }) (v := ?v1) rfl (by kernel_rfl) (by kernel_rfl) (by kernel_rfl) (fun _ _ _ h => h) (Or.inl ⟨by rfl, ?hy1⟩) (by assumption) ?rest1
            case hy1 =>
              intro w hSw
              try dsimp only at hSw
              go_simp
              try with_reducible rfl
            try simp only [Act.put, List.setIfInBounds_toArray, List.set_cons_zero, List.set_cons_succ]
            refine wpAnyH_take (i := 2) (oi := { dst := some 42, op := Op.move (Operand.tmp 5), type := 3, pos := "law.go:105", after := #[], guard := none }) (v := ?v2) rfl (by kernel_rfl) (by kernel_rfl) (by kernel_rfl) (fun _ _ _ h => h) (Or.inl ⟨by rfl, ?hy2⟩) (by assumption) ?rest2
            case hy2 =>
              intro w hSw
              try dsimp only at hSw
              go_simp
              try with_reducible rfl
            try simp only [Act.put, List.setIfInBounds_toArray, List.set_cons_zero, List.set_cons_succ]
            refine wpAnyH_take (i := 3) (oi := { dst := some 43, op := Op.indexAddr 26 (Operand.tmp 41) (Operand.tmp 42), type := 0, pos := "law.go:105", after := #[{ on := 1, ground := Ground.data }, { on := 2, ground := Ground.data }], guard := none }) (v := ?v3) rfl (by kernel_rfl) (by kernel_rfl) (by kernel_rfl) (fun _ _ _ h => h) (Or.inl ⟨by rfl, ?hy3⟩) (by assumption) ?rest3
            case hy3 =>
              intro w hSw
              try dsimp only at hSw
              go_simp
              try with_reducible rfl
            try simp only [Act.put, List.setIfInBounds_toArray, List.set_cons_zero, List.set_cons_succ]
            refine wpAnyH_take (i := 4) (oi := { dst := some 44, op := Op.fieldAddr 37 (Operand.tmp 43) 0, type := 0, pos := "law.go:105", after := #[{ on := 3, ground := Ground.data }], guard := none }) (v := ?v4) rfl (by kernel_rfl) (by kernel_rfl) (by kernel_rfl) (fun _ _ _ h => h) (Or.inl ⟨by rfl, ?hy4⟩) (by assumption) ?rest4
            case hy4 =>
              intro w hSw
              try dsimp only at hSw
              go_simp
              try with_reducible rfl
            try simp only [Act.put, List.setIfInBounds_toArray, List.set_cons_zero, List.set_cons_succ]
            refine wpAnyH_take (i := 5) (oi := { dst := some 45, op := Op.load 3 (Operand.tmp 44), type := 3, pos := "law.go:105", after := #[{ on := 4, ground := Ground.data }], guard := none }) (v := ?v5) rfl (by kernel_rfl) (by kernel_rfl) (by kernel_rfl) (fun _ _ _ h => h) (Or.inl ⟨by rfl, ?hy5⟩) (by assumption) ?rest5
            case hy5 =>
              intro w hSw
              try dsimp only at hSw
              go_simp
              try with_reducible rfl
            try simp only [Act.put, List.setIfInBounds_toArray, List.set_cons_zero, List.set_cons_succ]
            refine wpAnyH_take (i := 6) (oi := { dst := some 46, op := Op.move (Operand.tmp 0), type := 26, pos := "law.go:105", after := #[], guard := none }) (v := ?v6) rfl (by kernel_rfl) (by kernel_rfl) (by kernel_rfl) (fun _ _ _ h => h) (Or.inl ⟨by rfl, ?hy6⟩) (by assumption) ?rest6
            case hy6 =>
              intro w hSw
              try dsimp only at hSw
              go_simp
              try with_reducible rfl
            try simp only [Act.put, List.setIfInBounds_toArray, List.set_cons_zero, List.set_cons_succ]
            refine wpAnyH_take (i := 7) (oi := { dst := some 47, op := Op.move (Operand.tmp 5), type := 3, pos := "law.go:105", after := #[], guard := none }) (v := ?v7) rfl (by kernel_rfl) (by kernel_rfl) (by kernel_rfl) (fun _ _ _ h => h) (Or.inl ⟨by rfl, ?hy7⟩) (by assumption) ?rest7
            case hy7 =>
              intro w hSw
              try dsimp only at hSw
              go_simp
              try with_reducible rfl
            try simp only [Act.put, List.setIfInBounds_toArray, List.set_cons_zero, List.set_cons_succ]
            refine wpAnyH_take (i := 8) (oi := { dst := some 48, op := Op.indexAddr 26 (Operand.tmp 46) (Operand.tmp 47), type := 0, pos := "law.go:105", after := #[{ on := 6, ground := Ground.data }, { on := 7, ground := Ground.data }], guard := none }) (v := ?v8) rfl (by kernel_rfl) (by kernel_rfl) (by kernel_rfl) (fun _ _ _ h => h) (Or.inl ⟨by rfl, ?hy8⟩) (by assumption) ?rest8
            case hy8 =>
              intro w hSw
              try dsimp only at hSw
              go_simp
              try with_reducible rfl
            try simp only [Act.put, List.setIfInBounds_toArray, List.set_cons_zero, List.set_cons_succ]
            refine wpAnyH_take (i := 9) (oi := { dst := some 49, op := Op.fieldAddr 37 (Operand.tmp 48) 1, type := 0, pos := "law.go:105", after := #[{ on := 8, ground := Ground.data }], guard := none }) (v := ?v9) rfl (by kernel_rfl) (by kernel_rfl) (by kernel_rfl) (fun _ _ _ h => h) (Or.inl ⟨by rfl, ?hy9⟩) (by assumption) ?rest9
            case hy9 =>
              intro w hSw
              try dsimp only at hSw
              go_simp
              try with_reducible rfl
            try simp only [Act.put, List.setIfInBounds_toArray, List.set_cons_zero, List.set_cons_succ]
            refine wpAnyH_take (i := 10) (oi := { dst := some 50, op := Op.load 3 (Operand.tmp 49), type := 3, pos := "law.go:105", after := #[{ on := 9, ground := Ground.data }], guard := none }) (v := ?v10) rfl (by kernel_rfl) (by kernel_rfl) (by kernel_rfl) (fun _ _ _ h => h) (Or.inl ⟨by rfl, ?hy10⟩) (by assumption) ?rest10
            case hy10 =>
              intro w hSw
              try dsimp only at hSw
              go_simp
              try with_reducible rfl
            try simp only [Act.put, List.setIfInBounds_toArray, List.set_cons_zero, List.set_cons_succ]
            refine wpAnyH_take (i := 11) (oi := { dst := some 51, op := Op.move (Operand.tmp 0), type := 26, pos := "law.go:105", after := #[], guard := none }) (v := ?v11) rfl (by kernel_rfl) (by kernel_rfl) (by kernel_rfl) (fun _ _ _ h => h) (Or.inl ⟨by rfl, ?hy11⟩) (by assumption) ?rest11
            case hy11 =>
              intro w hSw
              try dsimp only at hSw
              go_simp
              try with_reducible rfl
            try simp only [Act.put, List.setIfInBounds_toArray, List.set_cons_zero, List.set_cons_succ]
            refine wpAnyH_take (i := 12) (oi := { dst := some 52, op := Op.move (Operand.tmp 5), type := 3, pos := "law.go:105", after := #[], guard := none }) (v := ?v12) rfl (by kernel_rfl) (by kernel_rfl) (by kernel_rfl) (fun _ _ _ h => h) (Or.inl ⟨by rfl, ?hy12⟩) (by assumption) ?rest12
            case hy12 =>
              intro w hSw
              try dsimp only at hSw
              go_simp
              try with_reducible rfl
            try simp only [Act.put, List.setIfInBounds_toArray, List.set_cons_zero, List.set_cons_succ]
            refine wpAnyH_take (i := 13) (oi := { dst := some 53, op := Op.indexAddr 26 (Operand.tmp 51) (Operand.tmp 52), type := 0, pos := "law.go:105", after := #[{ on := 11, ground := Ground.data }, { on := 12, ground := Ground.data }], guard := none }) (v := ?v13) rfl (by kernel_rfl) (by kernel_rfl) (by kernel_rfl) (fun _ _ _ h => h) (Or.inl ⟨by rfl, ?hy13⟩) (by assumption) ?rest13
            case hy13 =>
              intro w hSw
              try dsimp only at hSw
              go_simp
              try with_reducible rfl
            try simp only [Act.put, List.setIfInBounds_toArray, List.set_cons_zero, List.set_cons_succ]
            refine wpAnyH_take (i := 14) (oi := { dst := some 54, op := Op.fieldAddr 37 (Operand.tmp 53) 2, type := 0, pos := "law.go:105", after := #[{ on := 13, ground := Ground.data }], guard := none }) (v := ?v14) rfl (by kernel_rfl) (by kernel_rfl) (by kernel_rfl) (fun _ _ _ h => h) (Or.inl ⟨by rfl, ?hy14⟩) (by assumption) ?rest14
            case hy14 =>
              intro w hSw
              try dsimp only at hSw
              go_simp
              try with_reducible rfl
            try simp only [Act.put, List.setIfInBounds_toArray, List.set_cons_zero, List.set_cons_succ]
            refine wpAnyH_take (i := 15) (oi := { dst := some 55, op := Op.load 3 (Operand.tmp 54), type := 3, pos := "law.go:105", after := #[{ on := 14, ground := Ground.data }], guard := none }) (v := ?v15) rfl (by kernel_rfl) (by kernel_rfl) (by kernel_rfl) (fun _ _ _ h => h) (Or.inl ⟨by rfl, ?hy15⟩) (by assumption) ?rest15
            case hy15 =>
              intro w hSw
              try dsimp only at hSw
              go_simp
              try with_reducible rfl
            try simp only [Act.put, List.setIfInBounds_toArray, List.set_cons_zero, List.set_cons_succ]
            refine wpAnyH_ready (rs := [16]) (by kernel_rfl) (by simp) ?_
            refine AllReadyH.cons (o := { dst := some 56, op := Op.call { callee := Callee.value (Operand.func 12), args := #[Operand.tmp 40, Operand.tmp 45, Operand.tmp 50, Operand.tmp 55], argTypes := #[28, 3, 3, 3] }, type := 4, pos := "law.go:105", after := #[{ on := 0, ground := Ground.data }, { on := 5, ground := Ground.data }, { on := 10, ground := Ground.data }, { on := 15, ground := Ground.data }], guard := none }) rfl (fun KK9 hK9 => ?_) ?moreC
            case moreC => exact AllReadyH.nil
            have hlen := hbX.len
            have hPT := gPut_any n u m Y hbX.bk hbX.ok hm2 (by omega)
            go_simp
            refine Calls.mono hPT ?_
            rintro e6 W6 ⟨rfl, bk6, g6⟩
            go_simp
            have hne : ba ≠ b := by omega
            have hbaY : ba < Y.heap.size := Nat.lt_of_lt_of_le hba' hbX.bel.size
            have y0 : W6.cell? ⟨ba, off + k * 3, none⟩ = some (.int .i64 n) := (World.cell?_of_block (a := ⟨ba, off + k * 3, none⟩) (g6.block ba hbaY (by intro e; simp at e; omega))).trans hHeld.1
            have y1 : W6.cell? ⟨ba, off + k * 3 + 1, none⟩ = some (.int .i64 u) := (World.cell?_of_block (a := ⟨ba, off + k * 3 + 1, none⟩) (g6.block ba hbaY (by intro e; simp at e; omega))).trans hHeld.2.1
            have y2 : W6.cell? ⟨ba, off + k * 3 + 2, none⟩ = some (.int .i64 m) := (World.cell?_of_block (a := ⟨ba, off + k * 3 + 2, none⟩) (g6.block ba hbaY (by intro e; simp at e; omega))).trans hHeld.2.2
            refine hK9.out _ _ ⟨y0, y1, y2⟩ (fun hHeld => ?_)
            clear hK9 KK9
            try simp only [Act.put, List.setIfInBounds_toArray, List.set_cons_zero, List.set_cons_succ]
            refine wpAnyH_done (by kernel_rfl) ?_ _
            obtain ⟨t1, t2, t3⟩ := hbX.belT g6
            have hG := hbX.ok
            have hrb := hbX.rb
            have HOKX : Hid (Gok X) := hG
            have HOKR : Hid (Gok (putR X ⟨n, u, m⟩)) := hG.putR hm2
            have HLR : Hid ((putR X ⟨n, u, m⟩).length ≤ k + 1) := Nat.le_trans (putR_len _ _) (by omega)
            have HBK6 : Hid (BookAt W6 r b (putR X ⟨n, u, m⟩)) := bk6
            have HT1 : Hid (Below w.heap.size w W6) := t1
            have HT3 : Hid (HsAt W6 B u4 X) := t3
            have hX1 : X.length ≤ 1000 := by omega
            obtain ⟨z, hz⟩ : ∃ z, okG ⟨n, u, m⟩ = z := ⟨_, rfl⟩
            rw [hz]
            clear bk6 g6 hPT hbX hHeld c0 c1 c2 hG t1 t3 hlen HBO
            cases z with
            | true =>
              have HPU : Hid _ := refPut_any n u m W6 HT3.out HOKX.out hX1 t2
              go_wp2_with fail
              refine Calls.mono HPU.out ?_
              rintro e7 W7 ⟨v7, rfl, h7, b7⟩
              have HF : Hid (BothG w W7 r b B v7 (putR X ⟨n, u, m⟩) (k + 1)) :=
                ⟨HBK6.out.below b7, h7, HOKR.out, HLR.out, HT1.out.trans (b7.mono HT1.out.size), Nat.le_trans t2 b7.size, by omega, hrb⟩
              clear HPU b7 h7 y0 y1 y2
              go_wp2_with fail
              go_roundg (T.length - (k + 1))
              case measure => omega
              case rel => exact ⟨k + 1, _, by omega, rfl, by go_num, HF.out⟩
            | false =>
              have HF : Hid (BothG w W6 r b B u4 (putR X ⟨n, u, m⟩) (k + 1)) := by
                have e : putR X ⟨n, u, m⟩ = X := by unfold putR; rw [hz]; rfl
                refine ⟨HBK6.out, ?_, HOKR.out, HLR.out, HT1.out, t2, by omega, hrb⟩
                rw [e]
                exact HT3.out
              clear y0 y1 y2
              go_wp2_with fail
              go_roundg (T.length - (k + 1))
              case measure => omega
              case rel => exact ⟨k + 1, _, by omega, rfl, by go_num, HF.out⟩
      · have i2 : ¬ (k : Int) < (T.length : Int) := by omega
        have hlen := hbo.len
        have HOK : Hid (Gok X) := hbo.ok
        obtain ⟨aX, cX, rfl⟩ := row_slice hbo.hs
        have hcnt := cntG_all X
        obtain ⟨n0, hn0⟩ : ∃ n0, cntG 0 X = n0 := ⟨_, rfl⟩
        obtain ⟨n1, hn1⟩ : ∃ n1, cntG 1 X = n1 := ⟨_, rfl⟩
        obtain ⟨n2, hn2⟩ : ∃ n2, cntG 2 X = n2 := ⟨_, rfl⟩
        obtain ⟨n3, hn3⟩ : ∃ n3, cntG 3 X = n3 := ⟨_, rfl⟩
        obtain ⟨n4, hn4⟩ : ∃ n4, cntG 4 X = n4 := ⟨_, rfl⟩
        rw [hn0, hn1, hn2, hn3, hn4] at hcnt
        obtain ⟨nx, hnx⟩ : ∃ nx, X.length = nx := ⟨_, rfl⟩
        have hneq : (((((n0 : Int) + n1) + n2) + n3) + n4 != (nx : Int)) = false := by simp only [bne_eq_false_iff_eq]; omega
        have HCN : Hid (cntG 0 X = n0 ∧ cntG 1 X = n1 ∧ cntG 2 X = n2 ∧ cntG 3 X = n3 ∧ cntG 4 X = n4) := ⟨hn0, hn1, hn2, hn3, hn4⟩
        have hx100 : X.length ≤ 100 := by omega
        have hb0 : n0 ≤ 60 ∧ n1 ≤ 60 ∧ n2 ≤ 60 ∧ n3 ≤ 60 ∧ n4 ≤ 60 := by omega
        have hnx2 : nx ≤ 60 := by omega
        have H0 : Hid (BothG w wr r b B (.slice aX X.length cX) X k) := hbo
        have HNX : Hid (X.length = nx) := hnx
        have C0 := gCount_any 0 wr hbo.bk.p HOK.out hx100
        rw [hn0] at C0
        have C0 : Hid _ := C0
        rw [hnx]
        obtain ⟨h0a, h0b, h0c, h0d, h0e⟩ := hb0
        clear hbo HBO hn0 hn1 hn2 hn3 hn4 hcnt hnx hlen
        go_wp2_with fail
        refine Calls.mono C0.out ?_
        rintro e V1 ⟨rfl, e1⟩
        have H1 : Hid (BothG w V1 r b B (.slice aX X.length cX) X k) := H0.out.below e1
        have C1 := gCount_any 1 V1 H1.out.bk.p HOK.out hx100
        rw [HCN.out.2.1] at C1
        have C1 : Hid _ := C1
        clear e1 H0 C0
        go_wp2_with fail
        refine Calls.mono C1.out ?_
        rintro e V2 ⟨rfl, e1⟩
        have H2 : Hid (BothG w V2 r b B (.slice aX X.length cX) X k) := H1.out.below e1
        have C2 := gCount_any 2 V2 H2.out.bk.p HOK.out hx100
        rw [HCN.out.2.2.1] at C2
        have C2 : Hid _ := C2
        clear e1 H1 C1
        go_wp2_with fail
        refine Calls.mono C2.out ?_
        rintro e V3 ⟨rfl, e1⟩
        have H3 : Hid (BothG w V3 r b B (.slice aX X.length cX) X k) := H2.out.below e1
        have C3 := gCount_any 3 V3 H3.out.bk.p HOK.out hx100
        rw [HCN.out.2.2.2.1] at C3
        have C3 : Hid _ := C3
        clear e1 H2 C2
        go_wp2_with fail
        refine Calls.mono C3.out ?_
        rintro e V4 ⟨rfl, e1⟩
        have H4 : Hid (BothG w V4 r b B (.slice aX X.length cX) X k) := H3.out.below e1
        have C4 := gCount_any 4 V4 H4.out.bk.p HOK.out hx100
        rw [HCN.out.2.2.2.2] at C4
        have C4 : Hid _ := C4
        clear e1 H3 C3
        go_wp2_with fail
        refine Calls.mono C4.out ?_
        rintro e V5 ⟨rfl, e1⟩
        have H5 : Hid (BothG w V5 r b B (.slice aX X.length cX) X k) := H4.out.below e1
        obtain ⟨A1, hA1⟩ : ∃ A1, bN (bestD X) = A1 := ⟨_, rfl⟩
        obtain ⟨Z1, hZ1⟩ : ∃ Z1, bS (bestD X) = Z1 := ⟨_, rfl⟩
        obtain ⟨A2, hA2⟩ : ∃ A2, bN (worstD X) = A2 := ⟨_, rfl⟩
        obtain ⟨Z2, hZ2⟩ : ∃ Z2, bS (worstD X) = Z2 := ⟨_, rfl⟩
        have BE := gBest_any (bs := []) (a := none) (c := 0) V5 H5.out.bk.p HOK.out (.inl rfl) (fun _ h => (by cases h)) (by simp) hx100
        rw [butG_nil, hA1, hZ1] at BE
        have BE : Hid _ := BE
        have HV1 : Hid (bN (bestD X) = A1 ∧ bS (bestD X) = Z1) := ⟨hA1, hZ1⟩
        have HV2 : Hid (bN (worstD X) = A2 ∧ bS (worstD X) = Z2) := ⟨hA2, hZ2⟩
        clear e1 H4 C4 hA1 hZ1 hA2 hZ2 HCN
        go_wp2_with fail
        refine Calls.mono BE.out ?_
        rintro e V6 ⟨rfl, e1⟩
        have H6 : Hid (BothG w V6 r b B (.slice aX X.length cX) X k) := H5.out.below e1
        have WO := gWorst_any V6 H6.out.bk.p HOK.out hx100
        rw [HV2.out.1, HV2.out.2] at WO
        have WO : Hid _ := WO
        clear e1 H5 BE hneq
        go_wp2_with fail
        refine Calls.mono WO.out ?_
        rintro e V7 ⟨rfl, e1⟩
        have H7 : Hid (BothG w V7 r b B (.slice aX X.length cX) X k) := H6.out.below e1
        clear e1 H6 WO
        go_wp2_with fail
        go_loopg [10] nx (fun gk i wx => ∃ t : Nat, t ≤ nx ∧ gk = nx - t ∧ i = .int .i64 t ∧ ∃ q, wx = V7.drewN q)
        case atStart => exact ⟨0, by omega, rfl, rfl, 0, rfl⟩
        case round =>
          obtain ⟨t, ht, rfl, rfl, hq⟩ := hrel
          have HQ : Hid (∃ q, wr = V7.drewN q) := hq
          have h8 : BothG w wr r b B (.slice aX X.length cX) X k := by
            obtain ⟨q, rfl⟩ := hq
            exact H7.out.below (drewN_below _ _ _)
          clear hq
          by_cases hlt2 : t < nx
          · have i3 : (t : Int) < (nx : Int) := by omega
            have htx : t < X.length := by rw [HNX.out]; exact hlt2
            obtain ⟨x, hx⟩ : ∃ x, X[t]? = some x := ⟨_, List.getElem?_eq_getElem htx⟩
            obtain ⟨g, rfl, _, hg, d0, d1, d2⟩ := HsAt.at h8.hs hx
            have hxm := List.mem_of_getElem? hx
            have hxo := HOK.out.ok x hxm
            have HXM : Hid (x ∈ X) := hxm
            have HS8 : Hid (∀ q, HsAt (wr.drewN q) B (.slice (some ⟨g, 0, none⟩) nx cX) X) := fun q => by rw [← HNX.out]; exact h8.hs.below (drewN_below _ _ _)
            obtain ⟨xn, xu, xm⟩ := x
            simp only at d0 d1 d2 hxo
            have hw1 : IntKind.i64.wrap (xm - xu) = xm - xu := IntWalk.i64_in _ (by omega)
            have hx1000 : X.length ≤ 1000 := by omega
            have HS9 : Hid (HsAt wr B (.slice (some ⟨g, 0, none⟩) nx cX) X) := by have := h8.hs; rw [HNX.out] at this; exact this
            obtain ⟨fa, hfa⟩ : ∃ fa, xm - xu = fa := ⟨_, rfl⟩
            have HFA : Hid (xm - xu = fa) := hfa
            clear hx hxm h8 htx
            by_cases hroom : xu < xm
            · have hf1 : 0 < fa := by omega
              have hf2 : decide (0 < fa) = true := decide_eq_true hf1
              obtain ⟨ob, hob, hobm, hob1, hob2⟩ := best_room HOK.out HXM.out hroom
              have hZ : true = Z1 := by rw [← HV1.out.2, hob]; rfl
              have hA : ob.n = A1 := by rw [← HV1.out.1, hob]; rfl
              subst hZ
              subst hA
              have hobo := HOK.out.ok ob hobm
              have HOM : Hid (ob ∈ X) := hobm
              have hob3 : ¬ fa < ob.m - ob.u := by simp only at hob2; omega
              clear hob hobm hob2 hfa
              go_wp2_with fail
              go_quiet (fail)
              rw [HFA.out]
              go_wp2_with fail
              refine Calls.mono (refAt_any ob.n _ (HS8.out _) hx1000) ?_
              rintro e W9 ⟨k1, rfl, rfl, hpk1⟩
              have HPk1 : Hid (PlaceG X ob.n k1) := hpk1
              clear hpk1
              obtain ⟨j1, rfl, hj1⟩ := PlaceG.at HOK.out HOM.out HPk1.out
              have hl1 := (List.getElem?_eq_some_iff.1 hj1).1
              rw [HNX.out] at hl1
              obtain ⟨g', e', _, _, p0, p1, p2⟩ := HsAt.at (L := X) (by rw [HNX.out]; exact HS9.out) hj1
              cases e'
              obtain ⟨bn, bu, bm⟩ := ob
              simp only at p0 p1 p2 hob1 hob3 hobo
              have hw2 : IntKind.i64.wrap (bm - bu) = bm - bu := IntWalk.i64_in _ (by omega)
              have i4 : (j1 : Int) < (nx : Int) := by omega
              have i5 : ¬ (j1 : Int) < 0 := by omega
              have i6 : decide ((j1 : Int) < 0) = false := decide_eq_false i5
              have hob4 : decide (fa < bm - bu) = false := decide_eq_false (by omega)
              have hob5 : ¬ bm ≤ bu := by omega
              have hob6 : decide (bm ≤ bu) = false := decide_eq_false hob5
              clear HPk1 hj1
              go_wp2_with fail
              go_quiet (fail)
              by_cases hxu : 0 < xu
              · have hxu2 : decide (0 < xu) = true := decide_eq_true hxu
                obtain ⟨oc, hoc, hocm, hoc1, hoc2, hoc3⟩ := worst_room HOK.out HXM.out hroom hxu
                have hZ : true = Z2 := by rw [← HV2.out.2, hoc]; rfl
                have hA : oc.n = A2 := by rw [← HV2.out.1, hoc]; rfl
                subst hZ
                subst hA
                have hoco := HOK.out.ok oc hocm
                have HCM : Hid (oc ∈ X) := hocm
                clear hoc hocm
                go_wp2_with fail
                refine Calls.mono (refAt_any oc.n _ (HS8.out _) hx1000) ?_
                rintro e W9 ⟨k2, rfl, rfl, hpk2⟩
                have HPk2 : Hid (PlaceG X oc.n k2) := hpk2
                clear hpk2
                obtain ⟨j2, rfl, hj2⟩ := PlaceG.at HOK.out HCM.out HPk2.out
                have hl2 := (List.getElem?_eq_some_iff.1 hj2).1
                rw [HNX.out] at hl2
                obtain ⟨g', e', _, _, r0, r1, r2⟩ := HsAt.at (L := X) (by rw [HNX.out]; exact HS9.out) hj2
                cases e'
                obtain ⟨cn, cu, cm⟩ := oc
                simp only at r0 r1 r2 hoc1 hoc2 hoc3 hoco
                have i7 : (j2 : Int) < (nx : Int) := by omega
                have i8 : ¬ (j2 : Int) < 0 := by omega
                have i9 : decide ((j2 : Int) < 0) = false := decide_eq_false i8
                have hc1 : ¬ xu < cu := by omega
                have hc2 : decide (xu < cu) = false := decide_eq_false hc1
                have hc3 : ¬ cu < 1 := by omega
                have hc4 : decide (cu < 1) = false := decide_eq_false hc3
                have hc5 : ¬ cm ≤ cu := by omega
                have hc6 : decide (cm ≤ cu) = false := decide_eq_false hc5
                clear HPk2 hj2 p0 p1 p2
                go_wp2_with fail
                go_quiet (fail)
                go_wp2
                go_roundg (nx - (t + 1))
                case measure => omega
                case rel => exact ⟨t + 1, by omega, rfl, by go_num, quiet_more HQ.out _⟩
              · have hxu2 : decide (0 < xu) = false := decide_eq_false hxu
                go_wp2_with fail
                refine Calls.mono (refAt_any A2 _ (HS8.out _) hx1000) ?_
                rintro e W9 ⟨k2, rfl, rfl, hpk2⟩
                have HPk2 : Hid (PlaceG X A2 k2) := hpk2
                clear hpk2
                clear HPk2 p0 p1 p2
                go_wp2_with fail
                go_quiet (fail)
                go_wp2
                go_roundg (nx - (t + 1))
                case measure => omega
                case rel => exact ⟨t + 1, by omega, rfl, by go_num, quiet_more HQ.out _⟩
            · have hf1 : ¬ 0 < fa := by omega
              have hf2 : decide (0 < fa) = false := decide_eq_false hf1
              clear hfa
              go_wp2_with fail
              go_quiet (fail)
              rw [HFA.out]
              go_wp2_with fail
              refine Calls.mono (refAt_any A1 _ (HS8.out _) hx1000) ?_
              rintro e W9 ⟨k1, rfl, rfl, hpk1⟩
              have HPk1 : Hid (PlaceG X A1 k1) := hpk1
              clear hpk1
              go_wp2_with fail
              go_quiet (fail)
              go_wp2_with fail
              refine Calls.mono (refAt_any A2 _ (HS8.out _) hx1000) ?_
              rintro e W9 ⟨k2, rfl, rfl, hpk2⟩
              have HPk2 : Hid (PlaceG X A2 k2) := hpk2
              clear hpk2
              go_wp2_with fail
              go_quiet (fail)
              go_wp2
              go_roundg (nx - (t + 1))
              case measure => omega
              case rel => exact ⟨t + 1, by omega, rfl, by go_num, quiet_more HQ.out _⟩
          · have i3 : ¬ (t : Int) < (nx : Int) := by omega
            have HBW : Hid (Below w.heap.size w wr) := h8.bel
            clear h8
            go_wp2_with fail
            refine (lives_any _).mono ?_
            rintro e w' ⟨rfl, b1⟩
            have HB : Hid (Below w.heap.size w w') := HBW.out.trans (b1.mono HBW.out.size)
            clear b1
            go_wp2
            go_ret
            exact ⟨rfl, HB.out⟩

set_option maxRecDepth 100000 in
theorem walk {H : Type} {enc : TypeId × Value → H} {w : World} {base : Nat} {v0 : Value} {d0 : DataW H} {p0 : List MemPlace}
    (o0 : Value.okWide Try.prog w .any base 26 v0)
    (h0 : DataW.Trod enc Try.prog w 0 (fun _ => true) true 26 v0 d0 p0) :
    Calls Try.prog 5 #[v0] w fun e w' => e = .returned (.bool true) ∧ Below w.heap.size w w' := by
  obtain ⟨a, c, T, rfl, _, hT⟩ := openHs Try.underlying26 Try.underlying37 (by kernel_rfl) (by kernel_rfl) (by kernel_rfl) (by kernel_rfl) (by kernel_rfl) (by kernel_rfl) (by kernel_rfl) Try.underlying3 Try.underlying3 Try.underlying3 o0 h0
  exact run w hT

set_option maxRecDepth 100000 in
theorem lifted (os : Os) (started : os.Started) (H : Type) (enc : TypeId × Value → H) :
    ReturnsInHanded {} Try.checked os 5 .any (Rows.groupHelpsSpec.pre6 enc Try.prog Try.f5 Rows.groupHelpsRow.domain false) (Rows.groupHelpsSpec.post enc Try.prog Try.f5 false true false false) := by
  refine returnsInHanded_of_change (C := Try.checked) own started (by kernel_rfl) Try.func5
    (ChangeSpec.witness6 (enc := enc) (C := Try.checked) false ⟨#[], #[.slice none 0 0], []⟩ 8 (by kernel_rfl) (by kernel_rfl) (by kernel_rfl) (by kernel_rfl)) ?_
  intro W base args ds gs before hval0 hW hcnd _
  have hval : ∀ (j : Nat) t v, Try.f5.params[j]? = some t → args[j]? = some v → Value.okWide Try.prog W .any base t v := hval0
  have hW' := hW
  obtain ⟨p, q, hA0, hV, rfl, hfz, hnd⟩ := hW
  have hA : DataW.TrodAll enc Try.prog W 0 (fun _ => true) true Try.f5.params.toList args.toList ds p := hA0
  rw [Try.params5] at hA hval
  obtain ⟨v0, vs0, d0, ds0, p0, q0, hargs, rfl, rfl, h0, r0⟩ := trodAll_cons hA
  obtain ⟨rfl, rfl, rfl⟩ := trodAll_nil r0
  obtain rfl : args = #[v0] := by cases args; simp_all
  obtain ⟨rfl, rfl⟩ := trodVars_none hV
  have o0 := hval 0 26 v0 rfl rfl
  have lt0 : ∀ x ∈ p0, x.block < W.heap.size := by obtain ⟨m, hm⟩ := h0; exact DataW.trod_lt m _ _ _ hm
  clear hA0 hval0
  refine (walk o0 h0).mono fun e W' ⟨he, bel⟩ => ?_
  subst he
  exact ⟨_, rfl, _, _, _, [], _, [], hW', trodAll_mk1 (shut_bool Try.underlying4 _), (trodAll_cons_mk (Below.trod laidOut (by kernel_rfl) (of_decide_eq_true (by kernel_rfl)) h0 bel lt0) trodAll_mk0), rfl, bel.frame _, fun h => by cases h⟩

theorem over : Rows.groupHelpsRow.holds Try.pinned (OpenSpec.ofChange Rows.groupHelpsSpec) :=
  OpenClaim.holds_of_wide 5 Try.f5 rfl rfl rfl rfl rfl rfl rfl ⟨rfl, rfl, rfl, rfl, rfl⟩ rfl rfl rfl rfl rfl (by kernel_rfl) Try.func5 (by kernel_rfl)
    (of_decide_eq_true (by kernel_rfl)) (by unfold Func.isWrapper; first | (rw [if_pos (by decide +kernel)]; kernel_rfl) | (rw [if_neg (by decide +kernel)]; exact ⟨rfl, rfl⟩))
    (fun os started H enc _ => lifted os started H enc)
end Go.Proofs.Ythjacjckobkhmaa.GroupHelps
namespace Go.Proofs.Ythjacjckobkhmaa
/-- The statement. -/
theorem groupHelps_holds : Rows.GroupHelpsSaid := GroupHelps.over
#print axioms groupHelps_holds
end Go.Proofs.Ythjacjckobkhmaa
