/- A step of RamPlays: a word is set. -/
import Derived.Test.YteebjeifbccbnaaMStepS
namespace Go.Proofs.Yteebjeifbccbnaa
open Go.RowKit

set_option maxRecDepth 100000 in
set_option maxHeartbeats 4000000 in
theorem step_set {B E C r now m t x : Nat} {vO vW vL : Value} {O W : List Int} {S P : List Nat} {L : List Wt} (d : Dd) (w : World) (h : Both B E C w r vO vW vL now m t x O S P W L) (hv : d.V < 18446744073709551616) (hK : d.K = 4) (hx : x < 1000000) (hL : L.length ≤ 1000) :
    Calls Try.prog 16 #[.pointer (some ⟨r, 0, none⟩), .agg #[vO, vW, .int .i64 (now : Int), vL], .agg #[.int .i64 d.K, .int .i64 d.N, .int .i64 d.A, .int .i64 d.Z, .int .u64 (d.V : Int), .slice d.p d.l d.c]] w (Stepped B E C w r m t x now L.length) := by
  have HK : Hid (d.K = 4) := hK
  clear hK
  obtain ⟨aO, cO, rfl⟩ := row_slice h.doc.rO
  obtain ⟨aW, cW, rfl⟩ := row_slice h.doc.rW
  obtain ⟨aL, cL, rfl⟩ := row_slice h.log.row
  have hE : E ≤ w.heap.size := h.ram.hi.1
  have hb := Bxd.made (B := B) (E := E) w hE (.slice aO m cO) (.slice aW m cW) (.int .i64 (now : Int)) (.slice aL L.length cL) d
  have hbe : Below w.heap.size w (((w.alloc (.cells #[.slice aO m cO, .slice aW m cW, .int .i64 (now : Int), .slice aL L.length cL] 45)).alloc (.cells #[.int .i64 d.K, .int .i64 d.N, .int .i64 d.A, .int .i64 d.Z, .int .u64 (d.V : Int), .slice d.p d.l d.c] 50)).alloc (.cells #[.slice none 0 0, .slice none 0 0, .int .i64 0, .slice none 0 0] 45)) := (((Below.refl _ w).alloc (Nat.le_refl _) _).alloc (by simp) _).alloc (by simp; omega) _
  have HB0 : Hid (Both B E C w r (.slice aO m cO) (.slice aW m cW) (.slice aL L.length cL) now m t x O S P W L) := h
  have HB1 : Hid (Both B E C _ r (.slice aO m cO) (.slice aW m cW) (.slice aL L.length cL) now m t x O S P W L) := h.below hbe
  have HX1 : Hid (Bxd B E w _ w.heap.size (w.heap.size + 1) (w.heap.size + 1 + 1) #[.slice aO m cO, .slice aW m cW, .int .i64 (now : Int), .slice aL L.length cL] d) := hb
  have HBE : Hid (Below w.heap.size w _) := hbe
  clear h hE hb hbe
  go_enter Try.func16, Try.ntmps16
  go_upto_region 1 with (fail)
  generalize (((w.alloc (.cells #[.slice aO m cO, .slice aW m cW, .int .i64 (now : Int), .slice aL L.length cL] 45)).alloc (.cells #[.int .i64 d.K, .int .i64 d.N, .int .i64 d.A, .int .i64 d.Z, .int .u64 (d.V : Int), .slice d.p d.l d.c] 50)).alloc (.cells #[.slice none 0 0, .slice none 0 0, .int .i64 0, .slice none 0 0] 45)) = w1 at *
  obtain ⟨rb, hrb⟩ : ∃ rb, w.heap.size + 1 + 1 = rb := ⟨_, rfl⟩
  rw [hrb] at HX1
  rw [hrb]
  obtain ⟨db, hdb⟩ : ∃ db, w.heap.size + 1 = db := ⟨_, rfl⟩
  rw [hdb] at HX1
  rw [hdb]
  obtain ⟨xb, hxb⟩ : ∃ xb, w.heap.size = xb := ⟨_, rfl⟩
  have HX2 : Hid (Bxd B E w w1 xb db rb #[.slice aO m cO, .slice aW m cW, .int .i64 (now : Int), .slice aL L.length cL] d) := by rw [← hxb]; exact HX1.out
  rw [hxb]
  clear hrb hdb hxb HX1
  have k0 := HX2.out.k0
  have k1 := HX2.out.k1
  have k2 := HX2.out.k2
  have k3 := HX2.out.k3
  have k4 := HX2.out.k4
  have k5 := HX2.out.k5
  have x0 : w1.cell? ⟨xb, 0, none⟩ = some (.slice aO m cO) := HX2.out.xc 0
  have x1 : w1.cell? ⟨xb, 1, none⟩ = some (.slice aW m cW) := HX2.out.xc 1
  have x2 : w1.cell? ⟨xb, 2, none⟩ = some (.int .i64 (now : Int)) := HX2.out.xc 2
  have x3 : w1.cell? ⟨xb, 3, none⟩ = some (.slice aL L.length cL) := HX2.out.xc 3
  rw [HK.out] at k0
  go_upto_region 22 with (fail)
  obtain ⟨may, hmay⟩ : ∃ may, wdB O d.N d.A = may := ⟨_, rfl⟩
  have HMY : Hid (wdB O d.N d.A = may) := hmay
  clear hmay
  go_cut [21] (fun c wz => c = .bool may ∧ Below w1.heap.size w1 wz)
  case first =>
    by_cases h0 : 0 ≤ d.A
    · by_cases h1 : d.A < 512
      · have HTT : Hid (thB O d.N 0 1 = may) := by show _ = _; rw [th01 h0 h1]; exact HMY.out
        go_wp2_with fail
        refine (refThere6_any d.N 0 1 w1 HB1.out.doc).mono ?_
        rintro e w2 ⟨rfl, b2⟩
        rw [HTT.out]
        go_wp2
        go_meet
        exact ⟨rfl, b2⟩
      · have hm0 : may = false := by rw [← HMY.out]; exact decide_eq_false (by omega)
        subst hm0
        go_wp2
        go_meet
        exact ⟨rfl, Below.refl _ _⟩
    · have hm0 : may = false := by rw [← HMY.out]; exact decide_eq_false (by omega)
      subst hm0
      go_wp2
      go_meet
      exact ⟨rfl, Below.refl _ _⟩
  case rest =>
    obtain ⟨rfl, b2⟩ := hcut
    generalize wc = w2 at *
    have HX3 : Hid (Bxd B E w w2 xb db rb #[.slice aO m cO, .slice aW m cW, .int .i64 (now : Int), .slice aL L.length cL] d) := HX2.out.below b2
    have HB3 : Hid (Both B E C w2 r (.slice aO m cO) (.slice aW m cW) (.slice aL L.length cL) now m t x O S P W L) := HB1.out.below b2
    clear b2 x0 x1 x2 x3 k0 k1 k2 k3 k4 k5
    have k0 := HX3.out.k0
    rw [HK.out] at k0
    cases may with
    | false =>
      go_upto_region 26 with (fail)
      generalize w2 = w5 at *
      have HX5 := HX3
      have HB5 := HB3
      have HL5 : Hid (LogAt C w5 (.slice aL L.length cL) L) := HB3.out.log
      have HAS : Hid (AsLog m (wdP O P d.N d.A d.V) L) := by
        show AsLog _ _ _
        rw [wdP_no HMY.out]; exact HB3.out.asl
      have x0 : w5.cell? ⟨xb, 0, none⟩ = some (.slice aO m cO) := HX5.out.xc 0
      have x1 : w5.cell? ⟨xb, 1, none⟩ = some (.slice aW m cW) := HX5.out.xc 1
      have x2 : w5.cell? ⟨xb, 2, none⟩ = some (.int .i64 (now : Int)) := HX5.out.xc 2
      have x3 : w5.cell? ⟨xb, 3, none⟩ = some (Value.slice aL L.length cL) := HX5.out.xc 3
      have k1 := HX5.out.k1
      have k2 := HX5.out.k2
      have k4 := HX5.out.k4
      have HBD : Hid (Both B E C w5.drew r (.slice aO m cO) (.slice aW m cW) (.slice aL L.length cL) now m t x O S P W L) := HB5.out.below (drew_below _ _)
      have HXD : Hid (Bxd B E w w5.drew xb db rb #[.slice aO m cO, .slice aW m cW, .int .i64 (now : Int), Value.slice aL L.length cL] d) := HX5.out.below (drew_below _ _)
      have HLD : Hid (LogAt C w5.drew (Value.slice aL L.length cL) (L)) := HL5.out.below (drew_below _ _)
      have nxr : xb ≠ rb := HXD.out.lo.2.2.2.2.1
      have ndr : db ≠ rb := HXD.out.lo.2.2.2.2.2.1
      go_region_held3 (fun w' => w'.cell? ⟨xb, 0, none⟩ = some (.slice aO m cO) ∧ w'.cell? ⟨xb, 1, none⟩ = some (.slice aW m cW) ∧ w'.cell? ⟨xb, 2, none⟩ = some (.int .i64 (now : Int)) ∧ w'.cell? ⟨xb, 3, none⟩ = some (Value.slice aL L.length cL) ∧ w'.cell? ⟨db, 1, none⟩ = some (.int .i64 d.N) ∧ w'.cell? ⟨db, 2, none⟩ = some (.int .i64 d.A) ∧ w'.cell? ⟨db, 4, none⟩ = some (.int .u64 (d.V : Int))) (first | (go_keep; done) | (simp only [cell_res4 nxr, cell_res4 ndr]; first | done | (go_keep; done))) (first | (go_at_call 10; refine (ramSetWord_is d.N d.A d.V _ HBD.out.ram hx HMY.out).mono ?_; rintro e w6 ⟨rfl, h6, t6⟩; have H6 : Hid _ := h6; have T6 : Hid _ := t6; have HX9 : Hid (Bxd B E w w6 xb db rb #[.slice aO m cO, .slice aW m cW, .int .i64 (now : Int), Value.slice aL L.length cL] d) := HXD.out.turns t6; clear h6 t6; have z0 : w6.cell? ⟨xb, 0, none⟩ = some (.slice aO m cO) := HX9.out.xc 0; have z1 : w6.cell? ⟨xb, 1, none⟩ = some (.slice aW m cW) := HX9.out.xc 1; have z2 : w6.cell? ⟨xb, 2, none⟩ = some (.int .i64 (now : Int)) := HX9.out.xc 2; have z3 : w6.cell? ⟨xb, 3, none⟩ = some (Value.slice aL L.length cL) := HX9.out.xc 3; have l1 := HX9.out.k1; have l2 := HX9.out.k2; have l4 := HX9.out.k4; have r0 := HX9.out.r0; have r1 := HX9.out.r1; have r2 := HX9.out.r2; have r3 := HX9.out.r3; have f0 := HX9.out.fr 0; have f1 := HX9.out.fr 1; have f2 := HX9.out.fr 2; have f3 := HX9.out.fr 3))
      all_goals
        go_wp2
        have HBF : Both B E C w6 r (.slice aO m cO) (.slice aW m cW) (Value.slice aL L.length cL) now m t (up x false) O S (wdP O P d.N d.A d.V) W (L) := HBD.out.turn H6.out T6.out HBD.out.doc HLD.out HBD.out.dat HAS.out
        refine bodyPost_ret (results_cell_tmp2 Try.results16 _ _ rb _ _ _ _ rfl (res4_kept HX9.out.r) Try.underlying45 rfl Try.sizeR) rfl
          ⟨_, _, _, _, _, _, _, _, _, _, false, ?_, HBF.fin HX9.out _ _ _ _, HX9.out.fin _ _ _ _, by omega, by omega, by simp⟩
        rfl
    | true =>
      obtain ⟨nd, i, hnd, hi, hnl, h0, hi5⟩ := wd_of' HMY.out
      rw [HB3.out.ram.good.len] at hnl
      have HND : Hid (d.N = (nd : Int)) := hnd
      have HNL : Hid (nd < m) := hnl
      have HI : Hid (d.A = (i : Int)) := hi
      have k1 := HX3.out.k1
      have k2 := HX3.out.k2
      have k4 := HX3.out.k4
      rw [hi] at k2
      have x0 : w2.cell? ⟨xb, 0, none⟩ = some (.slice aO m cO) := HX3.out.xc 0
      have x1 : w2.cell? ⟨xb, 1, none⟩ = some (.slice aW m cW) := HX3.out.xc 1
      have x2 : w2.cell? ⟨xb, 2, none⟩ = some (.int .i64 (now : Int)) := HX3.out.xc 2
      have x3 : w2.cell? ⟨xb, 3, none⟩ = some (.slice aL L.length cL) := HX3.out.xc 3
      have h8 : IntKind.i64.wrap (8 * (i : Int)) = 8 * (i : Int) := IntWalk.i64_in _ (by omega)
      have HXD : Hid (Bxd B E w w2.drew xb db rb #[.slice aO m cO, .slice aW m cW, .int .i64 (now : Int), .slice aL L.length cL] d) := HX3.out.below (drew_below _ _)
      have HBD : Hid (Both B E C w2.drew r (.slice aO m cO) (.slice aW m cW) (.slice aL L.length cL) now m t x O S P W L) := HB3.out.below (drew_below _ _)
      have H96 : Hid (nd < 96) := by show _ < _; have := HB3.out.ram.small; omega
      have HA8 : Hid (8 * (i : Int) = ((8 * i : Nat) : Int)) := by show _ = _; omega
      have HL8 : Hid (8 * i + (putN 8 d.V).length ≤ 4096) := by show _ ≤ _; rw [length_putN]; omega
      clear hnd hi hnl h0
      go_upto_region 25 with (fail)
      have ndx : db ≠ xb := Ne.symm HXD.out.lo.2.2.2.1
      refine wp_region_held_drew (S := fun w' => w'.cell? ⟨db, 1, none⟩ = some (.int .i64 d.N) ∧ w'.cell? ⟨db, 2, none⟩ = some (.int .i64 (i : Int)) ∧ w'.cell? ⟨db, 4, none⟩ = some (.int .u64 (d.V : Int))) (by kernel_rfl) ?_ (fun hHeld => ?_)
      · go_keep
      refine wpAnyH_take (i := 1) (oi := { dst := some 163, op := Op.fieldAddr 50 (Operand.tmp 5) 1, type := 0, pos := "law.go:69", after := #[], guard := none }) (v := ?v1) rfl (by kernel_rfl) (by kernel_rfl) (by kernel_rfl) (fun _ _ _ h => h) (Or.inl ⟨by rfl, ?hy1⟩) (by assumption) ?rest1
      case hy1 =>
        intro w hSw
        try dsimp only at hSw
        go_simp
        try with_reducible rfl
      simp only [Act.put, List.setIfInBounds_toArray, List.set_cons_zero, List.set_cons_succ]
      refine wpAnyH_take (i := 2) (oi := { dst := some 164, op := Op.load 3 (Operand.tmp 163), type := 3, pos := "law.go:69", after := #[{ on := 1, ground := Ground.data }], guard := none }) (v := ?v2) rfl (by kernel_rfl) (by kernel_rfl) (by kernel_rfl) (fun _ _ _ h => h) (Or.inl ⟨by rfl, ?hy2⟩) (by assumption) ?rest2
      case hy2 =>
        intro w hSw
        try dsimp only at hSw
        go_simp
        try with_reducible rfl
      simp only [Act.put, List.setIfInBounds_toArray, List.set_cons_zero, List.set_cons_succ]
      refine wpAnyH_take (i := 3) (oi := { dst := some 165, op := Op.fieldAddr 50 (Operand.tmp 5) 2, type := 0, pos := "law.go:69", after := #[], guard := none }) (v := ?v3) rfl (by kernel_rfl) (by kernel_rfl) (by kernel_rfl) (fun _ _ _ h => h) (Or.inl ⟨by rfl, ?hy3⟩) (by assumption) ?rest3
      case hy3 =>
        intro w hSw
        try dsimp only at hSw
        go_simp
        try with_reducible rfl
      simp only [Act.put, List.setIfInBounds_toArray, List.set_cons_zero, List.set_cons_succ]
      refine wpAnyH_take (i := 4) (oi := { dst := some 166, op := Op.load 3 (Operand.tmp 165), type := 3, pos := "law.go:69", after := #[{ on := 3, ground := Ground.data }], guard := none }) (v := ?v4) rfl (by kernel_rfl) (by kernel_rfl) (by kernel_rfl) (fun _ _ _ h => h) (Or.inl ⟨by rfl, ?hy4⟩) (by assumption) ?rest4
      case hy4 =>
        intro w hSw
        try dsimp only at hSw
        go_simp
        try with_reducible rfl
      simp only [Act.put, List.setIfInBounds_toArray, List.set_cons_zero, List.set_cons_succ]
      refine wpAnyH_take (i := 5) (oi := { dst := some 167, op := Op.binOp BinOp.mul 3 (Operand.const (Value.int IntKind.i64 8)) (Operand.tmp 166) 3, type := 3, pos := "law.go:69", after := #[{ on := 4, ground := Ground.data }], guard := none }) (v := ?v5) rfl (by kernel_rfl) (by kernel_rfl) (by kernel_rfl) (fun _ _ _ h => h) (Or.inl ⟨by rfl, ?hy5⟩) (by assumption) ?rest5
      case hy5 =>
        intro w hSw
        try dsimp only at hSw
        go_simp
        try with_reducible rfl
      simp only [Act.put, List.setIfInBounds_toArray, List.set_cons_zero, List.set_cons_succ]
      refine wpAnyH_take (i := 6) (oi := { dst := some 168, op := Op.fieldAddr 50 (Operand.tmp 5) 4, type := 0, pos := "law.go:69", after := #[], guard := none }) (v := ?v6) rfl (by kernel_rfl) (by kernel_rfl) (by kernel_rfl) (fun _ _ _ h => h) (Or.inl ⟨by rfl, ?hy6⟩) (by assumption) ?rest6
      case hy6 =>
        intro w hSw
        try dsimp only at hSw
        go_simp
        try with_reducible rfl
      simp only [Act.put, List.setIfInBounds_toArray, List.set_cons_zero, List.set_cons_succ]
      refine wpAnyH_take (i := 7) (oi := { dst := some 169, op := Op.load 27 (Operand.tmp 168), type := 27, pos := "law.go:69", after := #[{ on := 6, ground := Ground.data }], guard := none }) (v := ?v7) rfl (by kernel_rfl) (by kernel_rfl) (by kernel_rfl) (fun _ _ _ h => h) (Or.inl ⟨by rfl, ?hy7⟩) (by assumption) ?rest7
      case hy7 =>
        intro w hSw
        try dsimp only at hSw
        go_simp
        try with_reducible rfl
      simp only [Act.put, List.setIfInBounds_toArray, List.set_cons_zero, List.set_cons_succ]
      refine wpAnyH_ready (rs := [0, 8]) (by kernel_rfl) (by simp) ?_
      refine AllReadyH.cons (o := { dst := some 162, op := Op.load 45 (Operand.tmp 4), type := 45, pos := "law.go:69", after := #[], guard := none }) rfl (fun K hK => ?_) ?_
      · go_simp
        refine hK.out _ _ ?_ (fun hHeld => ?_)
        · first | (go_keep; done) | (simp only [cell_res4 ndx]; first | done | (go_keep; done))
        clear hK K
        try simp only [Act.put, List.setIfInBounds_toArray, List.set_cons_zero, List.set_cons_succ]
        refine wpAnyH_ready (rs := [8]) (by kernel_rfl) (by simp) ?_
        refine AllReadyH.cons (o := { dst := some 170, op := Op.call { callee := Callee.value (Operand.func 37), args := #[Operand.const (Value.int IntKind.i64 8), Operand.tmp 169], argTypes := #[3, 27] }, type := 24, pos := "law.go:69", after := #[{ on := 7, ground := Ground.data }], guard := none }) rfl (fun K hK => ?_) ?_
        · go_simp
          refine (refPut_any 8 d.V 8 _ rfl rfl _ (by omega) hv).mono ?_
          rintro e w3 ⟨v3, rfl, own3, b3⟩
          have HX4 : Hid (Bxd B E w w3 xb db rb #[.slice aO m cO, .slice aW m cW, .int .i64 (now : Int), .slice aL L.length cL] d) := HXD.out.below b3
          have HB4 : Hid (Both B E C w3 r (.slice aO m cO) (.slice aW m cW) (.slice aL L.length cL) now m t x O S P W L) := HBD.out.below b3
          have HSR : Hid (SrcAt w3 v3 (putN 8 d.V).length 1 (bv (putN 8 d.V))) := (by have := src_row own3; rw [length_putN]; exact this)
          have y0 : w3.cell? ⟨xb, 0, none⟩ = some (.slice aO m cO) := HX4.out.xc 0
          have y1 : w3.cell? ⟨xb, 1, none⟩ = some (.slice aW m cW) := HX4.out.xc 1
          have y2 : w3.cell? ⟨xb, 2, none⟩ = some (.int .i64 (now : Int)) := HX4.out.xc 2
          have y3 : w3.cell? ⟨xb, 3, none⟩ = some (.slice aL L.length cL) := HX4.out.xc 3
          have l1 := HX4.out.k1
          have l2 : w3.cell? ⟨db, 2, none⟩ = some (.int .i64 (i : Int)) := (by have := HX4.out.k2; rw [HI.out] at this; exact this)
          have l4 := HX4.out.k4
          clear own3 b3
          go_wp2_with fail
          refine hK.out _ _ ?_ (fun hHeld => ?_)
          · first | (go_keep; done) | (simp only [cell_res4 ndx]; first | done | (go_keep; done))
          clear hK K
          try simp only [Act.put, List.setIfInBounds_toArray, List.set_cons_zero, List.set_cons_succ]
          refine wpAnyH_ready (rs := [9]) (by kernel_rfl) (by simp) ?_
          refine AllReadyH.cons (o := { dst := some 171, op := Op.call { callee := Callee.value (Operand.func 36), args := #[Operand.tmp 162, Operand.tmp 164, Operand.tmp 167, Operand.tmp 170], argTypes := #[45, 3, 3, 24] }, type := 45, pos := "law.go:69", after := #[{ on := 0, ground := Ground.data }, { on := 2, ground := Ground.data }, { on := 5, ground := Ground.data }, { on := 8, ground := Ground.data }, { on := 8, ground := Ground.chain }], guard := none }) rfl (fun K hK => ?_) ?_
          · go_simp
            refine (refWrite6_is w3 HND.out HA8.out HB4.out.log hL HB4.out.cw H96.out HL8.out HSR.out ⟨_, _, rfl⟩ ⟨_, _, rfl⟩).mono ?_
            rintro e w4 ⟨vL4, vb4, rfl, hl4, b4⟩
            obtain ⟨L3, hL3⟩ : ∃ L3, L ++ [(⟨nd, 8 * i, vb4, putN 8 d.V⟩ : Wt)] = L3 := ⟨_, rfl⟩
            have HL3 : Hid (L ++ [(⟨nd, 8 * i, vb4, putN 8 d.V⟩ : Wt)] = L3) := hL3
            rw [hL3] at hl4
            clear hL3
            obtain ⟨aL4, cL4, rfl⟩ := row_slice hl4.row
            have HX6 : Hid (Bxd B E w w4 xb db rb #[.slice aO m cO, .slice aW m cW, .int .i64 (now : Int), .slice aL L.length cL] d) := HX4.out.below b4
            have HB6 : Hid (Both B E C w4 r (.slice aO m cO) (.slice aW m cW) (.slice aL L.length cL) now m t x O S P W L) := HB4.out.below b4
            have HL6 : Hid (LogAt C w4 _ _) := hl4
            have g0 : w4.cell? ⟨xb, 0, none⟩ = some (.slice aO m cO) := HX6.out.xc 0
            have g1 : w4.cell? ⟨xb, 1, none⟩ = some (.slice aW m cW) := HX6.out.xc 1
            have g2 : w4.cell? ⟨xb, 2, none⟩ = some (.int .i64 (now : Int)) := HX6.out.xc 2
            have g3 : w4.cell? ⟨xb, 3, none⟩ = some (.slice aL L.length cL) := HX6.out.xc 3
            have fx0 := HX6.out.fx 0
            have fx1 := HX6.out.fx 1
            have fx2 := HX6.out.fx 2
            have fx3 := HX6.out.fx 3
            have o1 := HX6.out.k1
            have o2 : w4.cell? ⟨db, 2, none⟩ = some (.int .i64 (i : Int)) := (by have := HX6.out.k2; rw [HI.out] at this; exact this)
            have o4 := HX6.out.k4
            clear hl4 b4
            go_wp2_with fail
            refine hK.out _ _ ?_ (fun hHeld => ?_)
            · first | (go_keep; done) | (simp only [cell_res4 ndx]; first | done | (go_keep; done))
            clear hK K
            try simp only [Act.put, List.setIfInBounds_toArray, List.set_cons_zero, List.set_cons_succ]
            refine wpAnyH_ready (rs := [10]) (by kernel_rfl) (by simp) ?_
            refine AllReadyH.cons (o := { dst := none, op := Op.store 45 (Operand.tmp 4) (Operand.tmp 171), type := 0, pos := "law.go:69", after := #[{ on := 9, ground := Ground.data }, { on := 9, ground := Ground.chain }, { on := 0, ground := Ground.phase }, { on := 1, ground := Ground.phase }, { on := 2, ground := Ground.phase }, { on := 3, ground := Ground.phase }, { on := 4, ground := Ground.phase }, { on := 5, ground := Ground.phase }, { on := 6, ground := Ground.phase }, { on := 7, ground := Ground.phase }, { on := 8, ground := Ground.phase }, { on := 9, ground := Ground.phase }], guard := none }) rfl (fun K hK => ?_) ?_
            · go_simp
              refine hK.out _ _ ?_ (fun hHeld => ?_)
              · first | (go_keep; done) | (simp only [cell_res4 ndx]; first | done | (go_keep; done))
              clear hK K
              try simp only [Act.put, List.setIfInBounds_toArray, List.set_cons_zero, List.set_cons_succ]
              refine wpAnyH_done (by kernel_rfl) ?_ _
              have HTW : Hid (wdB O (nd : Int) (i : Int) = true) := by have := HMY.out; rw [HND.out, HI.out] at this; exact this
              have HAS : Hid (AsLog m (wdP O P d.N d.A d.V) L3) := by
                show AsLog _ _ _
                rw [← HL3.out, HND.out, HI.out, wd_wr HTW.out (th_word HTW.out)]
                exact HB3.out.asl.write HB3.out.ram.len HB3.out.ram.good.len (th_word HTW.out)
              have HX5 : Hid (Bxd B E w _ xb db rb #[.slice aO m cO, .slice aW m cW, .int .i64 (now : Int), .slice aL4 L3.length cL4] d) := HX6.out.setX (.slice aO m cO) (.slice aW m cW) (.int .i64 (now : Int)) (.slice aL4 L3.length cL4)
              have hxe : E ≤ xb := by have := HX6.out.lo; omega
              have HB5 : Hid (Both B E C _ r (.slice aO m cO) (.slice aW m cW) (.slice aL L.length cL) now m t x O S P W L) := HB6.out.tag (w' := (((w4.setCell ⟨xb, 0, none⟩ (.slice aO m cO)).setCell ⟨xb, 1, none⟩ (.slice aW m cW)).setCell ⟨xb, 2, none⟩ (.int .i64 (now : Int))).setCell ⟨xb, 3, none⟩ (.slice aL4 L3.length cL4)) HX6.out.x hxe (by simp) (fun g hg => res4_block hg)
              have HL5 : Hid (LogAt C ((((w4.setCell ⟨xb, 0, none⟩ (.slice aO m cO)).setCell ⟨xb, 1, none⟩ (.slice aW m cW)).setCell ⟨xb, 2, none⟩ (.int .i64 (now : Int))).setCell ⟨xb, 3, none⟩ (.slice aL4 L3.length cL4)) (.slice aL4 L3.length cL4) L3) := ⟨row_tag HL6.out.row HX6.out.x (by decide) (fun g hg => res4_block hg), fun t ht => ⟨row_tag (HL6.out.each t ht).1 HX6.out.x (by decide) (fun g hg => res4_block hg), (HL6.out.each t ht).2⟩⟩
              have HLN : Hid (L3.length ≤ L.length + 1) := by show _ ≤ _; rw [← HL3.out]; simp
              go_upto_region 26 with (fail)
              generalize (((w4.setCell ⟨xb, 0, none⟩ (.slice aO m cO)).setCell ⟨xb, 1, none⟩ (.slice aW m cW)).setCell ⟨xb, 2, none⟩ (.int .i64 (now : Int))).setCell ⟨xb, 3, none⟩ (.slice aL4 L3.length cL4) = w5 at *
              clear hHeld x0 x1 x2 x3 k1 k2 k4 y0 y1 y2 y3 l1 l2 l4 g0 g1 g2 g3 o1 o2 o4 fx0 fx1 fx2 fx3 hxe h8
              have x0 : w5.cell? ⟨xb, 0, none⟩ = some (.slice aO m cO) := HX5.out.xc 0
              have x1 : w5.cell? ⟨xb, 1, none⟩ = some (.slice aW m cW) := HX5.out.xc 1
              have x2 : w5.cell? ⟨xb, 2, none⟩ = some (.int .i64 (now : Int)) := HX5.out.xc 2
              have x3 : w5.cell? ⟨xb, 3, none⟩ = some (Value.slice aL4 L3.length cL4) := HX5.out.xc 3
              have k1 := HX5.out.k1
              have k2 := HX5.out.k2
              have k4 := HX5.out.k4
              have HBD : Hid (Both B E C w5.drew r (.slice aO m cO) (.slice aW m cW) (.slice aL L.length cL) now m t x O S P W L) := HB5.out.below (drew_below _ _)
              have HXD : Hid (Bxd B E w w5.drew xb db rb #[.slice aO m cO, .slice aW m cW, .int .i64 (now : Int), Value.slice aL4 L3.length cL4] d) := HX5.out.below (drew_below _ _)
              have HLD : Hid (LogAt C w5.drew (Value.slice aL4 L3.length cL4) (L3)) := HL5.out.below (drew_below _ _)
              have nxr : xb ≠ rb := HXD.out.lo.2.2.2.2.1
              have ndr : db ≠ rb := HXD.out.lo.2.2.2.2.2.1
              go_region_held3 (fun w' => w'.cell? ⟨xb, 0, none⟩ = some (.slice aO m cO) ∧ w'.cell? ⟨xb, 1, none⟩ = some (.slice aW m cW) ∧ w'.cell? ⟨xb, 2, none⟩ = some (.int .i64 (now : Int)) ∧ w'.cell? ⟨xb, 3, none⟩ = some (Value.slice aL4 L3.length cL4) ∧ w'.cell? ⟨db, 1, none⟩ = some (.int .i64 d.N) ∧ w'.cell? ⟨db, 2, none⟩ = some (.int .i64 d.A) ∧ w'.cell? ⟨db, 4, none⟩ = some (.int .u64 (d.V : Int))) (first | (go_keep; done) | (simp only [cell_res4 nxr, cell_res4 ndr]; first | done | (go_keep; done))) (first | (go_at_call 10; refine (ramSetWord_is d.N d.A d.V _ HBD.out.ram hx HMY.out).mono ?_; rintro e w6 ⟨rfl, h6, t6⟩; have H6 : Hid _ := h6; have T6 : Hid _ := t6; have HX9 : Hid (Bxd B E w w6 xb db rb #[.slice aO m cO, .slice aW m cW, .int .i64 (now : Int), Value.slice aL4 L3.length cL4] d) := HXD.out.turns t6; clear h6 t6; have z0 : w6.cell? ⟨xb, 0, none⟩ = some (.slice aO m cO) := HX9.out.xc 0; have z1 : w6.cell? ⟨xb, 1, none⟩ = some (.slice aW m cW) := HX9.out.xc 1; have z2 : w6.cell? ⟨xb, 2, none⟩ = some (.int .i64 (now : Int)) := HX9.out.xc 2; have z3 : w6.cell? ⟨xb, 3, none⟩ = some (Value.slice aL4 L3.length cL4) := HX9.out.xc 3; have l1 := HX9.out.k1; have l2 := HX9.out.k2; have l4 := HX9.out.k4; have r0 := HX9.out.r0; have r1 := HX9.out.r1; have r2 := HX9.out.r2; have r3 := HX9.out.r3; have f0 := HX9.out.fr 0; have f1 := HX9.out.fr 1; have f2 := HX9.out.fr 2; have f3 := HX9.out.fr 3))
              all_goals
                go_wp2
                have HBF : Both B E C w6 r (.slice aO m cO) (.slice aW m cW) (Value.slice aL4 L3.length cL4) now m t (up x true) O S (wdP O P d.N d.A d.V) W (L3) := HBD.out.turn H6.out T6.out HBD.out.doc HLD.out HBD.out.dat HAS.out
                refine bodyPost_ret (results_cell_tmp2 Try.results16 _ _ rb _ _ _ _ rfl (res4_kept HX9.out.r) Try.underlying45 rfl Try.sizeR) rfl
                  ⟨_, _, _, _, _, _, _, _, _, _, true, ?_, HBF.fin HX9.out _ _ _ _, HX9.out.fin _ _ _ _, by omega, by omega, HLN.out⟩
                rfl
            · exact AllReadyH.nil
          · exact AllReadyH.nil
        · exact AllReadyH.nil
      · refine AllReadyH.cons (o := { dst := some 170, op := Op.call { callee := Callee.value (Operand.func 37), args := #[Operand.const (Value.int IntKind.i64 8), Operand.tmp 169], argTypes := #[3, 27] }, type := 24, pos := "law.go:69", after := #[{ on := 7, ground := Ground.data }], guard := none }) rfl (fun K hK => ?_) ?_
        · go_simp
          refine (refPut_any 8 d.V 8 _ rfl rfl _ (by omega) hv).mono ?_
          rintro e w3 ⟨v3, rfl, own3, b3⟩
          have HX4 : Hid (Bxd B E w w3 xb db rb #[.slice aO m cO, .slice aW m cW, .int .i64 (now : Int), .slice aL L.length cL] d) := HXD.out.below b3
          have HB4 : Hid (Both B E C w3 r (.slice aO m cO) (.slice aW m cW) (.slice aL L.length cL) now m t x O S P W L) := HBD.out.below b3
          have HSR : Hid (SrcAt w3 v3 (putN 8 d.V).length 1 (bv (putN 8 d.V))) := (by have := src_row own3; rw [length_putN]; exact this)
          have y0 : w3.cell? ⟨xb, 0, none⟩ = some (.slice aO m cO) := HX4.out.xc 0
          have y1 : w3.cell? ⟨xb, 1, none⟩ = some (.slice aW m cW) := HX4.out.xc 1
          have y2 : w3.cell? ⟨xb, 2, none⟩ = some (.int .i64 (now : Int)) := HX4.out.xc 2
          have y3 : w3.cell? ⟨xb, 3, none⟩ = some (.slice aL L.length cL) := HX4.out.xc 3
          have l1 := HX4.out.k1
          have l2 : w3.cell? ⟨db, 2, none⟩ = some (.int .i64 (i : Int)) := (by have := HX4.out.k2; rw [HI.out] at this; exact this)
          have l4 := HX4.out.k4
          clear own3 b3
          go_wp2_with fail
          refine hK.out _ _ ?_ (fun hHeld => ?_)
          · first | (go_keep; done) | (simp only [cell_res4 ndx]; first | done | (go_keep; done))
          clear hK K
          try simp only [Act.put, List.setIfInBounds_toArray, List.set_cons_zero, List.set_cons_succ]
          refine wpAnyH_ready (rs := [0]) (by kernel_rfl) (by simp) ?_
          refine AllReadyH.cons (o := { dst := some 162, op := Op.load 45 (Operand.tmp 4), type := 45, pos := "law.go:69", after := #[], guard := none }) rfl (fun K hK => ?_) ?_
          · go_simp
            refine hK.out _ _ ?_ (fun hHeld => ?_)
            · first | (go_keep; done) | (simp only [cell_res4 ndx]; first | done | (go_keep; done))
            clear hK K
            try simp only [Act.put, List.setIfInBounds_toArray, List.set_cons_zero, List.set_cons_succ]
            refine wpAnyH_ready (rs := [9]) (by kernel_rfl) (by simp) ?_
            refine AllReadyH.cons (o := { dst := some 171, op := Op.call { callee := Callee.value (Operand.func 36), args := #[Operand.tmp 162, Operand.tmp 164, Operand.tmp 167, Operand.tmp 170], argTypes := #[45, 3, 3, 24] }, type := 45, pos := "law.go:69", after := #[{ on := 0, ground := Ground.data }, { on := 2, ground := Ground.data }, { on := 5, ground := Ground.data }, { on := 8, ground := Ground.data }, { on := 8, ground := Ground.chain }], guard := none }) rfl (fun K hK => ?_) ?_
            · go_simp
              refine (refWrite6_is w3 HND.out HA8.out HB4.out.log hL HB4.out.cw H96.out HL8.out HSR.out ⟨_, _, rfl⟩ ⟨_, _, rfl⟩).mono ?_
              rintro e w4 ⟨vL4, vb4, rfl, hl4, b4⟩
              obtain ⟨L3, hL3⟩ : ∃ L3, L ++ [(⟨nd, 8 * i, vb4, putN 8 d.V⟩ : Wt)] = L3 := ⟨_, rfl⟩
              have HL3 : Hid (L ++ [(⟨nd, 8 * i, vb4, putN 8 d.V⟩ : Wt)] = L3) := hL3
              rw [hL3] at hl4
              clear hL3
              obtain ⟨aL4, cL4, rfl⟩ := row_slice hl4.row
              have HX6 : Hid (Bxd B E w w4 xb db rb #[.slice aO m cO, .slice aW m cW, .int .i64 (now : Int), .slice aL L.length cL] d) := HX4.out.below b4
              have HB6 : Hid (Both B E C w4 r (.slice aO m cO) (.slice aW m cW) (.slice aL L.length cL) now m t x O S P W L) := HB4.out.below b4
              have HL6 : Hid (LogAt C w4 _ _) := hl4
              have g0 : w4.cell? ⟨xb, 0, none⟩ = some (.slice aO m cO) := HX6.out.xc 0
              have g1 : w4.cell? ⟨xb, 1, none⟩ = some (.slice aW m cW) := HX6.out.xc 1
              have g2 : w4.cell? ⟨xb, 2, none⟩ = some (.int .i64 (now : Int)) := HX6.out.xc 2
              have g3 : w4.cell? ⟨xb, 3, none⟩ = some (.slice aL L.length cL) := HX6.out.xc 3
              have fx0 := HX6.out.fx 0
              have fx1 := HX6.out.fx 1
              have fx2 := HX6.out.fx 2
              have fx3 := HX6.out.fx 3
              have o1 := HX6.out.k1
              have o2 : w4.cell? ⟨db, 2, none⟩ = some (.int .i64 (i : Int)) := (by have := HX6.out.k2; rw [HI.out] at this; exact this)
              have o4 := HX6.out.k4
              clear hl4 b4
              go_wp2_with fail
              refine hK.out _ _ ?_ (fun hHeld => ?_)
              · first | (go_keep; done) | (simp only [cell_res4 ndx]; first | done | (go_keep; done))
              clear hK K
              try simp only [Act.put, List.setIfInBounds_toArray, List.set_cons_zero, List.set_cons_succ]
              refine wpAnyH_ready (rs := [10]) (by kernel_rfl) (by simp) ?_
              refine AllReadyH.cons (o := { dst := none, op := Op.store 45 (Operand.tmp 4) (Operand.tmp 171), type := 0, pos := "law.go:69", after := #[{ on := 9, ground := Ground.data }, { on := 9, ground := Ground.chain }, { on := 0, ground := Ground.phase }, { on := 1, ground := Ground.phase }, { on := 2, ground := Ground.phase }, { on := 3, ground := Ground.phase }, { on := 4, ground := Ground.phase }, { on := 5, ground := Ground.phase }, { on := 6, ground := Ground.phase }, { on := 7, ground := Ground.phase }, { on := 8, ground := Ground.phase }, { on := 9, ground := Ground.phase }], guard := none }) rfl (fun K hK => ?_) ?_
              · go_simp
                refine hK.out _ _ ?_ (fun hHeld => ?_)
                · first | (go_keep; done) | (simp only [cell_res4 ndx]; first | done | (go_keep; done))
                clear hK K
                try simp only [Act.put, List.setIfInBounds_toArray, List.set_cons_zero, List.set_cons_succ]
                refine wpAnyH_done (by kernel_rfl) ?_ _
                have HTW : Hid (wdB O (nd : Int) (i : Int) = true) := by have := HMY.out; rw [HND.out, HI.out] at this; exact this
                have HAS : Hid (AsLog m (wdP O P d.N d.A d.V) L3) := by
                  show AsLog _ _ _
                  rw [← HL3.out, HND.out, HI.out, wd_wr HTW.out (th_word HTW.out)]
                  exact HB3.out.asl.write HB3.out.ram.len HB3.out.ram.good.len (th_word HTW.out)
                have HX5 : Hid (Bxd B E w _ xb db rb #[.slice aO m cO, .slice aW m cW, .int .i64 (now : Int), .slice aL4 L3.length cL4] d) := HX6.out.setX (.slice aO m cO) (.slice aW m cW) (.int .i64 (now : Int)) (.slice aL4 L3.length cL4)
                have hxe : E ≤ xb := by have := HX6.out.lo; omega
                have HB5 : Hid (Both B E C _ r (.slice aO m cO) (.slice aW m cW) (.slice aL L.length cL) now m t x O S P W L) := HB6.out.tag (w' := (((w4.setCell ⟨xb, 0, none⟩ (.slice aO m cO)).setCell ⟨xb, 1, none⟩ (.slice aW m cW)).setCell ⟨xb, 2, none⟩ (.int .i64 (now : Int))).setCell ⟨xb, 3, none⟩ (.slice aL4 L3.length cL4)) HX6.out.x hxe (by simp) (fun g hg => res4_block hg)
                have HL5 : Hid (LogAt C ((((w4.setCell ⟨xb, 0, none⟩ (.slice aO m cO)).setCell ⟨xb, 1, none⟩ (.slice aW m cW)).setCell ⟨xb, 2, none⟩ (.int .i64 (now : Int))).setCell ⟨xb, 3, none⟩ (.slice aL4 L3.length cL4)) (.slice aL4 L3.length cL4) L3) := ⟨row_tag HL6.out.row HX6.out.x (by decide) (fun g hg => res4_block hg), fun t ht => ⟨row_tag (HL6.out.each t ht).1 HX6.out.x (by decide) (fun g hg => res4_block hg), (HL6.out.each t ht).2⟩⟩
                have HLN : Hid (L3.length ≤ L.length + 1) := by show _ ≤ _; rw [← HL3.out]; simp
                go_upto_region 26 with (fail)
                generalize (((w4.setCell ⟨xb, 0, none⟩ (.slice aO m cO)).setCell ⟨xb, 1, none⟩ (.slice aW m cW)).setCell ⟨xb, 2, none⟩ (.int .i64 (now : Int))).setCell ⟨xb, 3, none⟩ (.slice aL4 L3.length cL4) = w5 at *
                clear hHeld x0 x1 x2 x3 k1 k2 k4 y0 y1 y2 y3 l1 l2 l4 g0 g1 g2 g3 o1 o2 o4 fx0 fx1 fx2 fx3 hxe h8
                have x0 : w5.cell? ⟨xb, 0, none⟩ = some (.slice aO m cO) := HX5.out.xc 0
                have x1 : w5.cell? ⟨xb, 1, none⟩ = some (.slice aW m cW) := HX5.out.xc 1
                have x2 : w5.cell? ⟨xb, 2, none⟩ = some (.int .i64 (now : Int)) := HX5.out.xc 2
                have x3 : w5.cell? ⟨xb, 3, none⟩ = some (Value.slice aL4 L3.length cL4) := HX5.out.xc 3
                have k1 := HX5.out.k1
                have k2 := HX5.out.k2
                have k4 := HX5.out.k4
                have HBD : Hid (Both B E C w5.drew r (.slice aO m cO) (.slice aW m cW) (.slice aL L.length cL) now m t x O S P W L) := HB5.out.below (drew_below _ _)
                have HXD : Hid (Bxd B E w w5.drew xb db rb #[.slice aO m cO, .slice aW m cW, .int .i64 (now : Int), Value.slice aL4 L3.length cL4] d) := HX5.out.below (drew_below _ _)
                have HLD : Hid (LogAt C w5.drew (Value.slice aL4 L3.length cL4) (L3)) := HL5.out.below (drew_below _ _)
                have nxr : xb ≠ rb := HXD.out.lo.2.2.2.2.1
                have ndr : db ≠ rb := HXD.out.lo.2.2.2.2.2.1
                go_region_held3 (fun w' => w'.cell? ⟨xb, 0, none⟩ = some (.slice aO m cO) ∧ w'.cell? ⟨xb, 1, none⟩ = some (.slice aW m cW) ∧ w'.cell? ⟨xb, 2, none⟩ = some (.int .i64 (now : Int)) ∧ w'.cell? ⟨xb, 3, none⟩ = some (Value.slice aL4 L3.length cL4) ∧ w'.cell? ⟨db, 1, none⟩ = some (.int .i64 d.N) ∧ w'.cell? ⟨db, 2, none⟩ = some (.int .i64 d.A) ∧ w'.cell? ⟨db, 4, none⟩ = some (.int .u64 (d.V : Int))) (first | (go_keep; done) | (simp only [cell_res4 nxr, cell_res4 ndr]; first | done | (go_keep; done))) (first | (go_at_call 10; refine (ramSetWord_is d.N d.A d.V _ HBD.out.ram hx HMY.out).mono ?_; rintro e w6 ⟨rfl, h6, t6⟩; have H6 : Hid _ := h6; have T6 : Hid _ := t6; have HX9 : Hid (Bxd B E w w6 xb db rb #[.slice aO m cO, .slice aW m cW, .int .i64 (now : Int), Value.slice aL4 L3.length cL4] d) := HXD.out.turns t6; clear h6 t6; have z0 : w6.cell? ⟨xb, 0, none⟩ = some (.slice aO m cO) := HX9.out.xc 0; have z1 : w6.cell? ⟨xb, 1, none⟩ = some (.slice aW m cW) := HX9.out.xc 1; have z2 : w6.cell? ⟨xb, 2, none⟩ = some (.int .i64 (now : Int)) := HX9.out.xc 2; have z3 : w6.cell? ⟨xb, 3, none⟩ = some (Value.slice aL4 L3.length cL4) := HX9.out.xc 3; have l1 := HX9.out.k1; have l2 := HX9.out.k2; have l4 := HX9.out.k4; have r0 := HX9.out.r0; have r1 := HX9.out.r1; have r2 := HX9.out.r2; have r3 := HX9.out.r3; have f0 := HX9.out.fr 0; have f1 := HX9.out.fr 1; have f2 := HX9.out.fr 2; have f3 := HX9.out.fr 3))
                all_goals
                  go_wp2
                  have HBF : Both B E C w6 r (.slice aO m cO) (.slice aW m cW) (Value.slice aL4 L3.length cL4) now m t (up x true) O S (wdP O P d.N d.A d.V) W (L3) := HBD.out.turn H6.out T6.out HBD.out.doc HLD.out HBD.out.dat HAS.out
                  refine bodyPost_ret (results_cell_tmp2 Try.results16 _ _ rb _ _ _ _ rfl (res4_kept HX9.out.r) Try.underlying45 rfl Try.sizeR) rfl
                    ⟨_, _, _, _, _, _, _, _, _, _, true, ?_, HBF.fin HX9.out _ _ _ _, HX9.out.fin _ _ _ _, by omega, by omega, HLN.out⟩
                  rfl
              · exact AllReadyH.nil
            · exact AllReadyH.nil
          · exact AllReadyH.nil
        · exact AllReadyH.nil
end Go.Proofs.Yteebjeifbccbnaa
