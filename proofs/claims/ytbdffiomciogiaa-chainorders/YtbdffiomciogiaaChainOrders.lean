/- Proved: gunnylaw03.ChainOrders returns true for all lists of bytes: numbers come out, the oldest one each time, in the order in which they were pushed last. No conditions. -/
import Derived.Test.YtbdffiomciogiaaCWhen
import Derived.Test.YtbdffiomciogiaaCLives
import Derived.Test.YtbdffiomciogiaaBOpen
namespace Go.Proofs.Ytbdffiomciogiaa.ChainOrders
open Go.ChangeShapes Go.WideShapes Go.ChangeAt Go.RowKit
set_option linter.unusedVariables false
theorem own : ownKnob Try.prog.godebug = none := by kernel_rfl
theorem laidOut : laidOutB Try.prog = true := by kernel_rfl
theorem later_at {k : IntKind} {w w' : World} {a : Option Addr} {zs : List Int} (h : IntsAt k w a zs) (hb : Below w.heap.size w w') {i : Nat} (hi : i < zs.length) :
    ∃ b off, a = some ⟨b, off, none⟩ ∧ b < w.heap.size ∧ w'.cell? ⟨b, off + i, none⟩ = some (.int k (zs.getD i 0)) := by
  rcases h with rfl | ⟨b, off, rfl, hlt, hc⟩
  · simp at hi
  · exact ⟨b, off, rfl, hlt, by rw [hb.cell (p := ⟨b, off + i, none⟩) hlt]; exact hc i hi⟩
/-- The round's state. -/
structure Held (w wr : World) (E wb : Nat) (p : Option Addr) (k : Nat) (W : List Int) (x : List Nat) : Prop where
  chain : ChainP w.heap.size E wr p 256 x
  arr : WAt wb wr W
  bel : Below w.heap.size w wr
  since : Since k W x
  lo : E ≤ wb
  wlo : w.heap.size ≤ wb

/-- The second round's state: j came out; y is left. -/
structure Rest (w wr : World) (E wb : Nat) (p : Option Addr) (W : List Int) (M j : Nat) (last : Int) (y : List Nat) : Prop where
  chain : ChainP w.heap.size E wr p 256 y
  arr : WAt wb wr W
  bel : Below w.heap.size w wr
  lo : E ≤ wb
  wlo : w.heap.size ≤ wb
  many : j + y.length = M
  pw : y.Pairwise (fun a b => W.getD a 0 < W.getD b 0)
  last : ∀ a ∈ y, last < W.getD a 0

set_option maxRecDepth 100000 in
set_option maxHeartbeats 1000000 in
theorem run (a : Option Addr) (L c : Nat) (zs : List Int) (w : World) (hzl : zs.length = L) (hL : L ≤ maxLen) (hz : IntsAt .u8 w a zs) (hz8 : ∀ z ∈ zs, 0 ≤ z ∧ z < 256) :
    Calls Try.prog 5 #[.slice a L c] w fun e w' => e = .returned (.bool true) ∧ Below w.heap.size w w' := by
  unfold maxLen at hL
  by_cases hlong : 300 < L
  · go_enter Try.func5, Try.ntmps5
    go_wp2_with fail
    refine (lives_any _).mono ?_
    rintro e w1 ⟨rfl, hb⟩
    go_wp2
    go_ret
    exact ⟨rfl, hb⟩
  · have HZ : Hid (IntsAt .u8 w a zs) := hz
    have HZL : Hid _ := hzl
    have HZ8 : Hid _ := hz8
    clear hz hzl hz8
    obtain ⟨Z, hZ⟩ : ∃ Z : Array Value, Z = Array.replicate 256 (.int .i64 0) := ⟨_, rfl⟩
    have hal := zero_when
    rw [← hZ] at hal
    go_enter Try.func5, Try.ntmps5
    go_wp2_with fail
    refine (new_any 256 _).mono ?_
    rintro e w1 ⟨p, rfl, h1, b1⟩
    rw [show szN 256 = 256 by decide] at h1
    have hH : Held w (w1.alloc (.cells Z 37)) w1.heap.size w1.heap.size p 0 (List.replicate 256 0) [] := by
      subst hZ
      exact ⟨h1.below ((Below.refl _ _).alloc (Nat.le_refl _) _), WAt.new w1, b1.alloc b1.size _, Since.start, Nat.le_refl _, b1.size⟩
    have HH : Hid _ := hH
    clear hH h1 b1 hZ
    generalize List.replicate 256 (0 : Int) = W0 at *
    go_wp2_with fail
    obtain ⟨wb, hwb⟩ : ∃ wb, wb = w1.heap.size := ⟨_, rfl⟩
    have HH2 : Hid (Held w (w1.alloc (.cells Z 37)) w1.heap.size wb p 0 W0 []) := by rw [hwb]; exact HH.out
    rw [← hwb]
    generalize w1.heap.size = E at *
    clear hwb HH
    generalize w1.alloc (.cells Z 37) = w2 at *
    clear hal
    go_loopw [5, 6] (fun mn i wr => ∃ (k : Nat) (W : List Int) (x : List Nat), k ≤ L ∧ i = .int .i64 k ∧ mn = .int .i64 (x.length : Nat) ∧ Held w wr E wb p k W x) (fun _ i _ => L - (intOf i).toNat)
    case atStart => exact ⟨0, _, _, Nat.zero_le _, rfl, rfl, HH2.out⟩
    case round =>
      obtain ⟨k, W, x, hk, rfl, rfl, hH⟩ := hrel
      have hxl := hH.chain.len
      by_cases hlt : k < L
      · obtain ⟨bz, off, rfl, hbz, hc⟩ := later_at HZ.out hH.bel (i := k) (by have := HZL.out; omega)
        have hq8 := HZ8.out (zs.getD k 0) (by
          have : k < zs.length := by have := HZL.out; omega
          simp [List.getD, this])
        generalize zs.getD k 0 = z at *
        obtain ⟨z, rfl⟩ := Int.eq_ofNat_of_zero_le hq8.1
        have hz : z < 256 := by omega
        clear hq8
        have hS := hH.since.push hH.chain.nd hz
        have HS : Hid _ := hS
        have HM : Hid _ := (pushL_byte (x := x) hz).1
        have HPL : Hid _ := (pushL_byte (x := x) hz).2
        have HMA : Hid _ := hH.since.many hz
        obtain ⟨q, hq⟩ : ∃ q, W.getD z 0 = q := ⟨_, rfl⟩
        have HQ : Hid _ := hq
        rw [hq] at HMA
        clear hS hq
        by_cases hq0 : q = 0
        · have HML : Hid ((x.erase z ++ [z]).length = x.length + 1) := by show _ = _; rw [HMA.out, if_pos hq0]
          go_wp2_with fail
          refine (push_any _ _ hH.chain).mono ?_
          rw [HM.out, HPL.out]
          rintro e w2 ⟨rfl, h2, t2⟩
          have a2 := hH.arr.keep (t2.block wb (.inr hH.lo))
          have b2 := hH.bel.trans t2.below
          have c2 := a2.cell hz
          have f2 := a2.frozen z
          have cl2 : w2.cell? ⟨bz, off + k, none⟩ = some (.int .u8 (z : Int)) := by rw [t2.below.cell (p := ⟨bz, off + k, none⟩) hbz]; exact hc
          rw [HQ.out] at c2
          have H2 : Hid (ChainP w.heap.size E w2 p 256 (x.erase z ++ [z])) := h2
          have A2 : Hid (WAt wb w2 W) := a2
          have hne : bz ≠ wb := by have := hH.wlo; omega
          clear h2 a2
          go_wp2
          go_roundw
          case rel =>
            refine ⟨k + 1, _, _, by omega, by go_num, by rw [HML.out]; go_num, ?_, ?_, b2.setCell hH.wlo _, HS.out, hH.lo, hH.wlo⟩
            · exact H2.out.kept (fun i hi => Below.heap_setCell _ _ _ _ (by have := hH.lo; show i ≠ wb; omega)) (by simp)
            · exact A2.out.set z _
          case measure => simp [intOf]; omega
        · have HML : Hid ((x.erase z ++ [z]).length = x.length) := by show _ = _; rw [HMA.out, if_neg hq0]
          go_wp2_with fail
          refine (push_any _ _ hH.chain).mono ?_
          rw [HM.out, HPL.out]
          rintro e w2 ⟨rfl, h2, t2⟩
          have a2 := hH.arr.keep (t2.block wb (.inr hH.lo))
          have b2 := hH.bel.trans t2.below
          have c2 := a2.cell hz
          have f2 := a2.frozen z
          have cl2 : w2.cell? ⟨bz, off + k, none⟩ = some (.int .u8 (z : Int)) := by rw [t2.below.cell (p := ⟨bz, off + k, none⟩) hbz]; exact hc
          rw [HQ.out] at c2
          have H2 : Hid (ChainP w.heap.size E w2 p 256 (x.erase z ++ [z])) := h2
          have A2 : Hid (WAt wb w2 W) := a2
          have hne : bz ≠ wb := by have := hH.wlo; omega
          clear h2 a2
          go_wp2
          go_roundw
          case rel =>
            refine ⟨k + 1, _, _, by omega, by go_num, by rw [HML.out], ?_, ?_, b2.setCell hH.wlo _, HS.out, hH.lo, hH.wlo⟩
            · exact H2.out.kept (fun i hi => Below.heap_setCell _ _ _ _ (by have := hH.lo; show i ≠ wb; omega)) (by simp)
            · exact A2.out.set z _
          case measure => simp [intOf]; omega
      · have e : k = L := by omega
        subst e
        have hH2 : Rest w wr E wb p W x.length 0 0 x := ⟨hH.chain, hH.arr, hH.bel, hH.lo, hH.wlo, by omega, hH.since.pw, fun a ha => by
          have h1 := hH.since.pos a
          have h2 : W.getD a 0 ≠ 0 := fun e => (hH.since.mem a (hH.chain.lt a ha)).1 e ha
          omega⟩
        have HH3 : Hid _ := hH2
        clear hH2 hH HH2
        generalize x.length = M at *
        go_wp2_with fail
        go_loopw [7, 8, 9, 10] (fun ls i _ _ wq => ∃ (j : Nat) (last : Int) (y : List Nat), i = .int .i64 j ∧ ls = .int .i64 last ∧ Rest w wq E wb p W M j last y) (fun _ i _ _ _ => M - (intOf i).toNat)
        case atStart => exact ⟨0, 0, _, rfl, rfl, HH3.out⟩
        case round =>
          rename_i wq
          obtain ⟨j, last, y, rfl, rfl, hR⟩ := hrel
          have hml := hR.many
          cases y with
          | nil =>
            have e : j = M := by simpa using hml
            subst e
            go_wp2_with (first | (go_at_call 10; refine (len_any _ hR.chain).mono ?_; rintro e w' ⟨rfl, rfl⟩) | (go_at_call 11; refine (lives_any _).mono ?_; rintro e w4 ⟨rfl, hb4⟩))
            go_ret
            exact ⟨rfl, hR.bel.trans (hb4.mono hR.bel.size)⟩
          | cons n y =>
            have hjm : j < M := by simp at hml; omega
            have hn := hR.chain.lt n (by simp)
            have hla := hR.last n (by simp)
            have cA := hR.arr.cell hn
            have hpw := List.pairwise_cons.1 hR.pw
            obtain ⟨q, hq⟩ : ∃ q, W.getD n 0 = q := ⟨_, rfl⟩
            rw [hq] at hla cA
            have HQ : Hid _ := hq
            have HP : Hid _ := hpw
            have HE : Hid ((n :: y).erase n = y) := by simp [Hid]
            have HD : Hid (decide (n ∈ n :: y) = true) := by simp [Hid]
            have HO : Hid (oldN (n :: y) = n ∧ oldB (n :: y) = true) := ⟨rfl, rfl⟩
            clear hq hpw
            go_wp2_with fail
            refine (oldest_any _ hR.chain).mono ?_
            rw [HO.out.1, HO.out.2]
            rintro e w5 ⟨rfl, q5, rfl⟩
            go_wp2_with fail
            refine (drop_any _ _ (hR.chain.drewN q5)).mono ?_
            rw [HD.out, HE.out]
            rintro e w6 ⟨rfl, h6, t6⟩
            have a6 := hR.arr.keep (w' := w6) (t6.block wb (.inr hR.lo))
            have c6 := a6.cell hn
            rw [HQ.out] at c6
            have H6 : Hid (Rest w w6 E wb p W M (j + 1) q y) := ⟨h6, a6, (hR.bel.trans (drewN_below _ _ q5)).trans t6.below, hR.lo, hR.wlo, by simp at hml; omega, HP.out.2, fun a ha => by
              have := HP.out.1 a ha
              rw [HQ.out] at this
              exact this⟩
            clear h6 a6 t6
            go_wp2
            go_roundw
            case rel => exact ⟨j + 1, q, y, by go_num, rfl, H6.out⟩
            case measure => simp [intOf]; omega

theorem walk {H : Type} {enc : TypeId × Value → H} {w : World} {base : Nat} {v0 : Value} {d0 : DataW H} {p0 : List MemPlace}
    (o0 : Value.okWide Try.prog w .any base 36 v0) (h0 : DataW.Trod enc Try.prog w 0 (fun _ => true) true 36 v0 d0 p0) :
    Calls Try.prog 5 #[v0] w fun e w' => e = .returned (.bool true) ∧ Below w.heap.size w w' := by
  obtain ⟨a, L, c, zs, rfl, hzl, hL, hz, h8⟩ := openList Try.underlying36 Try.underlying5 (by kernel_rfl) o0 h0
  exact run a L c zs w hzl hL hz (fun z hz => by have := bounds_u8 (h8 z hz); omega)

set_option maxRecDepth 100000 in
theorem lifted (os : Os) (started : os.Started) (H : Type) (enc : TypeId × Value → H) :
    ReturnsInHanded {} Try.checked os 5 .any (Rows.chainOrdersSpec.pre6 enc Try.prog Try.f5 Rows.chainOrdersRow.domain false) (Rows.chainOrdersSpec.post enc Try.prog Try.f5 false true false false) := by
  refine returnsInHanded_of_change (C := Try.checked) own started (by kernel_rfl) Try.func5
    (ChangeSpec.witness6 (enc := enc) (C := Try.checked) false ⟨#[], #[.slice none 0 0], []⟩ 8 (by kernel_rfl) (by kernel_rfl) (by kernel_rfl) (by kernel_rfl)) ?_
  intro W base args ds gs before hval0 hW hcnd _
  have hval : ∀ (j : Nat) t v, Try.f5.params[j]? = some t → args[j]? = some v → Value.okWide Try.prog W .any base t v := hval0
  have hW' := hW
  obtain ⟨p, q, hA0, hV, rfl, hfz, hnd⟩ := hW
  have hA : DataW.TrodAll enc Try.prog W 0 (fun _ => true) true Try.f5.params.toList args.toList ds p := hA0
  rw [Try.params5] at hA hval
  obtain ⟨v0, vs0, d0, ds0, p0, q0, hargs, rfl, rfl, h0, r0⟩ := trodAll_cons hA
  obtain ⟨rfl, rfl, rfl⟩ := trodAll_nil r0
  obtain rfl : args = #[v0] := by cases args; simp_all
  obtain ⟨rfl, rfl⟩ := trodVars_none hV
  have o0 := hval 0 36 v0 rfl rfl
  have lt0 : ∀ x ∈ p0, x.block < W.heap.size := by obtain ⟨m, hm⟩ := h0; exact DataW.trod_lt m _ _ _ hm
  clear hA0 hval0
  refine (walk o0 h0).mono fun e W' ⟨he, bel⟩ => ?_
  subst he
  exact ⟨_, rfl, _, _, _, [], _, [], hW', trodAll_mk1 (shut_bool Try.underlying4 _), (trodAll_cons_mk (Below.trod laidOut (by kernel_rfl) (of_decide_eq_true (by kernel_rfl)) h0 bel lt0) trodAll_mk0), rfl, bel.frame _, fun h => by cases h⟩

theorem over : Rows.chainOrdersRow.holds Try.pinned (OpenSpec.ofChange Rows.chainOrdersSpec) :=
  OpenClaim.holds_of_wide 5 Try.f5 rfl rfl rfl rfl rfl rfl rfl ⟨rfl, rfl, rfl, rfl, rfl⟩ rfl rfl rfl rfl rfl (by kernel_rfl) Try.func5 (by kernel_rfl)
    (of_decide_eq_true (by kernel_rfl)) (by unfold Func.isWrapper; first | (rw [if_pos (by decide +kernel)]; kernel_rfl) | (rw [if_neg (by decide +kernel)]; exact ⟨rfl, rfl⟩))
    (fun os started H enc _ => lifted os started H enc)
end Go.Proofs.Ytbdffiomciogiaa.ChainOrders
namespace Go.Proofs.Ytbdffiomciogiaa
/-- The statement. -/
theorem chainOrders_holds : Rows.ChainOrdersSaid := ChainOrders.over
#print axioms chainOrders_holds
end Go.Proofs.Ytbdffiomciogiaa
