/- Proved: gunnylaw14.CodecBack returns true for all lists of pieces: whatever page is made comes back; what is told shares nothing with what was handed in; no more is kept than a page has. No conditions. -/
import Derived.Test.YtgninhecclinaaaOLives
import Derived.Test.YtgninhecclinaaaOGreat
import Derived.Test.YtgninhecclinaaaEPieces
import Derived.Test.YtgninhecclinaaaBOpen
import Derived.Deep.LoopGhost
namespace Go.Proofs.Ytgninhecclinaaa.CodecBack
open Go.ChangeShapes Go.WideShapes Go.ChangeAt Go.RowKit
set_option linter.unusedVariables false
theorem own : ownKnob Try.prog.godebug = none := by kernel_rfl
theorem laidOut : laidOutB Try.prog = true := by kernel_rfl
/-- Bytes of a page of one's own under way; nothing else turns. -/
structure Inc (B : Nat) (w0 wr : World) (g c : Nat) (P : List Nat) : Prop where
  own : wr.ownsRow B 5 1 (.slice (some ⟨g, 0, none⟩) 4096 c) 4096 (bv P)
  byte : ∀ x ∈ P, x < 256
  keep : Keeps (fun j => j ≠ g) w0 wr
theorem Inc.step {B g c k x : Nat} {w0 wr : World} {P : List Nat} (h : Inc B w0 wr g c P) (hx : x < 256) : Inc B w0 (wr.setCell ⟨g, k, none⟩ (.int .u8 (x : Int))) g c (P.set k x) := by
  have R := h.own.stored k (.int .u8 (x : Int))
  rw [bv_set] at R
  refine ⟨R.1, fun u hu => ?_, h.keep.trans (keeps_grown R.2 fun j hj => by
      have e : g = j := by simpa using hj
      simp [e])⟩
  rcases List.mem_or_eq_of_mem_set hu with h1 | rfl
  · exact h.byte u h1
  · exact hx
set_option maxRecDepth 100000 in
set_option maxHeartbeats 4000000 in
theorem run (a : Option Addr) (L c : Nat) (D : Nat → Pc) (hL : L ≤ maxLen) (w : World) (hd : PcsAt w a L D) :
    Calls Try.prog 5 #[.slice a L c] w fun e w' => e = .returned (.bool true) ∧ Below w.heap.size w w' := by
  have HD : Hid (PcsAt w a L D) := hd
  clear hd
  go_enter Try.func5, Try.ntmps5
  go_wp2_with fail
  refine (great_any a L c D w hL HD.out).mono ?_
  rintro e w' ⟨v, rfl, rfl, hv⟩
  obtain ⟨bb, rfl, hgb⟩ := hv
  cases bb with
  | true =>
    clear hgb
    go_wp2_with fail
    refine (lives_any _).mono ?_
    rintro e w1 ⟨rfl, hb⟩
    have HB : Hid (Below w.heap.size w w1) := hb
    clear hb
    go_wp2
    go_ret
    exact ⟨rfl, HB.out⟩
  | false =>
    obtain ⟨h200, h5⟩ := hgb rfl
    have H5 : Hid (∀ i, i < L → (D i).l ≤ 5000) := h5
    clear hgb h5
    go_wp2_with fail
    refine (pieces_any a L c D w h200 HD.out H5.out).mono ?_
    rintro e w1 ⟨g, c', q, rfl, own1, h8, b1⟩
    have hql : q.length = 4096 := by simpa [bv] using own1.1
    obtain ⟨f, hf⟩ : ∃ f, formN q = f := ⟨_, rfl⟩
    obtain ⟨k1, hk1⟩ : ∃ k, keptL q = k := ⟨_, rfl⟩
    have hmb := made_back h8 hql
    have hkl := kept_len h8 hql
    have hkb := kept_byte h8
    rw [hf, hk1] at hmb
    rw [hk1] at hkl hkb
    obtain ⟨m, hm⟩ : ∃ m, k1.length = m := ⟨_, rfl⟩
    rw [hm] at hkl
    have HF : Hid (formN q = f ∧ keptL q = k1) := ⟨hf, hk1⟩
    have HM : Hid (k1.length = m) := hm
    have HMB : Hid (backE (f : Nat) k1 = 0 ∧ backQ (f : Nat) k1 = q) := hmb
    have HQ : Hid (q.length = 4096) := hql
    have H8 : Hid (∀ x ∈ q, x < 256) := h8
    have HK8 : Hid (∀ x ∈ k1, x < 256) := hkb
    have HO1 : Hid (w1.ownsRow w.heap.size 5 1 (.slice (some ⟨g, 0, none⟩) 4096 c') 4096 (bv q)) := own1
    have HY1 : Hid (ByAt w1 (some ⟨g, 0, none⟩) 4096 c' q) := by_row own1 h8
    have HB1 : Hid (Below w.heap.size w w1) := b1
    have hsz1 := b1.size
    have hg := own1.lt g rfl
    have hk0 := HY1.out.conv
    have j1 : ¬ (4096 : Int) < (m : Int) := by omega
    have j2 : ((m : Int) == 0) = false := by rw [beq_eq_false_iff_ne]; omega
    have j3 : m ≤ 100000 := by omega
    clear own1 h8 b1 hql hf hk1 hmb hkb hm hkl
    go_wp2_with fail
    refine (make_any w1 HY1.out HF.out.1 HF.out.2).mono ?_
    rw [HM.out]
    rintro e w2 ⟨a2, c2, rfl, own2, b2⟩
    have HI : Hid (Inc w.heap.size w2 w2 g c' q) := ⟨row_below HO1.out b2, H8.out, Keeps.refl _ _⟩
    have HO2 : Hid (w2.ownsRow w1.heap.size 5 1 (.slice a2 m c2) m (bv k1)) := own2
    have HB2 : Hid (Below w.heap.size w w2) := HB1.out.trans (b2.mono hsz1)
    have hsz2 := HB2.out.size
    have hs12 := b2.size
    clear own2 b2 hk0 HY1 HO1 HF
    generalize htq : strB q = tq at *
    have HTQ : Hid (strB q = tq) := htq
    clear htq
    go_wp2_with fail
    go_loopg [7] 4096 (fun gk i wr => ∃ (k : Nat) (P : List Nat), k ≤ 4096 ∧ gk = 4096 - k ∧ i = .int .i64 k ∧ Inc w.heap.size w2 wr g c' P)
    case atStart => exact ⟨0, _, Nat.zero_le _, rfl, rfl, HI.out⟩
    case round =>
      obtain ⟨k, P, hk, rfl, rfl, hI⟩ := hrel
      clear HI
      by_cases hlt : k < 4096
      · have i9 : (k : Int) < 4096 := by omega
        have hPl : P.length = 4096 := by simpa [bv] using hI.own.1
        obtain ⟨y, hy⟩ : ∃ y, P.getD k 0 = y := ⟨_, rfl⟩
        have hc : wr.cell? ⟨g, k, none⟩ = some (.int .u8 (y : Int)) := by
          rw [hI.own.cellAt k (by omega), bv_at _ _ (by omega), hy]
        have hfz := hI.own.frozenAt k
        have hix := index_at (g := g) (o := 0) (L := 4096) (c := c') (q := k) (I := (k : Int)) k rfl hlt (by omega)
        have hy8 : y < 256 := by rw [← hy]; exact getD_byte hI.byte k
        obtain ⟨x, hx8, hu⟩ : ∃ x : Nat, x < 256 ∧ IntKind.u8.wrap ((y : Int) + 1) = (x : Int) := by
          refine ⟨(y + 1) % 256, by omega, ?_⟩
          rw [IntKind.wrap_u8']
          omega
        have hu2 : ((y : Int) + 1) % 256 = (x : Int) := by rw [← hu, IntKind.wrap_u8']
        have HS : Hid _ := hI.step (k := k) hx8
        clear hI hPl hy
        go_wp2
        go_roundg (4096 - (k + 1))
        case measure => omega
        case rel => exact ⟨k + 1, _, by omega, rfl, by go_num, HS.out⟩
      · obtain rfl : k = 4096 := by omega
        have HR2 : Hid (wr.ownsRow w1.heap.size 5 1 (.slice a2 m c2) m (bv k1)) := hI.keep.row HO2.out fun j hj => by have := (HO2.out.lt j hj).1; omega
        have HBR : Hid (Below w.heap.size w wr) := HB2.out.trans (hI.keep.below (fun j hj => by show j ≠ g; omega) hsz2)
        have hszr := HBR.out.size
        have hs2r := hI.keep.size
        have HKY : Hid (∀ z, Below wr.heap.size wr z → ByAt z a2 m c2 k1) := fun z hz => (by_own HR2.out HK8.out).later hz
        clear hI hlt hk
        obtain ⟨wo, rfl⟩ : ∃ wo, wo = wr := ⟨_, rfl⟩
        go_wp2_with fail
        refine (back_any (f : Nat) wo (HKY.out _ (Below.refl _ _)) j3 HMB.out.1 HMB.out.2).mono ?_
        rw [HQ.out]
        rintro e w3 ⟨a3, c3, rfl, own3, b3⟩
        obtain ⟨g3, k3, e3, hlo3, hlt3⟩ := own3.form (by omega)
        cases e3
        have HO3 : Hid (w3.ownsRow wo.heap.size 5 1 (.slice (some ⟨g3, 0, none⟩) 4096 c3) 4096 (bv q)) := own3
        have HI3 : Hid (Inc wo.heap.size w3 w3 g3 c3 q) := ⟨own3, H8.out, Keeps.refl _ _⟩
        have HB3 : Hid (Below wo.heap.size wo w3) := b3
        have hsz3 := b3.size
        have hk3 := (by_own own3 H8.out).conv
        rw [HTQ.out] at hk3
        clear own3 b3
        go_wp2_with fail
        go_loopg [10] 4096 (fun gk i wr => ∃ (k : Nat) (P : List Nat), k ≤ 4096 ∧ gk = 4096 - k ∧ i = .int .i64 k ∧ Inc wo.heap.size w3 wr g3 c3 P)
        case atStart => exact ⟨0, _, Nat.zero_le _, rfl, rfl, HI3.out⟩
        case round =>
          obtain ⟨k, P, hk, rfl, rfl, hI⟩ := hrel
          clear HI3
          by_cases hlt : k < 4096
          · have i9 : (k : Int) < 4096 := by omega
            have hPl : P.length = 4096 := by simpa [bv] using hI.own.1
            obtain ⟨y, hy⟩ : ∃ y, P.getD k 0 = y := ⟨_, rfl⟩
            have hc : wr.cell? ⟨g3, k, none⟩ = some (.int .u8 (y : Int)) := by
              rw [hI.own.cellAt k (by omega), bv_at _ _ (by omega), hy]
            have hfz := hI.own.frozenAt k
            have hix := index_at (g := g3) (o := 0) (L := 4096) (c := c3) (q := k) (I := (k : Int)) k rfl hlt (by omega)
            have hy8 : y < 256 := by rw [← hy]; exact getD_byte hI.byte k
            obtain ⟨x, hx8, hu⟩ : ∃ x : Nat, x < 256 ∧ IntKind.u8.wrap ((y : Int) + 1) = (x : Int) := by
              refine ⟨(y + 1) % 256, by omega, ?_⟩
              rw [IntKind.wrap_u8']
              omega
            have hu2 : ((y : Int) + 1) % 256 = (x : Int) := by rw [← hu, IntKind.wrap_u8']
            have HS : Hid _ := hI.step (k := k) hx8
            clear hI hPl hy
            go_wp2
            go_roundg (4096 - (k + 1))
            case measure => omega
            case rel => exact ⟨k + 1, _, by omega, rfl, by go_num, HS.out⟩
          · obtain rfl : k = 4096 := by omega
            have HBX : Hid (Below wo.heap.size wo wr) := HB3.out.trans (hI.keep.below (fun j hj => by show j ≠ g3; omega) hsz3)
            have HWX : Hid (Below w.heap.size w wr) := HBR.out.trans (HBX.out.mono hszr)
            clear hI hlt hk hk3
            go_wp2_with fail
            refine (back_any (f : Nat) wr (HKY.out _ HBX.out) j3 HMB.out.1 HMB.out.2).mono ?_
            rw [HQ.out]
            rintro e w4 ⟨a4, c4, rfl, own4, b4⟩
            have hk4 := (by_own own4 H8.out).conv
            rw [HTQ.out] at hk4
            have HB4 : Hid (Below w.heap.size w w4) := HWX.out.trans (b4.mono HWX.out.size)
            clear own4 b4
            go_wp2_with fail
            refine (lives_any _).mono ?_
            rintro e w5 ⟨rfl, b5⟩
            have HB5 : Hid (Below w.heap.size w w5) := HB4.out.trans (b5.mono HB4.out.size)
            clear b5 hk4
            go_wp2
            go_ret
            exact ⟨rfl, HB5.out⟩

set_option maxRecDepth 100000 in
theorem walk {H : Type} {enc : TypeId × Value → H} {w : World} {base : Nat} {v0 : Value} {d0 : DataW H} {p0 : List MemPlace}
    (o0 : Value.okWide Try.prog w .any base 22 v0)
    (h0 : DataW.Trod enc Try.prog w 0 (fun _ => true) true 22 v0 d0 p0) :
    Calls Try.prog 5 #[v0] w fun e w' => e = .returned (.bool true) ∧ Below w.heap.size w w' := by
  obtain ⟨a, L, c, D, rfl, hL, hds⟩ := openPcs Try.underlying22 Try.underlying43 (by kernel_rfl) (by kernel_rfl) Try.underlying23 Try.underlying5 (by kernel_rfl) Try.underlying41 o0 h0
  exact run a L c D hL w hds

set_option maxRecDepth 100000 in
theorem lifted (os : Os) (started : os.Started) (H : Type) (enc : TypeId × Value → H) :
    ReturnsInHanded {} Try.checked os 5 .any (Rows.codecBackSpec.pre6 enc Try.prog Try.f5 Rows.codecBackRow.domain false) (Rows.codecBackSpec.post enc Try.prog Try.f5 false true false false) := by
  refine returnsInHanded_of_change (C := Try.checked) own started (by kernel_rfl) Try.func5
    (ChangeSpec.witness6 (enc := enc) (C := Try.checked) false ⟨#[], #[.slice none 0 0], []⟩ 8 (by kernel_rfl) (by kernel_rfl) (by kernel_rfl) (by kernel_rfl)) ?_
  intro W base args ds gs before hval0 hW hcnd _
  have hval : ∀ (j : Nat) t v, Try.f5.params[j]? = some t → args[j]? = some v → Value.okWide Try.prog W .any base t v := hval0
  have hW' := hW
  obtain ⟨p, q, hA0, hV, rfl, hfz, hnd⟩ := hW
  have hA : DataW.TrodAll enc Try.prog W 0 (fun _ => true) true Try.f5.params.toList args.toList ds p := hA0
  rw [Try.params5] at hA hval
  obtain ⟨v0, vs0, d0, ds0, p0, q0, hargs, rfl, rfl, h0, r0⟩ := trodAll_cons hA
  obtain ⟨rfl, rfl, rfl⟩ := trodAll_nil r0
  obtain rfl : args = #[v0] := by cases args; simp_all
  obtain ⟨rfl, rfl⟩ := trodVars_none hV
  have o0 := hval 0 22 v0 rfl rfl
  have lt0 : ∀ x ∈ p0, x.block < W.heap.size := by obtain ⟨m, hm⟩ := h0; exact DataW.trod_lt m _ _ _ hm
  clear hA0 hval0
  refine (walk o0 h0).mono fun e W' ⟨he, bel⟩ => ?_
  subst he
  exact ⟨_, rfl, _, _, _, [], _, [], hW', trodAll_mk1 (shut_bool Try.underlying4 _), (trodAll_cons_mk (Below.trod laidOut (by kernel_rfl) (of_decide_eq_true (by kernel_rfl)) h0 bel lt0) trodAll_mk0), rfl, bel.frame _, fun h => by cases h⟩

theorem over : Rows.codecBackRow.holds Try.pinned (OpenSpec.ofChange Rows.codecBackSpec) :=
  OpenClaim.holds_of_wide 5 Try.f5 rfl rfl rfl rfl rfl rfl rfl ⟨rfl, rfl, rfl, rfl, rfl⟩ rfl rfl rfl rfl rfl (by kernel_rfl) Try.func5 (by kernel_rfl)
    (of_decide_eq_true (by kernel_rfl)) (by unfold Func.isWrapper; first | (rw [if_pos (by decide +kernel)]; kernel_rfl) | (rw [if_neg (by decide +kernel)]; exact ⟨rfl, rfl⟩))
    (fun os started H enc _ => lifted os started H enc)
end Go.Proofs.Ytgninhecclinaaa.CodecBack
namespace Go.Proofs.Ytgninhecclinaaa
/-- The statement. -/
theorem codecBack_holds : Rows.CodecBackSaid := CodecBack.over
#print axioms codecBack_holds
end Go.Proofs.Ytgninhecclinaaa
