/- Proved: gunnylaw03.ChainStops returns true for all lists of ints l and all ints most: as many numbers are told as are wanted, and numbers that can't be there aren't. No conditions. -/
import Derived.Test.YtbdffiomciogiaaCSeq
import Derived.Test.YtbdffiomciogiaaCLives
import Derived.Test.YtbdffiomciogiaaBOpen
import Derived.Deep.RegionWith
namespace Go.Proofs.Ytbdffiomciogiaa.ChainStops
open Go.ChangeShapes Go.WideShapes Go.ChangeAt Go.RowKit
set_option linter.unusedVariables false
theorem own : ownKnob Try.prog.godebug = none := by kernel_rfl
theorem laidOut : laidOutB Try.prog = true := by kernel_rfl
theorem later_at {k : IntKind} {w w' : World} {a : Option Addr} {zs : List Int} (h : IntsAt k w a zs) (hb : Below w.heap.size w w') {i : Nat} (hi : i < zs.length) :
    ∃ b off, a = some ⟨b, off, none⟩ ∧ b < w.heap.size ∧ w'.cell? ⟨b, off + i, none⟩ = some (.int k (zs.getD i 0)) := by
  rcases h with rfl | ⟨b, off, rfl, hlt, hc⟩
  · simp at hi
  · exact ⟨b, off, rfl, hlt, by rw [hb.cell (p := ⟨b, off + i, none⟩) hlt]; exact hc i hi⟩
theorem len_is {B E m : Nat} {p : Option Addr} {x : List Nat} (w : World) (h : ChainP B E w p m x) {n : Nat} (hn : x.length = n) :
    Calls Try.prog 10 #[.pointer p] w fun e w' => e = .returned (.int .i64 (n : Int)) ∧ w = w' := by
  rw [← hn]; exact len_any w h
theorem upTo_len (most : Int) (l : List Nat) : ((upTo most l).length : Int) = if 0 < most ∧ most < l.length then most else l.length := by
  unfold upTo
  by_cases h : 0 < most
  · rw [if_pos h, List.length_take]
    by_cases h2 : most < l.length
    · rw [if_pos ⟨h, h2⟩]; omega
    · rw [if_neg (by omega)]; omega
  · rw [if_neg h, if_neg (by omega)]

set_option maxRecDepth 100000 in
set_option maxHeartbeats 1000000 in
theorem run (a : Option Addr) (L c : Nat) (zs : List Int) (most : Int) (w : World) (hzl : zs.length = L) (hL : L ≤ maxLen) (hz : IntsAt .i64 w a zs) (hm : -9223372036854775808 ≤ most ∧ most ≤ 9223372036854775807) :
    Calls Try.prog 4 #[.slice a L c, .int .i64 most] w fun e w' => e = .returned (.bool true) ∧ Below w.heap.size w w' := by
  unfold maxLen at hL
  by_cases hlong : 100 < L
  · go_enter Try.func4, Try.ntmps4
    go_wp2_with fail
    refine (lives_any _).mono ?_
    rintro e w1 ⟨rfl, hb⟩
    go_wp2
    go_ret
    exact ⟨rfl, hb⟩
  · have HZ : Hid (IntsAt .i64 w a zs) := hz
    have HZL : Hid _ := hzl
    clear hz hzl
    go_enter Try.func4, Try.ntmps4
    go_wp2_with fail
    refine (new_any 200 _).mono ?_
    rintro e w1 ⟨p, rfl, h1, b1⟩
    rw [show szN 200 = 200 by decide] at h1
    generalize w1.heap.size = E at *
    have H1 : Hid (ChainP w.heap.size E w1 p 200 []) := h1
    clear h1
    go_wp2_with fail
    go_loopw [6] (fun i wr => ∃ k : Nat, k ≤ L ∧ i = .int .i64 k ∧ Below w.heap.size w wr ∧ ∃ x, ChainP w.heap.size E wr p 200 x) (fun i _ => L - (intOf i).toNat)
    case atStart => exact ⟨0, Nat.zero_le _, rfl, b1, _, H1.out⟩
    case round =>
      obtain ⟨k, hk, rfl, hb, x, hx⟩ := hrel
      by_cases hlt : k < L
      · obtain ⟨bz, off, rfl, hbz, hc⟩ := later_at HZ.out hb (i := k) (by have := HZL.out; omega)
        generalize zs.getD k 0 = z at *
        have hlt' : (k : Int) < (L : Int) := by omega
        have hkeep : Hid (∀ w2, Turns w.heap.size E wr.drew w2 → w2.cell? ⟨bz, off + k, none⟩ = some (.int .i64 z)) := by
          intro w2 ht
          rw [ht.below.cell (p := ⟨bz, off + k, none⟩) hbz]
          exact hc
        have HX : Hid (ChainP w.heap.size E wr.drew p 200 x) := hx.drew
        have hbd := hb.drew
        clear hx
        by_cases z1 : 0 ≤ z
        · by_cases z2 : z < 200
          · have HY : Hid (mayC 200 z = true) := by show _ = _; simp [mayC, z1, z2]
            go_wp2_with fail
            first | (go_region_with (go_at_call 7; refine (push_any _ _ HX.out).mono ?_; rw [HY.out]; rintro e w2 ⟨rfl, hx2, ht2⟩; have hc2 := hkeep.out w2 ht2)) | (fail "the region")
            all_goals
              go_wp2
              go_roundw
              case rel => exact ⟨k + 1, by omega, by go_num, hbd.trans ht2.below, _, hx2⟩
              case measure => simp [intOf]; omega
          · have HY : Hid (mayC 200 z = false) := by show _ = _; simp [mayC]; omega
            go_wp2_with fail
            first | (go_region_with (go_at_call 7; refine (push_any _ _ HX.out).mono ?_; rw [HY.out]; rintro e w2 ⟨rfl, hx2, ht2⟩; have hc2 := hkeep.out w2 ht2)) | (fail "the region")
            all_goals
              go_wp2
              go_roundw
              case rel => exact ⟨k + 1, by omega, by go_num, hbd.trans ht2.below, _, hx2⟩
              case measure => simp [intOf]; omega
        · have HY : Hid (mayC 200 z = false) := by show _ = _; simp [mayC]; omega
          have z3 : z < 0 := by omega
          have z4 : decide (0 ≤ z) = false := decide_eq_false z1
          go_wp2_with fail
          first | (go_region_with (go_at_call 7; refine (push_any _ _ HX.out).mono ?_; rw [HY.out]; rintro e w2 ⟨rfl, hx2, ht2⟩; have hc2 := hkeep.out w2 ht2)) | (fail "the region")
          all_goals
            go_wp2
            go_roundw
            case rel => exact ⟨k + 1, by omega, by go_num, hbd.trans ht2.below, _, hx2⟩
            case measure => simp [intOf]; omega
      · have e : k = L := by omega
        subst e
        have hsm := hx.len
        have hlen := upTo_len most x
        have hall := fun wx (hxx : ChainP w.heap.size E wx p 200 x) => all_any most wx hxx
        have HA : Hid _ := hall
        clear hall
        generalize upTo most x = U at *
        generalize hln : x.length = n at *
        have HLN : Hid _ := hln
        clear hln
        obtain ⟨N, hN⟩ : ∃ N, U.length = N := ⟨_, rfl⟩
        rw [hN] at hlen
        have HN : Hid _ := hN
        clear hN
        have three : (0 < most ∧ most < n ∧ (N : Int) = most) ∨ (0 < most ∧ (n : Int) ≤ most ∧ N = n) ∨ (most ≤ 0 ∧ N = n) := by
          by_cases q1 : 0 < most
          · by_cases q2 : most < n
            · rw [if_pos ⟨q1, q2⟩] at hlen; exact .inl ⟨q1, q2, hlen⟩
            · rw [if_neg (by omega)] at hlen; exact .inr (.inl ⟨q1, by omega, by omega⟩)
          · rw [if_neg (by omega)] at hlen; exact .inr (.inr ⟨by omega, by omega⟩)
        clear hlen
        rcases three with ⟨q1, q2, q3⟩ | ⟨q1, q2, q3⟩ | ⟨q1, q3⟩
        · subst q3
          go_wp2_with (first | (go_at_call 10; refine (len_is wr hx HLN.out).mono ?_; rintro e w' ⟨rfl, rfl⟩) | (go_at_call 6; refine (HA.out _ hx).mono ?_; rw [HN.out]; rintro e w3 ⟨v3, rfl, hown3, hb3⟩; obtain ⟨a3, c3, rfl⟩ := row_slice hown3) | (go_at_call 11; refine (lives_any _).mono ?_; rintro e w4 ⟨rfl, hb4⟩))
          go_ret
          exact ⟨rfl, hb.trans ((hb3.mono hb.size).trans (hb4.mono (Nat.le_trans hb.size hb3.size)))⟩
        · subst q3
          go_wp2_with (first | (go_at_call 10; refine (len_is wr hx HLN.out).mono ?_; rintro e w' ⟨rfl, rfl⟩) | (go_at_call 6; refine (HA.out _ hx).mono ?_; rw [HN.out]; rintro e w3 ⟨v3, rfl, hown3, hb3⟩; obtain ⟨a3, c3, rfl⟩ := row_slice hown3) | (go_at_call 11; refine (lives_any _).mono ?_; rintro e w4 ⟨rfl, hb4⟩))
          go_ret
          exact ⟨rfl, hb.trans ((hb3.mono hb.size).trans (hb4.mono (Nat.le_trans hb.size hb3.size)))⟩
        · subst q3
          go_wp2_with (first | (go_at_call 10; refine (len_is wr hx HLN.out).mono ?_; rintro e w' ⟨rfl, rfl⟩) | (go_at_call 6; refine (HA.out _ hx).mono ?_; rw [HN.out]; rintro e w3 ⟨v3, rfl, hown3, hb3⟩; obtain ⟨a3, c3, rfl⟩ := row_slice hown3) | (go_at_call 11; refine (lives_any _).mono ?_; rintro e w4 ⟨rfl, hb4⟩))
          go_ret
          exact ⟨rfl, hb.trans ((hb3.mono hb.size).trans (hb4.mono (Nat.le_trans hb.size hb3.size)))⟩

theorem walk {H : Type} {enc : TypeId × Value → H} {w : World} {base : Nat} {v0 v1 : Value} {d0 d1 : DataW H} {p0 p1 : List MemPlace}
    (o0 : Value.okWide Try.prog w .any base 22 v0) (o1 : Value.okWide Try.prog w .any base 3 v1)
    (h0 : DataW.Trod enc Try.prog w 0 (fun _ => true) true 22 v0 d0 p0) (h1 : DataW.Trod enc Try.prog w 0 (fun _ => true) true 3 v1 d1 p1) :
    Calls Try.prog 4 #[v0, v1] w fun e w' => e = .returned (.bool true) ∧ Below w.heap.size w w' := by
  obtain ⟨a, L, c, zs, rfl, hzl, hL, hz, _⟩ := openList Try.underlying22 Try.underlying3 (by kernel_rfl) o0 h0
  obtain ⟨most, rfl, hm⟩ := openOne Try.underlying3 o1 h1
  exact run a L c zs most w hzl hL hz (bounds_i64 hm)

set_option maxRecDepth 100000 in
theorem lifted (os : Os) (started : os.Started) (H : Type) (enc : TypeId × Value → H) :
    ReturnsInHanded {} Try.checked os 4 .any (Rows.chainStopsSpec.pre6 enc Try.prog Try.f4 Rows.chainStopsRow.domain false) (Rows.chainStopsSpec.post enc Try.prog Try.f4 false true false false) := by
  refine returnsInHanded_of_change (C := Try.checked) own started (by kernel_rfl) Try.func4
    (ChangeSpec.witness6 (enc := enc) (C := Try.checked) false ⟨#[], #[.slice none 0 0, .int .i64 0], []⟩ 8 (by kernel_rfl) (by kernel_rfl) (by kernel_rfl) (by kernel_rfl)) ?_
  intro W base args ds gs before hval0 hW hcnd _
  have hval : ∀ (j : Nat) t v, Try.f4.params[j]? = some t → args[j]? = some v → Value.okWide Try.prog W .any base t v := hval0
  have hW' := hW
  obtain ⟨p, q, hA0, hV, rfl, hfz, hnd⟩ := hW
  have hA : DataW.TrodAll enc Try.prog W 0 (fun _ => true) true Try.f4.params.toList args.toList ds p := hA0
  rw [Try.params4] at hA hval
  obtain ⟨v0, vs0, d0, ds0, p0, q0, hargs, rfl, rfl, h0, r0⟩ := trodAll_cons hA
  obtain ⟨v1, vs1, d1, ds1, p1, q1, rfl, rfl, rfl, h1, r1⟩ := trodAll_cons r0
  obtain ⟨rfl, rfl, rfl⟩ := trodAll_nil r1
  obtain rfl : args = #[v0, v1] := by cases args; simp_all
  obtain ⟨rfl, rfl⟩ := trodVars_none hV
  have o0 := hval 0 22 v0 rfl rfl
  have lt0 : ∀ x ∈ p0, x.block < W.heap.size := by obtain ⟨m, hm⟩ := h0; exact DataW.trod_lt m _ _ _ hm
  have o1 := hval 1 3 v1 rfl rfl
  have lt1 : ∀ x ∈ p1, x.block < W.heap.size := by obtain ⟨m, hm⟩ := h1; exact DataW.trod_lt m _ _ _ hm
  clear hA0 hval0
  refine (walk o0 o1 h0 h1).mono fun e W' ⟨he, bel⟩ => ?_
  subst he
  exact ⟨_, rfl, _, _, _, [], _, [], hW', trodAll_mk1 (shut_bool Try.underlying4 _), (trodAll_cons_mk (Below.trod laidOut (by kernel_rfl) (of_decide_eq_true (by kernel_rfl)) h0 bel lt0) (trodAll_cons_mk (Below.trod laidOut (by kernel_rfl) (of_decide_eq_true (by kernel_rfl)) h1 bel lt1) trodAll_mk0)), rfl, bel.frame _, fun h => by cases h⟩

theorem over : Rows.chainStopsRow.holds Try.pinned (OpenSpec.ofChange Rows.chainStopsSpec) :=
  OpenClaim.holds_of_wide 4 Try.f4 rfl rfl rfl rfl rfl rfl rfl ⟨rfl, rfl, rfl, rfl, rfl⟩ rfl rfl rfl rfl rfl (by kernel_rfl) Try.func4 (by kernel_rfl)
    (of_decide_eq_true (by kernel_rfl)) (by unfold Func.isWrapper; first | (rw [if_pos (by decide +kernel)]; kernel_rfl) | (rw [if_neg (by decide +kernel)]; exact ⟨rfl, rfl⟩))
    (fun os started H enc _ => lifted os started H enc)
end Go.Proofs.Ytbdffiomciogiaa.ChainStops
namespace Go.Proofs.Ytbdffiomciogiaa
/-- The statement. -/
theorem chainStops_holds : Rows.ChainStopsSaid := ChainStops.over
#print axioms chainStops_holds
end Go.Proofs.Ytbdffiomciogiaa
