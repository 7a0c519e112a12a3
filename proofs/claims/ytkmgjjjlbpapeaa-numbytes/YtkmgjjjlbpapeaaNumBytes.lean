/- Proved: gunnylaw01.NumBytes returns true for all bytes, places, sizes and numbers: Put, Get and Lay are the document's, and what was handed in stays. No conditions. -/
import Derived.Test.YtkmgjjjlbpapeaaNumBytesA
import Derived.Test.YtkmgjjjlbpapeaaOpen
import Derived.Deep.QuietTactic
import Derived.BigQuiet
import Derived.Deep.RegionWith
import Derived.Laws.Strings3
import Derived.Laws.Concat
namespace Go.Proofs.Ytkmgjjjlbpapeaa.NumBytes
open Go.ChangeShapes Go.WideShapes Go.ChangeAt Go.RowKit
set_option linter.unusedVariables false





set_option maxRecDepth 100000 in
set_option maxHeartbeats 4000000 in
theorem run_in (p q : Option Addr) (L c M d : Nat) (b ns : List Nat) (a s : Int) (w : World) (hL : L ≤ 300) (hM : M ≤ 50) (hbl : b.length = L) (hb : NumsAt .u8 w p b) (hp : p = none → L = 0) (hb8 : ∀ x ∈ b, x < 256)
    (hnl : ns.length = M) (hns : NumsAt .u64 w q ns) (hn64 : ∀ x ∈ ns, (x : Int) < 18446744073709551616) (ht : thereB L a s = true) :
    Calls Try.prog 3 #[.slice p L c, .agg #[.int .i64 a, .int .i64 s], .slice q M d] w fun e w' => e = .returned (.bool true) ∧ Below w.heap.size w w' := by
  have HT : Hid _ := ht
  obtain ⟨hs1, hs2, ha1, ha2⟩ := thereB_iff ht
  obtain ⟨A, hA⟩ := Int.eq_ofNat_of_zero_le ha1
  obtain ⟨S, hS⟩ := Int.eq_ofNat_of_zero_le (show 0 ≤ s by omega)
  have hS8 : 1 ≤ S ∧ S ≤ 8 := by omega
  have hAS : A + S ≤ L := by omega
  have HA : Hid _ := hA
  have HS : Hid _ := hS
  clear ht hA hS
  obtain ⟨i0, hi, hz0, hz1, hz2⟩ := info_parts Try.info5
  have HBL : Hid _ := hbl
  have HNL : Hid _ := hnl
  have HP : Hid _ := hp
  have h300 : decide ((300 : Int) < (L : Int)) = false := decide_eq_false (by omega)
  have h50 : decide ((50 : Int) < (M : Int)) = false := decide_eq_false (by omega)
  clear hbl hnl hp
  go_enter Try.func3, Try.ntmps3
  go_wp2_with fail
  go_quiet (fail)
  go_wp2_with fail
  have hW : Below w.heap.size w ((w.alloc (Obj.cells #[Value.int IntKind.i64 a, Value.int IntKind.i64 s] 23)).drewN nq) := ((Below.refl _ _).alloc (Nat.le_refl _) _).trans (drewN_below _ _ nq)
  generalize (w.alloc (Obj.cells #[Value.int IntKind.i64 a, Value.int IntKind.i64 s] 23)).drewN nq = W at *
  go_loopw [9, 10] (fun v i wr => ∃ k n : Nat, k ≤ M ∧ i = .int .i64 k ∧ wr.ownsRow w.heap.size 5 1 v n (bv (wantOf s (ns.take k))) ∧ Below w.heap.size w wr) (fun _ i _ => M - (intOf i).toNat)
  case atStart => exact ⟨0, 0, Nat.zero_le _, rfl, by rw [List.take_zero, want_zero]; exact World.ownsRow_nil _ _ _ _, hW⟩
  case round =>
    obtain ⟨k, n, hk, rfl, hown, hb1⟩ := hrel
    by_cases hlt : k < M
    · rcases hns with rfl | ⟨nb, no, rfl, hnb, hcell⟩
      · have := HNL.out; simp at this; omega
      have hkn : k < ns.length := by have := HNL.out; omega
      have hc : wr.cell? ⟨nb, no + k, none⟩ = some (.int .u64 ((ns[k] : Nat) : Int)) := by
        rw [hb1.cell (p := ⟨nb, no + k, none⟩) hnb, hcell k hkn]; simp [List.getD, hkn]
      have HK : Hid _ := want_succ ⟨hs1, hs2⟩ ns k hkn
      have hnw : n ≤ 400 := by
        have h1 := hown.1
        have h2 := want_len s (ns.take k)
        simp at h1 h2
        omega
      have hnk := hn64 _ (List.getElem_mem hkn)
      generalize ns[k] = N at *
      go_wp2_with fail
      refine (refPut_any s.toNat N _ _ (by omega) rfl _ (by omega) (by omega)).mono ?_
      rintro e w1 ⟨v1, rfl, hown1, hb2⟩
      have hb3 := hb1.trans (hb2.mono hb1.size)
      have hown2 := own_stay hown hb2
      obtain ⟨g1, c1, hv1⟩ : ∃ g1 c1, v1 = .slice (some ⟨g1, 0, none⟩) s.toNat c1 := by
        rcases hown1.2 with ⟨_, h0⟩ | ⟨g1, c1, _, h1, _⟩
        · omega
        · exact ⟨g1, c1, h1⟩
      rw [hv1]
      rw [hv1] at hown1
      have HC : Hid _ := hown1.cells (g := g1) rfl
      have HL1 : Hid _ := hown1.1
      clear hown hb2 hb1 hown1 hc hcell hv1
      go_wp2_with (at_builtin; refine wpList_append_own _ rfl _ _ 22 rfl w.heap.size 5 i0 (.int .u8 0) 1 1 Try.underlying22 hi hz0 hz1 hz2 rfl (by decide) _ _ _ rfl hown2 ⟨g1, 0, none⟩ s.toNat c1 (bv (putN s.toNat N)) rfl HL1.out HC.out ?c2 ?c3 ?c4 ?c5 ?_)
      case c2 => intro u hu; obtain ⟨x, _, rfl⟩ := List.mem_map.1 hu; rfl
      case c3 => unfold maxLen; omega
      case c4 => omega
      case c5 => exact hb3.size
      · intro v' w2 hown' hgr _
        have hb4 : Below w.heap.size w w2 := hb3.grown hgr hb3.size (fun j hj => (hown2.lt j hj).1)
        have hown3 : w2.ownsRow w.heap.size 5 1 v' (n + s.toNat) (bv (wantOf s (ns.take (k + 1)))) := by rw [HK.out]; simpa [bv] using hown'
        clear hown' hgr hown2 hb3
        go_wp2
        go_roundw
        case rel => exact ⟨k + 1, _, by omega, by go_num, hown3, hb4⟩
        case measure => simp [intOf]; omega
    · have e : k = M := by omega
      subst e
      have et : ns.take k = ns := List.take_of_length_le (by have := HNL.out; omega)
      rw [et] at hown
      clear et
      go_wp2_with fail
      refine (put_all s q k d ns _ (by omega) HNL.out (nums_stay hns hb1)).mono ?_
      rintro e w2 ⟨v2, n2, rfl, hown2, hb2⟩
      have hb3 := hb1.trans (hb2.mono hb1.size)
      have hx1 := conv_any hown2
      have hx2 := conv_any (own_stay hown hb2)
      have hx3 := conv_nums (c := c) HBL.out (nums_stay hb hb3) HP.out
      clear hown2 hown hb2 hb1
      go_wp2_with fail
      refine (refBytes_same _ _ _ _ hx1 hx2).mono ?_
      rintro e w3 ⟨rfl, rfl⟩
      clear hx1 hx2
      by_cases hm : 0 < k
      · have hM0 : ((0 : Int) < (k : Int)) := by omega
        have hk0 : ((0 : Int) < (k : Int)) := by omega
        obtain ⟨qb, qo, rfl, hqb, hcell⟩ : ∃ qb qo, q = some ⟨qb, qo, none⟩ ∧ qb < w.heap.size ∧ w2.cell? ⟨qb, qo, none⟩ = some (.int .u64 ((ns.getD 0 0 : Nat) : Int)) := by
          rcases hns with rfl | ⟨qb, qo, rfl, hqb, hcell⟩
          · have := HNL.out; simp at this; omega
          · refine ⟨qb, qo, rfl, hqb, ?_⟩
            rw [hb3.cell (p := ⟨qb, qo, none⟩) hqb]
            exact hcell 0 (by have := HNL.out; omega)
        have hn0 : ns.getD 0 0 < 18446744073709551616 := by
          have h0 : 0 < ns.length := by have := HNL.out; omega
          have := hn64 ns[0] (List.getElem_mem h0)
          simp [List.getD, h0]
          omega
        generalize ns.getD 0 0 = N at *
        go_wp2_with fail
        refine (get_yes _ _ _ A S _ _ HA.out HS.out b _ (by unfold maxLen; omega) HBL.out (nums_stay hb hb3) hb8 hS8 hAS).mono ?_
        rintro e w4 ⟨rfl, rfl⟩
        go_wp2_with fail
        refine (lay_yes _ _ _ A S N _ _ _ HA.out HS.out rfl b _ (by omega) HBL.out (nums_stay hb hb3) hS8 hAS).mono ?_
        rintro e w4 ⟨rfl, hown4, hb4⟩
        have hb5 := hb3.trans (hb4.mono hb3.size)
        go_wp2_with fail
        refine (refThere_any _ _ _ _ _ _ (by unfold maxLen; omega)).mono ?_
        rintro e w5 ⟨rfl, rfl⟩
        rw [HT.out]
        go_wp2_with fail
        obtain ⟨tb, HTB⟩ : ∃ tb, Hid (strB b = tb) := ⟨_, rfl⟩
        obtain ⟨x1, HX1⟩ : ∃ x1, Hid (tb.extract 0 A = x1) := ⟨_, rfl⟩
        obtain ⟨x3, HX3⟩ : ∃ x3, Hid (tb.extract (A + S) tb.size = x3) := ⟨_, rfl⟩
        obtain ⟨x2, HX2⟩ : ∃ x2, Hid (strB (putN S N) = x2) := ⟨_, rfl⟩
        have htb : tb.size = L := by rw [← HTB.out, size_strB, HBL.out]
        have hk1 : ∀ w : World, (Instr.slice 9 (.string tb) none (some (.int .i64 a)) none).run Try.prog w = .ok (.string x1) w := by
          intro w; rw [run_slice_string_to_if w _ _ _ _ Try.underlying9, if_pos (by omega), ← HX1.out]
          have e : a.toNat = A := by have := HA.out; omega
          rw [e]
        have hk3 : ∀ w : World, (Instr.slice 9 (.string tb) (some (.int .i64 (a + s))) none none).run Try.prog w = .ok (.string x3) w := by
          intro w; rw [run_slice_string_from_if w _ _ _ _ Try.underlying9, if_pos (by omega), ← HX3.out]
          have e : (a + s).toNat = A + S := by have := HA.out; have := HS.out; omega
          rw [e]
        have hx1 : x1.size ≤ 300 := by rw [← HX1.out]; simp; omega
        have hx3 : x3.size ≤ 300 := by rw [← HX3.out]; simp; omega
        have hx2 : x2.size ≤ 8 := by rw [← HX2.out, size_strB, length_putN]; exact hS8.2
        obtain ⟨x12, HX12⟩ : ∃ x12, Hid (x1 ++ x2 = x12) := ⟨_, rfl⟩
        obtain ⟨x4, HX4⟩ : ∃ x4, Hid (x12 ++ x3 = x4) := ⟨_, rfl⟩
        have hx12 : x12.size ≤ 308 := by rw [← HX12.out]; simp; omega
        have ha12 : ∀ w : World, (Op.stringOp .add x1 x2).run Try.prog w = .ok (.string x12) w := by intro w; rw [run_string_add_sum w x1 x2 (by omega), HX12.out]
        have ha123 : ∀ w : World, (Op.stringOp .add x12 x3).run Try.prog w = .ok (.string x4) w := by intro w; rw [run_string_add_sum w x12 x3 (by omega), HX4.out]
        have hwr : IntKind.i64.wrap (a + s) = a + s := by
          rw [IntKind.wrap_i64]
          omega
        clear htb
        rw [HTB.out]
        go_region_with (go_at_call 8; refine (refPut_any S N _ _ HS.out rfl _ hS8.2 (by omega)).mono ?_; rintro e w6 ⟨v6, rfl, hown6, hb6⟩; have hcv := conv_any hown6; rw [HX2.out] at hcv)
        have hb46 : Below w4.heap.size w4 w6 := (Below.refl _ w4).drew.trans hb6
        have hb7 := hb5.trans (hb46.mono hb5.size)
        have hy1 := conv_own (own_stay hown4 hb46)
        have hy2 := conv_nums (c := c) HBL.out (nums_stay hb hb7) HP.out
        have ey : strB (layN b A S N) = x4 := by
          rw [← HX4.out, ← HX12.out, ← HX1.out, ← HX2.out, ← HX3.out, ← HTB.out, strB_extract, strB_extract, ← strB_append, ← strB_append, size_strB]
          simp [layN]
        rw [ey] at hy1
        rw [HTB.out] at hy2
        clear hown4 hown6 hcv hb6 hb46 hb5 hb4 ey ha12 ha123 hk1 hk3
        go_wp2_with fail
        refine (refGet_any _ _ _ A S _ _ HA.out HS.out b _ (by unfold maxLen; omega) HBL.out (nums_stay hb hb7) hb8 hS8 hAS).mono ?_
        rintro e w7 ⟨rfl, rfl⟩
        generalize getTo b A S = G
        go_wp2_with fail
        refine (lives_any _).mono ?_
        rintro e w8 ⟨rfl, hb9⟩
        go_wp2
        go_ret
        exact ⟨rfl, hb7.trans (hb9.mono hb7.size)⟩
      · have hM0 : ¬ ((0 : Int) < (k : Int)) := by omega
        go_wp2_with fail
        refine (get_yes _ _ _ A S _ _ HA.out HS.out b _ (by unfold maxLen; omega) HBL.out (nums_stay hb hb3) hb8 hS8 hAS).mono ?_
        rintro e w4 ⟨rfl, rfl⟩
        go_wp2_with fail
        refine (lay_yes _ _ _ A S L _ _ _ HA.out HS.out rfl b _ (by omega) HBL.out (nums_stay hb hb3) hS8 hAS).mono ?_
        rintro e w4 ⟨rfl, hown4, hb4⟩
        have hb5 := hb3.trans (hb4.mono hb3.size)
        go_wp2_with fail
        refine (refThere_any _ _ _ _ _ _ (by unfold maxLen; omega)).mono ?_
        rintro e w5 ⟨rfl, rfl⟩
        rw [HT.out]
        go_wp2_with fail
        obtain ⟨tb, HTB⟩ : ∃ tb, Hid (strB b = tb) := ⟨_, rfl⟩
        obtain ⟨x1, HX1⟩ : ∃ x1, Hid (tb.extract 0 A = x1) := ⟨_, rfl⟩
        obtain ⟨x3, HX3⟩ : ∃ x3, Hid (tb.extract (A + S) tb.size = x3) := ⟨_, rfl⟩
        obtain ⟨x2, HX2⟩ : ∃ x2, Hid (strB (putN S L) = x2) := ⟨_, rfl⟩
        have htb : tb.size = L := by rw [← HTB.out, size_strB, HBL.out]
        have hk1 : ∀ w : World, (Instr.slice 9 (.string tb) none (some (.int .i64 a)) none).run Try.prog w = .ok (.string x1) w := by
          intro w; rw [run_slice_string_to_if w _ _ _ _ Try.underlying9, if_pos (by omega), ← HX1.out]
          have e : a.toNat = A := by have := HA.out; omega
          rw [e]
        have hk3 : ∀ w : World, (Instr.slice 9 (.string tb) (some (.int .i64 (a + s))) none none).run Try.prog w = .ok (.string x3) w := by
          intro w; rw [run_slice_string_from_if w _ _ _ _ Try.underlying9, if_pos (by omega), ← HX3.out]
          have e : (a + s).toNat = A + S := by have := HA.out; have := HS.out; omega
          rw [e]
        have hx1 : x1.size ≤ 300 := by rw [← HX1.out]; simp; omega
        have hx3 : x3.size ≤ 300 := by rw [← HX3.out]; simp; omega
        have hx2 : x2.size ≤ 8 := by rw [← HX2.out, size_strB, length_putN]; exact hS8.2
        obtain ⟨x12, HX12⟩ : ∃ x12, Hid (x1 ++ x2 = x12) := ⟨_, rfl⟩
        obtain ⟨x4, HX4⟩ : ∃ x4, Hid (x12 ++ x3 = x4) := ⟨_, rfl⟩
        have hx12 : x12.size ≤ 308 := by rw [← HX12.out]; simp; omega
        have ha12 : ∀ w : World, (Op.stringOp .add x1 x2).run Try.prog w = .ok (.string x12) w := by intro w; rw [run_string_add_sum w x1 x2 (by omega), HX12.out]
        have ha123 : ∀ w : World, (Op.stringOp .add x12 x3).run Try.prog w = .ok (.string x4) w := by intro w; rw [run_string_add_sum w x12 x3 (by omega), HX4.out]
        have hwr : IntKind.i64.wrap (a + s) = a + s := by
          rw [IntKind.wrap_i64]
          omega
        clear htb
        rw [HTB.out]
        go_region_with (go_at_call 8; refine (refPut_any S L _ _ HS.out rfl _ hS8.2 (by omega)).mono ?_; rintro e w6 ⟨v6, rfl, hown6, hb6⟩; have hcv := conv_any hown6; rw [HX2.out] at hcv)
        have hb46 : Below w4.heap.size w4 w6 := (Below.refl _ w4).drew.trans hb6
        have hb7 := hb5.trans (hb46.mono hb5.size)
        have hy1 := conv_own (own_stay hown4 hb46)
        have hy2 := conv_nums (c := c) HBL.out (nums_stay hb hb7) HP.out
        have ey : strB (layN b A S L) = x4 := by
          rw [← HX4.out, ← HX12.out, ← HX1.out, ← HX2.out, ← HX3.out, ← HTB.out, strB_extract, strB_extract, ← strB_append, ← strB_append, size_strB]
          simp [layN]
        rw [ey] at hy1
        rw [HTB.out] at hy2
        clear hown4 hown6 hcv hb6 hb46 hb5 hb4 ey ha12 ha123 hk1 hk3
        go_wp2_with fail
        refine (refGet_any _ _ _ A S _ _ HA.out HS.out b _ (by unfold maxLen; omega) HBL.out (nums_stay hb hb7) hb8 hS8 hAS).mono ?_
        rintro e w7 ⟨rfl, rfl⟩
        generalize getTo b A S = G
        go_wp2_with fail
        refine (lives_any _).mono ?_
        rintro e w8 ⟨rfl, hb9⟩
        go_wp2
        go_ret
        exact ⟨rfl, hb7.trans (hb9.mono hb7.size)⟩

theorem walk {H : Type} {enc : TypeId × Value → H} {w : World} {base : Nat} {v0 v1 v2 : Value} {d0 d1 d2 : DataW H} {p0 p1 p2 : List MemPlace}
    (o0 : Value.okWide Try.prog w .any base 22 v0) (o1 : Value.okWide Try.prog w .any base 23 v1) (o2 : Value.okWide Try.prog w .any base 24 v2)
    (h0 : DataW.Trod enc Try.prog w 0 (fun _ => true) true 22 v0 d0 p0) (h1 : DataW.Trod enc Try.prog w 0 (fun _ => true) true 23 v1 d1 p1) (h2 : DataW.Trod enc Try.prog w 0 (fun _ => true) true 24 v2 d2 p2) :
    Calls Try.prog 3 #[v0, v1, v2] w fun e w' => e = .returned (.bool true) ∧ Below w.heap.size w w' := by
  obtain ⟨p, L, c, b, rfl, hbl, hL, hb, hp, hb8⟩ := openNums (M := 256) (fun n h => by have := bounds_u8 h; omega) Try.underlying22 Try.underlying5 (by kernel_rfl) o0 h0
  obtain ⟨a, s, rfl, ha, hs⟩ := openArr2 Try.underlying23 Try.underlying3 (by kernel_rfl) (by kernel_rfl) o1 h1
  obtain ⟨q, M, d, ns, rfl, hnl, hM, hns, hq, hn64⟩ := openNums (M := 18446744073709551616) (fun n h => by have := bounds_u64 h; omega) Try.underlying24 Try.underlying27 (by kernel_rfl) o2 h2
  by_cases h : 300 < L ∨ 50 < M
  · exact run_long p q L c M d a s w hL hM h
  · by_cases hsz : 1 ≤ s ∧ s ≤ 8
    · cases ht : thereB L a s
      · exact run_out p q L c M d b ns a s w (by omega) (by omega) hbl hb hp hnl hns hn64 (bounds_i64 ha) hsz.1 hsz.2 ht
      · exact run_in p q L c M d b ns a s w (by omega) (by omega) hbl hb hp (fun x hx => by have := hb8 x hx; omega) hnl hns hn64 ht
    · exact run_bad p q L c M d b ns a s w (by omega) (by omega) hbl hb hp hnl hns hn64 (bounds_i64 ha) hsz

set_option maxRecDepth 100000 in
theorem lifted (os : Os) (started : os.Started) (H : Type) (enc : TypeId × Value → H) :
    ReturnsInHanded {} Try.checked os 3 .any (Rows.numBytesSpec.pre6 enc Try.prog Try.f3 Rows.numBytesRow.domain false) (Rows.numBytesSpec.post enc Try.prog Try.f3 false true false false) := by
  refine returnsInHanded_of_change (C := Try.checked) own started (by kernel_rfl) Try.func3
    (ChangeSpec.witness6 (enc := enc) (C := Try.checked) false ⟨#[], #[.slice none 0 0, .agg #[.int .i64 0, .int .i64 0], .slice none 0 0], []⟩ 8 (by kernel_rfl) (by kernel_rfl) (by kernel_rfl) (by kernel_rfl)) ?_
  intro W base args ds gs before hval0 hW hcnd _
  have hval : ∀ (j : Nat) t v, Try.f3.params[j]? = some t → args[j]? = some v → Value.okWide Try.prog W .any base t v := hval0
  have hW' := hW
  obtain ⟨p, q, hA0, hV, rfl, hfz, hnd⟩ := hW
  have hA : DataW.TrodAll enc Try.prog W 0 (fun _ => true) true Try.f3.params.toList args.toList ds p := hA0
  rw [Try.params3] at hA hval
  obtain ⟨v0, vs0, d0, ds0, p0, q0, hargs, rfl, rfl, h0, r0⟩ := trodAll_cons hA
  obtain ⟨v1, vs1, d1, ds1, p1, q1, rfl, rfl, rfl, h1, r1⟩ := trodAll_cons r0
  obtain ⟨v2, vs2, d2, ds2, p2, q2, rfl, rfl, rfl, h2, r2⟩ := trodAll_cons r1
  obtain ⟨rfl, rfl, rfl⟩ := trodAll_nil r2
  obtain rfl : args = #[v0, v1, v2] := by cases args; simp_all
  obtain ⟨rfl, rfl⟩ := trodVars_none hV
  have o0 := hval 0 22 v0 rfl rfl
  have lt0 : ∀ x ∈ p0, x.block < W.heap.size := by obtain ⟨m, hm⟩ := h0; exact DataW.trod_lt m _ _ _ hm
  have o1 := hval 1 23 v1 rfl rfl
  have lt1 : ∀ x ∈ p1, x.block < W.heap.size := by obtain ⟨m, hm⟩ := h1; exact DataW.trod_lt m _ _ _ hm
  have o2 := hval 2 24 v2 rfl rfl
  have lt2 : ∀ x ∈ p2, x.block < W.heap.size := by obtain ⟨m, hm⟩ := h2; exact DataW.trod_lt m _ _ _ hm
  clear hA0 hval0
  refine (walk o0 o1 o2 h0 h1 h2).mono fun e W' ⟨he, bel⟩ => ?_
  subst he
  exact ⟨_, rfl, _, _, _, [], _, [], hW', trodAll_mk1 (shut_bool Try.underlying4 _), (trodAll_cons_mk (Below.trod laidOut (by kernel_rfl) (of_decide_eq_true (by kernel_rfl)) h0 bel lt0) (trodAll_cons_mk (Below.trod laidOut (by kernel_rfl) (of_decide_eq_true (by kernel_rfl)) h1 bel lt1) (trodAll_cons_mk (Below.trod laidOut (by kernel_rfl) (of_decide_eq_true (by kernel_rfl)) h2 bel lt2) trodAll_mk0))), rfl, bel.frame _, fun h => by cases h⟩

theorem over : Rows.numBytesRow.holds Try.pinned (OpenSpec.ofChange Rows.numBytesSpec) :=
  OpenClaim.holds_of_wide 3 Try.f3 rfl rfl rfl rfl rfl rfl rfl ⟨rfl, rfl, rfl, rfl, rfl⟩ rfl rfl rfl rfl rfl (by kernel_rfl) Try.func3 (by kernel_rfl)
    (of_decide_eq_true (by kernel_rfl)) (by unfold Func.isWrapper; first | (rw [if_pos (by decide +kernel)]; kernel_rfl) | (rw [if_neg (by decide +kernel)]; exact ⟨rfl, rfl⟩))
    (fun os started H enc _ => lifted os started H enc)
end Go.Proofs.Ytkmgjjjlbpapeaa.NumBytes
namespace Go.Proofs.Ytkmgjjjlbpapeaa
/-- The statement. -/
theorem numBytes_holds : Rows.NumBytesSaid := NumBytes.over
#print axioms numBytes_holds
end Go.Proofs.Ytkmgjjjlbpapeaa
