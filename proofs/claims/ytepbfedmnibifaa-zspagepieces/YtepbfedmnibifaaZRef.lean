/- The walks of the document's May and Pieces. -/
import Derived.Test.YtepbfedmnibifaaZMay
import Derived.Deep.LoopGhost
import Derived.Deep.DeepCutAuto
import Derived.Deep.AppendLies
namespace Go.Proofs.Ytepbfedmnibifaa
open Go.RowKit

set_option maxHeartbeats 1000000 in
theorem refMay_any (S N F M : Int) (w : World) (hM : M < 9223372036854775808) {t : Bool} (ht : t = true ↔ MayZ S N F M) : Calls Try.prog 9 #[.int .i64 S, .int .i64 N, .int .i64 F, .int .i64 M] w fun e w' => e = .returned (.bool t) ∧ w = w' := by
  unfold MayZ ObjZ at ht
  by_cases h : (64 ≤ S ∧ S ≤ 4096 ∧ S % 64 = 0 ∧ 0 ≤ N ∧ N ≤ 255) ∧ 0 ≤ F ∧ 0 ≤ M ∧ F + M ≤ S
  · obtain rfl : t = true := ht.2 h
    obtain ⟨⟨h1, h2, h3, h4, h5⟩, h6, h7, h8⟩ := h
    clear ht
    go_enter Try.func9, Try.ntmps9
    go_wp2
    go_ret
    exact ⟨rfl, rfl⟩
  · obtain rfl : t = false := by
      cases t with
      | false => rfl
      | true => exact absurd (ht.1 rfl) h
    clear ht
    by_cases h1 : 64 ≤ S
    · by_cases h2 : S ≤ 4096
      · by_cases h3 : S % 64 = 0
        · by_cases h4 : 0 ≤ N
          · by_cases h5 : N < 256
            · by_cases h6 : 0 ≤ F
              · by_cases h7 : 0 ≤ M
                · by_cases h8 : F ≤ S
                  · by_cases h9 : M ≤ S
                    · have h10 : ¬ F + M ≤ S := by omega
                      clear h
                      go_enter Try.func9, Try.ntmps9
                      go_wp2
                      go_ret
                      exact ⟨rfl, rfl⟩
                    · clear h
                      go_enter Try.func9, Try.ntmps9
                      go_wp2
                      go_ret
                      exact ⟨rfl, rfl⟩
                  · clear h
                    go_enter Try.func9, Try.ntmps9
                    go_wp2
                    go_ret
                    exact ⟨rfl, rfl⟩
                · clear h
                  go_enter Try.func9, Try.ntmps9
                  go_wp2
                  go_ret
                  exact ⟨rfl, rfl⟩
              · clear h
                go_enter Try.func9, Try.ntmps9
                go_wp2
                go_ret
                exact ⟨rfl, rfl⟩
            · clear h
              go_enter Try.func9, Try.ntmps9
              go_wp2
              go_ret
              exact ⟨rfl, rfl⟩
          · clear h
            go_enter Try.func9, Try.ntmps9
            go_wp2
            go_ret
            exact ⟨rfl, rfl⟩
        · clear h
          go_enter Try.func9, Try.ntmps9
          go_wp2
          go_ret
          exact ⟨rfl, rfl⟩
      · clear h
        go_enter Try.func9, Try.ntmps9
        go_wp2
        go_ret
        exact ⟨rfl, rfl⟩
    · clear h
      go_enter Try.func9, Try.ntmps9
      go_wp2
      go_ret
      exact ⟨rfl, rfl⟩

theorem rowZ_set (pre : List Pz) (f x l : Nat) : (rowZ (pre ++ [⟨f, x, l⟩])).set (pre.length * 3 + 2) (.int .i64 ((l + 1 : Nat) : Int)) = rowZ (pre ++ [⟨f, x, l + 1⟩]) := by
  rw [rowZ_snoc, rowZ_snoc, List.set_append_right _ _ (by rw [rowZ_len]; omega), rowZ_len, Nat.add_sub_cancel_left]
  rfl
theorem Try.infoPr : (Try.prog.info? 28).map (fun i => (i.zero, i.size, i.bytes)) = some (some (.agg #[.int .i64 0, .int .i64 0, .int .i64 0]), 3, 24) := by kernel_rfl
theorem rowZ_cells {w : World} {B c : Nat} {a : Option Addr} {t : TypeId} {T : List Pz} {p : Pz} {k : Nat} (h : w.ownsRow B t 3 (.slice a T.length c) T.length (rowZ T)) (hk : T[k]? = some p) :
    ∃ g, a = some ⟨g, 0, none⟩ ∧ B ≤ g ∧ g < w.heap.size ∧ (∀ i, w.frozen? ⟨g, i, none⟩ = false) ∧ w.cell? ⟨g, k * 3, none⟩ = some (.int .i64 (p.f : Nat)) ∧ w.cell? ⟨g, k * 3 + 1, none⟩ = some (.int .i64 (p.a : Nat)) ∧ w.cell? ⟨g, k * 3 + 2, none⟩ = some (.int .i64 (p.l : Nat)) := by
  obtain ⟨hk1, hk2⟩ := List.getElem?_eq_some_iff.1 hk
  have hp : T.getD k ⟨0, 0, 0⟩ = p := by rw [List.getD_eq_getElem?_getD, hk]; rfl
  rcases h.2 with ⟨_, h2⟩ | ⟨g, cap, cur, h1, h2, h3, _⟩
  · omega
  · simp only [Value.slice.injEq, true_and] at h1
    obtain ⟨rfl, rfl⟩ := h1
    have hc : ∀ j, j < 3 → w.cell? ⟨g, k * 3 + j, none⟩ = (pzC p)[j]? := fun j hj => by
      rw [h.cellAt (k * 3 + j) (by omega), rowZ_at T k j hk1 hj, hp]
    exact ⟨g, rfl, h2, (Array.getElem?_eq_some_iff.1 h3).1, fun i => h.frozenAt i, hc 0 (by omega), hc 1 (by omega), hc 2 (by omega)⟩

/-- The document's pieces under way. -/
structure RefZ (w wr : World) (a t : Nat) (v : Value) : Prop where
  own : wr.ownsRow w.heap.size 28 3 v (pcsZ a t).length (rowZ (pcsZ a t))
  bel : Below w.heap.size w wr
set_option maxRecDepth 100000 in
set_option maxHeartbeats 2000000 in
theorem refPieces_any {S N F M : Int} {a e : Nat} (w : World) (hM : M < 9223372036854775808) (hae : Zae S N F M a e) :
    Calls Try.prog 5 #[.int .i64 S, .int .i64 N, .int .i64 F, .int .i64 M] w fun r w' => ∃ v, r = .returned v ∧ w'.ownsRow w.heap.size 28 3 v (pcsZ a e).length (rowZ (pcsZ a e)) ∧ Below w.heap.size w w' := by
  obtain ⟨i0, hi, hz0, hz1, hz2⟩ := info_parts Try.infoPr
  have hle := hae.le
  rcases hae with ⟨hm, ha, he⟩ | ⟨hm, rfl, rfl⟩
  · have HMAY : Hid _ := refMay_any S N F M w hM (t := true) ⟨fun _ => hm, fun _ => rfl⟩
    obtain ⟨⟨h1, h2, h3, h4, h5⟩, h6, h7, h8⟩ := hm
    have hp : N * S ≤ 255 * 4096 := Int.mul_le_mul h5 h2 (by omega) (by omega)
    have hp0 : 0 ≤ N * S := Int.mul_nonneg h4 (by omega)
    have hq : S * N = N * S := Int.mul_comm _ _
    have hq0 : 0 ≤ S * N := by rw [hq]; exact hp0
    have hq1 : S * N ≤ 1044480 := by rw [hq]; omega
    obtain ⟨m, rfl⟩ : ∃ m : Nat, M = m := ⟨M.toNat, by omega⟩
    have HA : Hid (S * N + F = (a : Int)) := by show _ = _; omega
    have hem : e = a + m := by omega
    subst hem
    clear ha he hp hp0 hq h3 h4 h5 h1 hM
    go_enter Try.func5, Try.ntmps5
    go_wp2_with fail
    refine Calls.mono HMAY.out ?_
    rintro r w' ⟨rfl, rfl⟩
    clear HMAY
    go_wp2_with fail
    go_loopg [9, 10] m (fun gk v i wr => ∃ k : Nat, k ≤ m ∧ gk = m - k ∧ i = .int .i64 k ∧ RefZ w wr a (a + k) v)
    case atStart => exact ⟨0, by omega, rfl, rfl, by rw [Nat.add_zero, pcs_none (Nat.le_refl _)]; exact World.ownsRow_nil _ _ _ _, Below.refl _ _⟩
    case round =>
      obtain ⟨k, hk, rfl, rfl, hR⟩ := hrel
      by_cases hlt : k < m
      · have i1 : (k : Int) < (m : Int) := by omega
        obtain ⟨t, ht0⟩ : ∃ t, a + k = t := ⟨_, rfl⟩
        have HTK : Hid (t + 1 = a + (k + 1)) := by show _ = _; omega
        rw [ht0] at hR
        obtain ⟨av, cv, rfl⟩ := row_slice hR.own
        have hn2 := pcs_len a t
        have HT : Hid (S * N + F + (k : Int) = (t : Int)) := by have := HA.out; show _ = _; omega
        have hb1 : 0 ≤ S * N + F ∧ S * N + F + (k : Int) ≤ 1048576 := by have := HA.out; omega
        obtain ⟨n, hn⟩ : ∃ n, (pcsZ a t).length = n := ⟨_, rfl⟩
        have HB : Hid (Below w.heap.size w wr) := hR.bel
        have HOW : Hid (wr.ownsRow w.heap.size 28 3 (.slice av n cv) n (rowZ (pcsZ a t))) := by have := hR.own; rwa [hn] at this
        have HO2 : Hid (wr.ownsRow w.heap.size 28 3 (.slice av (pcsZ a t).length cv) (pcsZ a t).length (rowZ (pcsZ a t))) := hR.own
        have HLN : Hid ((pcsZ a t).length = n) := hn
        have ht : t < a + 4096 := by omega
        have hat0 : a ≤ t := by omega
        rw [hn]
        rw [hn] at hn2
        clear hR hn ht0
        by_cases h0 : t = a
        · have hn0 : n = 0 := by
            have := HLN.out
            rw [pcs_none (by omega)] at this
            simpa using this.symm
          have HNEW : Hid (pcsZ a (t + 1) = pcsZ a t ++ [⟨t / 4096, t % 4096, 1⟩]) := pcs_new ht (.inl h0)
          have HK : Hid ((n : Int) - 1 = -1) := by show _ = _; omega
          clear hn0 h0
          go_upto_region 9 with (fail)
          rw [HT.out, HK.out]
          go_wp2_with (at_builtin; refine wpList_append_own _ rfl _ _ 25 rfl w.heap.size 28 i0 _ 3 24 Try.underlying25 hi hz0 hz1 hz2 rfl (by decide) _ n _ rfl (HOW.out.alloc _) ⟨wr.heap.size, 0, none⟩ 1 1 [.int .i64 ((t : Int) / 4096), .int .i64 ((t : Int) % 4096), .int .i64 1] rfl rfl (World.news_of_block (heap_alloc_new _ _)) ?d2 ?d3 ?d4 ?d5 ?_)
          case d2 =>
            intro u hu
            simp only [List.mem_cons, List.not_mem_nil, or_false] at hu
            rcases hu with rfl | rfl | rfl <;> rfl
          case d3 => unfold maxLen; omega
          case d4 => omega
          case d5 => have := HB.out.size; simp; omega
          intro v3 w3 own3 gr3 _
          have HN : Hid (RefZ w w3 a (t + 1) v3) := by
            have b3 : Below w.heap.size w w3 := (HB.out.alloc HB.out.size _).grown gr3 (by have := HB.out.size; simp; omega) (fun i hi => (HOW.out.lt i hi).1)
            have hl2 : (pcsZ a (t + 1)).length = n + 1 := by rw [HNEW.out, List.length_append, HLN.out]; rfl
            have hc2 : rowZ (pcsZ a (t + 1)) = rowZ (pcsZ a t) ++ [.int .i64 ((t : Int) / 4096), .int .i64 ((t : Int) % 4096), .int .i64 1] := by
              rw [HNEW.out, rowZ_snoc]
              show _ ++ [Value.int .i64 ((t / 4096 : Nat) : Int), .int .i64 ((t % 4096 : Nat) : Int), .int .i64 ((1 : Nat) : Int)] = _
              rw [Int.natCast_ediv, Int.natCast_emod]
              rfl
            refine ⟨?_, b3⟩
            rw [hl2, hc2]
            exact own3
          clear own3 gr3
          go_wp2
          go_roundg (m - (k + 1))
          case measure => omega
          case rel => exact ⟨k + 1, by omega, rfl, by go_num, HTK.out ▸ HN.out⟩
        · by_cases h1 : t = pzM a
          · have HNEW : Hid (pcsZ a (t + 1) = pcsZ a t ++ [⟨t / 4096, t % 4096, 1⟩]) := pcs_new ht (.inr h1)
            obtain ⟨hp1, hp2⟩ := pcs_turn (a := a) (t := t) (by omega) h1
            have hn1 : n = 1 := by
              have := HLN.out
              rw [hp1] at this
              simpa using this.symm
            obtain ⟨g, rfl, hg1, hg2, hfz, c0, c1, c2⟩ := rowZ_cells (k := 0) HO2.out (by rw [hp1]; rfl)
            have HK : Hid ((n : Int) - 1 = 0) := by show _ = _; omega
            have hne : ¬ ((a / 4096 : Nat) : Int) = (t : Int) / 4096 := by omega
            have hnl : (0 : Int) < (n : Int) := by omega
            simp only [Nat.zero_mul] at c0
            clear c1 c2 hp1 hfz hn1 h1 h0
            go_upto_region 9 with (fail)
            rw [HT.out, HK.out]
            go_wp2_with (at_builtin; refine wpList_append_own _ rfl _ _ 25 rfl w.heap.size 28 i0 _ 3 24 Try.underlying25 hi hz0 hz1 hz2 rfl (by decide) _ n _ rfl (HOW.out.alloc _) ⟨wr.heap.size, 0, none⟩ 1 1 [.int .i64 ((t : Int) / 4096), .int .i64 ((t : Int) % 4096), .int .i64 1] rfl rfl (World.news_of_block (heap_alloc_new _ _)) ?d2 ?d3 ?d4 ?d5 ?_)
            case d2 =>
              intro u hu
              simp only [List.mem_cons, List.not_mem_nil, or_false] at hu
              rcases hu with rfl | rfl | rfl <;> rfl
            case d3 => unfold maxLen; omega
            case d4 => omega
            case d5 => have := HB.out.size; simp; omega
            intro v3 w3 own3 gr3 _
            have HN : Hid (RefZ w w3 a (t + 1) v3) := by
              have b3 : Below w.heap.size w w3 := (HB.out.alloc HB.out.size _).grown gr3 (by have := HB.out.size; simp; omega) (fun i hi => (HOW.out.lt i hi).1)
              have hl2 : (pcsZ a (t + 1)).length = n + 1 := by rw [HNEW.out, List.length_append, HLN.out]; rfl
              have hc2 : rowZ (pcsZ a (t + 1)) = rowZ (pcsZ a t) ++ [.int .i64 ((t : Int) / 4096), .int .i64 ((t : Int) % 4096), .int .i64 1] := by
                rw [HNEW.out, rowZ_snoc]
                show _ ++ [Value.int .i64 ((t / 4096 : Nat) : Int), .int .i64 ((t % 4096 : Nat) : Int), .int .i64 ((1 : Nat) : Int)] = _
                rw [Int.natCast_ediv, Int.natCast_emod]
                rfl
              refine ⟨?_, b3⟩
              rw [hl2, hc2]
              exact own3
            clear own3 gr3
            go_wp2
            go_roundg (m - (k + 1))
            case measure => omega
            case rel => exact ⟨k + 1, by omega, rfl, by go_num, HTK.out ▸ HN.out⟩
          · obtain ⟨pre, x, y, hp1, hp2⟩ := pcs_more (a := a) (t := t) (by omega) ht h1
            obtain ⟨j, hj⟩ : ∃ j, pre.length = j := ⟨_, rfl⟩
            have hn1 : n = j + 1 := by
              have := HLN.out
              rw [hp1, List.length_append, hj] at this
              exact this.symm
            have hat : (pcsZ a t)[j]? = some ⟨t / 4096, x, y⟩ := by rw [hp1, ← hj]; simp
            obtain ⟨g, rfl, hg1, hg2, hfz, c0, c1, c2⟩ := rowZ_cells (k := j) HO2.out hat
            have hy := (pcs_in (a := a) (e := t) (by omega) _ (List.mem_of_getElem? hat)).1
            simp only at hy
            have c0' : wr.cell? ⟨g, j * 3, none⟩ = some (.int .i64 ((t : Int) / 4096)) := by
              rw [c0]
              show some (Value.int .i64 ((t / 4096 : Nat) : Int)) = _
              rw [Int.natCast_ediv]
              rfl
            have c2' : wr.cell? ⟨g, j * 3 + 2, none⟩ = some (.int .i64 (y : Int)) := c2
            have f2 := hfz (j * 3 + 2)
            have HK : Hid ((n : Int) - 1 = (j : Int)) := by show _ = _; omega
            have hjn : (j : Int) < (n : Int) := by omega
            have HN : Hid (RefZ w (wr.setCell ⟨g, j * 3 + 2, none⟩ (.int .i64 ((y : Int) + 1))) a (t + 1) (.slice (some ⟨g, 0, none⟩) n cv)) := by
              obtain ⟨r1, r2⟩ := HOW.out.stored (j * 3 + 2) (.int .i64 ((y : Int) + 1))
              refine ⟨?_, HB.out.grown r2 (by omega) fun i hi => by simp at hi; omega⟩
              have e : rowZ (pcsZ a (t + 1)) = (rowZ (pcsZ a t)).set (j * 3 + 2) (.int .i64 ((y : Int) + 1)) := by
                rw [hp1, hp2, ← hj]
                exact (rowZ_set pre _ x y).symm
              rw [e, show (pcsZ a (t + 1)).length = n by rw [hp2, hn1, List.length_append, hj]; rfl]
              exact r1
            clear c0 c1 c2 hfz hat hp1 hp2 hj hn1 h1 h0
            go_upto_region 9 with (fail)
            rw [HT.out, HK.out]
            go_wp2
            go_roundg (m - (k + 1))
            case measure => omega
            case rel => exact ⟨k + 1, by omega, rfl, by go_num, HTK.out ▸ HN.out⟩
      · have hkm : k = m := by omega
        subst hkm
        obtain ⟨av, cv, rfl⟩ := row_slice hR.own
        have HR : Hid (RefZ w wr a (a + k) (.slice av (pcsZ a (a + k)).length cv)) := hR
        clear hR
        go_wp2
        go_ret
        exact ⟨_, rfl, HR.out.own, HR.out.bel⟩
  · have HMAY : Hid _ := refMay_any S N F M w hM (t := false) ⟨fun h => (by cases h), fun h => absurd h hm⟩
    clear hm hM
    go_enter Try.func5, Try.ntmps5
    go_wp2_with fail
    refine Calls.mono HMAY.out ?_
    rintro r w' ⟨rfl, rfl⟩
    go_wp2
    go_ret
    exact ⟨_, rfl, World.ownsRow_nil _ _ _ _, Below.refl _ _⟩
end Go.Proofs.Ytepbfedmnibifaa
