/- The walk of the law's own Page: 4096 bytes in new memory, whatever the pieces are. -/
import Derived.Test.YtgninhecclinaaaEOpen
import Derived.Test.YtgninhecclinaaaGZeros
import Derived.Deep.LoopGhost
namespace Go.Proofs.Ytgninhecclinaaa
open Go.RowKit

theorem own_take {w : World} {B g n m c : Nat} {e : TypeId} {xs : List Value} (h : w.ownsRow B e 1 (.slice (some ⟨g, 0, none⟩) n c) n xs) (hm : m ≤ n) : w.ownsRow B e 1 (.slice (some ⟨g, 0, none⟩) m c) m (xs.take m) := by
  have hl := h.1
  rcases h.2 with ⟨h', _⟩ | ⟨g', cap, cur, h', hB, hg, hnc, hcm, hcs, htake⟩
  · simp at h'
  · simp only [Value.slice.injEq, Option.some.injEq, Addr.mk.injEq, and_true, true_and] at h'
    obtain ⟨rfl, rfl⟩ := h'
    refine ⟨by simp; omega, .inr ⟨g, _, cur, rfl, hB, hg, by omega, hcm, hcs, ?_⟩⟩
    rw [← htake, List.take_take]
    congr 1
    omega
/-- out[:4096] -/
theorem cut_page {g n c : Nat} (hc : 4096 ≤ c) (w : World) :
    (Instr.slice 23 (.slice (some ⟨g, 0, none⟩) n c) none (some (.int .i64 4096)) none).run Try.prog w = .ok (.slice (some ⟨g, 0, none⟩) 4096 c) w := by
  obtain ⟨i0, h0, hz0, hz1, hz2⟩ := info_parts Try.info5
  have he : Try.prog.elem 23 = 5 := by kernel_rfl
  rw [run_slice_h (P := Try.prog) w 23 _ _ _ (by rw [he]; exact Try.underlying23) .i64 _ (by omega) (by omega), he]
  have hs : (sizeOf 5).run Try.prog w = .ok 1 w := by simp [sizeOf, typeInfo, h0, hz1, go_sem]
  rw [hs]
  simp only [Result.andThen, sliced, Option.map_some, Nat.zero_mul, add_lit', Nat.sub_zero]
  split <;> rfl


/-- What stands so far. -/
structure Outs (w wr : World) (v : Value) (n : Nat) (q : List Nat) : Prop where
  own : wr.ownsRow w.heap.size 5 1 v n (bv q)
  le : n ≤ 9096
  byte : ∀ x ∈ q, x < 256
  bel : Below w.heap.size w wr


set_option maxRecDepth 100000 in
set_option maxHeartbeats 1000000 in
theorem pieces_any (a : Option Addr) (L c : Nat) (D : Nat → Pc) (w : World) (hL : L ≤ 200) (hd : PcsAt w a L D) (h5 : ∀ i, i < L → (D i).l ≤ 5000) :
    Calls Try.prog 8 #[.slice a L c] w fun e w' => ∃ g c' p, e = .returned (.slice (some ⟨g, 0, none⟩) 4096 c') ∧ w'.ownsRow w.heap.size 5 1 (.slice (some ⟨g, 0, none⟩) 4096 c') 4096 (bv p) ∧ (∀ x ∈ p, x < 256) ∧ Below w.heap.size w w' := by
  obtain ⟨i0, hi, hz0, hz1, hz2⟩ := info_parts Try.info5
  have HD : Hid (PcsAt w a L D) := hd
  have H5 : Hid (∀ i, i < L → (D i).l ≤ 5000) := h5
  clear hd h5
  go_enter Try.func8, Try.ntmps8
  go_wp2
  go_loopg [3, 4] L (fun gk v i wr => ∃ (k n : Nat) (q : List Nat), k ≤ L ∧ gk = L - k ∧ i = .int .i64 k ∧ Outs w wr v n q)
  case atStart => exact ⟨0, 0, [], Nat.zero_le _, rfl, rfl, ⟨World.ownsRow_nil _ _ _ _, by omega, by simp, Below.refl _ _⟩⟩
  case round =>
    obtain ⟨k, n, q, hk, rfl, rfl, hO⟩ := hrel
    obtain ⟨a1, c1, rfl⟩ := row_slice hO.own
    have HO : Hid (Outs w wr (.slice a1 n c1) n q) := hO
    have hn := hO.le
    clear hO
    by_cases hlt : k < L
    · have i1 : (k : Int) < (L : Int) := by omega
      by_cases hn4 : n < 4096
      · have i2 : (n : Int) < 4096 := by omega
        obtain ⟨b, off, rfl, hb, _, _⟩ := HD.out.later HO.out.bel hlt
        have HDK : Hid (∀ w', Below w.heap.size w w' → w'.cell? ⟨b, off + k * 2, none⟩ = some (.slice (D k).p (D k).l (D k).c) ∧ w'.cell? ⟨b, off + k * 2 + 1, none⟩ = some (.int .u16 ((D k).M : Int)) ∧ SrcAt w' (.slice (D k).p (D k).l (D k).c) (D k).l 1 (bv (D k).b)) := by
          intro w' hw'
          obtain ⟨b', off', e, _, h1, h2⟩ := HD.out.later hw' hlt
          cases e
          exact ⟨h1, h2, (HD.out.ok hlt).by_.src.later hw'⟩
        have hl5 := H5.out k hlt
        have hM := (HD.out.ok hlt).m
        have HP8 : Hid (∀ x ∈ (D k).b, x < 256) := (HD.out.ok hlt).by_.byte
        generalize (D k).p = dp at *
        generalize (D k).l = dl at *
        generalize (D k).c = dc at *
        generalize (D k).b = db at *
        generalize (D k).M = M at *
        go_wp2
        go_loopg [3, 5] M (fun gk v i wr => ∃ (j n : Nat) (q : List Nat), j ≤ M ∧ gk = M - j ∧ i = .int .i64 j ∧ Outs w wr v n q)
        case atStart => exact ⟨0, n, q, Nat.zero_le _, rfl, rfl, HO.out⟩
        case round =>
          obtain ⟨j, n1, q1, hj, rfl, rfl, hJ⟩ := hrel
          obtain ⟨a1, c1, rfl⟩ := row_slice hJ.own
          have HJ : Hid (Outs w wr (.slice a1 n1 c1) n1 q1) := hJ
          have hn1 := hJ.le
          obtain ⟨c0, cM, hs⟩ := HDK.out _ hJ.bel
          have HS : Hid _ := hs
          clear hJ hs HO
          by_cases hjM : j < M
          · have j1 : (j : Int) < (M : Int) := by omega
            by_cases hdl : 0 < dl
            · have j2 : (0 : Int) < (dl : Int) := by omega
              by_cases hn5 : n1 < 4096
              · have j3 : (n1 : Int) < 4096 := by omega
                go_wp2_with (at_builtin; refine wpList_append_src rfl _ _ 23 rfl w.heap.size 5 i0 (.int .u8 0) 1 1 Try.underlying23 hi hz0 hz1 hz2 rfl (by decide) _ _ _ rfl HJ.out.own _ dl (bv db) rfl HS.out (bv_one _) ?c3 ?c4 ?c5 ?_)
                case c3 => unfold maxLen; omega
                case c4 => omega
                case c5 => exact HJ.out.bel.size
                intro v2 w2 own2 gr2
                rw [← bv_append] at own2
                have HB2 : Below w.heap.size w w2 := HJ.out.bel.grown gr2 HJ.out.bel.size (fun i hi => (HJ.out.own.lt i hi).1)
                have HO2 : Hid (Outs w w2 v2 (n1 + dl) (q1 ++ db)) := by
                  refine ⟨own2, by omega, fun x hx => ?_, HB2⟩
                  rcases List.mem_append.1 hx with h | h
                  · exact HJ.out.byte x h
                  · exact HP8.out x h
                clear own2 gr2 HB2
                go_wp2
                go_roundg (M - (j + 1))
                case measure => omega
                case rel => exact ⟨j + 1, _, _, by omega, rfl, by go_num, HO2.out⟩
              · have j3 : ¬ (n1 : Int) < 4096 := by omega
                go_wp2
                go_roundg (L - (k + 1))
                case measure => omega
                case rel => exact ⟨k + 1, _, _, by omega, rfl, by go_num, HJ.out⟩
            · have j2 : ¬ (0 : Int) < (dl : Int) := by omega
              go_wp2
              go_roundg (L - (k + 1))
              case measure => omega
              case rel => exact ⟨k + 1, _, _, by omega, rfl, by go_num, HJ.out⟩
          · have j1 : ¬ (j : Int) < (M : Int) := by omega
            go_wp2
            go_roundg (L - (k + 1))
            case measure => omega
            case rel => exact ⟨k + 1, _, _, by omega, rfl, by go_num, HJ.out⟩
      · have i2 : ¬ (n : Int) < 4096 := by omega
        by_cases h4 : 4096 < n
        · obtain ⟨g1, rfl, _⟩ := row_at HO.out.own (i := 0) (by omega)
          have hcap := row_cap HO.out.own
          have hcm := hcap.2
          unfold maxLen at hcm
          have hsl := cut_page (g := g1) (n := n) (c := c1) (by omega)
          have i4 : (4096 : Int) < (n : Int) := by omega
          have HX : Hid (Outs w wr (.slice (some ⟨g1, 0, none⟩) 4096 c1) 4096 (q.take 4096)) := by
            refine ⟨?_, by omega, fun x hx => HO.out.byte x (List.mem_of_mem_take hx), HO.out.bel⟩
            have := own_take HO.out.own (m := 4096) (by omega)
            rwa [show (bv q).take 4096 = bv (q.take 4096) by simp [bv, List.map_take]] at this
          obtain ⟨m, hm⟩ : ∃ m : Nat, 4096 + m = 4096 := ⟨0, rfl⟩
          have EM : Hid ((0 : Int) = (m : Int)) := by show _ = _; omega
          have EN : Hid (4096 + m ≤ 1000000) := by show _ ≤ _; omega
          have E4 : Hid (4096 + m = 4096) := hm
          clear hm
          go_wp2_with (at_builtin; refine wpList_append_zeros rfl _ _ 23 3 rfl w.heap.size 5 i0 Try.underlying23 Try.underlying3 hi hz0 hz1 hz2 _ _ _ rfl HX.out.own m _ EM.out rfl EN.out HX.out.bel.size ?_)
          intro v2 w2 own2 gr2
          rw [E4.out, ← bv_append] at own2
          obtain ⟨a2, c2, rfl⟩ := row_slice own2
          obtain ⟨g2, rfl, _⟩ := row_at own2 (i := 0) (by omega)
          have HO2 : Hid (w2.ownsRow w.heap.size 5 1 (.slice (some ⟨g2, 0, none⟩) 4096 c2) 4096 (bv (q.take 4096 ++ List.replicate m 0))) := own2
          have HB2 : Hid (Below w.heap.size w w2) := HX.out.bel.grown gr2 HX.out.bel.size (fun j hj => (HX.out.own.lt j hj).1)
          have H82 : Hid (∀ x ∈ q.take 4096 ++ List.replicate m 0, x < 256) := by
            intro x hx
            rcases List.mem_append.1 hx with h | h
            · exact HX.out.byte x h
            · rw [(List.mem_replicate.1 h).2]; omega
          clear own2 gr2
          go_wp2
          go_ret
          exact ⟨g2, c2, _, rfl, HO2.out, H82.out, HB2.out⟩
        · have i4 : ¬ (4096 : Int) < (n : Int) := by omega
          have HX : Hid (Outs w wr (.slice a1 n c1) n q) := HO.out
          obtain ⟨m, hm⟩ : ∃ m : Nat, n + m = 4096 := ⟨4096 - n, by omega⟩
          have EM : Hid ((4096 : Int) - (n : Int) = (m : Int)) := by show _ = _; omega
          have EN : Hid (n + m ≤ 1000000) := by show _ ≤ _; omega
          have E4 : Hid (n + m = 4096) := hm
          clear hm
          go_wp2_with (at_builtin; refine wpList_append_zeros rfl _ _ 23 3 rfl w.heap.size 5 i0 Try.underlying23 Try.underlying3 hi hz0 hz1 hz2 _ _ _ rfl HX.out.own m _ EM.out rfl EN.out HX.out.bel.size ?_)
          intro v2 w2 own2 gr2
          rw [E4.out, ← bv_append] at own2
          obtain ⟨a2, c2, rfl⟩ := row_slice own2
          obtain ⟨g2, rfl, _⟩ := row_at own2 (i := 0) (by omega)
          have HO2 : Hid (w2.ownsRow w.heap.size 5 1 (.slice (some ⟨g2, 0, none⟩) 4096 c2) 4096 (bv (q ++ List.replicate m 0))) := own2
          have HB2 : Hid (Below w.heap.size w w2) := HX.out.bel.grown gr2 HX.out.bel.size (fun j hj => (HX.out.own.lt j hj).1)
          have H82 : Hid (∀ x ∈ q ++ List.replicate m 0, x < 256) := by
            intro x hx
            rcases List.mem_append.1 hx with h | h
            · exact HX.out.byte x h
            · rw [(List.mem_replicate.1 h).2]; omega
          clear own2 gr2
          go_wp2
          go_ret
          exact ⟨g2, c2, _, rfl, HO2.out, H82.out, HB2.out⟩
    · have i1 : ¬ (k : Int) < (L : Int) := by omega
      by_cases h4 : 4096 < n
      · obtain ⟨g1, rfl, _⟩ := row_at HO.out.own (i := 0) (by omega)
        have hcap := row_cap HO.out.own
        have hcm := hcap.2
        unfold maxLen at hcm
        have hsl := cut_page (g := g1) (n := n) (c := c1) (by omega)
        have i4 : (4096 : Int) < (n : Int) := by omega
        have HX : Hid (Outs w wr (.slice (some ⟨g1, 0, none⟩) 4096 c1) 4096 (q.take 4096)) := by
          refine ⟨?_, by omega, fun x hx => HO.out.byte x (List.mem_of_mem_take hx), HO.out.bel⟩
          have := own_take HO.out.own (m := 4096) (by omega)
          rwa [show (bv q).take 4096 = bv (q.take 4096) by simp [bv, List.map_take]] at this
        obtain ⟨m, hm⟩ : ∃ m : Nat, 4096 + m = 4096 := ⟨0, rfl⟩
        have EM : Hid ((0 : Int) = (m : Int)) := by show _ = _; omega
        have EN : Hid (4096 + m ≤ 1000000) := by show _ ≤ _; omega
        have E4 : Hid (4096 + m = 4096) := hm
        clear hm
        go_wp2_with (at_builtin; refine wpList_append_zeros rfl _ _ 23 3 rfl w.heap.size 5 i0 Try.underlying23 Try.underlying3 hi hz0 hz1 hz2 _ _ _ rfl HX.out.own m _ EM.out rfl EN.out HX.out.bel.size ?_)
        intro v2 w2 own2 gr2
        rw [E4.out, ← bv_append] at own2
        obtain ⟨a2, c2, rfl⟩ := row_slice own2
        obtain ⟨g2, rfl, _⟩ := row_at own2 (i := 0) (by omega)
        have HO2 : Hid (w2.ownsRow w.heap.size 5 1 (.slice (some ⟨g2, 0, none⟩) 4096 c2) 4096 (bv (q.take 4096 ++ List.replicate m 0))) := own2
        have HB2 : Hid (Below w.heap.size w w2) := HX.out.bel.grown gr2 HX.out.bel.size (fun j hj => (HX.out.own.lt j hj).1)
        have H82 : Hid (∀ x ∈ q.take 4096 ++ List.replicate m 0, x < 256) := by
          intro x hx
          rcases List.mem_append.1 hx with h | h
          · exact HX.out.byte x h
          · rw [(List.mem_replicate.1 h).2]; omega
        clear own2 gr2
        go_wp2
        go_ret
        exact ⟨g2, c2, _, rfl, HO2.out, H82.out, HB2.out⟩
      · have i4 : ¬ (4096 : Int) < (n : Int) := by omega
        have HX : Hid (Outs w wr (.slice a1 n c1) n q) := HO.out
        obtain ⟨m, hm⟩ : ∃ m : Nat, n + m = 4096 := ⟨4096 - n, by omega⟩
        have EM : Hid ((4096 : Int) - (n : Int) = (m : Int)) := by show _ = _; omega
        have EN : Hid (n + m ≤ 1000000) := by show _ ≤ _; omega
        have E4 : Hid (n + m = 4096) := hm
        clear hm
        go_wp2_with (at_builtin; refine wpList_append_zeros rfl _ _ 23 3 rfl w.heap.size 5 i0 Try.underlying23 Try.underlying3 hi hz0 hz1 hz2 _ _ _ rfl HX.out.own m _ EM.out rfl EN.out HX.out.bel.size ?_)
        intro v2 w2 own2 gr2
        rw [E4.out, ← bv_append] at own2
        obtain ⟨a2, c2, rfl⟩ := row_slice own2
        obtain ⟨g2, rfl, _⟩ := row_at own2 (i := 0) (by omega)
        have HO2 : Hid (w2.ownsRow w.heap.size 5 1 (.slice (some ⟨g2, 0, none⟩) 4096 c2) 4096 (bv (q ++ List.replicate m 0))) := own2
        have HB2 : Hid (Below w.heap.size w w2) := HX.out.bel.grown gr2 HX.out.bel.size (fun j hj => (HX.out.own.lt j hj).1)
        have H82 : Hid (∀ x ∈ q ++ List.replicate m 0, x < 256) := by
          intro x hx
          rcases List.mem_append.1 hx with h | h
          · exact HX.out.byte x h
          · rw [(List.mem_replicate.1 h).2]; omega
        clear own2 gr2
        go_wp2
        go_ret
        exact ⟨g2, c2, _, rfl, HO2.out, H82.out, HB2.out⟩
end Go.Proofs.Ytgninhecclinaaa
