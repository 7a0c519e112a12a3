/- The walks of used and of the function that it tells handles in use by. -/
import Derived.Test.YtlnkelhhemgibaaVDeeds
import Derived.Test.YtlnkelhhemgibaaGRange
import Derived.Test.YtlnkelhhemgibaaGRound
import Derived.Test.YtlnkelhhemgibaaGSeq
import Derived.Shelf.Abstract
import Derived.Shelf.RegionOpen
import Derived.OwnWalkIn
import Derived.TacticsInMore
import Derived.LoopNIn
import Derived.LoopIn
import Derived.BigRegionIn
import Derived.BigGuardIn
namespace Go.Proofs.Ytlnkelhhemgibaa
open Go.RowKit
attribute [local go_sem] Oper.semAt_some

def vLb (q : Nat) : Array Value := #[.pointer (some ⟨q, 0, none⟩)]
theorem TabP.v {w : World} {v : Value} {T : Int → Pl} (h : TabP w v T) : v = .pointer none ∨ ∃ r : Nat, v = .pointer (some ⟨r, 0, none⟩) := by
  rcases h with ⟨h, _⟩ | ⟨r, h, _⟩
  · exact .inl h
  · exact .inr ⟨r, h⟩
set_option maxHeartbeats 400000 in
theorem used_any (v : Value) (w : World) (hv : v = .pointer none ∨ ∃ r : Nat, v = .pointer (some ⟨r, 0, none⟩)) :
    Calls Try.prog 20 #[v] w fun e w' => e = .returned (.func (.func 24) #[] (vLb w.heap.size)) ∧ w'.cell? ⟨w.heap.size, 0, none⟩ = some v ∧ Below w.heap.size w w' ∧ w'.heap.size = w.heap.size + 1 := by
  have hmf : ∀ (fn : Fn) (first cap : Array Value) (w : World), (Instr.makeFunc fn first cap).run Try.prog w = .ok (.func fn first cap) w := fun _ _ _ _ => rfl
  obtain ⟨W2, hW2⟩ : ∃ W2, w.alloc (.cells #[v] 23) = W2 := ⟨_, rfl⟩
  have HC : Hid (W2.cell? ⟨w.heap.size, 0, none⟩ = some v ∧ Below w.heap.size w W2 ∧ W2.heap.size = w.heap.size + 1) := by
    refine ⟨?_, ?_, ?_⟩
    · refine cell_of_one (t := 23) ?_
      rw [← hW2]
      exact heap_alloc_new w _
    · rw [← hW2]
      exact (Below.refl _ w).alloc (Nat.le_refl _) _
    · rw [← hW2]; simp
  rcases hv with rfl | ⟨r, rfl⟩
  · go_enter Try.func20, Try.ntmps20
    go_wp2
    go_ret
    exact ⟨rfl, HC.out⟩
  · go_enter Try.func20, Try.ntmps20
    go_wp2
    go_ret
    exact ⟨rfl, HC.out⟩

theorem Try.sizeArr : (Try.prog.info? 53).map (fun i => i.size) = some 1539 := by kernel_rfl
/-- The array of a table, loaded. -/
theorem load_arr {w : World} {t : Nat} {cs : Array Value} (h : w.heap[t]? = some (.cells cs 55 (0, 0))) (hs : cs.size = 1539) : (loadVar 53 ⟨t, 0, none⟩).run Try.prog w = .ok (.agg cs) w :=
  run_loadVar_row w t _ _ cs _ _ h Try.underlying53 rfl (by rw [hs]; exact Try.sizeArr)
theorem wpListIn_load_at {F : Fence} {n : Nat} {P : Program} {w : World} {ops : Array Oper} {rest : List Oper} {o : Oper} {a : Act} {Q : Exit → Act → World → Prop} (hgd : o.guard = none) (ty : TypeId) (x : Operand)
    (ho : o.op = .load ty x) {p : Addr} (hx : a.eval x = .pointer (some p)) {X : Value} (hl : (loadVar ty p).run P w = .ok X w) (h : wpListIn F n P ops Q rest (a.put o.dst X) w) : wpListIn F n P ops Q (o :: rest) a w := by
  refine wpListIn_plain hgd fun K hK' => ?_
  unfold Oper.wpIn
  refine ⟨?_, ?_⟩
  · simp [Oper.about, ho]
  · rw [Oper.semAt_plain F _ _ (by rw [ho]; intro c hc'; cases hc')]
    simp only [execOp, ho, hx, Instr.loadAt, Instr.sureAddr, Sem.run_bind, Sem.run_pure, Result.andThen_ok, hl]
    exact hK' _ _ h
theorem extract_three {cs : Array Value} {i : Nat} {a b c : Value} (h0 : cs[i]? = some a) (h1 : cs[i + 1]? = some b) (h2 : cs[i + 2]? = some c) : cs.extract i (i + 3) = #[a, b, c] := by
  have hl := (Array.getElem?_eq_some_iff.1 h2).1
  apply Array.ext
  · simp; omega
  · intro j h3 h4
    have hj : j < 3 := by simpa using h4
    rw [Array.getElem_extract]
    match j, hj with
    | 0, _ => simpa using (Array.getElem?_eq_some_iff.1 h0).2
    | 1, _ => simpa using (Array.getElem?_eq_some_iff.1 h1).2
    | 2, _ => simpa using (Array.getElem?_eq_some_iff.1 h2).2
theorem Try.sizePl2 (w : World) : (sizeOf 28).run Try.prog w = .ok 3 w := by kernel_rfl
theorem index_arr {cs : Array Value} {T : Int → Pl} (h : CellsT cs T) {i : Nat} (hi : i < 513) (w : World) :
    (Instr.index 53 (.agg cs) (.int .i64 (i : Nat))).run Try.prog w = .ok (.agg #[.int .i64 (T i).p, .int .i64 (T i).o, .int .i64 (T i).l]) w := by
  obtain ⟨h0, h1, h2⟩ := h.at_ i hi
  have e := extract_three h0 h1 h2
  have e2 := Try.sizePl2 w
  simp only [Instr.index, asIntOf, Sem.run_bind, Sem.run_pure, Result.andThen_ok, run_underlying Try.underlying53]
  have hi2 : ¬ 513 ≤ (i : Int) := by omega
  simp [hi2, e2, part, e]
/-- What a handle in use is told by. -/
def hV (T : Int → Pl) (x : Nat) : Array Value := #[.int .i64 (x : Nat), .agg #[.int .i64 (T x).p, .int .i64 (T x).o, .int .i64 (T x).l]]
theorem gap_more {T : Int → Pl} {s x : Nat} (h : Gap T s x) (hx : T x = zP) : Gap T s (x + 1) := by
  intro j h1 h2
  by_cases e : j = x
  · rw [e]; exact hx
  · exact h j h1 (by omega)
set_option maxRecDepth 100000 in
set_option maxHeartbeats 1000000 in
theorem used_iter {v : Value} {q : Nat} {T : Int → Pl} {K0 : Nat → Prop} (w : World) (hc : w.cell? ⟨q, 0, none⟩ = some v) (hq : q < w.heap.size) (hT : TabP w v T) :
    Iterates Try.prog 24 (vLb q) (hV T) K0 (fun s x _ => s ≤ x ∧ x < 513 ∧ T (x : Nat) ≠ zP ∧ Gap T s x) (fun _ x => x + 1) 0 (fun s => s ≤ 513 ∧ Gap T s 513) (fun _ => True) w := by
  intro l J Jx hJ hJx hR W hW h0
  have HR : Hid (Rounds Try.prog l (hV T) K0 (fun s x _ => s ≤ x ∧ x < 513 ∧ T (x : Nat) ≠ zP ∧ Gap T s x) (fun _ x => x + 1) J Jx) := hR
  have HJ : Hid (Abides J) := hJ
  have H0 : Hid (J 0 (fun _ => False) W) := h0
  have c0 := (hW.cell (p := ⟨q, 0, none⟩) hq).trans hc
  have hTW := hT.later hW
  clear hR hJ h0 hc hT
  unfold vLb
  refine (callsIn_wide (n := 3)).1 ?_
  refine callsIn_of_wp Try.func24 rfl trivial ?_ rfl
  simp only [List.append_toArray, List.cons_append, List.nil_append]
  simp only [Try.ntmps24, List.size_toArray, List.length_cons, List.length_nil, Nat.reduceAdd, Nat.reduceSub, Array.replicate_succ, Array.replicate_zero, List.push_toArray, List.append_toArray, List.nil_append, List.cons_append]
  rcases hTW with ⟨rfl, rfl⟩ | ⟨t, rfl, hA⟩
  · gi_wp2_with fail
    refine bodyPost_ret (results_none rfl _ _ _) rfl ?_
    exact ⟨⟨_, rfl⟩, .inl ⟨0, fun _ => False, ⟨by omega, fun _ _ _ => rfl⟩, H0.out⟩⟩
  · obtain ⟨cs, hcs, hC⟩ := hA.head
    have hl := load_arr hcs hC.size
    have HC : Hid (CellsT cs T) := hC
    clear hW hA hcs hC
    gi_wp2_with (refine wpListIn_load_at rfl 53 _ rfl rfl hl ?_)
    clear hl
    gi_loopw [11] (fun i wr => ∃ k s : Nat, k ≤ 513 ∧ i = .int .i64 k ∧ s ≤ k ∧ Gap T s k ∧ J s (fun _ => False) wr) (fun i _ => 513 - (intOf i).toNat)
    case atStart => exact ⟨0, 0, by omega, rfl, by omega, fun j h1 h2 => by omega, H0.out⟩
    case round =>
      obtain ⟨k, s, hk, rfl, hsk, hg, hJ⟩ := hrel
      have HG : Hid (Gap T s k) := hg
      by_cases hlt : k < 513
      · have i1 : (k : Int) < 513 := by omega
        have hix := index_arr HC.out hlt
        obtain ⟨x, hx⟩ : ∃ x, T (k : Nat) = x := ⟨_, rfl⟩
        have HX : Hid (T (k : Nat) = x) := hx
        rw [hx] at hix
        obtain ⟨xp, xo, xl⟩ := x
        simp only at hix
        obtain ⟨W3, hW3⟩ : ∃ W3, W3 = wr.alloc (.cells #[.int .i64 xp, .int .i64 xo, .int .i64 xl] 28) := ⟨_, rfl⟩
        have hb3 : Below wr.heap.size wr W3 := by rw [hW3]; exact (Below.refl _ wr).alloc (Nat.le_refl _) _
        have hp3 : W3.heap[wr.heap.size]? = some (.cells #[.int .i64 xp, .int .i64 xo, .int .i64 xl] 28 (0, 0)) := by rw [hW3]; exact heap_alloc_new wr _
        obtain ⟨x0, x1, x2⟩ := cells_three hp3
        have hJ3 : J s (fun _ => False) W3 := HJ.out _ _ _ _ _ hJ (keeps_all hb3) fun k hk => hk.elim
        have HJ3 : Hid (J s (fun _ => False) W3) := hJ3
        have hq := Try.neqP xp xo xl 0 0 0
        rw [hW3] at x0 x1 x2
        by_cases hz : (⟨xp, xo, xl⟩ : Pl) = zP
        · have e1 : sameP ⟨xp, xo, xl⟩ ⟨0, 0, 0⟩ = true := sameP_iff.2 hz
          rw [e1] at hq
          have HG2 : Hid (Gap T s (k + 1)) := gap_more hg (by rw [hx]; exact hz)
          clear hJ hg hx hb3 hp3 hJ3 hz e1
          gi_wp2_with fail
          refine ⟨fun _ h => (by cases h), ?_⟩
          gi_wp2_with fail
          rw [← hW3]
          go_roundw
          case rel => exact ⟨k + 1, s, by omega, by go_num, by omega, HG2.out, HJ3.out⟩
          case measure => simp [intOf]; omega
        · have e1 : sameP ⟨xp, xo, xl⟩ ⟨0, 0, 0⟩ = false := sameP_not hz
          rw [e1] at hq
          obtain ⟨fn, tmps, assign, body, hy, hRd⟩ := HR.out 2 s (fun _ => False) k W3 hJ3 ⟨hsk, hlt, by rw [hx]; exact hz, hg⟩ (fun k hk => hk.elim)
          have hV2 : hV T k = #[.int .i64 (k : Nat), .agg #[.int .i64 xp, .int .i64 xo, .int .i64 xl]] := by unfold hV; rw [hx]
          rw [hV2, hW3] at hy
          have HRd : Hid _ := hRd
          clear hJ hg hx hb3 hp3 hJ3 hz e1 hRd hV2
          gi_wp2_with fail
          rw [← hW3]
          refine RoundIn.mono HRd.out ?_
          rintro e4 W4 ⟨hk4, ⟨rfl, hJ4⟩ | ⟨rfl, hJx4⟩⟩
          · have HJ4 : Hid (J (k + 1) (fun _ => False) W4) := hJ4
            clear hJ4 hk4 hy
            gi_wp2
            go_roundw
            case rel => exact ⟨k + 1, k + 1, by omega, by go_num, by omega, fun j h1 h2 => by omega, HJ4.out⟩
            case measure => simp [intOf]; omega
          · have HJ4 : Hid (Jx (k + 1) (fun _ => False) W4) := hJx4
            clear hJx4 hk4 hy
            gi_wp2
            refine bodyPost_ret (results_none rfl _ _ _) rfl ?_
            exact ⟨⟨_, rfl⟩, .inr ⟨k + 1, _, trivial, HJ4.out⟩⟩
      · have i1 : ¬ (k : Int) < 513 := by omega
        have HE : Hid (s ≤ 513 ∧ Gap T s 513 ∧ J s (fun _ => False) wr) := ⟨by omega, by rw [← show k = 513 by omega]; exact hg, hJ⟩
        gi_wp2
        go_end0
        exact ⟨⟨_, rfl⟩, .inl ⟨s, _, ⟨HE.out.1, HE.out.2.1⟩, HE.out.2.2⟩⟩
end Go.Proofs.Ytlnkelhhemgibaa
