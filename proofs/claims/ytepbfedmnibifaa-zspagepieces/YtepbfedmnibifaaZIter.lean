/- The walk of the function that zspage.pieces tells pieces by. -/
import Derived.Test.YtepbfedmnibifaaZMay
import Derived.Test.YtepbfedmnibifaaGRange
import Derived.Shelf.Abstract
import Derived.Shelf.RegionOpen
import Derived.OwnWalkIn
import Derived.TacticsInMore
import Derived.LoopNIn
import Derived.LoopIn
import Derived.BigRegionIn
import Derived.BigGuardIn
namespace Go.Proofs.Ytepbfedmnibifaa
open Go.RowKit
attribute [local go_sem] Oper.semAt_some

theorem cells_three {w : World} {g : Nat} {u0 u1 u2 : Value} {t : TypeId} (h : w.heap[g]? = some (.cells #[u0, u1, u2] t (0, 0))) : w.cell? ⟨g, 0, none⟩ = some u0 ∧ w.cell? ⟨g, 1, none⟩ = some u1 ∧ w.cell? ⟨g, 2, none⟩ = some u2 := by
  refine ⟨?_, ?_, ?_⟩ <;> simp [World.cell?, h]
/-- What a piece is told by. -/
def pcV (e s : Nat) : Array Value := #[.agg (pzC (pzAt s e)).toArray]
/-- What was captured: size, n, from, many. -/
structure CapZ (w : World) (b : Nat) (S N F M : Int) : Prop where
  s : w.cell? ⟨b, 0, none⟩ = some (.int .i64 S)
  n : w.cell? ⟨b + 1, 0, none⟩ = some (.int .i64 N)
  f : w.cell? ⟨b + 2, 0, none⟩ = some (.int .i64 F)
  m : w.cell? ⟨b + 3, 0, none⟩ = some (.int .i64 M)
  lt : b + 4 ≤ w.heap.size
theorem CapZ.below {w w' : World} {b : Nat} {S N F M : Int} (h : CapZ w b S N F M) (hb : Below w.heap.size w w') : CapZ w' b S N F M := by
  have h1 := h.lt
  have h2 := hb.size
  exact ⟨(hb.cell (by show _ < _; simp only; omega)).trans h.s, (hb.cell (by show _ < _; simp only; omega)).trans h.n, (hb.cell (by show _ < _; simp only; omega)).trans h.f, (hb.cell (by show _ < _; simp only; omega)).trans h.m, by omega⟩
def zLb (b : Nat) : Array Value := #[.pointer (some ⟨b, 0, none⟩), .pointer (some ⟨b + 1, 0, none⟩), .pointer (some ⟨b + 2, 0, none⟩), .pointer (some ⟨b + 3, 0, none⟩)]
set_option maxRecDepth 100000 in
set_option maxHeartbeats 1000000 in
theorem pieces_iter {S N F M : Int} {b a e : Nat} {K0 : Nat → Prop} (w : World) (hc : CapZ w b S N F M) (hF : F < 9223372036854775808) (hae : Zae S N F M a e) :
    Iterates Try.prog 11 (zLb b) (pcV e) K0 (fun s x _ => x = s ∧ s < e) (fun s _ => s + pzL s e) a (fun s => e ≤ s) (fun _ => True) w := by
  intro l J Jx hJ hJx hR W hW h0
  have hcW := hc.below hW
  have HR : Hid (Rounds Try.prog l (pcV e) K0 (fun s x _ => x = s ∧ s < e) (fun s _ => s + pzL s e) J Jx) := hR
  have HJ : Hid (Abides J) := hJ
  clear hR hJ hJx hW hc
  obtain ⟨c0, c1, c2, c3, hlt⟩ := hcW
  have hle := hae.le
  unfold zLb
  refine (callsIn_wide (n := 3)).1 ?_
  refine callsIn_of_wp Try.func11 rfl trivial ?_ rfl
  simp only [List.append_toArray, List.cons_append, List.nil_append]
  simp only [Try.ntmps11, List.size_toArray, List.length_cons, List.length_nil, Nat.reduceAdd, Nat.reduceSub, Array.replicate_succ, Array.replicate_zero, List.push_toArray, List.append_toArray, List.nil_append, List.cons_append]
  by_cases hm : MayZ S N F M
  · obtain ⟨_, ha, he⟩ : MayZ S N F M ∧ (a : Int) = N * S + F ∧ (e : Int) = N * S + F + M := by
      rcases hae with h | h
      · exact h
      · exact absurd hm h.1
    obtain ⟨ho, h6, h7, h8⟩ := hm
    have HO : Hid _ := obj_yes S N W ho
    obtain ⟨h1, h2, h3, h4, h5⟩ := ho
    have hp : N * S ≤ 255 * 4096 := Int.mul_le_mul h5 h2 (by omega) (by omega)
    have hp0 : 0 ≤ N * S := Int.mul_nonneg h4 (by omega)
    have HP : Hid _ := part_yes S F M W h1 h2 h6 h7 h8
    have HA : Hid (N * S + F = (a : Int)) := ha.symm
    have HE : Hid (N * S + F + M = (e : Int)) := he.symm
    have H0 : Hid _ := h0
    clear hae h0
    gi_wp2_with fail
    refine ⟨trivial, CallsIn.mono (callsIn_wide.2 HO.out) ?_⟩
    rintro e1 w1 ⟨rfl, rfl⟩
    gi_wp2_with fail
    refine ⟨trivial, CallsIn.mono (callsIn_wide.2 HP.out) ?_⟩
    rintro e1 w1 ⟨rfl, rfl⟩
    gi_wp2_with fail
    rw [HE.out, HA.out]
    clear HE HA HO HP hp hp0 ha he h1 h2 h3 h4 h5 h6 h7 h8 c0 c1 c2 c3
    gi_loopw [6] (fun i wr => ∃ s : Nat, i = .int .i64 s ∧ a ≤ s ∧ s ≤ e ∧ J s (fun _ => False) wr) (fun i _ => e - (intOf i).toNat)
    case atStart => exact ⟨a, rfl, Nat.le_refl _, hle.1, H0.out⟩
    case round =>
      obtain ⟨s, rfl, hs1, hs2, hJ⟩ := hrel
      have HJ1 : Hid (J s (fun _ => False) wr) := hJ
      clear hJ H0
      by_cases hlt2 : s < e
      · have i1 : (s : Int) < (e : Int) := by omega
        have hl := pzL_pos hlt2
        obtain ⟨x0, x1, hx⟩ : ∃ x0 x1 : Int, pzC (pzAt s e) = [.int .i64 x0, .int .i64 x1, .int .i64 (pzL s e : Nat)] := ⟨_, _, rfl⟩
        have hpa := pieceAt_any s e wr hlt2 (by omega)
        have hV : pcV e s = #[.agg #[.int .i64 x0, .int .i64 x1, .int .i64 (pzL s e : Nat)]] := by unfold pcV; rw [hx]
        rw [hx] at hpa
        have HPA : Hid _ := hpa
        clear hpa hx
        gi_wp2_with fail
        refine ⟨trivial, CallsIn.mono (callsIn_wide.2 HPA.out) ?_⟩
        rintro e1 w1 ⟨rfl, rfl⟩
        obtain ⟨q, hq⟩ : ∃ q, wr.heap.size + 1 = q := ⟨_, rfl⟩
        obtain ⟨W3, hW3⟩ : ∃ W3, (wr.alloc (.cells #[.int .i64 x0, .int .i64 x1, .int .i64 (pzL s e : Nat)] 29)).alloc (.cells #[.int .i64 x0, .int .i64 x1, .int .i64 (pzL s e : Nat)] 29) = W3 := ⟨_, rfl⟩
        have hb3 : Below wr.heap.size wr W3 := by rw [← hW3]; exact ((Below.refl _ wr).alloc (Nat.le_refl _) _).alloc (by simp) _
        have hs3 : W3.heap.size = q + 1 := by rw [← hW3, ← hq]; simp
        have hp3 : W3.heap[q]? = some (.cells #[.int .i64 x0, .int .i64 x1, .int .i64 (pzL s e : Nat)] 29 (0, 0)) := by
          have := heap_alloc_new (wr.alloc (.cells #[.int .i64 x0, .int .i64 x1, .int .i64 (pzL s e : Nat)] 29)) (.cells #[.int .i64 x0, .int .i64 x1, .int .i64 (pzL s e : Nat)] 29)
          rw [World.size_alloc, hq] at this
          rw [← hW3]; exact this
        obtain ⟨fn, tmps, assign, body, hy, hRd⟩ := HR.out 2 s (fun k => k = q) s W3 (HJ.out _ _ _ _ _ HJ1.out (keeps_all hb3) fun k hk => .inr ⟨by omega, by omega⟩) ⟨rfl, hlt2⟩ (fun k hk => by omega)
        rw [hV] at hy
        have HRd : Hid _ := hRd
        have HP3 : Hid _ := hp3
        have hx3 := cells_three hp3
        clear hRd hV hp3 hb3
        gi_wp2_with fail
        clear hW3 HJ1 HPA
        refine RoundIn.mono HRd.out ?_
        rintro e4 W4 ⟨hk4, ⟨rfl, hJ4⟩ | ⟨rfl, hJx4⟩⟩
        · have hx4 := cells_three (hk4.at HP3.out (.inr rfl))
          have HJ4 : Hid (J (s + pzL s e) (fun _ => False) W4) := HJ.out _ _ _ _ _ hJ4 (Keeps.refl _ _) fun _ h => h.elim
          clear hJ4 hk4 hx3 hy
          obtain ⟨_, _, hx42⟩ := hx4
          gi_wp2
          go_roundw
          case rel => exact ⟨s + pzL s e, by go_num, by omega, by omega, HJ4.out⟩
          case measure => simp [intOf]; omega
        · have HJ4 : Hid (Jx (s + pzL s e) (fun k => k = q) W4) := hJx4
          clear hJx4 hk4 hx3 hy
          gi_wp2
          refine bodyPost_ret (results_none rfl _ _ _) rfl ?_
          exact ⟨⟨_, rfl⟩, .inr ⟨s + pzL s e, _, trivial, HJ4.out⟩⟩
      · have i1 : ¬ (s : Int) < (e : Int) := by omega
        gi_wp2
        go_end0
        exact ⟨⟨_, rfl⟩, .inl ⟨s, fun _ => False, by omega, HJ1.out⟩⟩
  · obtain ⟨_, rfl, rfl⟩ : ¬ MayZ S N F M ∧ a = 0 ∧ e = 0 := by
      rcases hae with h | h
      · exact absurd h.1 hm
      · exact h
    by_cases ho : ObjZ S N
    · have HO : Hid _ := obj_yes S N W ho
      have h9 : ¬ (0 ≤ F ∧ 0 ≤ M ∧ F + M ≤ S) := fun h => hm ⟨ho, h⟩
      obtain ⟨h1, h2, h3, h4, h5⟩ := ho
      have HP : Hid _ := part_no S F M W h1 h2 hF h9
      have H0 : Hid _ := h0
      clear hae h0 hm h9
      gi_wp2_with fail
      refine ⟨trivial, CallsIn.mono (callsIn_wide.2 HO.out) ?_⟩
      rintro e1 w1 ⟨rfl, rfl⟩
      gi_wp2_with fail
      refine ⟨trivial, CallsIn.mono (callsIn_wide.2 HP.out) ?_⟩
      rintro e1 w1 ⟨rfl, rfl⟩
      gi_wp2_with fail
      refine bodyPost_ret (results_none rfl _ _ _) rfl ?_
      exact ⟨⟨_, rfl⟩, .inl ⟨0, fun _ => False, Nat.le_refl _, H0.out⟩⟩
    · have HO : Hid _ := obj_no S N W ho
      have H0 : Hid _ := h0
      clear hae h0 hm ho
      gi_wp2_with fail
      refine ⟨trivial, CallsIn.mono (callsIn_wide.2 HO.out) ?_⟩
      rintro e1 w1 ⟨rfl, rfl⟩
      gi_wp2_with fail
      refine ⟨trivial, ?_⟩
      gi_wp2_with fail
      refine bodyPost_ret (results_none rfl _ _ _) rfl ?_
      exact ⟨⟨_, rfl⟩, .inl ⟨0, fun _ => False, Nat.le_refl _, H0.out⟩⟩
end Go.Proofs.Ytepbfedmnibifaa
