/- The walks of the document's own New, First, All, Ints and With (layer 2), over lists of bools in rows of one's own. -/
import Derived.Test.YtnihgibgfnhbiaaBAll
import Derived.Test.YtnihgibgfnhbiaaBFirst
import Derived.Test.YtnihgibgfnhbiaaBNew
namespace Go.Proofs.Ytnihgibgfnhbiaa
open Go.RowKit

def bo (x : List Bool) : List Value := x.map Value.bool
theorem Try.info4 : (Try.prog.info? 4).map (fun i => (i.zero, i.size, i.bytes)) = some (some (.bool false), 1, 1) := by kernel_rfl
theorem row_slice {w : World} {base : Nat} {e : TypeId} {size n : Nat} {v : Value} {xs : List Value} (h : w.ownsRow base e size v n xs) : ∃ a c, v = .slice a n c := by
  rcases h.2 with ⟨h1, h2⟩ | ⟨g, cap, cur, h1, _⟩
  · subst h2; exact ⟨_, _, h1⟩
  · exact ⟨_, _, h1⟩
theorem row_at {w : World} {base n c : Nat} {e : TypeId} {a : Option Addr} {xs : List Value} (h : w.ownsRow base e 1 (.slice a n c) n xs) {i : Nat} (hi : i < n) :
    ∃ g, a = some ⟨g, 0, none⟩ ∧ w.cell? ⟨g, i, none⟩ = xs[i]? ∧ w.frozen? ⟨g, i, none⟩ = false ∧ base ≤ g ∧ g < w.heap.size := by
  rcases h.2 with ⟨_, h2⟩ | ⟨g, cap, cur, h1, h2, h3, _⟩
  · omega
  · simp only [Value.slice.injEq, true_and] at h1
    obtain ⟨rfl, rfl⟩ := h1
    exact ⟨g, rfl, h.cellAt i (by omega), h.frozenAt i, h2, (Array.getElem?_eq_some_iff.1 h3).1⟩
theorem row_below {w w' : World} {base : Nat} {e : TypeId} {size n : Nat} {v : Value} {xs : List Value} (h : w.ownsRow base e size v n xs) (hb : Below w.heap.size w w') : w'.ownsRow base e size v n xs := by
  refine ⟨h.1, ?_⟩
  rcases h.2 with h1 | ⟨g, cap, cur, h1, h2, h3, r⟩
  · exact .inl h1
  · exact .inr ⟨g, cap, cur, h1, h2, by rw [hb.block g (Array.getElem?_eq_some_iff.1 h3).1]; exact h3, r⟩

set_option maxHeartbeats 400000 in
theorem refNew_any (n : Int) (w : World) :
    Calls Try.prog 14 #[.int .i64 n] w fun e w' => ∃ v, e = .returned v ∧ w'.ownsRow w.heap.size 4 1 v (szN n) (bo (List.replicate (szN n) false)) ∧ Below w.heap.size w w' := by
  obtain ⟨i0, hi, hz0, hz1, hz2⟩ := info_parts Try.info4
  have hmade : ∀ m, (madeCells #[Value.bool false] m).toList = bo (List.replicate m false) := by intro m; rw [toList_madeCells_one]; simp [bo]
  have HM : Hid _ := hmade
  clear hmade
  by_cases h1 : n < 0
  · have E : Hid (szN n = 0) := by simp [Hid, szN, h1]
    go_enter Try.func14, Try.ntmps14
    go_wp2_with (at_make; refine wpList_make_full _ rfl _ _ 31 rfl w.heap.size 4 i0 (.bool false) 1 Try.underlying31 hi hz0 hz1 .i64 .i64 _ _ 0 rfl rfl rfl rfl (by rw [hz2]; omega) (by unfold maxLen; omega) (Nat.le_refl _) ?_)
    intro w1 hown hgr
    go_wp2
    go_ret
    refine ⟨_, rfl, ?_, (Below.refl _ _).grown hgr (Nat.le_refl _) (by intro k hk; simp at hk)⟩
    rw [E.out, ← HM.out]
    exact hown
  · by_cases h2 : 4096 < n
    · have E : Hid (szN n = 4096) := by simp [Hid, szN, h1, h2]
      go_enter Try.func14, Try.ntmps14
      go_wp2_with (at_make; refine wpList_make_full _ rfl _ _ 31 rfl w.heap.size 4 i0 (.bool false) 1 Try.underlying31 hi hz0 hz1 .i64 .i64 _ _ 4096 rfl rfl rfl rfl (by rw [hz2]; omega) (by unfold maxLen; omega) (Nat.le_refl _) ?_)
      intro w1 hown hgr
      go_wp2
      go_ret
      refine ⟨_, rfl, ?_, (Below.refl _ _).grown hgr (Nat.le_refl _) (by intro k hk; simp at hk)⟩
      rw [E.out, ← HM.out]
      exact hown
    · obtain ⟨m, rfl⟩ := Int.eq_ofNat_of_zero_le (show 0 ≤ n by omega)
      have hm : m ≤ 4096 := by omega
      have E : Hid (szN m = m) := by simp [Hid, szN, h1, h2]
      clear h1 h2
      go_enter Try.func14, Try.ntmps14
      go_wp2_with (at_make; refine wpList_make_full _ rfl _ _ 31 rfl w.heap.size 4 i0 (.bool false) 1 Try.underlying31 hi hz0 hz1 .i64 .i64 _ _ m rfl rfl rfl rfl (by rw [hz2]; omega) (by unfold maxLen; omega) (Nat.le_refl _) ?_)
      intro w1 hown hgr
      go_wp2
      go_ret
      refine ⟨_, rfl, ?_, (Below.refl _ _).grown hgr (Nat.le_refl _) (by intro k hk; simp at hk)⟩
      rw [E.out, ← HM.out]
      exact hown

theorem bo_at (x : List Bool) (i : Nat) (hi : i < x.length) : (bo x)[i]? = some (.bool (x.getD i false)) := by simp [bo, List.getD, hi]

set_option maxHeartbeats 400000 in
theorem refFirst_any {B : Nat} {v : Value} {x : List Bool} (w : World) (h : w.ownsRow B 4 1 v x.length (bo x)) (hs : x.length ≤ 4096) :
    Calls Try.prog 18 #[v] w fun e w' => e = .returned (.tuple #[.int .i64 (frstN x : Nat), .bool (frstB x)]) ∧ w = w' := by
  obtain ⟨a, c, rfl⟩ := row_slice h
  have H : Hid (w.ownsRow B 4 1 (.slice a x.length c) x.length (bo x)) := h
  clear h
  go_enter Try.func18, Try.ntmps18
  go_wp2
  go_loop [4] (fun i => ∃ k : Nat, k ≤ x.length ∧ i = .int .i64 k ∧ ∀ j, j < k → x.getD j false = true) (fun i => x.length - (intOf i).toNat)
  case atStart => exact ⟨0, Nat.zero_le _, rfl, by intro j hj; omega⟩
  case round =>
    obtain ⟨k, hk, rfl, hl⟩ := hrel
    have HL : Hid _ := hl
    clear hl
    by_cases hlt : k < x.length
    · obtain ⟨g, rfl, hc, _⟩ := row_at H.out hlt
      rw [bo_at x k hlt] at hc
      cases hh : x.getD k false
      · rw [hh] at hc
        have HH : Hid _ := hh
        clear hh
        go_wp2
        go_ret2
        have e1 : frst x = k := frst_at hlt HH.out HL.out
        exact ⟨by rw [frstN, frstB, e1, if_pos hlt, decide_eq_true hlt]; rfl, rfl⟩
      · rw [hh] at hc
        have HH : Hid _ := hh
        clear hh
        go_wp2
        go_round
        case rel =>
          refine ⟨k + 1, by omega, by go_num, ?_⟩
          intro j hj
          by_cases e : j = k
          · subst e; exact HH.out
          · exact HL.out j (by omega)
        case measure => simp [intOf]; omega
    · have e : k = x.length := by omega
      subst e
      have e1 := frst_none HL.out
      go_wp2
      go_ret2
      exact ⟨by rw [frstN, frstB, e1, if_neg (by omega), decide_eq_false (by omega)]; rfl, rfl⟩

set_option maxHeartbeats 400000 in
theorem refAll_any {B : Nat} {v : Value} {x : List Bool} (w : World) (h : w.ownsRow B 4 1 v x.length (bo x)) (hs : x.length ≤ 4096) :
    Calls Try.prog 24 #[v] w fun e w' => ∃ v', e = .returned v' ∧ w'.ownsRow w.heap.size 3 1 v' (allL x).length (iv (allL x)) ∧ Below w.heap.size w w' := by
  obtain ⟨i0, hi, hz0, hz1, hz2⟩ := info_parts Try.info3
  obtain ⟨a, c, rfl⟩ := row_slice h
  have H : Hid (w.ownsRow B 4 1 (.slice a x.length c) x.length (bo x)) := h
  clear h
  go_enter Try.func24, Try.ntmps24
  go_wp2
  go_loopw [3, 4] (fun l i wr => ∃ k : Nat, k ≤ x.length ∧ i = .int .i64 k ∧ wr.ownsRow w.heap.size 3 1 l (allTo x k).length (iv (allTo x k)) ∧ Below w.heap.size w wr) (fun _ i _ => x.length - (intOf i).toNat)
  case atStart => exact ⟨0, Nat.zero_le _, rfl, World.ownsRow_nil _ _ _ _, Below.refl _ _⟩
  case round =>
    obtain ⟨k, hk, rfl, hown, hb⟩ := hrel
    have hlen := allTo_len x k
    have hsu := allTo_succ x k
    have HU : Hid _ := hsu
    clear hsu
    by_cases hlt : k < x.length
    · obtain ⟨g, rfl, hc, _⟩ := row_at (row_below H.out hb) hlt
      rw [bo_at x k hlt] at hc
      cases hh : x.getD k false
      · rw [hh] at hc
        have HH : Hid _ := hh
        clear hh
        go_wp2
        go_roundw
        case rel =>
          have e1 : allTo x (k + 1) = allTo x k := by rw [HU.out, HH.out]; simp
          refine ⟨k + 1, by omega, by go_num, ?_, hb⟩
          rw [e1]; exact hown
        case measure => simp [intOf]; omega
      · rw [hh] at hc
        have HH : Hid _ := hh
        clear hh
        have e1 : allTo x (k + 1) = allTo x k ++ [k] := by rw [HU.out, HH.out]; simp
        have E1 : Hid _ := e1
        clear e1
        go_wp2_with (at_builtin; refine wpList_append_own _ rfl _ _ 24 rfl w.heap.size 3 i0 (.int .i64 0) 1 8 Try.underlying24 hi hz0 hz1 hz2 rfl (by decide) _ _ _ rfl (hown.alloc _) ⟨wr.heap.size, 0, none⟩ 1 1 [.int .i64 (k : Int)] rfl rfl ?c1 ?c2 ?c3 ?c4 ?c5 ?_)
        case c1 =>
          intro j u hj
          match j, hj with
          | 0, hj => simp at hj; subst hj; simp [Addr.add]
        case c2 => intro u hu; simp at hu; subst hu; rfl
        case c3 => unfold maxLen; omega
        case c4 => omega
        case c5 => have := hb.size; simp; omega
        intro v' w2 hown' hgr' _
        have hb2 : Below w.heap.size w w2 := (hb.alloc hb.size _).grown hgr' (by have := hb.size; simp; omega) (fun j hj => (hown.lt j hj).1)
        clear hgr'
        go_wp2
        go_roundw
        case rel =>
          refine ⟨k + 1, by omega, by go_num, ?_, hb2⟩
          rw [E1.out]
          simpa [iv] using hown'
        case measure => simp [intOf]; omega
    · have e : k = x.length := by omega
      subst e
      go_wp2
      go_ret
      exact ⟨_, rfl, hown, hb⟩

theorem iv_at (l : List Nat) (i : Nat) (hi : i < l.length) : (iv l)[i]? = some (.int .i64 (l.getD i 0 : Nat)) := by simp [iv, List.getD, hi]

set_option maxHeartbeats 400000 in
theorem refInts_any {B C : Nat} {v u : Value} {l : List Nat} (w : World) (h : w.ownsRow B 3 1 v l.length (iv l)) (h2 : w.ownsRow C 3 1 u l.length (iv l)) (hs : l.length ≤ 4096) :
    Calls Try.prog 26 #[v, u] w fun e w' => e = .returned (.bool true) ∧ ∃ m, w' = w.drewN m := by
  obtain ⟨a, c, rfl⟩ := row_slice h
  obtain ⟨a2, c2, rfl⟩ := row_slice h2
  have H : Hid (w.ownsRow B 3 1 (.slice a l.length c) l.length (iv l)) := h
  have H2 : Hid (w.ownsRow C 3 1 (.slice a2 l.length c2) l.length (iv l)) := h2
  clear h h2
  go_enter Try.func26, Try.ntmps26
  go_wp2
  go_loopw [5] (fun i wr => ∃ k m : Nat, k ≤ l.length ∧ i = .int .i64 k ∧ wr = w.drewN m) (fun i _ => l.length - (intOf i).toNat)
  case atStart => exact ⟨0, 0, Nat.zero_le _, rfl, rfl⟩
  case round =>
    obtain ⟨k, m, hk, rfl, rfl⟩ := hrel
    by_cases hlt : k < l.length
    · obtain ⟨g, rfl, hc, _⟩ := row_at H.out hlt
      obtain ⟨g2, rfl, hc2, _⟩ := row_at H2.out hlt
      rw [iv_at l k hlt] at hc hc2
      generalize l.getD k 0 = q at *
      have hlt' : (k : Int) < (l.length : Int) := by omega
      go_wp2_with fail
      go_quiet (fail)
      go_wp2
      go_roundw
      case rel => exact ⟨k + 1, _, by omega, by go_num, rfl⟩
      case measure => simp [intOf]; omega
    · have e : k = l.length := by omega
      go_wp2
      go_ret
      exact ⟨rfl, m, rfl⟩
end Go.Proofs.Ytnihgibgfnhbiaa
