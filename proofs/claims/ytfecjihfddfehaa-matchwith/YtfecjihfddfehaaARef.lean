/- The walks of the document's With and Find, and of the law's own cut. -/
import Derived.Test.YtfecjihfddfehaaAPlain
import Derived.Test.YtfecjihfddfehaaGBy
import Derived.Deep.LoopGhost
import Derived.Deep.DeepCutAuto
namespace Go.Proofs.Ytfecjihfddfehaa
open Go.RowKit

set_option maxHeartbeats 400000 in
theorem cut_any {p : Option Addr} {L c : Nat} {b : List Nat} (w : World) (h : ByAt w p L c b) (hL : L ≤ 100000) :
    Calls Try.prog 8 #[.slice p L c] w fun e w' => e = .returned (.slice p (b.take 4096).length c) ∧ ByAt w p (b.take 4096).length c (b.take 4096) ∧ w = w' := by
  obtain ⟨M, hM⟩ : ∃ M, M = min L 4096 := ⟨_, rfl⟩
  have hML : M ≤ L ∧ M ≤ 4096 := by omega
  have e : b.take M = b.take 4096 := by
    have := h.len
    rcases Nat.le_total L 4096 with h2 | h2
    · rw [List.take_of_length_le (by omega), List.take_of_length_le (by omega)]
    · rw [show M = 4096 by omega]
  have hl : (b.take 4096).length = M := by rw [List.length_take, h.len]; omega
  have HH : Hid (ByAt w p M c (b.take 4096)) := by
    have h1 := h.head (m := M) hML.1
    rwa [e] at h1
  have hmin : ∀ (ts : Array TypeId) (t : TypeId) (w : World), (Builtin.min_ ts t #[.int .i64 (L : Int), .int .i64 4096]).run Try.prog w = .ok (.int .i64 (M : Int)) w := by
    intro ts t w
    rw [run_min_int2]
    congr 2
    split <;> omega
  have hsl := run_head (p := p) (n := L) (c := c) (m := M) (M := (M : Int)) rfl (by have := h.cap; omega)
  rw [hl]
  clear h e hl hM
  go_enter Try.func8, Try.ntmps8
  go_wp2
  go_ret
  exact ⟨rfl, HH.out, rfl⟩

set_option maxRecDepth 100000 in
set_option maxHeartbeats 1000000 in
theorem refWith_any {p : Option Addr} {n c : Nat} {b : List Nat} {I J : Int} (w : World) (h : ByAt w p n c b) (hn : n ≤ 4096) :
    Calls Try.prog 13 #[.slice p n c, .int .i64 I, .int .i64 J] w fun e w' => e = .returned (.int .i64 (withI b I J : Nat)) ∧ ∃ m, w' = w.drewN m := by
  have HN : Hid (b.length = n) := h.len
  by_cases h1 : J < 0
  · have HE : Hid (withI b I J = 0) := with_no (.inl h1)
    clear h
    go_enter Try.func13, Try.ntmps13
    go_wp2
    go_ret
    exact ⟨retInt (by rw [HE.out]; rfl), 0, rfl⟩
  have i1 : ¬ J < 0 := h1
  by_cases h2 : I ≤ J
  · have HE : Hid (withI b I J = 0) := with_no (.inr (.inl h2))
    clear h
    go_enter Try.func13, Try.ntmps13
    go_wp2
    go_ret
    exact ⟨retInt (by rw [HE.out]; rfl), 0, rfl⟩
  have i2 : ¬ I ≤ J := h2
  by_cases h3 : (n : Int) ≤ I
  · have HE : Hid (withI b I J = 0) := with_no (.inr (.inr (by have := HN.out; omega)))
    clear h
    go_enter Try.func13, Try.ntmps13
    go_wp2
    go_ret
    exact ⟨retInt (by rw [HE.out]; rfl), 0, rfl⟩
  have i3 : ¬ (n : Int) ≤ I := h3
  obtain ⟨a, rfl⟩ : ∃ a : Nat, I = a := ⟨I.toNat, by omega⟩
  obtain ⟨f, rfl⟩ : ∃ f : Nat, J = f := ⟨J.toNat, by omega⟩
  have hfa : f < a := by omega
  have han : a < n := by omega
  have HE : Hid (withI b (a : Int) (f : Int) = wN b a f) := with_yes hfa (by have := HN.out; omega)
  obtain ⟨g, off, rfl, hg, hc⟩ := h.at (by omega)
  have HC : Hid (∀ i, i < n → w.cell? ⟨g, off + i, none⟩ = some (.int .u8 (b.getD i 0 : Nat))) := hc
  clear h hc
  go_enter Try.func13, Try.ntmps13
  go_wp2
  go_loopg [7] 130 (fun gk i wr => ∃ (k m : Nat), k ≤ 130 ∧ a + k ≤ n ∧ gk = 130 - k ∧ i = .int .i64 k ∧ wr = w.drewN m ∧ ∀ j, j < k → b.getD (a + j) 0 = b.getD (f + j) 0)
  case atStart => exact ⟨0, 0, by omega, by omega, rfl, rfl, rfl, fun j hj => by omega⟩
  case round =>
    obtain ⟨k, m, hk, hkn, rfl, rfl, rfl, hall⟩ := hrel
    have HA : Hid (∀ j, j < k → b.getD (a + j) 0 = b.getD (f + j) 0) := hall
    have hwr1 : IntKind.i64.wrap ((a : Int) + (k : Int)) = (a : Int) + (k : Int) := IntWalk.i64_in _ (by omega)
    clear hall
    by_cases hlt : k < 130
    · have i4 : (k : Int) < 130 := by omega
      have i4' : decide ((k : Int) < 130) = true := decide_eq_true i4
      by_cases hkl : a + k < n
      · have i6 : (a : Int) + (k : Int) < (n : Int) := by omega
        have e1 := HC.out (a + k) (by omega)
        have e2 := HC.out (f + k) (by omega)
        obtain ⟨x, hx⟩ : ∃ x, b.getD (a + k) 0 = x := ⟨_, rfl⟩
        obtain ⟨y, hy⟩ : ∃ y, b.getD (f + k) 0 = y := ⟨_, rfl⟩
        have HX : Hid (b.getD (a + k) 0 = x) := hx
        have HY : Hid (b.getD (f + k) 0 = y) := hy
        rw [hx] at e1
        rw [hy] at e2
        have ix1 := index_at (g := g) (o := off) (L := n) (c := c) (q := off + (a + k)) (I := (a : Int) + (k : Int)) (a + k) (by omega) (by omega) rfl
        have ix2 := index_at (g := g) (o := off) (L := n) (c := c) (q := off + (f + k)) (I := (f : Int) + (k : Int)) (f + k) (by omega) (by omega) rfl
        clear hx hy
        by_cases exy : x = y
        · subst exy
          have HA2 : Hid (∀ j, j < k + 1 → b.getD (a + j) 0 = b.getD (f + j) 0) := fun j hj => by
            by_cases e : j = k
            · subst e; rw [HX.out, HY.out]
            · exact HA.out j (by omega)
          go_wp2_with fail
          go_quiet (fail)
          go_wp2
          go_roundg (130 - (k + 1))
          case measure => omega
          case rel => exact ⟨k + 1, _, by omega, by omega, rfl, by go_num, rfl, HA2.out⟩
        · have i5 : ((x : Int) == (y : Int)) = false := by rw [beq_eq_false_iff_ne]; omega
          have HW : Hid (wN b a f = k) := wN_is hfa (by omega) (by have := HN.out; omega) HA.out (.inr (.inr (by rw [HX.out, HY.out]; exact exy)))
          go_wp2_with fail
          go_quiet (fail)
          go_wp2
          go_ret
          exact ⟨retInt (by rw [HE.out, HW.out]), _, World.drewN_drewN _ _ _⟩
      · have i6 : ¬ (a : Int) + (k : Int) < (n : Int) := by omega
        have i6' : decide ((a : Int) + (k : Int) < (n : Int)) = false := decide_eq_false i6
        have HW : Hid (wN b a f = k) := wN_is hfa (by omega) (by have := HN.out; omega) HA.out (.inr (.inl (by have := HN.out; omega)))
        go_wp2_with fail
        go_quiet (fail)
        go_wp2
        go_ret
        exact ⟨retInt (by rw [HE.out, HW.out]), _, World.drewN_drewN _ _ _⟩
    · obtain rfl : k = 130 := by omega
      have HW : Hid (wN b a f = 130) := wN_is hfa (by omega) (by have := HN.out; omega) HA.out (.inl rfl)
      go_wp2_with fail
      go_quiet (fail)
      go_wp2
      go_ret
      exact ⟨retInt (by rw [HE.out, HW.out]), _, World.drewN_drewN _ _ _⟩
theorem refWith_is {p : Option Addr} {n c s : Nat} {b : List Nat} {I J : Int} (w : World) (h : ByAt w p n c b) (hn : n ≤ 4096) (hs : withI b I J = s) :
    Calls Try.prog 13 #[.slice p n c, .int .i64 I, .int .i64 J] w fun e w' => e = .returned (.int .i64 (s : Nat)) ∧ ∃ m, w' = w.drewN m := by
  subst hs; exact refWith_any w h hn

set_option maxRecDepth 100000 in
set_option maxHeartbeats 1000000 in
theorem refFind_any {p : Option Addr} {n c : Nat} {b : List Nat} {I : Int} (w : World) (h : ByAt w p n c b) (hn : n ≤ 4096) :
    Calls Try.prog 12 #[.slice p n c, .int .i64 I] w fun e w' => e = .returned (.tuple #[.int .i64 ((findI b I).1 : Nat), .int .i64 ((findI b I).2 : Nat)]) ∧ ∃ m, w' = w.drewN m := by
  have HN : Hid (b.length = n) := h.len
  have HB : Hid (∀ m, ByAt (w.drewN m) p n c b) := fun m => h.later (drewN_below _ _ _)
  by_cases h1 : I < 0
  · have HE : Hid (findI b I = (0, 0)) := find_no (.inl h1)
    clear h
    go_enter Try.func12, Try.ntmps12
    go_wp2
    go_ret2
    exact ⟨by rw [HE.out]; rfl, 0, rfl⟩
  have i1 : ¬ I < 0 := h1
  by_cases h2 : (n : Int) ≤ I
  · have HE : Hid (findI b I = (0, 0)) := find_no (.inr (by have := HN.out; omega))
    clear h
    go_enter Try.func12, Try.ntmps12
    go_wp2
    go_ret2
    exact ⟨by rw [HE.out]; rfl, 0, rfl⟩
  have i2 : ¬ (n : Int) ≤ I := h2
  obtain ⟨a, rfl⟩ : ∃ a : Nat, I = a := ⟨I.toNat, by omega⟩
  have han : a < n := by omega
  have HX : Hid (findI b (a : Int) = look b a a 0 0 0) := by
    rcases Nat.lt_or_ge b.length (a + 3) with h3 | h3
    · exact find_tail (by have := HN.out; omega) h3
    · exact find_yes h3
  have i2' : decide (n ≤ a) = false := decide_eq_false (by omega)
  clear h
  go_enter Try.func12, Try.ntmps12
  go_wp2
  go_loopg [6, 7, 8, 9] a (fun gk x y z i wr => ∃ (best dist s m : Nat), gk ≤ a ∧ s ≤ 32 ∧ best ≤ 130 ∧ x = .int .i64 best ∧ y = .int .i64 dist ∧ z = .int .i64 s ∧ i = .int .i64 ((gk : Int) - 1) ∧ wr = w.drewN m ∧ look b a gk best dist s = findI b (a : Int))
  case atStart => exact ⟨0, 0, 0, 0, Nat.le_refl _, by omega, by omega, rfl, rfl, rfl, rfl, rfl, HX.out.symm⟩
  case round =>
    obtain ⟨best, dist, s, m, hq, hs, hb, rfl, rfl, rfl, rfl, rfl, hlook⟩ := hrel
    have HLK : Hid (look b a gk best dist s = findI b (a : Int)) := hlook
    clear hlook
    cases gk with
    | zero =>
      have HE : Hid (findI b (a : Int) = (best, dist)) := by show _ = _; rw [← HLK.out]; rfl
      go_wp2
      go_ret2
      exact ⟨by rw [HE.out]; rfl, _, rfl⟩
    | succ q =>
      have i3 : (0 : Int) ≤ ((q + 1 : Nat) : Int) - 1 := by omega
      by_cases hlt : s < 32
      · have i4 : (s : Int) < 32 := by omega
        obtain ⟨t, ht⟩ : ∃ t, wN b a q = t := ⟨_, rfl⟩
        have HT : Hid (wN b a q = t) := ht
        have htl := wN_le b a q
        rw [ht] at htl
        have HW : Hid (withI b (a : Int) (q : Int) = t) := by
          show _ = _
          rw [with_yes (by omega) (by have := HN.out; omega)]; exact ht
        clear ht
        go_wp2_with fail
        refine (refWith_is _ (HB.out _) hn HW.out).mono ?_
        rintro e w' ⟨rfl, m2, rfl⟩
        by_cases h3 : 3 ≤ t
        · have i5 : (3 : Int) ≤ (t : Int) := by omega
          by_cases h4 : best < t
          · have i6 : (best : Int) < (t : Int) := by omega
            have HR : Hid (look b a q t (a - q) (s + 1) = findI b (a : Int)) := by
              show _ = _
              rw [← HLK.out, look_more hlt (by rw [HT.out]; exact h3) (by rw [HT.out]; exact h4), HT.out]
            go_wp2
            go_roundg q
            case measure => omega
            case rel => exact ⟨t, a - q, s + 1, m + m2, by omega, by omega, by omega, rfl, by go_num, by go_num, by congr 1, rfl, HR.out⟩
          · have i6 : ¬ (best : Int) < (t : Int) := by omega
            have HR : Hid (look b a q best dist (s + 1) = findI b (a : Int)) := by
              show _ = _
              rw [← HLK.out, look_less hlt (by rw [HT.out]; exact h3) (by rw [HT.out]; exact h4)]
            go_wp2
            go_roundg q
            case measure => omega
            case rel => exact ⟨best, dist, s + 1, m + m2, by omega, by omega, by omega, rfl, by go_num, by go_num, by congr 1, rfl, HR.out⟩
        · have i5 : ¬ (3 : Int) ≤ (t : Int) := by omega
          have HR : Hid (look b a q best dist s = findI b (a : Int)) := by
            show _ = _
            rw [← HLK.out, look_far (by rw [HT.out]; exact h3)]
          go_wp2
          go_roundg q
          case measure => omega
          case rel => exact ⟨best, dist, s, m + m2, by omega, by omega, by omega, rfl, by go_num, by go_num, by congr 1, rfl, HR.out⟩
      · obtain rfl : s = 32 := by omega
        have HE : Hid (findI b (a : Int) = (best, dist)) := by show _ = _; rw [← HLK.out]; exact look_full (Nat.le_refl _) _ _ _
        go_wp2
        go_ret2
        exact ⟨by rw [HE.out]; rfl, _, rfl⟩
theorem refFind_is {p : Option Addr} {n c r d : Nat} {b : List Nat} {I : Int} (w : World) (h : ByAt w p n c b) (hn : n ≤ 4096) (hr : findI b I = (r, d)) :
    Calls Try.prog 12 #[.slice p n c, .int .i64 I] w fun e w' => e = .returned (.tuple #[.int .i64 (r : Nat), .int .i64 (d : Nat)]) ∧ ∃ m, w' = w.drewN m := by
  have := refFind_any (I := I) w h hn
  rw [hr] at this
  exact this
end Go.Proofs.Ytfecjihfddfehaa
