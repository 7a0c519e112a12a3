/- A finder in memory, and the walks of its Len, starts and With. -/
import Derived.Test.YtgninhecclinaaaAPlain
import Derived.Test.YtgninhecclinaaaGBy
import Derived.Deep.LoopGhost
import Derived.Deep.DeepCutAuto
namespace Go.Proofs.Ytgninhecclinaaa
open Go.RowKit

/-- The cells of a finder in block fb: its bytes, and what leads ahead. -/
structure FindAt (w : World) (fb : Nat) (p : Option Addr) (L c : Nat) (A : Nat → Nat) : Prop where
  head : ∃ cs : Array Value, w.heap[fb]? = some (.cells cs 85 (0, 0)) ∧ cs.size = 4097 ∧ cs[0]? = some (.slice p L c) ∧ ∀ n, n < 4096 → cs[n + 1]? = some (.int .i64 (A n : Nat))
section
variable {w w' : World} {fb L c : Nat} {p : Option Addr} {A : Nat → Nat}
theorem FindAt.lt (h : FindAt w fb p L c A) : fb < w.heap.size := by obtain ⟨cs, h1, _⟩ := h.head; exact (Array.getElem?_eq_some_iff.1 h1).1
theorem FindAt.kept (h : FindAt w fb p L c A) (hk : w'.heap[fb]? = w.heap[fb]?) : FindAt w' fb p L c A := by obtain ⟨cs, h1, h2⟩ := h.head; exact ⟨cs, hk.trans h1, h2⟩
theorem FindAt.later (h : FindAt w fb p L c A) (hb : Below w.heap.size w w') : FindAt w' fb p L c A := h.kept (hb.block fb h.lt)
theorem FindAt.bytes (h : FindAt w fb p L c A) : w.cell? ⟨fb, 0, none⟩ = some (.slice p L c) := by
  obtain ⟨cs, h1, h2, h3, h4⟩ := h.head
  rw [cell_of_row w fb 0 _ _ _ h1]; exact h3
theorem FindAt.cell (h : FindAt w fb p L c A) {n : Nat} (hn : n < 4096) : w.cell? ⟨fb, 1 + n, none⟩ = some (.int .i64 (A n : Nat)) := by
  obtain ⟨cs, h1, h2, h3, h4⟩ := h.head
  rw [cell_of_row w fb (1 + n) _ _ _ h1, Nat.add_comm]; exact h4 n hn
theorem FindAt.frozen (h : FindAt w fb p L c A) (n : Nat) : w.frozen? ⟨fb, n, none⟩ = false := by
  obtain ⟨cs, h1, _⟩ := h.head
  exact frozen_of_row w fb n _ _ h1
theorem FindAt.set (h : FindAt w fb p L c A) {n v : Nat} (hn : n < 4096) : FindAt (w.setCell ⟨fb, 1 + n, none⟩ (.int .i64 (v : Int))) fb p L c (fun j => if j = n then v else A j) := by
  obtain ⟨cs, h1, h2, h3, h4⟩ := h.head
  refine ⟨_, heap_setCell_same w fb (1 + n) _ _ _ h1, by simpa using h2, ?_, fun j hj => ?_⟩
  · rw [Array.getElem?_setIfInBounds_ne (by omega)]; exact h3
  · by_cases e : j = n
    · subst e
      rw [Nat.add_comm 1 j, Array.getElem?_setIfInBounds_self_of_lt (by omega), if_pos rfl]
    · rw [Array.getElem?_setIfInBounds_ne (by omega), if_neg e]
      exact h4 j hj
end

/-- A finder in the bytes b; those of the first k places lead ahead. -/
structure FinAt (w : World) (fb : Nat) (p : Option Addr) (L c : Nat) (b : List Nat) (A : Nat → Nat) : Prop where
  at_ : FindAt w fb p L c A
  by_ : ByAt w p L c b
  le : L ≤ 4096
theorem FinAt.len {w : World} {fb L c : Nat} {p : Option Addr} {b : List Nat} {A : Nat → Nat} (h : FinAt w fb p L c b A) : b.length = L := h.by_.len
theorem FinAt.later {w w' : World} {fb L c : Nat} {p : Option Addr} {b : List Nat} {A : Nat → Nat} (h : FinAt w fb p L c b A) (hb : Below w.heap.size w w') : FinAt w' fb p L c b A := ⟨h.at_.later hb, h.by_.later hb, h.le⟩
/-- A finder, or none, in the bytes b. -/
def FinP (w : World) (v : Value) (b : List Nat) : Prop :=
  (v = .pointer none ∧ b = []) ∨ ∃ fb p L c A, v = .pointer (some ⟨fb, 0, none⟩) ∧ FinAt w fb p L c b A ∧ Ahead b A (L - 2)
theorem FinP.later {w w' : World} {v : Value} {b : List Nat} (h : FinP w v b) (hb : Below w.heap.size w w') : FinP w' v b := by
  rcases h with h | ⟨fb, p, L, c, A, h1, h2, h3⟩
  · exact .inl h
  · exact .inr ⟨fb, p, L, c, A, h1, h2.later hb, h3⟩
theorem FinP.le {w : World} {v : Value} {b : List Nat} (h : FinP w v b) : b.length ≤ 4096 := by
  rcases h with ⟨_, rfl⟩ | ⟨fb, p, L, c, A, h1, h2, h3⟩
  · simp
  · rw [h2.len]; exact h2.le

/-- A finder under way: its bytes are there, or there is none. -/
def HasB (w : World) (v : Value) (b : List Nat) : Prop := (v = .pointer none ∧ b = []) ∨ ∃ fb p L c A, v = .pointer (some ⟨fb, 0, none⟩) ∧ FinAt w fb p L c b A
theorem FinP.has {w : World} {v : Value} {b : List Nat} (h : FinP w v b) : HasB w v b := by
  rcases h with h | ⟨fb, p, L, c, A, h1, h2, h3⟩
  · exact .inl h
  · exact .inr ⟨fb, p, L, c, A, h1, h2⟩
theorem HasB.le {w : World} {v : Value} {b : List Nat} (h : HasB w v b) : b.length ≤ 4096 := by
  rcases h with ⟨_, rfl⟩ | ⟨fb, p, L, c, A, h1, h2⟩
  · simp
  · rw [h2.len]; exact h2.le

set_option maxHeartbeats 400000 in
theorem len_any {v : Value} {b : List Nat} (w : World) (h : HasB w v b) : Calls Try.prog 46 #[v] w fun e w' => e = .returned (.int .i64 (b.length : Nat)) ∧ w = w' := by
  rcases h with ⟨rfl, rfl⟩ | ⟨fb, p, L, c, A, rfl, h⟩
  · go_enter Try.func46, Try.ntmps46
    go_wp2
    go_ret
    exact ⟨rfl, rfl⟩
  · have c0 := h.at_.bytes
    rw [h.len]
    have hle := h.le
    clear h
    go_enter Try.func46, Try.ntmps46
    go_wp2
    go_ret
    exact ⟨rfl, rfl⟩
theorem len_is {v : Value} {b : List Nat} {n : Nat} (w : World) (h : HasB w v b) (hn : b.length = n) : Calls Try.prog 46 #[v] w fun e w' => e = .returned (.int .i64 (n : Nat)) ∧ w = w' := by
  subst hn; exact len_any w h

set_option maxHeartbeats 400000 in
theorem starts_any {v : Value} {b : List Nat} (w : World) (h : HasB w v b) : Calls Try.prog 44 #[v] w fun e w' => e = .returned (.int .i64 (b.length - 2 : Nat)) ∧ w = w' := by
  have hle := h.le
  have H : Hid (HasB w v b) := h
  obtain ⟨n, hn⟩ : ∃ n, b.length = n := ⟨_, rfl⟩
  have HN : Hid (b.length = n) := hn
  rw [hn] at hle ⊢
  clear h hn
  go_enter Try.func44, Try.ntmps44
  go_wp2_with fail
  refine (len_is _ H.out HN.out).mono ?_
  rintro e w' ⟨rfl, rfl⟩
  by_cases h2 : n ≤ 2
  · have i1 : (n : Int) - 3 + 1 ≤ 0 := by omega
    go_wp2
    go_ret
    exact ⟨retInt (by omega), rfl⟩
  · have i1 : ¬ (n : Int) - 3 + 1 ≤ 0 := by omega
    go_wp2
    go_ret
    exact ⟨retInt (by omega), rfl⟩
theorem starts_is {v : Value} {b : List Nat} {n : Nat} (w : World) (h : HasB w v b) (hn : b.length - 2 = n) : Calls Try.prog 44 #[v] w fun e w' => e = .returned (.int .i64 (n : Nat)) ∧ w = w' := by
  subst hn; exact starts_any w h

set_option maxRecDepth 100000 in
set_option maxHeartbeats 1000000 in
theorem with_any {v : Value} {b : List Nat} {I J : Int} (w : World) (h : HasB w v b) :
    Calls Try.prog 52 #[v, .int .i64 I, .int .i64 J] w fun e w' => e = .returned (.int .i64 (withI b I J : Nat)) ∧ ∃ m, w' = w.drewN m := by
  have hle := h.le
  have H : Hid (HasB w v b) := h
  by_cases h1 : J < 0
  · have HE : Hid (withI b I J = 0) := with_no (.inl h1)
    clear h
    go_enter Try.func52, Try.ntmps52
    go_wp2
    go_ret
    exact ⟨retInt (by rw [HE.out]; rfl), 0, rfl⟩
  have i1 : ¬ J < 0 := h1
  by_cases h2 : I ≤ J
  · have HE : Hid (withI b I J = 0) := with_no (.inr (.inl h2))
    clear h
    go_enter Try.func52, Try.ntmps52
    go_wp2
    go_ret
    exact ⟨retInt (by rw [HE.out]; rfl), 0, rfl⟩
  have i2 : ¬ I ≤ J := h2
  obtain ⟨n, hn⟩ : ∃ n, b.length = n := ⟨_, rfl⟩
  have HN : Hid (b.length = n) := hn
  by_cases h3 : (n : Int) ≤ I
  · have HE : Hid (withI b I J = 0) := with_no (.inr (.inr (by omega)))
    clear h hn
    go_enter Try.func52, Try.ntmps52
    go_wp2_with fail
    refine (len_is _ H.out HN.out).mono ?_
    rintro e w' ⟨rfl, rfl⟩
    go_wp2
    go_ret
    exact ⟨retInt (by rw [HE.out]; rfl), 0, rfl⟩
  have i3 : ¬ (n : Int) ≤ I := h3
  obtain ⟨a, rfl⟩ : ∃ a : Nat, I = a := ⟨I.toNat, by omega⟩
  obtain ⟨f, rfl⟩ : ∃ f : Nat, J = f := ⟨J.toNat, by omega⟩
  have hfa : f < a := by omega
  have han : a < n := by omega
  rcases h with ⟨_, rfl⟩ | ⟨fb, p, L, c, A, rfl, hF⟩
  · simp at hn; omega
  obtain rfl : n = L := by rw [← hn]; exact hF.len
  have HE : Hid (withI b (a : Int) (f : Int) = wN b a f) := with_yes hfa (by omega)
  have c0 := hF.at_.bytes
  obtain ⟨g, off, rfl, hg, hc⟩ := hF.by_.at (by omega)
  have HC : Hid (∀ i, i < n → w.cell? ⟨g, off + i, none⟩ = some (.int .u8 (b.getD i 0 : Nat))) := hc
  obtain ⟨M, hM, hM2⟩ : ∃ M : Nat, M = min 130 (n - a) ∧ a + M ≤ n := ⟨_, rfl, by omega⟩
  have HM : Hid (M = min 130 (n - a)) := hM
  have hn4 : n ≤ 4096 := by omega
  have hMl : M ≤ 130 := by omega
  clear hF hc hM hn
  go_enter Try.func52, Try.ntmps52
  go_wp2_with fail
  refine (len_is _ H.out HN.out).mono ?_
  rintro e w' ⟨rfl, rfl⟩
  go_wp2_with fail
  refine (len_is _ H.out HN.out).mono ?_
  rintro e w' ⟨rfl, rfl⟩
  go_upto_region 4 with (fail)
  go_cut [7, 8] (fun t u wx => t = .int .i64 (M : Int) ∧ u = .int .i64 0 ∧ w = wx)
  case first =>
    by_cases h5 : (130 : Int) ≤ (n : Int) - (a : Int)
    · go_wp2
      go_meet
      exact ⟨by congr 1; have := HM.out; omega, rfl, rfl⟩
    · go_wp2
      go_meet
      exact ⟨by congr 1; have := HM.out; omega, rfl, rfl⟩
  case rest =>
    obtain ⟨rfl, rfl, rfl⟩ := hcut
    go_wp2
    go_loopg [8] M (fun gk i wr => ∃ (k m : Nat), k ≤ M ∧ gk = M - k ∧ i = .int .i64 k ∧ wr = w.drewN m ∧ ∀ j, j < k → b.getD (a + j) 0 = b.getD (f + j) 0)
    case atStart => exact ⟨0, 0, Nat.zero_le _, rfl, rfl, rfl, fun j hj => by omega⟩
    case round =>
      obtain ⟨k, m, hk, rfl, rfl, rfl, hall⟩ := hrel
      have HA : Hid (∀ j, j < k → b.getD (a + j) 0 = b.getD (f + j) 0) := hall
      clear hall
      by_cases hlt : k < M
      · have i4 : (k : Int) < (M : Int) := by omega
        have e1 := HC.out (a + k) (by omega)
        have e2 := HC.out (f + k) (by omega)
        obtain ⟨x, hx⟩ : ∃ x, b.getD (a + k) 0 = x := ⟨_, rfl⟩
        obtain ⟨y, hy⟩ : ∃ y, b.getD (f + k) 0 = y := ⟨_, rfl⟩
        have HX : Hid (b.getD (a + k) 0 = x) := hx
        have HY : Hid (b.getD (f + k) 0 = y) := hy
        rw [hx] at e1
        rw [hy] at e2
        have ix1 := index_at (g := g) (o := off) (L := n) (c := c) (q := off + (a + k)) (I := (a : Int) + (k : Int)) (a + k) (by omega) (by omega) rfl
        have ix2 := index_at (g := g) (o := off) (L := n) (c := c) (q := off + (f + k)) (I := (f : Int) + (k : Int)) (f + k) (by omega) (by omega) rfl
        clear hx hy
        by_cases exy : x = y
        · subst exy
          have HA2 : Hid (∀ j, j < k + 1 → b.getD (a + j) 0 = b.getD (f + j) 0) := fun j hj => by
            by_cases e : j = k
            · subst e; rw [HX.out, HY.out]
            · exact HA.out j (by omega)
          go_wp2_with fail
          go_quiet (fail)
          go_wp2
          go_roundg (M - (k + 1))
          case measure => omega
          case rel => exact ⟨k + 1, _, by omega, rfl, by go_num, rfl, HA2.out⟩
        · have i5 : ((x : Int) == (y : Int)) = false := by rw [beq_eq_false_iff_ne]; omega
          have HW : Hid (wN b a f = k) := wN_is hfa (by omega) (by have := HN.out; omega) HA.out (.inr (.inr (by rw [HX.out, HY.out]; exact exy)))
          go_wp2_with fail
          go_quiet (fail)
          go_wp2
          go_ret
          exact ⟨retInt (by rw [HE.out, HW.out]), _, World.drewN_drewN _ _ _⟩
      · obtain rfl : k = M := by omega
        have i4 : ¬ (k : Int) < (k : Int) := by omega
        have i5 : decide ((k : Int) < (k : Int)) = false := decide_eq_false i4
        have HW : Hid (wN b a f = k) := wN_is hfa (by omega) (by have := HN.out; omega) HA.out (by have := HM.out; have := HN.out; omega)
        go_wp2_with fail
        go_quiet (fail)
        go_wp2
        go_ret
        exact ⟨retInt (by rw [HE.out, HW.out]), _, World.drewN_drewN _ _ _⟩
theorem with_is {v : Value} {b : List Nat} {I J : Int} {n : Nat} (w : World) (h : HasB w v b) (hn : withI b I J = n) :
    Calls Try.prog 52 #[v, .int .i64 I, .int .i64 J] w fun e w' => e = .returned (.int .i64 (n : Nat)) ∧ ∃ m, w' = w.drewN m := by
  subst hn; exact with_any w h
theorem HasB.later {w w' : World} {v : Value} {b : List Nat} (h : HasB w v b) (hb : Below w.heap.size w w') : HasB w' v b := by
  rcases h with h | ⟨fb, p, L, c, A, h1, h2⟩
  · exact .inl h
  · exact .inr ⟨fb, p, L, c, A, h1, h2.later hb⟩
end Go.Proofs.Ytgninhecclinaaa
