/- The walk of New: a finder in the first 4096 bytes, in new memory. -/
import Derived.Test.YtgninhecclinaaaAFind
import Derived.Test.YtgninhecclinaaaAShelf
import Derived.Test.YtgninhecclinaaaGClone
import Derived.Test.YtgninhecclinaaaGRes
namespace Go.Proofs.Ytgninhecclinaaa
open Go.RowKit

/-- The cells of a finder that leads nowhere. -/
def finZ (v : Value) : Array Value := #[v] ++ Array.replicate 4096 (.int .i64 0)
theorem finZ_set (v u : Value) : (finZ v).setIfInBounds 0 u = finZ u := by
  unfold finZ
  generalize Array.replicate 4096 (Value.int .i64 0) = Z
  apply Array.ext
  · simp
  · intro i h1 h2
    cases i with
    | zero => simp
    | succ i => simp
theorem finZ_ne (v : Value) : finZ v ≠ #[] := by
  intro h
  have := congrArg Array.size h
  simp [finZ] at this
theorem Try.zero85 : (Try.prog.info? 85).map (fun i => i.zero.map fun v => (v.cells[0]?, v.cells.toList.tail)) = some (some (some (.slice none 0 0), List.replicate 4096 (.int .i64 0))) := by kernel_rfl
theorem fin_cells {v u : Value} {l : List Value} (h0 : v.cells[0]? = some u) (h1 : v.cells.toList.tail = l) (hl : l ≠ []) : v = .agg (#[u] ++ l.toArray) := by
  have h2 : v.cells = #[u] ++ l.toArray := by
    generalize v.cells = cs at *
    obtain ⟨xs⟩ := cs
    cases xs with
    | nil => simp at h0
    | cons x xs => simp at h0 h1; subst h0 h1; simp
  cases v with
  | agg cs => rw [Value.cells] at h2; rw [h2]
  | _ => subst h1; simp [Value.cells] at hl
theorem rep_ne {n : Nat} (x : Value) (h : 0 < n) : List.replicate n x ≠ [] := by
  intro e
  have := congrArg List.length e
  simp at this
  omega
theorem rep_arr (n : Nat) (u x : Value) : #[u] ++ (List.replicate n x).toArray = #[u] ++ Array.replicate n x := by simp
theorem zero_fin (w : World) : (zeroValue 85).run Try.prog w = .ok (.agg (finZ (.slice none 0 0))) w := by
  obtain ⟨i, hi, hz⟩ := Option.map_eq_some_iff.1 Try.zero85
  obtain ⟨v, hv, hc⟩ := Option.map_eq_some_iff.1 hz
  simp only [Prod.mk.injEq] at hc
  have e := fin_cells hc.1 hc.2 (rep_ne _ (by omega))
  have e2 : v = .agg (finZ (.slice none 0 0)) := by rw [e, rep_arr]; rfl
  rw [e2] at hv
  clear e e2 hc hz
  generalize finZ (.slice none 0 0) = Z at *
  simp [zeroValue, typeInfo, hi, hv, go_sem]
theorem Try.zero83 : (Try.prog.info? 83).map (fun i => i.zero) = some (some (.agg (Array.replicate 4096 (.int .i64 0)))) := by kernel_rfl
theorem zero_latest (w : World) : (zeroValue 83).run Try.prog w = .ok (.agg (Array.replicate 4096 (.int .i64 0))) w := by
  obtain ⟨i, hi, hz⟩ := Option.map_eq_some_iff.1 Try.zero83
  generalize (Array.replicate 4096 (Value.int .i64 0)) = Z at *
  simp [zeroValue, typeInfo, hi, hz, go_sem]
theorem FindAt.new (w : World) (p : Option Addr) (L c : Nat) : FindAt (w.alloc (.cells (finZ (.slice p L c)) 85)) w.heap.size p L c (fun _ => 0) := by
  refine ⟨_, heap_alloc_new w _, by simp [finZ], by simp [finZ], fun n hn => ?_⟩
  unfold finZ
  rw [Array.getElem?_append_right (by simp)]
  simp [hn]

/-- A finder in new memory (from B on). -/
def FinO (B : Nat) (w : World) (v : Value) (b : List Nat) : Prop :=
  ∃ fb p L c A, v = .pointer (some ⟨fb, 0, none⟩) ∧ B ≤ fb ∧ FindAt w fb p L c A ∧ w.ownsRow B 5 1 (.slice p L c) L (bv b) ∧ (∀ x ∈ b, x < 256) ∧ L ≤ 4096 ∧ Ahead b A (L - 2)
theorem FinO.fin {B : Nat} {w : World} {v : Value} {b : List Nat} (h : FinO B w v b) : FinP w v b := by
  obtain ⟨fb, p, L, c, A, h1, h2, h3, h4, h5, h6, h7⟩ := h
  exact .inr ⟨fb, p, L, c, A, h1, ⟨h3, by_own h4 h5, h6⟩, h7⟩
theorem FinO.kept {B : Nat} {w w' : World} {v : Value} {b : List Nat} (h : FinO B w v b) (hk : ∀ i, B ≤ i → i < w.heap.size → w'.heap[i]? = w.heap[i]?) : FinO B w' v b := by
  obtain ⟨fb, p, L, c, A, h1, h2, h3, h4, h5, h6, h7⟩ := h
  refine ⟨fb, p, L, c, A, h1, h2, h3.kept (hk fb h2 h3.lt), ⟨h4.1, ?_⟩, h5, h6, h7⟩
  rcases h4.2 with h8 | ⟨g, cap, cur, h8, h9, h10, r⟩
  · exact .inl h8
  · exact .inr ⟨g, cap, cur, h8, h9, (hk g h9 (Array.getElem?_eq_some_iff.1 h10).1).trans h10, r⟩

/-- A finder under way: the first k places lead ahead. -/
structure Mk (w wr : World) (fb lb : Nat) (p : Option Addr) (L c : Nat) (b : List Nat) (k : Nat) : Prop where
  own : wr.ownsRow w.heap.size 5 1 (.slice p L c) L (bv b)
  byte : ∀ x ∈ b, x < 256
  le : L ≤ 4096
  fin : ∃ A, FindAt wr fb p L c A ∧ Ahead b A k
  tab : ∃ T, HasAt 83 4096 wr lb T ∧ Shelved b (hs b) k T
  bel : Below w.heap.size w wr
  lo : w.heap.size ≤ fb ∧ fb < lb

theorem Mk.step {w wr : World} {fb lb : Nat} {p : Option Addr} {L c : Nat} {b : List Nat} {k j n t m : Nat} {A T : Nat → Nat} {V : Int} (h : Mk w wr fb lb p L c b k) (hV : V = ((k + 1 : Nat) : Int)) (hk : k < 4096) (hA : FindAt wr fb p L c A) (hA2 : Ahead b A k)
    (hT : HasAt 83 4096 wr lb T) (hS : Shelved b (hs b) k T) (hn : (hs b k + j) % 4096 = n) (ht : T n = t) (hj : j < 4096) (ho : Others b (hs b) k T j) (hc : t = 0 ∨ cand b k (t - 1)) :
    Mk w (((wr.drewN m).setCell ⟨fb, 1 + k, none⟩ (.int .i64 (t : Int))).setCell ⟨lb, n, none⟩ (.int .i64 V)) fb lb p L c b (k + 1) := by
  subst hV hn ht
  have hlt := h.lo.2
  have hA1 : FindAt (wr.drewN m) fb p L c A := hA.later (drewN_below _ _ _)
  have hT1 : HasAt 83 4096 (wr.drewN m) lb T := hT.kept rfl
  obtain ⟨cs, hx, _⟩ := hA1.head
  have hT2 := hT1.kept (w' := (wr.drewN m).setCell ⟨fb, 1 + k, none⟩ (.int .i64 (T ((hs b k + j) % 4096) : Nat))) (Below.heap_setCell _ _ _ _ (by show lb ≠ fb; omega))
  obtain ⟨ct, hy, _⟩ := hT2.head
  refine ⟨?_, h.byte, h.le, ⟨_, (hA1.set hk).kept (Below.heap_setCell _ _ _ _ (by show fb ≠ lb; omega)), hA2.step hS (hs_cand b) ho hc⟩, ⟨_, hT2.set (by omega), hS.put hj ho hc⟩, ?_, h.lo⟩
  · have r1 : (wr.drewN m).ownsRow w.heap.size 5 1 (.slice p L c) L (bv b) := row_below h.own (drewN_below _ _ _)
    have r2 := row_tag (w' := (wr.drewN m).setCell ⟨fb, 1 + k, none⟩ (.int .i64 (T ((hs b k + j) % 4096) : Nat))) r1 hx (by decide) (fun g hg => Below.heap_setCell _ _ _ _ hg)
    exact row_tag r2 hy (by decide) (fun g hg => Below.heap_setCell _ _ _ _ hg)
  · exact ((h.bel.trans (drewN_below _ _ _)).setCell (p := ⟨fb, 1 + k, none⟩) h.lo.1 _).setCell (p := ⟨lb, (hs b k + j) % 4096, none⟩) (by show w.heap.size ≤ lb; have := h.lo; omega) _

set_option maxRecDepth 100000 in
set_option maxHeartbeats 1000000 in
theorem new_any {p : Option Addr} {L c : Nat} {b : List Nat} (w : World) (h : ByAt w p L c b) :
    Calls Try.prog 32 #[.slice p L c] w fun e w' => ∃ v, e = .returned v ∧ FinO w.heap.size w' v (b.take 4096) ∧ Below w.heap.size w w' := by
  have hL := h.short
  unfold maxLen at hL
  obtain ⟨M, hM⟩ : ∃ M, M = min L 4096 := ⟨_, rfl⟩
  have hML : M ≤ L ∧ M ≤ 4096 := by omega
  obtain ⟨b', hb'⟩ : ∃ b', b.take 4096 = b' := ⟨_, rfl⟩
  have hhd : ByAt w p M c b' := by
    have h1 := h.head (m := M) hML.1
    have e : b.take M = b.take 4096 := by
      have := h.len
      rcases Nat.le_total L 4096 with h2 | h2
      · rw [List.take_of_length_le (by omega), List.take_of_length_le (by omega)]
      · rw [show M = 4096 by omega]
    rwa [e, hb'] at h1
  have HH : Hid (ByAt w p M c b') := hhd
  have HL : Hid (b'.length = M) := hhd.len
  have hmin : ∀ (ts : Array TypeId) (t : TypeId) (w : World), (Builtin.min_ ts t #[.int .i64 (L : Int), .int .i64 4096]).run Try.prog w = .ok (.int .i64 (M : Int)) w := by
    intro ts t w
    rw [run_min_int2]
    congr 2
    split <;> omega
  have hsl := run_head (p := p) (n := L) (c := c) (m := M) (M := (M : Int)) rfl (by have := h.cap; omega)
  have hbf := zero_fin
  have hbs := finZ_set (.slice none 0 0)
  have hbn := finZ_ne (.slice none 0 0)
  have hzl := zero_latest
  rw [hb']
  clear h hhd hb' hM
  go_enter Try.func32, Try.ntmps32
  go_wp2_with fail
  refine (bclone_any _ HH.out.src (by omega)).mono ?_
  rintro e w1 ⟨v1, rfl, own1, b1⟩
  obtain ⟨p1, cc, rfl⟩ := row_slice own1
  have hsz := b1.size
  have HB1 : Hid (Below w.heap.size w w1) := b1
  have bb : Below w1.heap.size w1 ((w1.alloc (.cells (finZ (.slice p1 M cc)) 85)).alloc (.cells (Array.replicate 4096 (.int .i64 0)) 83)) := ((Below.refl _ w1).alloc (Nat.le_refl _) _).alloc (by simp) _
  have hbs1 : Below (w1.alloc (.cells (finZ (.slice p1 M cc)) 85)).heap.size (w1.alloc (.cells (finZ (.slice p1 M cc)) 85)) ((w1.alloc (.cells (finZ (.slice p1 M cc)) 85)).alloc (.cells (Array.replicate 4096 (.int .i64 0)) 83)) := (Below.refl _ _).alloc (Nat.le_refl _) _
  have htab := HasAt.new (tg := 83) (N := 4096) (w1.alloc (.cells (finZ (.slice p1 M cc)) 85))
  rw [World.size_alloc] at htab
  have HM : Hid (Mk w _ w1.heap.size (w1.heap.size + 1) p1 M cc b' 0) := ⟨row_below own1 bb, HH.out.byte, hML.2, ⟨_, (FindAt.new w1 p1 M cc).later hbs1, fun a ha => by omega⟩, ⟨_, htab, Shelved.start _ _⟩, b1.trans (bb.mono hsz), hsz, by omega⟩
  clear bb hbs1 htab own1 b1
  go_wp2_with fail
  have HMB : Hid (HasB ((w1.alloc (.cells (finZ (.slice p1 M cc)) 85)).alloc (.cells (Array.replicate 4096 (.int .i64 0)) 83)) (.pointer (some ⟨w1.heap.size, 0, none⟩)) b') := by
    obtain ⟨A, hA, _⟩ := HM.out.fin
    exact .inr ⟨_, _, _, _, _, rfl, hA, by_own HM.out.own HM.out.byte, hML.2⟩
  obtain ⟨n, hn⟩ : ∃ n, b'.length - 2 = n := ⟨_, rfl⟩
  have HN : Hid (b'.length - 2 = n) := hn
  have hn4 : n + 2 ≤ 4096 := by have := HL.out; omega
  have hnM : Hid (n ≠ 0 → n + 2 = M) := by show _ → _; have := HL.out; omega
  clear hn hmin hsl hbf hbs hbn hzl
  refine (starts_is _ HMB.out HN.out).mono ?_
  rintro e w' ⟨rfl, rfl⟩
  generalize hw2 : (w1.alloc (.cells (finZ (.slice p1 M cc)) 85)).alloc (.cells (Array.replicate 4096 (.int .i64 0)) 83) = w2 at *
  clear hw2
  generalize hfb : w1.heap.size = fb at *
  go_wp2
  go_loopg [17] n (fun gk i wr => ∃ k : Nat, k ≤ n ∧ gk = n - k ∧ i = .int .i64 k ∧ Mk w wr fb (fb + 1) p1 M cc b' k)
  case atStart => exact ⟨0, Nat.zero_le _, rfl, rfl, HM.out⟩
  case round =>
    obtain ⟨k, hk, rfl, rfl, hM⟩ := hrel
    have HK : Hid (Mk w wr fb (fb + 1) p1 M cc b' k) := hM
    clear hM HM HMB
    by_cases hlt : k < n
    · obtain ⟨A, hA, hA2⟩ := HK.out.fin
      obtain ⟨T, hT, hS⟩ := HK.out.tab
      have hkM : k + 3 ≤ M := by have := hnM.out; omega
      have i1 : (k : Int) < (n : Int) := by omega
      have HA : Hid (FindAt wr fb p1 M cc A) := hA
      have HA2 : Hid (Ahead b' A k) := hA2
      have HT : Hid (HasAt 83 4096 wr (fb + 1) T) := hT
      have HS : Hid (Shelved b' (hs b') k T) := hS
      have HF : Hid (FinAt wr fb p1 M cc b' A) := ⟨hA, by_own HK.out.own HK.out.byte, hML.2⟩
      clear hA hA2 hT hS
      go_wp2_with fail
      refine (shelf_any _ HF.out HT.out HS.out hkM).mono ?_
      rintro e w' ⟨j, rfl, hj, ho, hc, m, rfl⟩
      have HO : Hid (Others b' (hs b') k T j) := ho
      have HC : Hid (T ((hs b' k + j) % 4096) = 0 ∨ cand b' k (T ((hs b' k + j) % 4096) - 1)) := hc
      clear ho hc
      obtain ⟨y, hy⟩ : ∃ y, (hs b' k + j) % 4096 = y := ⟨_, rfl⟩
      have hy4 : y < 4096 := by omega
      have HY : Hid ((hs b' k + j) % 4096 = y) := hy
      rw [hy] at HC ⊢
      clear hy
      have c1 := HT.out.cell hy4
      have c2 := HA.out.cell (n := k) (by omega)
      have f1 := HT.out.frozen y
      have f2 := HA.out.frozen (1 + k)
      obtain ⟨t, ht⟩ : ∃ t, T y = t := ⟨_, rfl⟩
      have HTY : Hid (T y = t) := ht
      rw [ht] at c1 HC
      clear ht
      go_wp2_with fail
      go_region
      have HK2 : Hid (Mk w (((wr.drewN (m + 1)).setCell ⟨fb, 1 + k, none⟩ (.int .i64 (t : Int))).setCell ⟨fb + 1, y, none⟩ (.int .i64 ((k : Int) + 1))) fb (fb + 1) p1 M cc b' (k + 1)) :=
        HK.out.step (by simp) (by omega) HA.out HA2.out HT.out HS.out HY.out HTY.out hj HO.out (by have := HC.out; exact this)
      go_wp2
      go_roundg (n - (k + 1))
      case measure => omega
      case rel => exact ⟨k + 1, by omega, rfl, by go_num, HK2.out⟩
    · obtain rfl : k = n := by omega
      have HO : Hid (FinO w.heap.size wr (.pointer (some ⟨fb, 0, none⟩)) b') := by
        obtain ⟨A, hA, hA2⟩ := HK.out.fin
        refine ⟨fb, p1, M, cc, A, rfl, HK.out.lo.1, hA, HK.out.own, HK.out.byte, hML.2, ?_⟩
        have h1 := HN.out
        rw [HL.out] at h1
        rw [h1]
        exact hA2
      have HB : Hid (Below w.heap.size w wr) := HK.out.bel
      go_wp2
      go_ret
      exact ⟨_, rfl, HO.out, HB.out⟩
end Go.Proofs.Ytgninhecclinaaa
