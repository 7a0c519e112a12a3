/- The walks of digit, isKey, Len, Nodes, New, path and Get. -/
import Derived.Test.YtkghedllkigecaaRTree
namespace Go.Proofs.Ytkghedllkigecaa
open Go.RowKit

theorem quietSame {P : Program} {f : FuncId} {args : Array Value} {w : World} {n : Nat} {v : Value}
    (h : Calls P f args (w.drewN n) fun e w' => e = .returned v ∧ w.drewN n = w') : Calls P f args (w.drewN n) fun e w'' => e = .returned v ∧ ∃ m, w'' = w.drewN m :=
  h.mono fun _ _ ⟨he, hm⟩ => ⟨he, n, hm.symm⟩

theorem digit0 {k : Nat} (hk : k < 65536) (w : World) : Calls Try.prog 22 #[.int .i64 (k : Nat), .int .i64 0] w fun e w' => e = .returned (.int .i64 (dig k 0 : Nat)) ∧ w = w' := by
  go_enter Try.func22, Try.ntmps22
  go_wp2
  go_ret
  refine ⟨retInt ?_, rfl⟩
  simp only [dig]
  go_num
theorem digit1 {k : Nat} (hk : k < 65536) (w : World) : Calls Try.prog 22 #[.int .i64 (k : Nat), .int .i64 1] w fun e w' => e = .returned (.int .i64 (dig k 1 : Nat)) ∧ w = w' := by
  go_enter Try.func22, Try.ntmps22
  go_wp2
  go_ret
  refine ⟨retInt ?_, rfl⟩
  simp only [dig]
  go_num
theorem digit2 {k : Nat} (hk : k < 65536) (w : World) : Calls Try.prog 22 #[.int .i64 (k : Nat), .int .i64 2] w fun e w' => e = .returned (.int .i64 (dig k 2 : Nat)) ∧ w = w' := by
  go_enter Try.func22, Try.ntmps22
  go_wp2
  go_ret
  refine ⟨retInt ?_, rfl⟩
  simp only [dig]
  go_num
theorem digit3 {k : Nat} (hk : k < 65536) (w : World) : Calls Try.prog 22 #[.int .i64 (k : Nat), .int .i64 3] w fun e w' => e = .returned (.int .i64 (dig k 3 : Nat)) ∧ w = w' := by
  go_enter Try.func22, Try.ntmps22
  go_wp2
  go_ret
  refine ⟨retInt ?_, rfl⟩
  simp only [dig]
  go_num
theorem digit_any {k d : Nat} (hk : k < 65536) (hd : d < 4) (D : Int) (hD : D = d) (w : World) : Calls Try.prog 22 #[.int .i64 (k : Nat), .int .i64 D] w fun e w' => e = .returned (.int .i64 (dig k d : Nat)) ∧ w = w' := by
  subst hD
  match d, hd with
  | 0, _ => exact digit0 hk w
  | 1, _ => exact digit1 hk w
  | 2, _ => exact digit2 hk w
  | 3, _ => exact digit3 hk w

def isK (z : Int) : Bool := decide (0 ≤ z ∧ z ≤ 65535)
theorem isKey_any (z : Int) (w : World) : Calls Try.prog 23 #[.int .i64 z] w fun e w' => e = .returned (.bool (isK z)) ∧ w = w' := by
  by_cases h1 : 0 ≤ z
  · go_enter Try.func23, Try.ntmps23
    go_wp2
    go_ret
    exact ⟨retBool (by simp [isK, h1]), rfl⟩
  · go_enter Try.func23, Try.ntmps23
    go_wp2
    go_ret
    exact ⟨retBool (decide_eq_false (by omega)).symm, rfl⟩
theorem isKey_is {b : Bool} (z : Int) (w : World) (h : isK z = b) : Calls Try.prog 23 #[.int .i64 z] w fun e w' => e = .returned (.bool b) ∧ w = w' := by
  rw [← h]; exact isKey_any z w
theorem isK_nat {k : Nat} (h : k < 65536) : isK (k : Nat) = true := by simp [isK]; omega
theorem isK_of {z : Int} (h : isK z = true) : ∃ k : Nat, z = k ∧ k < 65536 := by
  simp [isK] at h
  exact ⟨z.toNat, by omega, by omega⟩

theorem len_any {B : Nat} {p : Option Addr} {l : List KV} (w : World) (h : TreeP B w p l) :
    Calls Try.prog 9 #[.pointer p] w fun e w' => e = .returned (.int .i64 (l.length : Nat)) ∧ w = w' := by
  rcases h with ⟨rfl, rfl⟩ | ⟨b, ad, vl, rfl, h⟩
  · go_enter Try.func9, Try.ntmps9
    go_wp2
    go_ret
    exact ⟨rfl, rfl⟩
  · have h1 := h.tr.cell1
    clear h
    go_enter Try.func9, Try.ntmps9
    go_wp2
    go_ret
    exact ⟨rfl, rfl⟩
theorem nodes_any {B : Nat} {p : Option Addr} {l : List KV} (w : World) (h : TreeP B w p l) :
    Calls Try.prog 10 #[.pointer p] w fun e w' => e = .returned (.int .i64 (nodesOf l : Nat)) ∧ w = w' := by
  rcases h with ⟨rfl, rfl⟩ | ⟨b, ad, vl, rfl, h⟩
  · go_enter Try.func10, Try.ntmps10
    go_wp2
    go_ret
    exact ⟨rfl, rfl⟩
  · have h1 := h.tr.cell2
    clear h
    go_enter Try.func10, Try.ntmps10
    go_wp2
    go_ret
    exact ⟨rfl, rfl⟩
theorem new_any (w : World) :
    Calls Try.prog 12 #[] w fun e w' => e = .returned (.pointer (some ⟨w.heap.size, 0, none⟩)) ∧ TreeP w.heap.size w' (some ⟨w.heap.size, 0, none⟩) [] ∧ Below w.heap.size w w' := by
  go_enter Try.func12, Try.ntmps12
  go_wp2
  go_ret
  refine ⟨rfl, .inr ⟨w.heap.size, fun _ _ => none, fun _ => 0, rfl, ⟨⟨Nat.le_refl _, heap_alloc_new w _, by simp, by simp, by simp, by simp⟩, Fine.nil, ?_, by simp⟩⟩, (Below.refl _ w).alloc (Nat.le_refl _) _⟩
  intro d p _
  simp [has]

/-- The cells of a row of pointers. -/
def pathCells (c : Nat → Option Nat) : Array Value := #[.pointer (pt (c 0)), .pointer (pt (c 1)), .pointer (pt (c 2)), .pointer (pt (c 3))]
theorem pathCells_set (c : Nat → Option Nat) {i : Nat} (hi : i < 4) (o : Option Nat) : (pathCells c).setIfInBounds i (.pointer (pt o)) = pathCells (fun j => if j = i then o else c j) := by
  match i, hi with
  | 0, _ => rfl
  | 1, _ => rfl
  | 2, _ => rfl
  | 3, _ => rfl
theorem pathCells_congr {c c' : Nat → Option Nat} (h : ∀ j, j < 4 → c j = c' j) : pathCells c = pathCells c' := by
  unfold pathCells
  rw [h 0 (by omega), h 1 (by omega), h 2 (by omega), h 3 (by omega)]

theorem Try.u53 : Try.prog.underlying 53 = some (.array 4 52) := by kernel_rfl
theorem Try.i53 : (Try.prog.info? 53).map (fun i => i.size) = some 4 := by kernel_rfl
theorem path_ret {tmps : Array Value} {w : World} {c : Nat} {f : Nat → Option Nat} (hp : tmps.getD 4 undef = .pointer (some ⟨c, 0, none⟩)) (hg : w.heap[c]? = some (.cells (pathCells f) 53 (0, 0))) :
    (results Try.f21 tmps).run Try.prog w = .ok (.agg (pathCells f)) w :=
  results_cell_row (P := Try.prog) Try.results21 tmps w c _ (pathCells f) _ _ hp hg Try.u53 rfl Try.i53
set_option maxHeartbeats 1000000 in
theorem path_none {B : Nat} {p : Option Addr} {l : List KV} (z : Int) (w : World) (h : TreeP B w p l) (hz : p = none ∨ isK z = false) :
    Calls Try.prog 21 #[.pointer p, .int .i64 z] w fun e w' => e = .returned (.agg (pathCells fun _ => none)) ∧ Below w.heap.size w w' := by
  rcases h with ⟨rfl, rfl⟩ | ⟨b, ad, vl, rfl, h⟩
  · go_enter Try.func21, Try.ntmps21
    go_wp2
    exact bodyPost_ret (v := .agg (pathCells fun _ => none)) (path_ret rfl (heap_alloc_new w _)) rfl ⟨rfl, (Below.refl _ w).alloc (Nat.le_refl _) _⟩
  · have hk : isK z = false := by simpa using hz
    clear hz h
    go_enter Try.func21, Try.ntmps21
    go_wp2_with (go_at_call 23; refine (isKey_is _ _ hk).mono ?_; rintro e w' ⟨rfl, rfl⟩)
    exact bodyPost_ret (v := .agg (pathCells fun _ => none)) (path_ret rfl (heap_alloc_new w _)) rfl ⟨rfl, (Below.refl _ w).alloc (Nat.le_refl _) _⟩

theorem Tr.none_from {B b : Nat} {w : World} {r : Option Nat} {k n : Int} {ad : Ad} {vl : Nat → Int} (h : Tr B w b r k n ad vl) {q i : Nat} (hi : ad i (pre q i) = none) : ∀ j, i ≤ j → j ≤ 4 → ad j (pre q j) = none
  | 0, h1, _ => by
    have : i = 0 := by omega
    subst this; exact hi
  | j + 1, h1, h2 => by
    by_cases c : i = j + 1
    · subst c; exact hi
    · exact h.up j _ (by omega) (by rw [pre_div q (by omega)]; exact h.none_from hi j (by omega) (by omega))
theorem four_set {w : World} {c : Nat} {t : TypeId} {v0 v1 v2 v3 : Value} (h : w.heap[c]? = some (.cells #[v0, v1, v2, v3] t (0, 0))) :
    ((((w.setCell ⟨c, 0, none⟩ v0).setCell ⟨c, 1, none⟩ v1).setCell ⟨c, 2, none⟩ v2).setCell ⟨c, 3, none⟩ v3).heap[c]? = some (.cells #[v0, v1, v2, v3] t (0, 0)) := by
  have h1 := heap_setCell_same w c 0 _ _ v0 h
  have h2 := heap_setCell_same _ c 1 _ _ v1 h1
  have h3 := heap_setCell_same _ c 2 _ _ v2 h2
  have h4 := heap_setCell_same _ c 3 _ _ v3 h3
  rw [h4]; rfl
theorem pt_none : pt none = none := rfl
theorem pt_some (g : Nat) : pt (some g) = some ⟨g, 0, none⟩ := rfl
def nx (ad : Ad) (k i : Nat) : Option Nat := if i < 4 then ad i (pre k i) else none
def pa (ad : Ad) (k i j : Nat) : Option Nat := if j < i then ad j (pre k j) else none
set_option maxHeartbeats 1000000 in
theorem path_key {B b k : Nat} {l : List KV} {ad : Ad} {vl : Nat → Int} (hk : k < 65536) (w : World) (h : TreeOf B w b l ad vl) :
    Calls Try.prog 21 #[.pointer (some ⟨b, 0, none⟩), .int .i64 (k : Nat)] w fun e w' => e = .returned (.agg (pathCells fun j => ad j (pre k j))) ∧ Below w.heap.size w w' := by
  have hK := isK_nat hk
  have HT : Hid (Tr B w b (ad 0 0) (l.length : Nat) (nodesOf l : Nat) ad vl) := h.tr
  have h0 := h.tr.cell0
  have hlt := h.tr.ltB
  clear h
  go_enter Try.func21, Try.ntmps21
  go_wp2_with (go_at_call 23; refine (isKey_is _ _ hK).mono ?_; rintro e w' ⟨rfl, rfl⟩)
  go_loopw [5, 19] (fun x i wr => ∃ m : Nat, m ≤ 4 ∧ x = .pointer (pt (nx ad k m)) ∧ i = .int .i64 m ∧ wr.heap[w.heap.size]? = some (.cells (pathCells (pa ad k m)) 53 (0, 0)) ∧ Below w.heap.size w wr) (fun _ i _ => 4 - (intOf i).toNat)
  case atStart => exact ⟨0, by omega, by rw [nx, if_pos (by omega), pre_zero hk], rfl, heap_alloc_new w _, (Below.refl _ w).alloc (Nat.le_refl _) _⟩
  case round =>
    obtain ⟨m, hm, rfl, rfl, hc, hb⟩ := hrel
    by_cases hlt : m < 4
    · cases hx : nx ad k m with
      | none =>
        have e : pathCells (pa ad k m) = pathCells (fun j => ad j (pre k j)) := by
          apply pathCells_congr
          intro j hj
          unfold pa
          split
          · rfl
          · rw [nx, if_pos hlt] at hx
            exact (HT.out.none_from hx j (by omega) (by omega)).symm
        rw [e] at hc
        rw [pt_none]
        clear e hx
        have c0 := cell_of_row wr w.heap.size 0 _ _ _ hc
        have c1 := cell_of_row wr w.heap.size 1 _ _ _ hc
        have c2 := cell_of_row wr w.heap.size 2 _ _ _ hc
        have c3 := cell_of_row wr w.heap.size 3 _ _ _ hc
        have f0 := frozen_of_row wr w.heap.size 0 _ _ hc
        have f1 := frozen_of_row wr w.heap.size 1 _ _ hc
        have f2 := frozen_of_row wr w.heap.size 2 _ _ hc
        have f3 := frozen_of_row wr w.heap.size 3 _ _ hc
        simp [pathCells] at c0 c1 c2 c3
        have HC : Hid _ := hc
        clear hc
        go_wp2
        exact bodyPost_ret (v := .agg (pathCells fun j => ad j (pre k j))) (path_ret rfl (four_set HC.out)) rfl ⟨rfl, (((hb.setCell (p := ⟨w.heap.size, 0, none⟩) (Nat.le_refl _) _).setCell (p := ⟨w.heap.size, 1, none⟩) (Nat.le_refl _) _).setCell (p := ⟨w.heap.size, 2, none⟩) (Nat.le_refl _) _).setCell (p := ⟨w.heap.size, 3, none⟩) (Nat.le_refl _) _⟩
      | some g =>
        have hg : ad m (pre k m) = some g := by rwa [nx, if_pos hlt] at hx
        have tr := HT.out.below hb
        have hgl := HT.out.lt hlt hg
        have cM := cell_of_row wr w.heap.size m _ _ _ hc
        have fM := frozen_of_row wr w.heap.size m _ _ hc
        obtain ⟨vM, hvM⟩ : ∃ v, (pathCells (pa ad k m))[m]? = some v := ⟨_, Array.getElem?_eq_getElem (by simpa [pathCells] using hlt)⟩
        rw [hvM] at cM
        rw [pt_some]
        have HC : Hid (wr.heap[w.heap.size]? = some (.cells (pathCells (pa ad k m)) 53 (0, 0))) := hc
        have HTR : Hid (Tr B wr b (ad 0 0) (l.length : Nat) (nodesOf l : Nat) ad vl) := tr
        have HG : Hid (ad m (pre k m) = some g) := hg
        clear hc hx hvM tr hg h0
        go_wp2_with fail
        have hb2 : Below w.heap.size w (wr.setCell ⟨w.heap.size, m, none⟩ (.pointer (some ⟨g, 0, none⟩))) := hb.setCell (p := ⟨w.heap.size, m, none⟩) (Nat.le_refl _) _
        have hc2 : (wr.setCell ⟨w.heap.size, m, none⟩ (.pointer (some ⟨g, 0, none⟩))).heap[w.heap.size]? = some (.cells (pathCells (pa ad k (m + 1))) 53 (0, 0)) := by
          rw [heap_setCell_same _ _ _ _ _ _ HC.out]
          have := pathCells_set (pa ad k m) hlt (some g)
          rw [pt_some] at this
          rw [this]
          congr 2
          apply pathCells_congr
          intro j hj
          unfold pa
          by_cases e : j = m
          · subst e; rw [if_pos rfl, if_pos (by omega), HG.out]
          · rw [if_neg e]
            by_cases e2 : j < m
            · rw [if_pos e2, if_pos (by omega)]
            · rw [if_neg e2, if_neg (by omega)]
        have cN := (HT.out.below hb2).cellN hlt HG.out (j := dig k m) (by have := dig_lt k m; omega)
        generalize wr.setCell ⟨w.heap.size, m, none⟩ (.pointer (some ⟨g, 0, none⟩)) = w2 at *
        have hdl : ((dig k m : Nat) : Int) < 16 := by have := dig_lt k m; omega
        have hkd : kid ad m (pre k m) (dig k m) = nx ad k (m + 1) := by
          unfold kid nx
          rw [if_pos (dig_lt k m)]
          by_cases e : m < 3
          · rw [if_pos e, if_pos (by omega), pre_succ k hlt]
          · rw [if_neg e, if_neg (by omega)]
        rw [hkd] at cN
        have HD : Hid _ := digit_any hk hlt
        have HC2 : Hid (w2.heap[w.heap.size]? = some (.cells (pathCells (pa ad k (m + 1))) 53 (0, 0))) := hc2
        clear hc2 hkd cM fM
        generalize dig k m = dg at *
        go_quiet ((go_at_call 22; exact quietSame (HD.out _ rfl _)))
        go_wp2
        go_roundw
        case rel => exact ⟨m + 1, by omega, rfl, by go_num, HC2.out, hb2.trans (drewN_below _ _ _)⟩
        case measure => simp [intOf]; omega
    · have e4 : m = 4 := by omega
      subst e4
      have e : pathCells (pa ad k 4) = pathCells (fun j => ad j (pre k j)) := rfl
      rw [e] at hc
      clear e
      generalize nx ad k 4 = q
      have c0 := cell_of_row wr w.heap.size 0 _ _ _ hc
      have c1 := cell_of_row wr w.heap.size 1 _ _ _ hc
      have c2 := cell_of_row wr w.heap.size 2 _ _ _ hc
      have c3 := cell_of_row wr w.heap.size 3 _ _ _ hc
      have f0 := frozen_of_row wr w.heap.size 0 _ _ hc
      have f1 := frozen_of_row wr w.heap.size 1 _ _ hc
      have f2 := frozen_of_row wr w.heap.size 2 _ _ hc
      have f3 := frozen_of_row wr w.heap.size 3 _ _ hc
      simp [pathCells] at c0 c1 c2 c3
      have HC : Hid _ := hc
      clear hc
      go_wp2
      exact bodyPost_ret (v := .agg (pathCells fun j => ad j (pre k j))) (path_ret rfl (four_set HC.out)) rfl ⟨rfl, (((hb.setCell (p := ⟨w.heap.size, 0, none⟩) (Nat.le_refl _) _).setCell (p := ⟨w.heap.size, 1, none⟩) (Nat.le_refl _) _).setCell (p := ⟨w.heap.size, 2, none⟩) (Nat.le_refl _) _).setCell (p := ⟨w.heap.size, 3, none⟩) (Nat.le_refl _) _⟩

/-- What a number has, as a key. -/
def got (l : List KV) (z : Int) : Option Int := if isK z then val l z.toNat else none
theorem got_nat {l : List KV} {k : Nat} (h : k < 65536) : got l (k : Nat) = val l k := by rw [got, if_pos (isK_nat h)]; rfl
theorem TreeOf.got_none {B b k : Nat} {w : World} {l : List KV} {ad : Ad} {vl : Nat → Int} (h : TreeOf B w b l ad vl) (hn : ad 4 k = none) : val l k = none := by
  apply val_none
  intro x hx e
  exact (h.dom 4 k (by omega)).2 ⟨x, hx, by rw [pre_four]; exact e⟩ hn
theorem TreeOf.got_some {B b k c : Nat} {w : World} {l : List KV} {ad : Ad} {vl : Nat → Int} (h : TreeOf B w b l ad vl) (hn : ad 4 k = some c) : val l k = some (vl k) := by
  obtain ⟨v, hv⟩ := has_four.1 ((h.dom 4 k (by omega)).1 (by rw [hn]; simp))
  rw [val_of h.fine hv]
  exact congrArg some (h.vals _ hv).symm
theorem Try.index3 (c : Nat → Option Nat) (w : World) : (Instr.index 53 (.agg (pathCells c)) (.int .i64 3)).run Try.prog w = .ok (.pointer (pt (c 3))) w := by kernel_rfl
set_option maxHeartbeats 1000000 in
theorem get_any {B : Nat} {p : Option Addr} {l : List KV} (z : Int) (w : World) (h : TreeP B w p l) :
    Calls Try.prog 7 #[.pointer p, .int .i64 z] w fun e w' => e = .returned (.tuple #[.int .u64 ((got l z).getD 0), .bool (got l z).isSome]) ∧ Below w.heap.size w w' := by
  have hidx := Try.index3
  by_cases hz : p = none ∨ isK z = false
  · have hg : got l z = none := by
      rcases hz with hz | hz
      · rcases h with ⟨_, rfl⟩ | ⟨b, ad, vl, rfl, h⟩
        · unfold got; split <;> rfl
        · cases hz
      · rw [got, if_neg (by simp [hz])]
    rw [hg]
    go_enter Try.func7, Try.ntmps7
    go_wp2_with fail
    refine (path_none z w h hz).mono ?_
    rintro e w1 ⟨rfl, hb⟩
    go_wp2
    go_ret2
    exact ⟨rfl, hb⟩
  · have hz2 : isK z = true := by cases e : isK z with | true => rfl | false => exact absurd (.inr e) hz
    obtain ⟨k, rfl, hk⟩ := isK_of hz2
    rcases h with ⟨rfl, rfl⟩ | ⟨b, ad, vl, rfl, h⟩
    · exact absurd (.inl rfl) hz
    clear hz hz2
    rw [got_nat hk]
    have HH : Hid (TreeOf B w b l ad vl) := h
    have hp3 : pre k 3 = k / 16 := by simp [pre]
    have hd3 : dig k 3 = k % 16 := by simp [dig]
    clear h
    cases h3 : ad 3 (k / 16) with
    | none =>
      have E : Hid (val l k = none) := HH.out.got_none (HH.out.tr.up 3 k (by omega) h3)
      have H3 : Hid (ad 3 (pre k 3) = none) := by show _ = _; rw [hp3, h3]
      clear h3 hp3 hd3
      go_enter Try.func7, Try.ntmps7
      go_wp2_with fail
      refine (path_key hk w HH.out).mono ?_
      rintro e w1 ⟨rfl, hb⟩
      have hi2 := hidx (fun j => ad j (pre k j))
      simp only [H3.out, pt_none] at hi2
      generalize pathCells (fun j => ad j (pre k j)) = PC at *
      clear hidx
      go_wp2
      go_ret2
      exact ⟨by rw [E.out]; rfl, hb⟩
    | some g =>
      have H3 : Hid (ad 3 (pre k 3) = some g) := by show _ = _; rw [hp3, h3]
      have HG : Hid (ad 3 (k / 16) = some g) := h3
      have HS : Hid (slot 3 k = 16 + dig k 3) := by show _ = _; rw [hd3]; rfl
      clear h3 hp3 hd3
      go_enter Try.func7, Try.ntmps7
      go_wp2_with fail
      refine (path_key hk w HH.out).mono ?_
      rintro e w1 ⟨rfl, hb⟩
      have hi2 := hidx (fun j => ad j (pre k j))
      simp only [H3.out, pt_some] at hi2
      generalize pathCells (fun j => ad j (pre k j)) = PC at *
      have tr := HH.out.tr.below hb
      have cN := tr.cellC (q := k) (d := 3) (by omega) HG.out
      rw [HS.out] at cN
      have hdl : ((dig k 3 : Nat) : Int) < 16 := by have := dig_lt k 3; omega
      have HD : Hid _ := digit_any hk (d := 3) (by omega)
      have HB : Hid _ := hb
      clear hidx
      generalize dig k 3 = dg at *
      cases h4 : ad 4 k with
      | none =>
        rw [h4, pt_none] at cN
        have E : Hid (val l k = none) := HH.out.got_none h4
        clear tr hb h4
        go_wp2_with fail
        go_quiet ((go_at_call 22; exact quietSame (HD.out _ rfl _)))
        go_wp2
        go_ret2
        exact ⟨by rw [E.out]; rfl, HB.out.trans (drewN_below _ _ _)⟩
      | some c =>
        rw [h4, pt_some] at cN
        have cT := tr.cellT h4
        have E : Hid (val l k = some (vl k)) := HH.out.got_some h4
        clear tr hb h4
        go_wp2_with fail
        go_quiet ((go_at_call 22; exact quietSame (HD.out _ rfl _)))
        go_wp2
        go_ret2
        exact ⟨by rw [E.out]; rfl, HB.out.trans (drewN_below _ _ _)⟩
end Go.Proofs.Ytkghedllkigecaa
