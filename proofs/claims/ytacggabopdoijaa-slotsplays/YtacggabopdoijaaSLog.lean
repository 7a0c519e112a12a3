/- The document's own slots: a list of pages (plain facts; how it lies in memory), and the walks of the document's At and asks. -/
import Derived.Test.YtacggabopdoijaaSNew
import Derived.Test.YtacggabopdoijaaGRes
import Derived.Test.YtacggabopdoijaaLRef
namespace Go.Proofs.Ytacggabopdoijaa
open Go.RowKit

/-- A page in a slot: the slot, the slice that holds its bytes, the bytes. -/
structure Pt where
  n : Int
  v : Value
  b : List Nat
/-- The place of slot n's page; the length where there is none. -/
def ix (L : List Pt) (n : Int) : Nat := L.findIdx fun t => decide (t.n = n)
def atI (L : List Pt) (n : Int) : Int := if ix L n < L.length then (ix L n : Int) else -1
theorem ix_lt {L : List Pt} {n : Int} : ix L n < L.length ↔ ∃ t ∈ L, t.n = n := by
  unfold ix
  rw [List.findIdx_lt_length]
  simp
theorem ix_at {L : List Pt} {n : Int} {i : Nat} (hi : i < L.length) (h : L[i].n = n) (hl : ∀ j (hj : j < L.length), j < i → L[j].n ≠ n) : ix L n = i := by
  unfold ix
  rw [List.findIdx_eq hi]
  refine ⟨by simpa using h, fun j hj => ?_⟩
  simpa using hl j (by omega) hj
theorem ix_none {L : List Pt} {n : Int} (hl : ∀ j (hj : j < L.length), L[j].n ≠ n) : ¬ ix L n < L.length := by
  intro h
  obtain ⟨t, ht, he⟩ := ix_lt.1 h
  obtain ⟨j, hj, rfl⟩ := List.getElem_of_mem ht
  exact hl j hj he
theorem ix_get {L : List Pt} {n : Int} (h : ix L n < L.length) : (L[ix L n]'h).n = n := by
  have := List.findIdx_getElem (xs := L) (p := fun t : Pt => decide (t.n = n)) (w := h)
  exact of_decide_eq_true this

theorem nodup_sub : ∀ (a b : List Int), a.Nodup → (∀ k ∈ a, k ∈ b) → a.length ≤ b.length
  | [], _, _, _ => Nat.zero_le _
  | k :: a, b, hn, h => by
    rw [List.nodup_cons] at hn
    have h1 := nodup_sub a (b.erase k) hn.2 (fun j hj => (List.mem_erase_of_ne (fun e => hn.1 (by rw [← e]; exact hj))).2 (h j (by simp [hj])))
    have h2 : k ∈ b := h k (by simp)
    have h3 := List.length_erase_of_mem h2
    have h4 := List.length_pos_of_mem h2
    rw [List.length_cons]
    omega
/-- The document's list and the slots are the same. -/
structure Same (x : List Bool) (pg : Nat → List Nat) (L : List Pt) : Prop where
  mem : ∀ n : Int, hasB x n = true ↔ ∃ t ∈ L, t.n = n
  pgs : ∀ t ∈ L, t.b = pg t.n.toNat
  nod : (L.map (·.n)).Nodup
section
variable {x : List Bool} {pg : Nat → List Nat} {L : List Pt}
theorem Same.has (h : Same x pg L) (n : Int) : hasB x n = decide (ix L n < L.length) := by
  rw [Bool.eq_iff_iff, h.mem, decide_eq_true_iff, ix_lt]
theorem Same.new (m : Nat) (pg : Nat → List Nat) : Same (List.replicate m false) pg [] := by
  refine ⟨fun n => ?_, by simp, by simp⟩
  unfold hasB
  rw [rep_false]
  simp
theorem Same.put (h : Same x pg L) {n : Nat} (hn : n < x.length) (hx : hasB x (n : Int) = false) (v : Value) (b : List Nat) : Same (putL x (n : Int) true) (upd pg n b) (L ++ [⟨(n : Int), v, b⟩]) := by
  have hno : ¬ ∃ t ∈ L, t.n = (n : Int) := fun e => by rw [(h.mem n).2 e] at hx; cases hx
  have e2 : putL x (n : Int) true = x.set n true := by simp [putL]
  refine ⟨fun k => ?_, fun t ht => ?_, ?_⟩
  · by_cases e : k = (n : Int)
    · subst e
      constructor
      · intro _; exact ⟨⟨(n : Int), v, b⟩, by simp, rfl⟩
      · intro _; rw [e2, hasB_nat, getD_set, if_pos ⟨rfl, hn⟩]
    · have h1 : hasB (putL x (n : Int) true) k = hasB x k := by
        unfold hasB
        by_cases h0 : 0 ≤ k
        · rw [e2, getD_set, if_neg (by omega)]
        · simp [h0]
      rw [h1, h.mem k]
      constructor
      · rintro ⟨t, ht, he⟩; exact ⟨t, by simp [ht], he⟩
      · rintro ⟨t, ht, he⟩
        rcases List.mem_append.1 ht with h2 | h2
        · exact ⟨t, h2, he⟩
        · rw [List.mem_singleton] at h2
          subst h2
          exact absurd he.symm e
  · unfold upd
    rcases List.mem_append.1 ht with h2 | h2
    · rw [h.pgs t h2]
      have hne : t.n ≠ (n : Int) := fun e => hno ⟨t, h2, e⟩
      have h0 : 0 ≤ t.n := by
        have := (h.mem t.n).2 ⟨t, h2, rfl⟩
        unfold hasB at this
        simp at this
        exact this.1
      rw [if_neg (by omega)]
    · rw [List.mem_singleton] at h2
      subst h2
      rw [if_pos (by simp)]
  · rw [List.map_append, List.nodup_append]
    refine ⟨h.nod, by simp, fun a ha c hc e => ?_⟩
    obtain ⟨t, ht, rfl⟩ := List.mem_map.1 ha
    simp at hc
    exact hno ⟨t, ht, by rw [e, hc]⟩
theorem Same.drop (h : Same x pg L) {i : Nat} (hi : i < L.length) : Same (putL x L[i].n false) pg (L.take i ++ L.drop (i + 1)) := by
  have hL : L = L.take i ++ L[i] :: L.drop (i + 1) := by rw [← List.drop_eq_getElem_cons hi, List.take_append_drop]
  have hnod := h.nod
  rw [hL, List.map_append, List.map_cons, List.nodup_append] at hnod
  obtain ⟨n1, n2, n3⟩ := hnod
  rw [List.nodup_cons] at n2
  generalize hti : L[i] = t at *
  have hmem : ∀ s, s ∈ L ↔ s ∈ L.take i ∨ s = t ∨ s ∈ L.drop (i + 1) := by
    intro s
    conv => lhs; rw [hL]
    simp
  have hsub : ∀ s, s ∈ L.take i ++ L.drop (i + 1) → s ∈ L ∧ s.n ≠ t.n := by
    intro s hs
    rcases List.mem_append.1 hs with h2 | h2
    · refine ⟨(hmem s).2 (.inl h2), fun e => ?_⟩
      exact n3 s.n (List.mem_map_of_mem h2) t.n (by simp) e
    · refine ⟨(hmem s).2 (.inr (.inr h2)), fun e => ?_⟩
      exact n2.1 (List.mem_map.2 ⟨s, h2, e⟩)
  have ht0 : hasB x t.n = true := (h.mem t.n).2 ⟨t, (hmem t).2 (.inr (.inl rfl)), rfl⟩
  refine ⟨fun k => ?_, fun s hs => h.pgs s (hsub s hs).1, ?_⟩
  · have h1 : hasB (putL x t.n false) k = (hasB x k && !decide (k = t.n)) := by
      have hb : 0 ≤ t.n := by unfold hasB at ht0; simp at ht0; exact ht0.1
      unfold hasB putL
      rw [if_pos hb]
      by_cases h0 : 0 ≤ k
      · rw [getD_set]
        by_cases e : k = t.n
        · subst e
          have hm := mayB_of_has ht0
          simp only [mayB, decide_eq_true_eq] at hm
          rw [if_pos ⟨rfl, by omega⟩]
          simp
        · rw [if_neg (by omega)]
          simp [e]
      · simp [h0]
    rw [h1, Bool.and_eq_true, h.mem k]
    constructor
    · rintro ⟨⟨s, hs, he⟩, hne⟩
      have hne' : k ≠ t.n := by simpa using hne
      rcases (hmem s).1 hs with h2 | h2 | h2
      · exact ⟨s, by simp [h2], he⟩
      · subst h2; exact absurd he.symm hne'
      · exact ⟨s, by simp [h2], he⟩
    · rintro ⟨s, hs, he⟩
      obtain ⟨h2, h3⟩ := hsub s hs
      exact ⟨⟨s, h2, he⟩, by simp; rw [← he]; exact h3⟩
  · rw [List.map_append, List.nodup_append]
    refine ⟨n1, n2.2, fun a ha c hc e => ?_⟩
    exact n3 a ha c (by simp at hc ⊢; exact .inr hc) e
/-- As many are in use as the list has. -/
theorem Same.used (h : Same x pg L) : (allL x).length = L.length := by
  have h1 : ((allL x).map (fun i : Nat => (i : Int))).Nodup := by
    unfold allL allTo
    refine List.Pairwise.map _ (fun a b hab => ?_) ((List.nodup_range (n := x.length)).filter _)
    intro e
    exact hab (by omega)
  have h2 : ∀ k : Int, k ∈ (allL x).map (fun i : Nat => (i : Int)) ↔ k ∈ L.map (·.n) := by
    intro k
    rw [List.mem_map, List.mem_map, ← h.mem k]
    unfold allL allTo
    constructor
    · rintro ⟨i, hi, rfl⟩
      rw [hasB_nat]
      exact (List.mem_filter.1 hi).2
    · intro hk
      have hm := mayB_of_has hk
      simp only [mayB, decide_eq_true_eq] at hm
      obtain ⟨i, rfl⟩ := Int.eq_ofNat_of_zero_le hm.1
      refine ⟨i, List.mem_filter.2 ⟨List.mem_range.2 (by omega), ?_⟩, rfl⟩
      rw [← hasB_nat]; exact hk
  have h3 := nodup_sub _ _ h1 (fun k hk => (h2 k).1 hk)
  have h4 := nodup_sub _ _ h.nod (fun k hk => (h2 k).2 hk)
  simp only [List.length_map] at h3 h4
  omega
end

/-- The cells of a list. -/
def pgc (L : List Pt) : List Value := L.flatMap fun t => [.int .i64 t.n, t.v]
theorem pgc_len : ∀ L : List Pt, (pgc L).length = L.length * 2
  | [] => rfl
  | t :: L => by
    have := pgc_len L
    simp only [pgc, List.flatMap_cons, List.length_append, List.length_cons, List.length_nil] at this ⊢
    omega
theorem pgc_app (L M : List Pt) : pgc (L ++ M) = pgc L ++ pgc M := by simp [pgc]
theorem pgc_at : ∀ (L : List Pt) (i : Nat) (hi : i < L.length), (pgc L)[i * 2]? = some (.int .i64 L[i].n) ∧ (pgc L)[i * 2 + 1]? = some L[i].v
  | t :: L, 0, _ => by simp [pgc]
  | t :: L, i + 1, hi => by
    have h := pgc_at L i (by simpa using hi)
    have e : pgc (t :: L) = [.int .i64 t.n, t.v] ++ pgc L := by simp [pgc]
    rw [e]
    refine ⟨?_, ?_⟩
    · rw [List.getElem?_append_right (by simp; omega)]
      have : (i + 1) * 2 - 2 = i * 2 := by omega
      simpa [this] using h.1
    · rw [List.getElem?_append_right (by simp; omega)]
      have : (i + 1) * 2 + 1 - 2 = i * 2 + 1 := by omega
      simpa [this] using h.2
theorem pgc_take (L : List Pt) (i : Nat) (hi : i ≤ L.length) : pgc (L.take i) = (pgc L).take (i * 2) := by
  have h : pgc L = pgc (L.take i) ++ pgc (L.drop i) := by rw [← pgc_app, List.take_append_drop]
  have hl : (pgc (L.take i)).length = i * 2 := by rw [pgc_len, List.length_take]; omega
  rw [h, List.take_append_of_le_length (by omega)]
  exact (List.take_of_length_le (by omega)).symm
theorem pgc_drop (L : List Pt) (i : Nat) (hi : i ≤ L.length) : pgc (L.drop i) = (pgc L).drop (i * 2) := by
  have h : pgc L = pgc (L.take i) ++ pgc (L.drop i) := by rw [← pgc_app, List.take_append_drop]
  have hl : (pgc (L.take i)).length = i * 2 := by rw [pgc_len, List.length_take]; omega
  rw [h, ← hl, List.drop_left]
/-- A list in memory. -/
structure LogAt (C : Nat) (w : World) (vL : Value) (L : List Pt) : Prop where
  row : w.ownsRow C 72 2 vL L.length (pgc L)
  each : ∀ t ∈ L, w.ownsRow C 5 1 t.v 4096 (bv t.b) ∧ t.b.length = 4096
section
variable {B E C : Nat} {w w' : World} {vL : Value} {L : List Pt}
theorem LogAt.nil (C : Nat) (w : World) : LogAt C w (.slice none 0 0) [] := ⟨World.ownsRow_nil _ _ _ _, by simp⟩
theorem LogAt.below (h : LogAt C w vL L) (hb : Below w.heap.size w w') : LogAt C w' vL L := ⟨row_below h.row hb, fun t ht => ⟨row_below (h.each t ht).1 hb, (h.each t ht).2⟩⟩
theorem LogAt.turns (h : LogAt C w vL L) (hb : Turns B E w w') (hC : E ≤ C) : LogAt C w' vL L := ⟨hb.row h.row hC, fun t ht => ⟨hb.row (h.each t ht).1 hC, (h.each t ht).2⟩⟩
theorem LogAt.tag {rb : Nat} {cs : Array Value} {fr : Nat × Nat} (h : LogAt C w vL L) (hx : w.heap[rb]? = some (.cells cs 42 fr)) (hk : ∀ g, g ≠ rb → w'.heap[g]? = w.heap[g]?) : LogAt C w' vL L :=
  ⟨row_tag h.row hx (by decide) hk, fun t ht => ⟨row_tag (h.each t ht).1 hx (by decide) hk, (h.each t ht).2⟩⟩
end

set_option maxRecDepth 100000 in
set_option maxHeartbeats 2000000 in
theorem refAt_any {C : Nat} {M K : Int} {a0 : Option Addr} {L0 c0 : Nat} {vL : Value} {L : List Pt} (n : Int) (w : World) (h : LogAt C w vL L) (hL : L.length ≤ 1000) :
    Calls Try.prog 19 #[.agg #[.int .i64 M, .slice a0 L0 c0, .int .i64 K, vL], .int .i64 n] w fun e w' => e = .returned (.int .i64 (atI L n)) ∧ Below w.heap.size w w' := by
  obtain ⟨aL, cL, rfl⟩ := row_slice h.row
  have hbx : Below w.heap.size w (w.alloc (.cells #[.int .i64 M, .slice a0 L0 c0, .int .i64 K, .slice aL L.length cL] 42)) := (Below.refl _ w).alloc (Nat.le_refl _) _
  have HBX : Hid (Below w.heap.size w (w.alloc (.cells #[.int .i64 M, .slice a0 L0 c0, .int .i64 K, .slice aL L.length cL] 42))) := hbx
  have HLG : Hid (LogAt C (w.alloc (.cells #[.int .i64 M, .slice a0 L0 c0, .int .i64 K, .slice aL L.length cL] 42)) (.slice aL L.length cL) L) := h.below hbx
  have c3 : (w.alloc (.cells #[.int .i64 M, .slice a0 L0 c0, .int .i64 K, .slice aL L.length cL] 42)).cell? ⟨w.heap.size, 3, none⟩ = some (.slice aL L.length cL) := by rw [cell_of_row _ w.heap.size 3 _ _ _ (heap_alloc_new w _)]; rfl
  clear h hbx
  go_enter Try.func19, Try.ntmps19
  go_upto_region 1 with (fail)
  generalize w.alloc (.cells #[.int .i64 M, .slice a0 L0 c0, .int .i64 K, .slice aL L.length cL] 42) = w1 at *
  generalize hfb : w.heap.size = fb at *
  go_wp2_with fail
  go_loopw [5] (fun i wr => ∃ j : Nat, j ≤ L.length ∧ i = .int .i64 j ∧ w1 = wr ∧ ∀ k (hk : k < L.length), k < j → L[k].n ≠ n) (fun i _ => L.length - (intOf i).toNat)
  case atStart => exact ⟨0, Nat.zero_le _, rfl, rfl, fun k hk h => by omega⟩
  case round =>
    obtain ⟨j, hj, rfl, rfl, hno⟩ := hrel
    have HNO : Hid (∀ k (hk : k < L.length), k < j → L[k].n ≠ n) := hno
    clear hno
    by_cases hlt : j < L.length
    · obtain ⟨g, rfl, cg0, cg1, hg1, hg2⟩ := row_at2 HLG.out.row hlt
      rw [(pgc_at L j hlt).1] at cg0
      have hql : (j : Int) < (L.length : Int) := by omega
      by_cases hn : L[j].n = n
      · have HR : Hid (atI L n = (j : Int)) := by
          have e := ix_at hlt hn HNO.out
          show _ = _
          rw [atI, e, if_pos hlt]
        have hn2 : (L[j].n == n) = true := by rw [beq_iff_eq]; exact hn
        generalize L[j].n = tn at *
        clear cg1 hn
        go_wp2
        go_ret
        exact ⟨retInt HR.out.symm, by first | exact HBX.out | (rw [hfb]; exact HBX.out)⟩
      · have HN2 : Hid (∀ k (hk : k < L.length), k < j + 1 → L[k].n ≠ n) := by
          intro k hk hk2
          by_cases e : k = j
          · subst e; exact hn
          · exact HNO.out k hk (by omega)
        have hn2 : (L[j].n == n) = false := by rw [beq_eq_false_iff_ne]; exact hn
        generalize L[j].n = tn at *
        clear cg1 hn
        go_wp2
        go_roundw
        case rel => exact ⟨j + 1, by omega, by go_num, trivial, HN2.out⟩
        case measure => simp [intOf]; omega
    · have HR : Hid (atI L n = -1) := by
        have e := ix_none (L := L) (n := n) (fun k hk => HNO.out k hk (by omega))
        show _ = _
        rw [atI, if_neg e]
      have hql : ¬ (j : Int) < (L.length : Int) := by omega
      go_wp2
      go_ret
      exact ⟨retInt HR.out.symm, by first | exact HBX.out | (rw [hfb]; exact HBX.out)⟩

set_option maxRecDepth 100000 in
set_option maxHeartbeats 2000000 in
theorem refAsks_any {k : Nat} {M : Int} {a0 : Option Addr} {L0 c0 : Nat} {zs : List Bool} {aL : Option Addr} {lL cL : Nat} (w : World) (hz : BoolsAt w a0 L0 c0 zs) (hk : k < 900000000) :
    Calls Try.prog 49 #[.agg #[.int .i64 M, .slice a0 L0 c0, .int .i64 (k : Int), .slice aL lL cL]] w fun e w' => e = .returned (.tuple #[.int .i64 (askN zs k : Nat), .bool (askB zs k)]) ∧ Below w.heap.size w w' := by
  have hbx : Below w.heap.size w (w.alloc (.cells #[.int .i64 M, .slice a0 L0 c0, .int .i64 (k : Int), .slice aL lL cL] 42)) := (Below.refl _ w).alloc (Nat.le_refl _) _
  have HBX : Hid (Below w.heap.size w (w.alloc (.cells #[.int .i64 M, .slice a0 L0 c0, .int .i64 (k : Int), .slice aL lL cL] 42))) := hbx
  have HBO : Hid (BoolsAt _ a0 L0 c0 zs) := hz.below hbx
  have c1 : (w.alloc (.cells #[.int .i64 M, .slice a0 L0 c0, .int .i64 (k : Int), .slice aL lL cL] 42)).cell? ⟨w.heap.size, 1, none⟩ = some (.slice a0 L0 c0) := by rw [cell_of_row _ w.heap.size 1 _ _ _ (heap_alloc_new w _)]; rfl
  have c2 : (w.alloc (.cells #[.int .i64 M, .slice a0 L0 c0, .int .i64 (k : Int), .slice aL lL cL] 42)).cell? ⟨w.heap.size, 2, none⟩ = some (.int .i64 (k : Int)) := by rw [cell_of_row _ w.heap.size 2 _ _ _ (heap_alloc_new w _)]; rfl
  clear hbx hz
  go_enter Try.func49, Try.ntmps49
  go_upto_region 1 with (fail)
  generalize w.alloc (.cells #[.int .i64 M, .slice a0 L0 c0, .int .i64 (k : Int), .slice aL lL cL] 42) = w1 at *
  generalize hfb : w.heap.size = fb at *
  go_wp2_with fail
  go_loopw [4] (fun i wr => ∃ j : Nat, j ≤ 8 ∧ i = .int .i64 j ∧ w1 = wr ∧ ∀ i, i < j → fa zs (k + i) = false) (fun i _ => 8 - (intOf i).toNat)
  case atStart => exact ⟨0, by omega, rfl, rfl, fun k h => by omega⟩
  case round =>
    obtain ⟨j, hj, rfl, rfl, hno⟩ := hrel
    have HNO : Hid (∀ i, i < j → fa zs (k + i) = false) := hno
    clear hno
    by_cases hlt : j < 8
    · have i1 : (j : Int) < 8 := by omega
      cases hf : fa zs (k + j) with
      | true =>
        have HF : Hid (fa zs (k + j) = true) := hf
        have HA : Hid (askB zs k = true ∧ askN zs k = j + 1) := ask_fail hlt HNO.out hf
        clear hf
        go_wp2_with fail
        refine (refFails_any (k + j) _ HBO.out).mono ?_
        rw [HF.out]
        rintro e w' ⟨rfl, rfl⟩
        go_wp2
        go_ret2
        exact ⟨by rw [HA.out.1, HA.out.2]; rfl, by first | exact HBX.out | (rw [hfb]; exact HBX.out)⟩
      | false =>
        have HF : Hid (fa zs (k + j) = false) := hf
        clear hf
        go_wp2_with fail
        refine (refFails_any (k + j) _ HBO.out).mono ?_
        rw [HF.out]
        rintro e w' ⟨rfl, rfl⟩
        go_wp2
        go_roundw
        case rel =>
          refine ⟨j + 1, by omega, by go_num, trivial, fun i hi => ?_⟩
          by_cases e : i = j
          · subst e; exact HF.out
          · exact HNO.out i (by omega)
        case measure => simp [intOf]; omega
    · have e : j = 8 := by omega
      subst e
      have HA : Hid (askB zs k = false ∧ askN zs k = 8) := ask_fine HNO.out
      go_wp2
      go_ret2
      exact ⟨by rw [HA.out.1, HA.out.2]; rfl, by first | exact HBX.out | (rw [hfb]; exact HBX.out)⟩
end Go.Proofs.Ytacggabopdoijaa
