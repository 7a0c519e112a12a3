/- The walks of the document's own At, Set and Drop, over lists in rows of one's own. -/
import Derived.Test.YtkghedllkigecaaRFrom
import Derived.Test.YtkghedllkigecaaRDel
import Derived.Laws.AppendOwnNone
namespace Go.Proofs.Ytkghedllkigecaa
open Go.RowKit

/-- How many keys are below a number. -/
def idx (l : List KV) (z : Int) : Nat := (l.filter fun x => decide ((x.1 : Int) < z)).length
def foundB (l : List KV) (z : Int) : Bool := l.any fun x => decide ((x.1 : Int) = z)
theorem split_idx {l : List KV} (h : Fine l) (z : Int) : l.take (idx l z) = l.filter (fun x => decide ((x.1 : Int) < z)) ∧ l.drop (idx l z) = frm l z := by
  induction l with
  | nil => exact ⟨rfl, rfl⟩
  | cons x r ih =>
    obtain ⟨i1, i2⟩ := ih h.tail
    unfold idx frm at *
    by_cases c : (x.1 : Int) < z
    · rw [List.filter_cons_of_pos (by simpa using c), List.filter_cons_of_neg (by simp only [decide_eq_true_eq]; omega), List.length_cons, List.take_succ_cons, List.drop_succ_cons, i1, i2]
      exact ⟨rfl, rfl⟩
    · have e : (x :: r).filter (fun y => decide ((y.1 : Int) < z)) = [] := by
        apply List.filter_eq_nil_iff.2
        intro y hy
        rcases List.mem_cons.1 hy with rfl | hy
        · simpa using c
        · have := h.head y hy
          simp only [decide_eq_true_eq]; omega
      have e2 : (x :: r).filter (fun y => decide (z ≤ (y.1 : Int))) = x :: r := by
        apply List.filter_eq_self.2
        intro y hy
        rcases List.mem_cons.1 hy with rfl | hy
        · simp only [decide_eq_true_eq]; omega
        · have := h.head y hy
          simp only [decide_eq_true_eq]; omega
      rw [e, e2]
      exact ⟨rfl, rfl⟩
theorem idx_le (l : List KV) (z : Int) : idx l z ≤ l.length := List.length_filter_le _ _
theorem idx_is {l : List KV} (h : Fine l) {z : Int} {k : Nat} (hk : k ≤ l.length) (h1 : ∀ j, (hj : j < l.length) → j < k → (l[j].1 : Int) < z) (h2 : (hk : k < l.length) → z ≤ (l[k].1 : Int)) : idx l z = k := by
  have e : l.filter (fun x => decide ((x.1 : Int) < z)) = l.take k := by
    have e1 : (l.take k).filter (fun x => decide ((x.1 : Int) < z)) = l.take k := by
      apply List.filter_eq_self.2
      intro y hy
      obtain ⟨j, hj, rfl⟩ := List.getElem_of_mem hy
      rw [List.length_take] at hj
      rw [List.getElem_take]
      simpa using h1 j (by omega) (by omega)
    have e2 : (l.drop k).filter (fun x => decide ((x.1 : Int) < z)) = [] := by
      apply List.filter_eq_nil_iff.2
      intro y hy
      obtain ⟨j, hj, rfl⟩ := List.getElem_of_mem hy
      rw [List.length_drop] at hj
      rw [List.getElem_drop]
      have a := h2 (by omega)
      have b : l[k].1 ≤ (l[k + j]'(by omega)).1 := by
        by_cases x : j = 0
        · subst x; exact Nat.le_refl _
        · exact Nat.le_of_lt (List.pairwise_iff_getElem.1 h.up k (k + j) (by omega) (by omega) (by omega))
      simp only [decide_eq_true_eq]; omega
    have := List.filter_append (p := fun x : KV => decide ((x.1 : Int) < z)) (l.take k) (l.drop k)
    rw [List.take_append_drop, e1, e2, List.append_nil] at this
    exact this
  unfold idx
  rw [e, List.length_take]
  omega
theorem found_at {l : List KV} (h : Fine l) {z : Int} {k : Nat} (hk : k < l.length) (h1 : ∀ j, (hj : j < l.length) → j < k → (l[j].1 : Int) < z) (h2 : z ≤ (l[k].1 : Int)) : foundB l z = decide ((l[k].1 : Int) = z) := by
  unfold foundB
  by_cases c : (l[k].1 : Int) = z
  · rw [decide_eq_true c]
    exact List.any_eq_true.2 ⟨_, List.getElem_mem hk, by simpa using c⟩
  · rw [decide_eq_false c]
    apply List.any_eq_false.2
    intro y hy
    obtain ⟨j, hj, rfl⟩ := List.getElem_of_mem hy
    simp only [decide_eq_true_eq]
    by_cases x : j < k
    · have := h1 j hj x; omega
    · by_cases x2 : j = k
      · subst x2; exact c
      · have := List.pairwise_iff_getElem.1 h.up k j hk hj (by omega)
        omega
theorem found_none {l : List KV} {z : Int} (h1 : ∀ j, (hj : j < l.length) → (l[j].1 : Int) < z) : foundB l z = false := by
  apply List.any_eq_false.2
  intro y hy
  obtain ⟨j, hj, rfl⟩ := List.getElem_of_mem hy
  have := h1 j hj
  simp only [decide_eq_true_eq]; omega
theorem found_got {l : List KV} (h : Fine l) (z : Int) : foundB l z = (got l z).isSome := by
  cases e : got l z with
  | none =>
    apply List.any_eq_false.2
    intro x hx
    simp only [decide_eq_true_eq]
    intro ez
    have hs := h.small x hx
    rw [← ez, got_nat hs] at e
    exact val_none_not e x hx rfl
  | some v =>
    have hz : isK z = true := by
      unfold got at e
      split at e
      · assumption
      · cases e
    obtain ⟨k, rfl, hk⟩ := isK_of hz
    rw [got_nat hk] at e
    exact List.any_eq_true.2 ⟨_, val_mem e, by simp⟩

set_option maxHeartbeats 400000 in
theorem refAt_any {C : Nat} {v : Value} {l : List KV} (z : Int) (w : World) (h : w.ownsRow C 47 2 v l.length (kvv l)) (hf : Fine l) :
    Calls Try.prog 17 #[v, .int .i64 z] w fun e w' => e = .returned (.tuple #[.int .i64 (idx l z : Nat), .bool (foundB l z)]) ∧ ∃ m, w' = w.drewN m := by
  obtain ⟨a, c, rfl⟩ := row_slice h
  have H : Hid (w.ownsRow C 47 2 (.slice a l.length c) l.length (kvv l)) := h
  have hlen := hf.len
  have HF : Hid (Fine l) := hf
  clear h hf
  go_enter Try.func17, Try.ntmps17
  go_wp2
  go_loop [6] (fun i => ∃ k : Nat, k ≤ l.length ∧ i = .int .i64 k ∧ ∀ j, (hj : j < l.length) → j < k → (l[j].1 : Int) < z) (fun i => l.length - (intOf i).toNat)
  case atStart => exact ⟨0, Nat.zero_le _, rfl, by intro j _ hj; omega⟩
  case round =>
    obtain ⟨k, hk, rfl, hl⟩ := hrel
    have HL : Hid _ := hl
    clear hl
    by_cases hlt : k < l.length
    · obtain ⟨g, rfl, hc, _⟩ := row_at2 H.out hlt
      rw [(kvv_at l k hlt).1] at hc
      have eg : l.getD k (0, 0) = l[k] := by simp [List.getD, hlt]
      rw [eg] at hc
      have hlt' : (k : Int) < (l.length : Int) := by omega
      by_cases e : z ≤ (l[k].1 : Int)
      · have E1 : Hid (idx l z = k) := idx_is HF.out hk HL.out (fun _ => e)
        have E2 : Hid (foundB l z = decide ((l[k].1 : Int) = z)) := found_at HF.out hlt HL.out e
        generalize l[k].1 = q at *
        go_wp2_with fail
        go_quiet (fail)
        go_wp2
        go_ret2
        exact ⟨by rw [E1.out, E2.out]; rfl, _, rfl⟩
      · have E1 : Hid ((l[k].1 : Int) < z) := by show _ < _; omega
        generalize hq : l[k].1 = q at *
        have hd : decide (z ≤ (q : Int)) = false := decide_eq_false e
        have HQ : Hid _ := hq
        clear hq
        go_wp2
        go_round
        case rel =>
          refine ⟨k + 1, by omega, by go_num, ?_⟩
          intro j hj hjk
          by_cases e2 : j = k
          · subst e2; rw [HQ.out]; exact E1.out
          · exact HL.out j hj (by omega)
        case measure => simp [intOf]; omega
    · have e : k = l.length := by omega
      have E1 : Hid (idx l z = k) := idx_is HF.out hk HL.out (fun h => absurd h hlt)
      have E2 : Hid (foundB l z = false) := found_none (fun j hj => HL.out j hj (by omega))
      go_wp2
      go_ret2
      exact ⟨by rw [E1.out, E2.out, e]; rfl, 0, rfl⟩

theorem kvv_split (l : List KV) (j : Nat) : kvv l = kvv (l.take j) ++ kvv (l.drop j) := by rw [← kvv_app, List.take_append_drop]
theorem kvv_one (l : List KV) : ∀ u ∈ kvv l, u.oneCell' = true := by
  intro u hu
  obtain ⟨x, _, hx⟩ := List.mem_flatMap.1 hu
  exact two_one _ _ u hx
theorem row_cap {w : World} {base n c : Nat} {e : TypeId} {size : Nat} {a : Addr} {xs : List Value} (h : w.ownsRow base e size (.slice (some a) n c) n xs) : n ≤ c ∧ c ≤ maxLen := by
  rcases h.2 with ⟨h1, _⟩ | ⟨g, cap, cur, h1, _, _, h4, h5, _⟩
  · simp at h1
  · simp only [Value.slice.injEq, true_and] at h1
    obtain ⟨_, rfl⟩ := h1
    exact ⟨h4, h5⟩
theorem head_at {w : World} {B g c : Nat} {l : List KV} (h : w.ownsRow B 47 2 (.slice (some ⟨g, 0, none⟩) l.length c) l.length (kvv l)) (j : Nat) : ∀ i u, (kvv (l.take j))[i]? = some u → w.cell? ((⟨g, 0, none⟩ : Addr).add i) = some u := by
  intro i u hu
  refine h.cells rfl i u ?_
  rw [kvv_split l j, List.getElem?_append_left (List.getElem?_eq_some_iff.1 hu).1]
  exact hu
theorem tail_at {w : World} {B g c : Nat} {l : List KV} (h : w.ownsRow B 47 2 (.slice (some ⟨g, 0, none⟩) l.length c) l.length (kvv l)) {j : Nat} (hj : j ≤ l.length) :
    ∃ A : Addr, (if c = j then some (⟨g, 0, none⟩ : Addr) else some ⟨g, j * 2, none⟩) = some A ∧ ∀ i u, (kvv (l.drop j))[i]? = some u → w.cell? (A.add i) = some u := by
  have hc := (row_cap h).1
  by_cases e : c = j
  · refine ⟨⟨g, 0, none⟩, by rw [if_pos e], ?_⟩
    intro i u hu
    have := (List.getElem?_eq_some_iff.1 hu).1
    rw [kvv_len, List.length_drop] at this
    omega
  · refine ⟨⟨g, j * 2, none⟩, by rw [if_neg e], ?_⟩
    intro i u hu
    have h1 := h.cells rfl (j * 2 + i) u (by
      have e2 : (kvv (l.take j)).length = j * 2 := by rw [kvv_len, List.length_take]; omega
      rw [kvv_split l j, List.getElem?_append_right (by omega), e2, show j * 2 + i - j * 2 = i by omega]
      exact hu)
    rw [Addr.add_lit] at h1 ⊢
    simpa using h1
theorem set_split {l : List KV} (h : Fine l) (k : Nat) : l.take (idx l (k : Nat)) = lo l k ∧ l.drop (idx l (k : Nat) + if foundB l (k : Nat) then 1 else 0) = hi l k ∧ idx l (k : Nat) + (if foundB l (k : Nat) then 1 else 0) ≤ l.length := by
  obtain ⟨h1, h2⟩ := split_idx h (k : Nat)
  have hh : frm l ((k : Int) + 1) = hi l k := by
    apply List.filter_congr
    intro x _
    exact decide_eq_decide.2 (by omega)
  refine ⟨?_, ?_⟩
  · rw [h1]
    apply List.filter_congr
    intro x _
    exact decide_eq_decide.2 (by omega)
  · have hle := idx_le l (k : Nat)
    cases hf : foundB l (k : Nat) with
    | false =>
      refine ⟨?_, by simpa using hle⟩
      rw [if_neg (by simp), Nat.add_zero, h2, ← hh]
      apply List.filter_congr
      intro x hx
      have := List.any_eq_false.1 hf x hx
      simp only [decide_eq_true_eq] at this
      exact decide_eq_decide.2 (by omega)
    | true =>
      obtain ⟨x, hx, e⟩ := List.any_eq_true.1 hf
      simp only [decide_eq_true_eq] at e
      have hx2 : x ∈ frm l (k : Nat) := List.mem_filter.2 ⟨hx, by simp only [decide_eq_true_eq]; omega⟩
      have hlt : idx l (k : Nat) < l.length := by
        by_cases c : idx l (k : Nat) < l.length
        · exact c
        · rw [← h2, List.drop_of_length_le (by omega)] at hx2
          simp at hx2
      refine ⟨?_, by rw [if_pos rfl]; omega⟩
      rw [if_pos rfl]
      have hhd := frm_here h (k := k) (v := x.2) (by rw [show k = x.1 by omega]; exact hx)
      rw [← h2, List.head?_drop, List.getElem?_eq_getElem hlt] at hhd
      have e1 : l[idx l (k : Nat)].1 = k := by rw [Option.some.inj hhd]
      have := frm_drop h _ hlt
      rw [e1, hh] at this
      exact this.symm
set_option maxHeartbeats 1000000 in
theorem refSet_bad {C : Nat} {x : Value} {l : List KV} (z v : Int) (w : World) (h : w.ownsRow C 47 2 x l.length (kvv l)) (hz : isK z = false) :
    Calls Try.prog 13 #[x, .int .i64 z, .int .u64 v] w fun e w' => e = .returned (.tuple #[x, .bool false]) ∧ w = w' := by
  obtain ⟨a, c, rfl⟩ := row_slice h
  have hz2 : ¬ (0 ≤ z ∧ z ≤ 65535) := by simpa [isK] using hz
  by_cases h1 : z < 0
  · go_enter Try.func13, Try.ntmps13
    go_wp2
    go_ret2
    exact ⟨rfl, rfl⟩
  · have h2 : 65535 < z := by omega
    go_enter Try.func13, Try.ntmps13
    go_wp2
    go_ret2
    exact ⟨rfl, rfl⟩
set_option maxHeartbeats 1000000 in
theorem refSet_key {C k : Nat} {x : Value} {l : List KV} (hk : k < 65536) (v : Int) (w : World) (h : w.ownsRow C 47 2 x l.length (kvv l)) (hf : Fine l) :
    Calls Try.prog 13 #[x, .int .i64 (k : Nat), .int .u64 v] w fun e w' => ∃ x', e = .returned (.tuple #[x', .bool true]) ∧
      w'.ownsRow w.heap.size 47 2 x' (ins l k v).length (kvv (ins l k v)) ∧ Below w.heap.size w w' := by
  obtain ⟨i0, hi, hz0, hz1, hz2⟩ := info_parts Try.infoK
  have hlen := hf.len
  obtain ⟨a, c, rfl⟩ := row_slice h
  obtain ⟨s1, s2, s3⟩ := set_split hf k
  have hjl := idx_le l (k : Nat)
  have HX : Hid (w.ownsRow C 47 2 (.slice a l.length c) l.length (kvv l)) := h
  have HF : Hid (Fine l) := hf
  have HE : Hid (ins l k v = l.take (idx l (k : Nat)) ++ (k, v) :: l.drop (idx l (k : Nat) + if foundB l (k : Nat) then 1 else 0)) := by show _ = _; rw [s1, s2]; rfl
  clear s1 s2
  go_enter Try.func13, Try.ntmps13
  go_wp2_with fail
  refine (refAt_any (k : Nat) w HX.out HF.out).mono ?_
  rintro e w1 ⟨rfl, q, rfl⟩
  generalize idx l (k : Nat) = j at *
  generalize foundB l (k : Nat) = fb at *
  have h1 : (w.drewN q).ownsRow C 47 2 (.slice a l.length c) l.length (kvv l) := row_below HX.out (drewN_below _ _ _)
  have hbw : Below w.heap.size w (w.drewN q) := drewN_below _ _ _
  have hsz : (w.drewN q).heap.size = w.heap.size := by rw [heap_drewN]
  generalize w.drewN q = w1 at *
  have HSZ : Hid (w1.heap.size = w.heap.size) := hsz
  have HBW : Hid (Below w.heap.size w w1) := hbw
  clear hsz hbw
  cases a with
  | none =>
    have hl0 : l = [] := by
      rcases h1.2 with ⟨_, h2⟩ | ⟨g, cap, cur, h2, _⟩
      · exact List.eq_nil_of_length_eq_zero h2
      · simp at h2
    subst hl0
    have hj0 : j = 0 := by simpa using hjl
    subst hj0
    have hfb : fb = false := by cases fb <;> simp_all
    subst hfb
    have hc0 : c = 0 := by
      rcases h1.2 with ⟨h2, _⟩ | ⟨g, cap, cur, h2, _⟩
      · simp at h2; exact h2
      · simp at h2
    subst hc0
    have HE2 : Hid (ins [] k v = [(k, v)]) := rfl
    clear HX h h1 HE s3
    go_wp2_with (first | (at_builtin; refine wpList_append_own_none rfl _ _ 24 rfl w1.heap.size 47 i0 2 Try.underlying24 hi _ 0 [] rfl (World.ownsRow_made w1 #[] 0 (Nat.le_refl _) (by unfold maxLen; omega) rfl) rfl ?_) | (at_builtin; refine wpList_append_own _ rfl _ _ 24 rfl w1.heap.size 47 i0 _ 2 16 Try.underlying24 hi hz0 hz1 hz2 rfl (by decide) _ _ _ rfl ((World.ownsRow_made w1 #[] 0 (Nat.le_refl _) (by unfold maxLen; omega) rfl).alloc _) ⟨w1.heap.size + 1, 0, none⟩ 1 1 [.int .i64 (k : Int), .int .u64 v] rfl rfl ?c1 (two_one _ _) ?c3 ?c4 ?c5 ?_))
    case c1 =>
      intro j u hj
      match j, hj with
      | 0, hj => simp at hj; subst hj; simp [Addr.add]
      | 1, hj => simp at hj; subst hj; simp [Addr.add]
    case c3 => unfold maxLen; omega
    case c4 => omega
    case c5 => simp; omega
    intro v2 w2 own2 gr2 _
    have b2 : Below w1.heap.size w1 w2 := by
      refine (((Below.refl _ w1).alloc (Nat.le_refl _) _).alloc (by simp) _).grown gr2 (by simp; omega) (fun i hi => ?_)
      simp [Value.ownBlock] at hi
      omega
    obtain ⟨a2, c2, rfl⟩ := row_slice own2
    have HO2 : Hid (w2.ownsRow w1.heap.size 47 2 (.slice a2 (0 + 1) c2) (0 + 1) ([] ++ [.int .i64 (k : Int), .int .u64 v])) := own2
    have HB2 : Hid (Below w.heap.size w w2) := HBW.out.trans (b2.mono (by rw [HSZ.out]; exact Nat.le_refl _))
    clear own2 gr2 b2
    go_wp2_with (at_builtin; refine wpList_append_own_none rfl _ _ 24 rfl w1.heap.size 47 i0 2 Try.underlying24 hi _ 1 _ rfl HO2.out rfl ?_)
    go_ret2
    exact ⟨_, rfl, by rw [HE2.out, ← HSZ.out]; exact HO2.out, HB2.out⟩
  | some ad =>
    have hg : ∃ g, ad = ⟨g, 0, none⟩ := by
      rcases h1.2 with ⟨h2, _⟩ | ⟨g, cap, cur, h2, _⟩
      · simp at h2
      · simp at h2; exact ⟨g, h2.1⟩
    obtain ⟨g, rfl⟩ := hg
    obtain ⟨hg1, hg2⟩ := h1.lt g rfl
    obtain ⟨hcap, hcm⟩ := row_cap h1
    unfold maxLen at hcm
    have HC1 : Hid _ := head_at h1 j
    have LN1 : Hid ((kvv (l.take j)).length = j * 2) := by show _ = _; rw [kvv_len, List.length_take]; omega
    have hjc : (j : Int) ≤ (c : Int) := by omega
    clear HX h
    go_wp2_with (at_builtin; refine wpList_append_own _ rfl _ _ 24 rfl w1.heap.size 47 i0 _ 2 16 Try.underlying24 hi hz0 hz1 hz2 rfl (by decide) _ _ _ rfl (World.ownsRow_made w1 #[] 0 (Nat.le_refl _) (by unfold maxLen; omega) rfl) ⟨g, 0, none⟩ j c (kvv (l.take j)) rfl LN1.out ?c1 (kvv_one _) ?c3 ?c4 ?c5 ?_)
    case c1 =>
      intro i u hu
      have h3 := HC1.out i u hu
      rw [Addr.add_lit] at h3 ⊢
      rw [← h3]
      exact World.cell?_of_block (Below.heap_alloc w1 _ g hg2)
    case c3 => unfold maxLen; omega
    case c4 => omega
    case c5 => simp
    intro v2 w2 own2 gr2 _
    have b2 : Below w1.heap.size w1 w2 := ((Below.refl _ w1).alloc (Nat.le_refl _) _).grown gr2 (by simp) (fun i hi => by simp [Value.ownBlock] at hi; omega)
    have own2' : w2.ownsRow w1.heap.size 47 2 v2 j (kvv (l.take j)) := by simpa using own2
    obtain ⟨a2, c2, rfl⟩ := row_slice own2'
    have h2r : w2.ownsRow C 47 2 (.slice (some ⟨g, 0, none⟩) l.length c) l.length (kvv l) := row_below h1 b2
    have hs2 := b2.size
    have B2 : Hid (Below w1.heap.size w1 w2) := b2
    clear gr2 own2 b2 HC1 h1
    go_wp2_with (at_builtin; refine wpList_append_own _ rfl _ _ 24 rfl w1.heap.size 47 i0 _ 2 16 Try.underlying24 hi hz0 hz1 hz2 rfl (by decide) _ _ _ rfl (own2'.alloc _) ⟨w2.heap.size, 0, none⟩ 1 1 [.int .i64 (k : Int), .int .u64 v] rfl rfl (two_new w2 _ _ _) (two_one _ _) ?d3 ?d4 ?d5 ?_)
    case d3 => unfold maxLen; omega
    case d4 => omega
    case d5 => simp; omega
    intro v3 w3 own3 gr3 _
    have b3 : Below w1.heap.size w1 w3 := (B2.out.alloc B2.out.size _).grown gr3 (by have := B2.out.size; simp; omega) (fun i hi => (own2'.lt i hi).1)
    obtain ⟨a3, c3, rfl⟩ := row_slice own3
    have h3r : w3.ownsRow C 47 2 (.slice (some ⟨g, 0, none⟩) l.length c) l.length (kvv l) := by
      refine ⟨h2r.1, ?_⟩
      rcases h2r.2 with ⟨e1, _⟩ | ⟨g', cap, cur, e1, e2, e3, e4⟩
      · simp at e1
      · refine .inr ⟨g', cap, cur, e1, e2, ?_, e4⟩
        simp at e1
        rw [← e1.1, b3.block g hg2, ← B2.out.block g hg2, e1.1]; exact e3
    have hs3 := b3.size
    have B3 : Hid (Below w1.heap.size w1 w3) := b3
    have HFIN : Hid (∀ (v4 : Value) (w4 : World) (n : Nat) (xs : List Value), w4.ownsRow w1.heap.size 47 2 v4 n xs → n = j + 1 + (l.length - (j + if fb then 1 else 0)) → xs = kvv (l.take j) ++ [.int .i64 (k : Int), .int .u64 v] ++ kvv (l.drop (j + if fb then 1 else 0)) →
        w4.ownsRow w.heap.size 47 2 v4 (ins l k v).length (kvv (ins l k v))) := by
      intro v4 w4 n xs h4 en ex
      subst en ex
      rw [HE.out, kvv_app, List.length_append, List.length_take, List.length_cons, List.length_drop]
      rw [HSZ.out] at h4
      have e1 : min j l.length + (l.length - (j + (if fb then 1 else 0)) + 1) = j + 1 + (l.length - (j + (if fb then 1 else 0))) := by omega
      rw [e1]
      rw [List.append_assoc] at h4
      exact h4
    have HO3 : Hid (w3.ownsRow w1.heap.size 47 2 (.slice a3 (j + 1) c3) (j + 1) (kvv (l.take j) ++ [.int .i64 (k : Int), .int .u64 v])) := own3
    obtain ⟨A, hA, hAc⟩ := tail_at h3r s3
    have HAC : Hid _ := hAc
    have LN2 : Hid ((kvv (l.drop (j + if fb then 1 else 0))).length = (l.length - (j + if fb then 1 else 0)) * 2) := by show _ = _; rw [kvv_len, List.length_drop]
    clear gr3 b3 own2' own3 h2r h3r hAc HE
    cases fb with
    | true =>
      simp only [if_true] at hA s3 HFIN HAC LN2
      have hj3 : 0 ≤ (j : Int) + 1 := by omega
      have hj4 : (j : Int) + 1 ≤ (l.length : Int) := by omega
      go_wp2_with (at_builtin; go_loud (refine wpList_append_own _ rfl _ _ 24 rfl w1.heap.size 47 i0 _ 2 16 Try.underlying24 hi hz0 hz1 hz2 rfl (by decide) _ _ _ rfl HO3.out A (l.length - (j + 1)) (c - (j + 1)) (kvv (l.drop (j + 1))) rfl LN2.out HAC.out (kvv_one _) ?e3 ?e4 ?e5 ?_))
      case e3 => unfold maxLen; omega
      case e4 => omega
      case e5 => omega
      intro v4 w4 own4 gr4 _
      have b4 : Below w1.heap.size w1 w4 := B3.out.grown gr4 (by omega) (fun i hi => (HO3.out.lt i hi).1)
      have HO4 : Hid _ := HFIN.out v4 w4 _ _ own4 (by omega) (by simp)
      have HB4 : Hid (Below w.heap.size w w4) := HBW.out.trans (b4.mono (by rw [HSZ.out]; exact Nat.le_refl _))
      clear own4 gr4 b4
      go_wp2
      go_ret2
      exact ⟨_, rfl, HO4.out, HB4.out⟩
    | false =>
      simp only [Bool.false_eq_true, if_false, Nat.add_zero] at hA s3 HFIN HAC LN2
      have hj4 : (j : Int) ≤ (l.length : Int) := by omega
      go_wp2_with (at_builtin; go_loud (refine wpList_append_own _ rfl _ _ 24 rfl w1.heap.size 47 i0 _ 2 16 Try.underlying24 hi hz0 hz1 hz2 rfl (by decide) _ _ _ rfl HO3.out A (l.length - j) (c - j) (kvv (l.drop j)) rfl LN2.out HAC.out (kvv_one _) ?e3 ?e4 ?e5 ?_))
      case e3 => unfold maxLen; omega
      case e4 => omega
      case e5 => omega
      intro v4 w4 own4 gr4 _
      have b4 : Below w1.heap.size w1 w4 := B3.out.grown gr4 (by omega) (fun i hi => (HO3.out.lt i hi).1)
      have HO4 : Hid _ := HFIN.out v4 w4 _ _ own4 (by omega) (by simp)
      have HB4 : Hid (Below w.heap.size w w4) := HBW.out.trans (b4.mono (by rw [HSZ.out]; exact Nat.le_refl _))
      clear own4 gr4 b4
      go_wp2
      go_ret2
      exact ⟨_, rfl, HO4.out, HB4.out⟩
end Go.Proofs.Ytkghedllkigecaa
