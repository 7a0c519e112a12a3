/- The walks of From, of the function that it tells keys by, and of the law's own 'from'. -/
import Derived.Test.YtkghedllkigecaaRNext
namespace Go.Proofs.Ytkghedllkigecaa
open Go.RowKit

def kvv (l : List KV) : List Value := l.flatMap fun x => [Value.int .i64 (x.1 : Nat), Value.int .u64 x.2]
theorem kvv_len (l : List KV) : (kvv l).length = l.length * 2 := by
  induction l with
  | nil => rfl
  | cons x r ih => simp only [kvv, List.flatMap_cons, List.length_append, List.length_cons, List.length_nil] at *; omega
theorem kvv_app (a b : List KV) : kvv (a ++ b) = kvv a ++ kvv b := by simp [kvv]
theorem kvv_at : ∀ (l : List KV) (i : Nat), i < l.length → (kvv l)[i * 2]? = some (.int .i64 (l.getD i (0, 0)).1) ∧ (kvv l)[i * 2 + 1]? = some (.int .u64 (l.getD i (0, 0)).2)
  | [], i, h => by simp at h
  | x :: r, 0, _ => by simp [kvv]
  | x :: r, i + 1, h => by
    have ih := kvv_at r i (by simpa using h)
    have e : kvv (x :: r) = [Value.int .i64 (x.1 : Nat), Value.int .u64 x.2] ++ kvv r := rfl
    rw [e, List.getElem?_append_right (by simp; omega), List.getElem?_append_right (by simp; omega)]
    simp only [List.length_cons, List.length_nil, List.getD_cons_succ]
    rw [show (i + 1) * 2 - (0 + 1 + 1) = i * 2 by omega, show (i + 1) * 2 + 1 - (0 + 1 + 1) = i * 2 + 1 by omega]
    exact ih
theorem row_slice {w : World} {base : Nat} {e : TypeId} {size n : Nat} {v : Value} {xs : List Value} (h : w.ownsRow base e size v n xs) : ∃ a c, v = .slice a n c := by
  rcases h.2 with ⟨h1, h2⟩ | ⟨g, cap, cur, h1, _⟩
  · subst h2; exact ⟨_, _, h1⟩
  · exact ⟨_, _, h1⟩
theorem row_at2 {w : World} {base n c : Nat} {e : TypeId} {a : Option Addr} {xs : List Value} (h : w.ownsRow base e 2 (.slice a n c) n xs) {i : Nat} (hi : i < n) :
    ∃ g, a = some ⟨g, 0, none⟩ ∧ w.cell? ⟨g, i * 2, none⟩ = xs[i * 2]? ∧ w.cell? ⟨g, i * 2 + 1, none⟩ = xs[i * 2 + 1]? ∧ base ≤ g ∧ g < w.heap.size := by
  rcases h.2 with ⟨_, h2⟩ | ⟨g, cap, cur, h1, h2, h3, _⟩
  · omega
  · simp only [Value.slice.injEq, true_and] at h1
    obtain ⟨rfl, rfl⟩ := h1
    exact ⟨g, rfl, h.cellAt _ (by omega), h.cellAt _ (by omega), h2, (Array.getElem?_eq_some_iff.1 h3).1⟩
theorem row_below {w w' : World} {base : Nat} {e : TypeId} {size n : Nat} {v : Value} {xs : List Value} (h : w.ownsRow base e size v n xs) (hb : Below w.heap.size w w') : w'.ownsRow base e size v n xs := by
  refine ⟨h.1, ?_⟩
  rcases h.2 with h1 | ⟨g, cap, cur, h1, h2, h3, r⟩
  · exact .inl h1
  · exact .inr ⟨g, cap, cur, h1, h2, by rw [hb.block g (Array.getElem?_eq_some_iff.1 h3).1]; exact h3, r⟩
theorem rowMono {w : World} {base base' : Nat} {e : TypeId} {size : Nat} {v : Value} {n : Nat} {xs : List Value} (h : w.ownsRow base e size v n xs) (hb : base' ≤ base) : w.ownsRow base' e size v n xs := by
  refine ⟨h.1, ?_⟩
  rcases h.2 with h1 | ⟨g, cap, cur, h1, h2, r⟩
  · exact .inl h1
  · exact .inr ⟨g, cap, cur, h1, by omega, r⟩
theorem row_form {w : World} {base : Nat} {e : TypeId} {size n : Nat} {v : Value} {xs : List Value} (h : w.ownsRow base e size v n xs) (hv : ¬ v = .slice none 0 0) : ∃ g cap, v = .slice (some ⟨g, 0, none⟩) n cap := by
  rcases h.2 with ⟨h1, _⟩ | ⟨g, cap, cur, h1, _⟩
  · exact absurd h1 hv
  · exact ⟨g, cap, h1⟩
theorem two_new (w : World) (t : TypeId) (u v : Value) : ∀ j x, [u, v][j]? = some x → (w.alloc (.cells #[u, v] t)).cell? ((⟨w.heap.size, 0, none⟩ : Addr).add j) = some x := by
  intro j x hj
  match j, hj with
  | 0, hj => simp at hj; subst hj; simp [Addr.add]
  | 1, hj => simp at hj; subst hj; simp [Addr.add]
theorem two_one (n m : Int) : ∀ u ∈ [Value.int .i64 n, Value.int .u64 m], u.oneCell' = true := by
  intro u hu
  simp at hu
  rcases hu with rfl | rfl <;> rfl
theorem Try.infoK : (Try.prog.info? 47).map (fun i => (i.zero, i.size, i.bytes)) = some (some (.agg #[.int .i64 0, .int .u64 0]), 2, 16) := by kernel_rfl

/-- A list of keys in a variable of one's own (block c); its row lies from D on. -/
def LAt (c D : Nat) (w : World) (l : List KV) : Prop := ∃ v, w.heap[c]? = some (.cells #[v] 24 (0, 0)) ∧ w.ownsRow D 47 2 v l.length (kvv l)
/-- Below D no block but c turns. -/
structure Beside (c D : Nat) (w w' : World) : Prop where
  os : w'.os = w.os
  tape : w'.tape = w.tape
  output : w'.output = w.output
  size : w.heap.size ≤ w'.heap.size
  block : ∀ k, k < D → k ≠ c → w'.heap[k]? = w.heap[k]?
theorem Beside.refl (c D : Nat) (w : World) : Beside c D w w := ⟨rfl, rfl, rfl, Nat.le_refl _, fun _ _ _ => rfl⟩
theorem Beside.trans {c D : Nat} {a b d : World} (h : Beside c D a b) (k : Beside c D b d) : Beside c D a d :=
  ⟨k.os.trans h.os, k.tape.trans h.tape, k.output.trans h.output, Nat.le_trans h.size k.size, fun i h1 h2 => (k.block i h1 h2).trans (h.block i h1 h2)⟩
theorem Beside.below {c D : Nat} {w w' : World} (h : Beside c D w w') (hc : c ≤ D) : Below c w w' := ⟨h.os, h.tape, h.output, h.size, fun k hk => h.block k (by omega) (by omega)⟩
theorem Beside.of_below {c D : Nat} {w w' : World} (h : Below w.heap.size w w') (hD : D ≤ w.heap.size) : Beside c D w w' := ⟨h.os, h.tape, h.output, h.size, fun k hk _ => h.block k (by omega)⟩
theorem Beside.cell {c D : Nat} {w w' : World} (h : Beside c D w w') {p : Addr} (h1 : p.block < D) (h2 : p.block ≠ c) : w'.cell? p = w.cell? p := World.cell?_of_block (w := w) (h.block p.block h1 h2)
theorem LAt.below {c D : Nat} {w w' : World} {l : List KV} (h : LAt c D w l) (hb : Below w.heap.size w w') : LAt c D w' l := by
  obtain ⟨v, h1, h2⟩ := h
  exact ⟨v, by rw [hb.block c (Array.getElem?_eq_some_iff.1 h1).1]; exact h1, row_below h2 hb⟩

set_option maxHeartbeats 400000 in
theorem yield_any {c cm D : Nat} {l : List KV} (n : Nat) (x : Int) (most : Int) (w : World) (h : LAt c D w l) (hm : w.cell? ⟨cm, 0, none⟩ = some (.int .i64 most)) (hcm : cm < c) (hcD : c < D) (hD : D ≤ w.heap.size) (hl : l.length ≤ 65536) :
    Calls Try.prog 20 #[.int .i64 n, .int .u64 x, .pointer (some ⟨c, 0, none⟩), .pointer (some ⟨cm, 0, none⟩)] w fun e w' =>
      e = .returned (.bool ((l.length : Int) + 1 != most)) ∧ LAt c D w' (l ++ [(n, x)]) ∧ Beside c D w w' := by
  obtain ⟨i0, hi, hz0, hz1, hz2⟩ := info_parts Try.infoK
  obtain ⟨v, hv, hown⟩ := h
  have cV := cell_of_one hv
  have fV := free_of_one hv
  have hcl := (Array.getElem?_eq_some_iff.1 hv).1
  go_enter Try.func20, Try.ntmps20
  go_wp2_with (at_builtin; refine wpList_append_own _ rfl _ _ 24 rfl D 47 i0 _ 2 16 Try.underlying24 hi hz0 hz1 hz2 rfl (by decide) _ _ _ rfl (hown.alloc _) ⟨w.heap.size, 0, none⟩ 1 1 [.int .i64 (n : Int), .int .u64 x] rfl rfl (two_new w _ _ _) (two_one _ _) ?c3 ?c4 ?c5 ?_)
  case c3 => unfold maxLen; omega
  case c4 => omega
  case c5 => simp; omega
  intro v' w2 hown' hgr' _
  have hg1 : Below D w w2 := ((Below.refl D w).alloc hD _).grown hgr' (by simp; omega) (fun k hk => by have := hown.lt k hk; omega)
  have hv2 : w2.heap[c]? = some (.cells #[v] 24 (0, 0)) := by rw [hg1.block c hcD]; exact hv
  have hm2 : w2.cell? ⟨cm, 0, none⟩ = some (.int .i64 most) := by rw [hg1.cell (p := ⟨cm, 0, none⟩) (Nat.lt_trans hcm hcD)]; exact hm
  obtain ⟨g', cap', rfl⟩ := row_form hown' (by assumption)
  have cV2 := cell_of_one hv2
  have fV2 := free_of_one hv2
  have hne : cm ≠ c := by omega
  have hown2 := ownsRow_setCell_below hown' (a := ⟨c, 0, none⟩) hcD (.slice (some ⟨g', 0, none⟩) (l.length + 1) cap')
  have hl2 : LAt c D (w2.setCell ⟨c, 0, none⟩ (.slice (some ⟨g', 0, none⟩) (l.length + 1) cap')) (l ++ [(n, x)]) := by
    refine ⟨_, one_setCell hv2, ?_⟩
    rw [List.length_append, kvv_app]
    exact hown2
  have hb2 : Beside c D w (w2.setCell ⟨c, 0, none⟩ (.slice (some ⟨g', 0, none⟩) (l.length + 1) cap')) := by
    refine ⟨hg1.os, hg1.tape, hg1.output, by simpa using hg1.size, fun k hk hne => ?_⟩
    rw [Below.heap_setCell _ _ _ _ hne]
    exact hg1.block k hk
  have HL2 : Hid _ := hl2
  have HB2 : Hid _ := hb2
  clear hl2 hown' hown2 hgr' hg1 hown hv hv2 hb2
  go_wp2
  go_ret
  exact ⟨rfl, HL2.out, HB2.out⟩
theorem yield_is {c cm D : Nat} {l : List KV} (n : Nat) (x : Int) (most : Int) (w : World) (h : LAt c D w l) (hm : w.cell? ⟨cm, 0, none⟩ = some (.int .i64 most)) (hcm : cm < c) (hcD : c < D) (hD : D ≤ w.heap.size) (hl : l.length ≤ 65536) {b : Bool} (hb : ((l.length : Int) + 1 != most) = b) :
    Calls Try.prog 20 #[.int .i64 n, .int .u64 x, .pointer (some ⟨c, 0, none⟩), .pointer (some ⟨cm, 0, none⟩)] w fun e w' =>
      e = .returned (.bool b) ∧ LAt c D w' (l ++ [(n, x)]) ∧ Beside c D w w' := by
  rw [← hb]; exact yield_any n x most w h hm hcm hcD hD hl

/-- As many as are wanted: all, where the number isn't above 0. -/
def upTo (most : Int) (l : List KV) : List KV := if 0 < most then l.take most.toNat else l
theorem upTo_all {l : List KV} {most : Int} (h : most ≤ 0 ∨ (l.length : Int) < most) : upTo most l = l := by
  unfold upTo
  split
  · exact List.take_of_length_le (by omega)
  · rfl
theorem upTo_stop {l : List KV} {most : Int} {k : Nat} (h : (k : Int) + 1 = most) : upTo most l = l.take (k + 1) := by
  unfold upTo
  rw [if_pos (by omega)]
  congr 1
  omega
theorem frm_drop : ∀ {s : List KV} (_ : Fine s) (j : Nat) (hj : j < s.length), frm s ((s[j].1 : Int) + 1) = s.drop (j + 1)
  | [], _, j, hj => by simp at hj
  | x :: r, h, 0, _ => by
    unfold frm
    simp only [List.getElem_cons_zero]
    rw [List.filter_cons_of_neg (by simp only [decide_eq_true_eq]; omega)]
    show List.filter _ r = r
    apply List.filter_eq_self.2
    intro y hy
    have := h.head y hy
    simp only [decide_eq_true_eq]; omega
  | x :: r, h, j + 1, hj => by
    have hj' : j < r.length := by simpa using hj
    have := h.head _ (List.getElem_mem hj')
    have ih := frm_drop h.tail j hj'
    unfold frm at ih ⊢
    simp only [List.getElem_cons_succ]
    rw [List.filter_cons_of_neg (by simp only [decide_eq_true_eq]; omega), ih]; rfl
theorem frm_next {l : List KV} (h : Fine l) (z : Int) {j : Nat} (hj : j < (frm l z).length) : (frm l (((frm l z)[j].1 : Int) + 1)).head? = (frm l z)[j + 1]? := by
  have hs : Fine (frm l z) := h.filter _
  have hz : z ≤ ((frm l z)[j].1 : Int) := by
    have := List.getElem_mem hj
    simpa using (List.mem_filter.1 this).2
  have e : frm l (((frm l z)[j].1 : Int) + 1) = frm (frm l z) (((frm l z)[j].1 : Int) + 1) := by
    generalize ((frm l z)[j].1 : Int) = q at *
    unfold frm
    rw [List.filter_filter]
    apply List.filter_congr
    intro x _
    simp only [← Bool.decide_and]
    exact decide_eq_decide.2 (by omega)
  rw [e, frm_drop hs j hj, List.head?_drop]
def boolOf : Value → Bool
  | .bool b => b
  | _ => false
theorem told_eq (r : Option KV) : told r = .tuple #[.int .i64 (keyOf r : Nat), .int .u64 (valOf r), .bool r.isSome] := rfl
theorem told_some {s : List KV} {j : Nat} (hj : j < s.length) : told s[j]? = .tuple #[.int .i64 (s[j].1 : Nat), .int .u64 s[j].2, .bool true] := by
  rw [List.getElem?_eq_getElem hj]; rfl
theorem told_none {s : List KV} {j : Nat} (hj : ¬ j < s.length) : told s[j]? = .tuple #[.int .i64 0, .int .u64 0, .bool false] := by
  rw [List.getElem?_eq_none (by omega)]; rfl

set_option maxHeartbeats 1000000 in
theorem seq_any {B c cm ct ck : Nat} {p : Option Addr} {l : List KV} (z : Int) (hz : z ≤ 9223372036854775807) (most : Int) (w : World) (hS : ∀ w', Below c w w' → TreeP B w' p l) (hv : w.heap[c]? = some (.cells #[.slice none 0 0] 24 (0, 0)))
    (hm : w.cell? ⟨cm, 0, none⟩ = some (.int .i64 most)) (ht : w.cell? ⟨ct, 0, none⟩ = some (.pointer p)) (hk : w.cell? ⟨ck, 0, none⟩ = some (.int .i64 z)) (hcm : cm < c) (hct : ct < c) :
    Calls Try.prog 26 #[.func (.func 20) #[] #[.pointer (some ⟨c, 0, none⟩), .pointer (some ⟨cm, 0, none⟩)], .pointer (some ⟨ct, 0, none⟩), .pointer (some ⟨ck, 0, none⟩)] w fun e w' =>
      e = .returned (.tuple #[]) ∧ LAt c (c + 1) w' (upTo most (frm l z)) ∧ Below c w w' := by
  have h := hS w (Below.refl _ _)
  have hfl := h.fine
  have hcl := (Array.getElem?_eq_some_iff.1 hv).1
  have HS : Hid _ := hS
  obtain ⟨s, hs⟩ : ∃ s, frm l z = s := ⟨_, rfl⟩
  have hlen : s.length ≤ 65536 := by rw [← hs]; exact (hfl.filter _).len
  have HNX : Hid (∀ (j : Nat) (hj : j < s.length), (frm l ((s[j].1 : Int) + 1)).head? = s[j + 1]?) := by
    subst hs
    exact fun j hj => frm_next hfl z hj
  have HSM : Hid (∀ (j : Nat) (hj : j < s.length), s[j].1 < 65536) := by
    subst hs
    exact fun j hj => (hfl.filter _).small _ (List.getElem_mem hj)
  have HFS : Hid (Fine s) := by
    subst hs
    exact hfl.filter _
  rw [hs]
  go_enter Try.func26, Try.ntmps26
  go_wp2_with fail
  refine (next_any z hz w h).mono ?_
  rw [hs, List.head?_eq_getElem?]
  rintro e w1 ⟨rfl, b1⟩
  rw [told_eq]
  have b1c : Below c w w1 := b1.mono (by omega)
  have hv1 : w1.heap[c]? = some (.cells #[.slice none 0 0] 24 (0, 0)) := by rw [b1.block c hcl]; exact hv
  have hm1 : w1.cell? ⟨cm, 0, none⟩ = some (.int .i64 most) := by rw [b1c.cell (p := ⟨cm, 0, none⟩) hcm]; exact hm
  have ht1 : w1.cell? ⟨ct, 0, none⟩ = some (.pointer p) := by rw [b1c.cell (p := ⟨ct, 0, none⟩) hct]; exact ht
  have la : Hid (LAt c w1.heap.size w1 []) := ⟨_, hv1, World.ownsRow_nil _ _ _ _⟩
  have hD : c < w1.heap.size := Nat.lt_of_lt_of_le hcl b1.size
  have B1C : Hid _ := b1c
  clear hS hv hm ht hk h hfl b1c b1 hv1 hs
  obtain ⟨D, hDe⟩ : ∃ D, D = w1.heap.size := ⟨_, rfl⟩
  rw [← hDe] at hD la
  have HD : Hid _ := hDe
  clear hDe
  go_wp2_with fail
  go_loopw [4, 5, 6] (fun a b d wr => ∃ j : Nat, j ≤ s.length ∧ a = .int .i64 (keyOf s[j]? : Nat) ∧ b = .int .u64 (valOf s[j]?) ∧ d = .bool s[j]?.isSome ∧ LAt c D wr (s.take j) ∧ Beside c D w1 wr ∧ (most ≤ 0 ∨ (j : Int) < most)) (fun a _ d _ => if boolOf d then 65537 - (intOf a).toNat else 0)
  case atStart => exact ⟨0, Nat.zero_le _, rfl, rfl, rfl, la.out, Beside.refl _ _ _, by omega⟩
  case round =>
    obtain ⟨j, hj, rfl, rfl, rfl, hla, hb, hmo⟩ := hrel
    have htr : wr.cell? ⟨ct, 0, none⟩ = some (.pointer p) := by rw [hb.cell (p := ⟨ct, 0, none⟩) (by show ct < D; omega) (by show ct ≠ c; omega)]; exact ht1
    have hmr : wr.cell? ⟨cm, 0, none⟩ = some (.int .i64 most) := by rw [hb.cell (p := ⟨cm, 0, none⟩) (by show cm < D; omega) (by show cm ≠ c; omega)]; exact hm1
    have HMO : Hid _ := hmo
    have HLA : Hid (LAt c D wr (s.take j)) := hla
    have HB : Hid (Beside c D w1 wr) := hb
    have HDr : Hid (D ≤ wr.heap.size) := by show _ ≤ _; rw [HD.out]; exact hb.size
    clear hmo hla hb
    by_cases hlt : j < s.length
    · have ek : keyOf s[j]? = s[j].1 := by rw [List.getElem?_eq_getElem hlt]; rfl
      have ev : valOf s[j]? = s[j].2 := by rw [List.getElem?_eq_getElem hlt]; rfl
      have eb : s[j]?.isSome = true := by rw [List.getElem?_eq_getElem hlt]; rfl
      rw [ek, ev, eb]
      have HT : Hid (s.take (j + 1) = s.take j ++ [(s[j].1, s[j].2)]) := by
        show _ = _
        rw [List.take_add_one, List.getElem?_eq_getElem hlt]; rfl
      have HTL : Hid ((s.take j).length = j) := by show _ = _; rw [List.length_take]; omega
      have hks := HSM.out j hlt
      have HN1 : Hid _ := HNX.out j hlt
      have HSJ : Hid (s[j + 1]?.isSome = true → s[j].1 < keyOf s[j + 1]?) := by
        intro hq
        obtain ⟨y, hy⟩ := Option.isSome_iff_exists.1 hq
        rw [hy]
        obtain ⟨hl1, rfl⟩ := List.getElem?_eq_some_iff.1 hy
        exact List.pairwise_iff_getElem.1 HFS.out.up j (j + 1) hlt hl1 (by omega)
      generalize s[j].1 = kk at *
      generalize s[j].2 = vv at *
      cases hy : ((j : Int) + 1 != most)
      · have HY : Hid ((((s.take j).length : Int) + 1 != most) = false) := by show _ = _; rw [HTL.out]; exact hy
        have HY2 : Hid ((j : Int) + 1 = most) := by show _ = _; simpa using hy
        clear hy ek ev eb
        go_wp2_with fail
        refine (yield_is kk vv most wr HLA.out hmr hcm hD HDr.out (by rw [HTL.out]; omega) HY.out).mono ?_
        rintro e w3 ⟨rfl, hl3, hb3⟩
        go_wp2
        refine bodyPost_ret (v := .tuple #[]) (by simp [results, Try.results26, go_sem]) rfl ⟨rfl, ?_, B1C.out.trans ((HB.out.trans hb3).below (by omega))⟩
        rw [upTo_stop HY2.out, HT.out]
        obtain ⟨v3, h31, h32⟩ := hl3
        exact ⟨v3, h31, rowMono h32 (by omega)⟩
      · have HY : Hid ((((s.take j).length : Int) + 1 != most) = true) := by show _ = _; rw [HTL.out]; exact hy
        have HY2 : Hid ((j : Int) + 1 ≠ most) := by show _ ≠ _; simpa using hy
        clear hy ek ev eb
        go_wp2_with fail
        refine (yield_is kk vv most wr HLA.out hmr hcm hD HDr.out (by rw [HTL.out]; omega) HY.out).mono ?_
        rintro e w3 ⟨rfl, hl3, hb3⟩
        have ht3 : w3.cell? ⟨ct, 0, none⟩ = some (.pointer p) := by rw [hb3.cell (p := ⟨ct, 0, none⟩) (by show ct < D; omega) (by show ct ≠ c; omega)]; exact htr
        have HL3 : Hid (LAt c D w3 (s.take j ++ [(kk, vv)])) := hl3
        have HB3 : Hid (Beside c D w1 w3) := HB.out.trans hb3
        have HTP : Hid (TreeP B w3 p l) := HS.out w3 (B1C.out.trans (HB3.out.below (by omega)))
        have hD3 : D ≤ w3.heap.size := Nat.le_trans HDr.out hb3.size
        clear hl3 hb3
        go_wp2_with fail
        refine (next_any ((kk : Int) + 1) (by omega) w3 HTP.out).mono ?_
        rw [HN1.out]
        rintro e w4 ⟨rfl, b4⟩
        rw [told_eq]
        go_wp2
        go_roundw
        case rel =>
          refine ⟨j + 1, by omega, rfl, rfl, rfl, by rw [HT.out]; exact HL3.out.below b4, HB3.out.trans (.of_below b4 hD3), ?_⟩
          have h1 := HMO.out
          have h2 := HY2.out
          omega
        case measure =>
          have := HSJ.out
          cases hq : s[j + 1]?.isSome with
          | false => simp [boolOf, intOf]; omega
          | true =>
            have := this hq
            simp [boolOf, intOf]; omega
    · have e : s[j]? = none := List.getElem?_eq_none (by omega)
      have ej : j = s.length := by omega
      rw [e]
      go_wp2
      go_end0
      refine ⟨rfl, ?_, B1C.out.trans (HB.out.below (by omega))⟩
      subst ej
      rw [upTo_all HMO.out]
      obtain ⟨v3, h31, h32⟩ := HLA.out
      rw [List.take_length] at h32
      exact ⟨v3, h31, rowMono h32 (by omega)⟩
end Go.Proofs.Ytkghedllkigecaa
