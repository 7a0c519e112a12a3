/- The walk of squeeze.Pack. -/
import Derived.Test.YtgninhecclinaaaQSeq
import Derived.Test.YtgninhecclinaaaKPuts
namespace Go.Proofs.Ytgninhecclinaaa
open Go.RowKit

/-- A page's tokens are bytes of it, or copies. -/
theorem tz_kind {b : List Nat} : ∀ f s, s ≤ b.length → ∀ x ∈ packF b f s, (x.n = 0 ∧ 0 < x.l ∧ x.o + x.l ≤ b.length) ∨ (3 ≤ x.n ∧ x.l = 0)
  | 0, s, _ => by simp [packF]
  | f + 1, s, hs => by
    intro x hx
    rw [packF] at hx
    by_cases h : s < b.length
    · rw [if_pos h] at hx
      have hn := nextC_spec hs
      have hst := hn.step h
      have hhi := hn.hi
      have hlo := hn.lo
      rcases List.mem_append.1 hx with h1 | h1
      · left
        obtain ⟨j, hj, rfl⟩ := List.mem_map.1 h1
        have hj2 := List.mem_range.1 hj
        refine ⟨rfl, ?_, ?_⟩
        · show 0 < min 128 (_ - 128 * j)
          omega
        · show s + 128 * j + min 128 (_ - 128 * j) ≤ _
          omega
      · rcases List.mem_append.1 h1 with h2 | h2
        · right
          unfold dupL at h2
          split at h2
          · rename_i h3
            rw [List.mem_singleton.1 h2]
            rcases hn.is with ⟨h4, _⟩ | ⟨_, _, h4, _⟩
            · omega
            · exact ⟨h4, rfl⟩
          · simp at h2
        · exact tz_kind f _ hst.2 x h2
    · rw [if_neg h] at hx
      simp at hx
/-- A token of a page, as it lies in memory. -/
def tkOf (g o : Nat) (b : List Nat) (x : Tz) : Tk := ⟨if x.n = 0 then some ⟨g, o + x.o, none⟩ else none, if x.n = 0 then x.l else 0, if x.n = 0 then x.l else 0, x.b b, (x.n : Nat), (x.d : Nat)⟩
def tksOf (g o : Nat) (b : List Nat) (T : List Tz) (i : Nat) : Tk := tkOf g o b (T.getD i ⟨0, 0, 0, 0⟩)
theorem tk_cells (g o : Nat) (b : List Nat) (x : Tz) : (tkOf g o b x).cells = tokC g o x := by
  unfold tkOf Tk.cells tokC
  split <;> rfl
theorem rowC_at (g o : Nat) : ∀ (T : List Tz) (i j : Nat), i < T.length → j < 3 → (rowC g o T)[i * 3 + j]? = (tokC g o (T.getD i ⟨0, 0, 0, 0⟩))[j]?
  | [], i, j, h, _ => by simp at h
  | x :: T, 0, j, _, hj => by
    show (tokC g o x ++ rowC g o T)[0 * 3 + j]? = _
    rw [Nat.zero_mul, Nat.zero_add, List.getElem?_append_left (by simp [tokC]; omega)]
    rfl
  | x :: T, i + 1, j, h, hj => by
    show (tokC g o x ++ rowC g o T)[(i + 1) * 3 + j]? = _
    have e : (tokC g o x).length = 3 := by simp [tokC]
    rw [List.getElem?_append_right (by omega), e, show (i + 1) * 3 + j - 3 = i * 3 + j by omega, rowC_at g o T i j (by simpa using h) hj]
    rfl
theorem catT_take {g o : Nat} {b : List Nat} {T : List Tz} (hm : ∀ i, i < T.length → mayD (tksOf g o b T i) = true) : ∀ k, k ≤ T.length → catT (tksOf g o b T) k = catZ b (T.take k)
  | 0, _ => rfl
  | k + 1, h => by
    have hk : k < T.length := by omega
    have e : T.take (k + 1) = T.take k ++ [T.getD k ⟨0, 0, 0, 0⟩] := by
      rw [List.take_add_one]
      congr 1
      simp [List.getD, List.getElem?_eq_getElem hk]
    rw [catT_yes (hm k hk), catT_take hm k (by omega), e, catZ_append]
    congr 1
    show _ = Tz.put b _ ++ []
    rw [List.append_nil]
    rfl
theorem allT_yes {D : Nat → Tk} {L : Nat} (hm : ∀ i, i < L → mayD (D i) = true) : ∀ k, k ≤ L → allT D k = true
  | 0, _ => rfl
  | k + 1, h => allT_step (allT_yes hm k (by omega)) (hm k (by omega))
theorem catZ_take_le (b : List Nat) (T : List Tz) (k : Nat) : (catZ b (T.take k)).length ≤ (catZ b T).length := by
  have := catZ_append b (T.take k) (T.drop k)
  rw [List.take_append_drop] at this
  rw [this, List.length_append]
  omega

set_option maxHeartbeats 1000000 in
theorem pack_any {p : Option Addr} {c : Nat} {b : List Nat} (w : World) (h : ByAt w p 4096 c b) :
    Calls Try.prog 9 #[.slice p 4096 c] w fun e w' => ∃ v, e = .returned (.tuple #[v, .bool true]) ∧ w'.ownsRow w.heap.size 5 1 v (catZ b (packL b)).length (bv (catZ b (packL b))) ∧ Below w.heap.size w w' := by
  have hlen := h.len
  obtain ⟨g, o, rfl, hg, hcell⟩ := h.at (by omega)
  have hsp := packL_spell hlen
  have h4128 := pack_4128 hlen
  have hTl : (packL b).length ≤ 8192 := Nat.le_trans (packL_len hsp) (by omega)
  have hkind := tz_kind (b := b) b.length 0 (Nat.zero_le _)
  have hmay : ∀ i, i < (packL b).length → mayD (tksOf g o b (packL b) i) = true ∧ ∀ w', Below w.heap.size w w' → TkOk w' (tksOf g o b (packL b) i) := by
    intro i hi
    have e : (packL b).getD i ⟨0, 0, 0, 0⟩ = (packL b)[i] := by simp [List.getD, List.getElem?_eq_getElem hi]
    have hx : (packL b).getD i ⟨0, 0, 0, 0⟩ ∈ packL b := by rw [e]; exact List.getElem_mem _
    have hm := hsp.may _ hx
    have hk := hkind _ hx
    unfold tksOf
    generalize (packL b).getD i ⟨0, 0, 0, 0⟩ = x at *
    have hxn : x.n ≤ 130 ∧ x.d ≤ 4095 := by
      rcases may_ways hm with ⟨_, _, h5, h6⟩ | ⟨_, N, D, h5, h6, h7, h8, h9, h10⟩ <;> omega
    rcases hk with ⟨h5, h6, h7⟩ | ⟨h5, h6⟩
    · have hb : (x.b b).length = x.l := length_seg h7
      have e2 : tkOf g o b x = ⟨some ⟨g, o + x.o, none⟩, x.l, x.l, x.b b, (x.n : Nat), (x.d : Nat)⟩ := by unfold tkOf; rw [if_pos h5, if_pos h5]
      rw [e2]
      refine ⟨by show mayT x.l _ _ = true; rw [← hb]; exact hm, fun w' hw => ⟨?_, ⟨by show -9223372036854775808 ≤ ((x.n : Nat) : Int); omega, by show ((x.n : Nat) : Int) ≤ 9223372036854775807; omega⟩, ⟨by show -9223372036854775808 ≤ ((x.d : Nat) : Int); omega, by show ((x.d : Nat) : Int) ≤ 9223372036854775807; omega⟩⟩⟩
      refine ⟨src_cell hb (Nat.lt_of_lt_of_le hg hw.size) fun j hj => ?_, by show x.l ≤ maxLen; unfold maxLen; omega, Nat.le_refl _, seg_byte h.byte⟩
      have hj : j < x.l := hj
      rw [hw.cell (p := ⟨g, o + x.o + j, none⟩) hg, Nat.add_assoc, hcell (x.o + j) (by omega)]
      show _ = some (Value.int .u8 ((seg b x.o x.l).getD j 0 : Nat))
      rw [seg_getD hj]
    · have hb : x.b b = [] := by show seg b x.o x.l = []; rw [h6]; simp [seg]
      have e2 : tkOf g o b x = ⟨none, 0, 0, [], (x.n : Nat), (x.d : Nat)⟩ := by unfold tkOf; rw [if_neg (by omega), if_neg (by omega), hb]
      rw [e2]
      rw [hb] at hm
      exact ⟨hm, fun w' hw => ⟨by_nil _, ⟨by show -9223372036854775808 ≤ ((x.n : Nat) : Int); omega, by show ((x.n : Nat) : Int) ≤ 9223372036854775807; omega⟩, ⟨by show -9223372036854775808 ≤ ((x.d : Nat) : Int); omega, by show ((x.d : Nat) : Int) ≤ 9223372036854775807; omega⟩⟩⟩
  have hcat := catT_take (g := g) (o := o) (b := b) (T := packL b) (fun i hi => (hmay i hi).1)
  have hcl : ∀ k, k ≤ (packL b).length → (catT (tksOf g o b (packL b)) k).length ≤ 99000 := fun k hk => by
    rw [hcat k hk]
    exact Nat.le_trans (catZ_take_le _ _ _) (by omega)
  have hput : putT (tksOf g o b (packL b)) (packL b).length = catZ b (packL b) := by
    unfold putT
    rw [allT_yes (fun i hi => (hmay i hi).1) _ (Nat.le_refl _), hcat _ (Nat.le_refl _), List.take_length]
    rfl
  have HALL : Hid (allT (tksOf g o b (packL b)) (packL b).length = true) := allT_yes (fun i hi => (hmay i hi).1) _ (Nat.le_refl _)
  have HPUT : Hid (putT (tksOf g o b (packL b)) (packL b).length = catZ b (packL b)) := hput
  have HCL : Hid (∀ k, k ≤ (packL b).length → (catT (tksOf g o b (packL b)) k).length ≤ 99000) := hcl
  have HTK : Hid (∀ w' v, Below w.heap.size w w' → w'.ownsRow w.heap.size 48 3 v (packL b).length (rowC g o (packL b)) → ∃ a cp, v = .slice a (packL b).length cp ∧ TksAt w' a (packL b).length (tksOf g o b (packL b))) := by
    intro w' v hw hrow
    obtain ⟨a, cp, rfl⟩ := row_slice hrow
    refine ⟨a, cp, rfl, ?_⟩
    rcases Nat.eq_zero_or_pos (packL b).length with h5 | h5
    · exact .inl h5
    · obtain ⟨g3, c3, e, _, hlt⟩ := hrow.form h5
      cases e
      refine .inr ⟨g3, 0, rfl, hlt, fun i hi => ⟨(hmay i hi).2 w' hw, fun j hj => ?_⟩⟩
      rw [tksOf, tk_cells, ← rowC_at g o _ i j hi hj, Nat.zero_add]
      exact hrow.cellAt (i * 3 + j) (by omega)
  have HBY : Hid (∀ w', Below w.heap.size w w' → ByAt w' (some ⟨g, o, none⟩) 4096 c b) := fun w' hw => h.later hw
  clear h hcell hkind hmay hcat hcl hput hsp
  go_enter Try.func9, Try.ntmps9
  go_wp2_with fail
  refine Calls.mono (parts_any _) ?_
  rintro e w1 ⟨rfl, rfl⟩
  have hb1 : Below w.heap.size w (w.alloc (.cells #[.slice (some ⟨g, o, none⟩) 4096 c] 23)) := (Below.refl _ w).alloc (Nat.le_refl _) _
  have HC : Hid _ := collect_any (w.alloc (.cells #[.slice (some ⟨g, o, none⟩) 4096 c] 23)) (cell_of_one (heap_alloc_new w _)) (HBY.out _ hb1) (by simp) hTl
  have HB1 : Hid _ := hb1
  clear hb1
  go_wp2_with fail
  refine Calls.mono HC.out ?_
  rintro e w2 ⟨v2, rfl, own2, b2⟩
  have hb2 : Below w.heap.size w w2 := HB1.out.trans (b2.mono (by simp))
  obtain ⟨a2, cp2, rfl, htk⟩ := HTK.out w2 v2 hb2 (rowMono own2 (by simp))
  have HT2 : Hid (TksAt w2 a2 (packL b).length (tksOf g o b (packL b))) := htk
  have HB2 : Hid (Below w.heap.size w w2) := hb2
  clear htk hb2 own2 b2 HC HB1
  go_wp2_with fail
  refine (puts_most w2 HT2.out hTl HCL.out).mono ?_
  rintro e w3 ⟨v3, rfl, own3, b3⟩
  rw [HALL.out]
  rw [HPUT.out] at own3
  have HO3 : Hid (w3.ownsRow w2.heap.size 5 1 v3 (catZ b (packL b)).length (bv (catZ b (packL b)))) := own3
  have HB3 : Hid (Below w.heap.size w w3) := HB2.out.trans (b3.mono HB2.out.size)
  clear own3 b3
  go_wp2
  go_ret2
  exact ⟨_, rfl, rowMono HO3.out HB2.out.size, HB3.out⟩
set_option maxHeartbeats 1000000 in
theorem pack_no {p : Option Addr} {L c : Nat} (w : World) (hL : L ≠ 4096) :
    Calls Try.prog 9 #[.slice p L c] w fun e w' => e = .returned (.tuple #[.slice none 0 0, .bool false]) ∧ w = w' := by
  have i1 : ((L : Int) == 4096) = false := by rw [beq_eq_false_iff_ne]; omega
  have i2 : ((L : Int) != 4096) = true := by rw [bne_iff_ne]; omega
  go_enter Try.func9, Try.ntmps9
  go_wp2
  go_ret2
  exact ⟨rfl, rfl⟩
end Go.Proofs.Ytgninhecclinaaa
