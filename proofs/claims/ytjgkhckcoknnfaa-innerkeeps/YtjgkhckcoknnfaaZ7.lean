/- Texts of this seat, joined: IObs, IHeld, IHas, GOpen, IOpen, IGreat, IStep, IStepN, IStepG: each opens with what it holds. -/
import Derived.Test.YtjgkhckcoknnfaaZ3
import Derived.Deep.LoopGhost
import Derived.Deep.AppendLies
import Derived.Test.YtjgkhckcoknnfaaZ6
import Derived.Deep.RegionHeld3
import Derived.Test.YtjgkhckcoknnfaaZ1
import Derived.Test.YtjgkhckcoknnfaaZ5
import Derived.Deep.Slices
import Derived.Deep.SlicePairs
import Derived.Deep.Fields
import Derived.Lib.SmallJoins
import Derived.Test.YtjgkhckcoknnfaaZ2
/- Objects that are taken and what was written into them (gunnyref17.O), as they lie in memory, and the walks of the document's At, Drop, Write. -/
namespace Go.Proofs.Ytjgkhckcoknnfaa
open Go.RowKit

/-- An object: which one, and its bytes. -/
structure Ob where
  n : Int
  p : Option Addr
  l : Nat
  c : Nat
  b : List Nat
def Ob.cells (o : Ob) : List Value := [.int .i64 o.n, .slice o.p o.l o.c]
def rowO (T : List Ob) : List Value := T.flatMap Ob.cells
theorem rowO_len : ∀ T : List Ob, (rowO T).length = T.length * 2
  | [] => rfl
  | x :: T => by
    have := rowO_len T
    unfold rowO at this ⊢
    rw [List.flatMap_cons, List.length_append, this, List.length_cons]
    simp [Ob.cells]
    omega
theorem rowO_app (S T : List Ob) : rowO (S ++ T) = rowO S ++ rowO T := by simp [rowO]
theorem rowO_split (T : List Ob) (j : Nat) : rowO T = rowO (T.take j) ++ rowO (T.drop j) := by rw [← rowO_app, List.take_append_drop]
theorem rowO_one (T : List Ob) : ∀ u ∈ rowO T, u.oneCell' = true := by
  intro u hu
  obtain ⟨x, _, hx⟩ := List.mem_flatMap.1 hu
  simp only [Ob.cells, List.mem_cons, List.not_mem_nil, or_false] at hx
  rcases hx with rfl | rfl <;> rfl
theorem rowO_at : ∀ {T : List Ob} {i : Nat} {o : Ob}, T[i]? = some o → (rowO T)[i * 2]? = some (.int .i64 o.n) ∧ (rowO T)[i * 2 + 1]? = some (.slice o.p o.l o.c)
  | [], i, o, h => by simp at h
  | x :: T, 0, o, h => by
    obtain rfl : x = o := by simpa using h
    exact ⟨rfl, rfl⟩
  | x :: T, i + 1, o, h => by
    have := rowO_at (T := T) (i := i) (o := o) (by simpa using h)
    have e : (Ob.cells x).length = 2 := rfl
    show (Ob.cells x ++ rowO T)[(i + 1) * 2]? = _ ∧ (Ob.cells x ++ rowO T)[(i + 1) * 2 + 1]? = _
    rw [List.getElem?_append_right (by omega), List.getElem?_append_right (by omega), e, show (i + 1) * 2 - 2 = i * 2 by omega, show (i + 1) * 2 + 1 - 2 = i * 2 + 1 by omega]
    exact this
/-- Objects in memory, all in blocks from base on. -/
structure ObsAt (w : World) (base : Nat) (v : Value) (T : List Ob) : Prop where
  own : w.ownsRow base 87 2 v T.length (rowO T)
  by_ : ∀ o ∈ T, ByAt w o.p o.l o.c o.b
  low : ∀ o ∈ T, ∀ g off, o.p = some ⟨g, off, none⟩ → 0 < o.l → base ≤ g
section
variable {w w' : World} {base : Nat} {v : Value} {T : List Ob}
theorem ObsAt.below (h : ObsAt w base v T) (hb : Below w.heap.size w w') : ObsAt w' base v T := ⟨row_below h.own hb, fun o ho => (h.by_ o ho).later hb, h.low⟩
theorem ObsAt.nil (w : World) (base : Nat) : ObsAt w base (.slice none 0 0) [] := ⟨World.ownsRow_nil _ _ _ _, fun _ h => (by cases h), fun _ h => (by cases h)⟩
/-- Where the i-th lies. -/
theorem ObsAt.at {a : Option Addr} {c i : Nat} {o : Ob} (h : ObsAt w base (.slice a T.length c) T) (hi : T[i]? = some o) :
    ∃ g, a = some ⟨g, 0, none⟩ ∧ base ≤ g ∧ g < w.heap.size ∧ w.cell? ⟨g, i * 2, none⟩ = some (.int .i64 o.n) ∧ w.cell? ⟨g, i * 2 + 1, none⟩ = some (.slice o.p o.l o.c) ∧ ∀ j, w.frozen? ⟨g, j, none⟩ = false := by
  have hl := (List.getElem?_eq_some_iff.1 hi).1
  obtain ⟨h1, h2⟩ := rowO_at hi
  rcases h.own.2 with ⟨_, h3⟩ | ⟨g, cap, cur, h3, h4, h5, _⟩
  · omega
  · simp only [Value.slice.injEq, true_and] at h3
    obtain ⟨rfl, rfl⟩ := h3
    refine ⟨g, rfl, h4, (Array.getElem?_eq_some_iff.1 h5).1, ?_, ?_, fun j => h.own.frozenAt j⟩
    · rw [h.own.cellAt (i * 2) (by omega)]; exact h1
    · rw [h.own.cellAt (i * 2 + 1) (by omega)]; exact h2
end

/-- Is an object there? -/
def hasO (T : List Ob) (n : Int) : Bool := T.any fun o => decide (o.n = n)
set_option maxHeartbeats 1000000 in
theorem refAtO_any {base : Nat} {v : Value} {T : List Ob} (n : Int) (w : World) (h : ObsAt w base v T) (hT : T.length ≤ 4096) :
    Calls Try.prog 48 #[v, .int .i64 n] w fun e w' => ∃ x : Int, e = .returned (.int .i64 x) ∧ w = w' ∧ (0 ≤ x ↔ hasO T n = true) := by
  obtain ⟨a, c, rfl⟩ := row_slice h.own
  have H : Hid (ObsAt w base (.slice a T.length c) T) := h
  clear h
  go_enter Try.func48, Try.ntmps48
  go_wp2_with fail
  go_loopg [5] T.length (fun gk i wr => ∃ k : Nat, k ≤ T.length ∧ gk = T.length - k ∧ i = .int .i64 k ∧ w = wr ∧ ∀ j o, j < k → T[j]? = some o → o.n ≠ n)
  case atStart => exact ⟨0, by omega, rfl, rfl, rfl, fun j _ h => by omega⟩
  case round =>
    obtain ⟨k, hk, rfl, rfl, rfl, hno⟩ := hrel
    have HNO : Hid (∀ j o, j < k → T[j]? = some o → o.n ≠ n) := hno
    clear hno
    by_cases hlt : k < T.length
    · have i1 : (k : Int) < (T.length : Int) := by omega
      obtain ⟨o, ho⟩ : ∃ o, T[k]? = some o := ⟨_, List.getElem?_eq_getElem hlt⟩
      obtain ⟨g, rfl, _, _, c0, _⟩ := H.out.at ho
      have HO : Hid (T[k]? = some o) := ho
      clear ho
      by_cases he : o.n = n
      · have i2 : (o.n == n) = true := by rw [beq_iff_eq]; exact he
        have HF : Hid (hasO T n = true) := by
          show _ = _
          unfold hasO
          rw [List.any_eq_true]
          exact ⟨o, List.mem_of_getElem? HO.out, decide_eq_true he⟩
        clear he
        generalize o.n = y at *
        go_wp2
        go_ret
        exact ⟨_, rfl, rfl, by rw [HF.out]; simp⟩
      · have i2 : (o.n == n) = false := by rw [beq_eq_false_iff_ne]; exact he
        have HK : Hid (∀ j o, j < k + 1 → T[j]? = some o → o.n ≠ n) := by
          intro j o2 hj h2
          by_cases hjk : j = k
          · subst hjk
            rw [HO.out] at h2
            cases h2
            exact he
          · exact HNO.out j o2 (by omega) h2
        generalize o.n = y at *
        go_wp2
        go_roundg (T.length - (k + 1))
        case measure => omega
        case rel => exact ⟨k + 1, by omega, rfl, by go_num, rfl, HK.out⟩
    · have i1 : ¬ (k : Int) < (T.length : Int) := by omega
      have HF : Hid (hasO T n = false) := by
        show _ = _
        unfold hasO
        rw [List.any_eq_false]
        intro o ho
        obtain ⟨j, hj⟩ := List.getElem?_of_mem ho
        have := HNO.out j o (by have := (List.getElem?_eq_some_iff.1 hj).1; omega) hj
        simpa using this
      go_wp2
      go_ret
      exact ⟨_, rfl, rfl, by rw [HF.out]; simp⟩

theorem Try.infoO : (Try.prog.info? 87).map (fun i => (i.zero, i.size, i.bytes)) = some (some (.agg #[.int .i64 0, .slice none 0 0]), 2, 32) := by kernel_rfl
theorem headO_at {w : World} {B g c : Nat} {T : List Ob} (h : w.ownsRow B 87 2 (.slice (some ⟨g, 0, none⟩) T.length c) T.length (rowO T)) (j : Nat) : ∀ i u, (rowO (T.take j))[i]? = some u → w.cell? ((⟨g, 0, none⟩ : Addr).add i) = some u := by
  intro i u hu
  refine h.cells rfl i u ?_
  rw [rowO_split T j, List.getElem?_append_left (List.getElem?_eq_some_iff.1 hu).1]
  exact hu
theorem tailO_at {w : World} {B g c : Nat} {T : List Ob} (h : w.ownsRow B 87 2 (.slice (some ⟨g, 0, none⟩) T.length c) T.length (rowO T)) {j : Nat} (hj : j ≤ T.length) :
    ∃ A : Addr, (if c = j then some (⟨g, 0, none⟩ : Addr) else some ⟨g, j * 2, none⟩) = some A ∧ ∀ i u, (rowO (T.drop j))[i]? = some u → w.cell? (A.add i) = some u := by
  have hc := (row_cap h).1
  by_cases e : c = j
  · refine ⟨⟨g, 0, none⟩, by rw [if_pos e], ?_⟩
    intro i u hu
    have := (List.getElem?_eq_some_iff.1 hu).1
    rw [rowO_len, List.length_drop] at this
    omega
  · refine ⟨⟨g, j * 2, none⟩, by rw [if_neg e], ?_⟩
    intro i u hu
    have h1 := h.cells rfl (j * 2 + i) u (by
      have e2 : (rowO (T.take j)).length = j * 2 := by rw [rowO_len, List.length_take]; omega
      rw [rowO_split T j, List.getElem?_append_right (by omega), e2, show j * 2 + i - j * 2 = i by omega]
      exact hu)
    rw [Addr.add_lit] at h1 ⊢
    simpa using h1
set_option maxHeartbeats 1000000 in
theorem refDropO_any {base i : Nat} {v : Value} {T : List Ob} (w : World) (h : ObsAt w base v T) (hT : T.length ≤ 4096) (hi : i < T.length) (hbase : base ≤ w.heap.size) :
    Calls Try.prog 51 #[v, .int .i64 (i : Nat)] w fun e w' => ∃ v', e = .returned v' ∧ ObsAt w' base v' (T.eraseIdx i) ∧ Below w.heap.size w w' := by
  obtain ⟨i0, hi0, hz0, hz1, hz2⟩ := info_parts Try.infoO
  obtain ⟨a, c, rfl⟩ := row_slice h.own
  obtain ⟨g, rfl, _, hg, _⟩ := h.at (List.getElem?_eq_getElem hi)
  have H : Hid (ObsAt w base (.slice (some ⟨g, 0, none⟩) T.length c) T) := h
  obtain ⟨hcap, hcm⟩ := row_cap h.own
  unfold maxLen at hcm
  have HC1 : Hid _ := headO_at h.own i
  have LN1 : Hid ((rowO (T.take i)).length = i * 2) := by show _ = _; rw [rowO_len, List.length_take]; omega
  have hic : (i : Int) ≤ (c : Int) := by omega
  clear h
  go_enter Try.func51, Try.ntmps51
  go_wp2_with (at_builtin; refine wpList_append_own _ rfl _ _ 48 rfl w.heap.size 87 i0 _ 2 32 Try.underlying48 hi0 hz0 hz1 hz2 rfl (by decide) _ _ _ rfl (World.ownsRow_made w #[] 0 (Nat.le_refl _) (by unfold maxLen; omega) rfl) ⟨g, 0, none⟩ i c (rowO (T.take i)) rfl LN1.out ?c1 (rowO_one _) ?c3 ?c4 ?c5 ?_)
  case c1 =>
    intro j u hu
    have h3 := HC1.out j u hu
    rw [Addr.add_lit] at h3 ⊢
    rw [← h3]
    exact World.cell?_of_block (Below.heap_alloc w _ g hg)
  case c3 => unfold maxLen; omega
  case c4 => omega
  case c5 => simp
  intro v2 w2 own2 gr2 _
  have b2 : Below w.heap.size w w2 := ((Below.refl _ w).alloc (Nat.le_refl _) _).grown gr2 (by simp) (fun j hj => by simp [Value.ownBlock] at hj; omega)
  have own2' : w2.ownsRow w.heap.size 87 2 v2 i (rowO (T.take i)) := by simpa using own2
  obtain ⟨a2, c2, rfl⟩ := row_slice own2'
  have h2r := (H.out.below b2).own
  obtain ⟨A, hA, hAc⟩ := tailO_at h2r (j := i + 1) (by omega)
  have HAC : Hid (∀ j u, (rowO (T.drop (i + 1)))[j]? = some u → w2.cell? (A.add j) = some u) := hAc
  have LN2 : Hid ((rowO (T.drop (i + 1))).length = (T.length - (i + 1)) * 2) := by show _ = _; rw [rowO_len, List.length_drop]
  have OWN2 : Hid (w2.ownsRow w.heap.size 87 2 (.slice a2 i c2) i (rowO (T.take i))) := own2'
  have B2 : Hid (Below w.heap.size w w2) := b2
  have hj3 : 0 ≤ (i : Int) + 1 := by omega
  have hj4 : (i : Int) + 1 ≤ (T.length : Int) := by omega
  have hj5 : (i : Int) < (T.length : Int) := by omega
  have hwr : IntKind.i64.wrap ((i : Int) + 1) = (i : Int) + 1 := IntWalk.i64_in _ (by omega)
  have htn : ((i : Int) + 1).toNat = i + 1 := by omega
  clear gr2 own2 b2 own2' h2r hAc HC1
  go_wp2_with (at_builtin; refine wpList_append_own _ rfl _ _ 48 rfl w.heap.size 87 i0 _ 2 32 Try.underlying48 hi0 hz0 hz1 hz2 rfl (by decide) (.slice a2 i c2) i (rowO (T.take i)) rfl OWN2.out A (T.length - (i + 1)) (c - (i + 1)) (rowO (T.drop (i + 1))) (by simp [Act.eval]) LN2.out HAC.out (rowO_one _) ?e3 ?e4 ?e5 ?_)
  case e3 => unfold maxLen; omega
  case e4 => omega
  case e5 => exact B2.out.size
  intro v3 w3 own3 gr3 _
  have HF : Hid (ObsAt w3 base v3 (T.eraseIdx i) ∧ Below w.heap.size w w3) := by
    have b3 : Below w.heap.size w w3 := B2.out.grown gr3 B2.out.size (fun j hj => (OWN2.out.lt j hj).1)
    have e1 : T.eraseIdx i = T.take i ++ T.drop (i + 1) := List.eraseIdx_eq_take_drop_succ ..
    have e2 : (T.eraseIdx i).length = i + (T.length - (i + 1)) := by rw [e1, List.length_append, List.length_take, List.length_drop]; omega
    have hx := H.out.below b3
    refine ⟨⟨?_, fun o ho => hx.by_ o (List.mem_of_mem_eraseIdx ho), fun o ho => hx.low o (List.mem_of_mem_eraseIdx ho)⟩, b3⟩
    rw [e2, e1, rowO_app]
    exact rowMono own3 hbase
  clear own3 gr3
  go_wp2
  go_ret
  exact ⟨_, rfl, HF.out⟩

/-- Bytes over the first ones that were there. -/
def overB (x y : List Nat) : List Nat := y ++ x.drop y.length
theorem over_len (x y : List Nat) : (overB x y).length = max x.length y.length := by simp [overB]; omega
set_option maxHeartbeats 1000000 in
theorem refWriteO_any {p1 p2 : Option Addr} {l1 c1 l2 c2 : Nat} {x y : List Nat} (w : World) (h1 : ByAt w p1 l1 c1 x) (h2 : ByAt w p2 l2 c2 y) (hl1 : l1 ≤ 100000) (hl2 : l2 ≤ 100000) :
    Calls Try.prog 52 #[.slice p1 l1 c1, .slice p2 l2 c2] w fun e w' => ∃ v, e = .returned v ∧ w'.ownsRow w.heap.size 5 1 v (overB x y).length (bv (overB x y)) ∧ Below w.heap.size w w' := by
  obtain ⟨i0, hi, hz0, hz1, hz2⟩ := info_parts Try.info5
  have hx := h1.len
  have hy := h2.len
  have hcap1 := h1.cap
  have H1 : Hid (∀ w', Below w.heap.size w w' → SrcAt w' (.slice p1 l1 c1) l1 1 (bv x)) := fun w' hb => (h1.later hb).src
  have HB1 : Hid (ByAt w p1 l1 c1 x) := h1
  have H2 : Hid (∀ w', Below w.heap.size w w' → SrcAt w' (.slice p2 l2 c2) l2 1 (bv y)) := fun w' hb => (h2.later hb).src
  clear h1 h2
  go_enter Try.func52, Try.ntmps52
  go_wp2_with (at_builtin; refine wpList_append_src rfl _ _ 49 rfl w.heap.size 5 i0 (.int .u8 0) 1 1 Try.underlying49 hi hz0 hz1 hz2 rfl (by decide) _ _ _ rfl (World.ownsRow_made w #[] 0 (Nat.le_refl _) (by unfold maxLen; omega) rfl) _ l2 (bv y) rfl (H2.out _ ((Below.refl _ w).alloc (Nat.le_refl _) _)) (bv_one _) ?c3 ?c4 ?c5 ?_)
  case c3 => unfold maxLen; omega
  case c4 => omega
  case c5 => simp
  intro v3 w3 own3 gr3
  have b3 : Below w.heap.size w w3 := ((Below.refl _ w).alloc (Nat.le_refl _) _).grown gr3 (by simp) (fun i hi => by simp [Value.ownBlock] at hi; omega)
  have own3' : w3.ownsRow w.heap.size 5 1 v3 l2 (bv y) := by simpa using own3
  obtain ⟨a3, c3, rfl⟩ := row_slice own3'
  have HB3 : Hid (Below w.heap.size w w3) := b3
  have HO3 : Hid (w3.ownsRow w.heap.size 5 1 (.slice a3 l2 c3) l2 (bv y)) := own3'
  clear own3 gr3 own3' b3
  by_cases hlt : l2 < l1
  · have i1 : (l2 : Int) < (l1 : Int) := by omega
    obtain ⟨g, o, rfl, hg, _⟩ := HB1.out.at (by omega)
    have hcut := run_cut_from (g := g) (o := o) (L := l1) (c := c1) (l := l2) (A := (l2 : Int)) rfl (by omega) (by omega)
    have HS : Hid (SrcAt w3 (.slice (some ⟨g, o + l2, none⟩) (l1 - l2) (c1 - l2)) (l1 - l2) 1 (bv (seg x l2 (l1 - l2)))) := ((HB1.out.part (l := l2) (s := l1 - l2) (by omega) (by omega)).later HB3.out).src
    have HSG : Hid (seg x l2 (l1 - l2) = x.drop l2) := by show (x.drop l2).take (l1 - l2) = _; rw [List.take_of_length_le (by rw [List.length_drop]; omega)]
    go_wp2_with (at_builtin; refine wpList_append_src rfl _ _ 49 rfl w.heap.size 5 i0 (.int .u8 0) 1 1 Try.underlying49 hi hz0 hz1 hz2 rfl (by decide) _ l2 (bv y) rfl HO3.out _ (l1 - l2) (bv (seg x l2 (l1 - l2))) rfl HS.out (bv_one _) ?d3 ?d4 ?d5 ?_)
    case d3 => unfold maxLen; omega
    case d4 => omega
    case d5 => exact HB3.out.size
    intro v4 w4 own4 gr4
    have HF : Hid (w4.ownsRow w.heap.size 5 1 v4 (overB x y).length (bv (overB x y)) ∧ Below w.heap.size w w4) := by
      refine ⟨?_, HB3.out.grown gr4 HB3.out.size (fun j hj => (HO3.out.lt j hj).1)⟩
      rw [over_len, show max x.length y.length = l2 + (l1 - l2) by omega, overB, bv_append, hy, ← HSG.out]
      exact own4
    clear own4 gr4
    go_wp2
    go_ret
    exact ⟨_, rfl, HF.out⟩
  · have i1 : ¬ (l2 : Int) < (l1 : Int) := by omega
    have HF : Hid (overB x y = y) := by show y ++ x.drop y.length = y; rw [List.drop_of_length_le (by omega), List.append_nil]
    go_wp2
    go_ret
    exact ⟨_, rfl, by rw [HF.out, hy]; exact HO3.out, HB3.out⟩
end Go.Proofs.Ytjgkhckcoknnfaa
/- What objects hold: plain facts, and objects in memory that stay. -/
namespace Go.Proofs.Ytjgkhckcoknnfaa
open Go.RowKit

/-- Objects that are taken of a zspage, each with what was written into it. -/
structure HeldZ (R : RS) (G : PG) (L : List Nat) (T : List Ob) : Prop where
  good : GoodP R G L
  one : ∀ o ∈ T, ∃ k : Nat, o.n = k ∧ k < G.x.length ∧ G.x.getD k false = true ∧ o.b.length ≤ jSz G.c ∧ seg (allZ R G.F) (k * jSz G.c) o.b.length = o.b
  nd : (T.map Ob.n).Nodup
  all : ∀ k : Nat, k < G.x.length → G.x.getD k false = true → hasO T k = true
  len : T.length + L.length = G.x.length
theorem hasO_mem {T : List Ob} {n : Int} : hasO T n = true ↔ ∃ o ∈ T, o.n = n := by
  unfold hasO
  rw [List.any_eq_true]
  simp
theorem hasO_no {T : List Ob} {n : Int} (h : ¬ ∃ o ∈ T, o.n = n) : hasO T n = false := by
  cases h2 : hasO T n
  · rfl
  · exact absurd (hasO_mem.1 h2) h
theorem erase_mem {T : List Ob} {i : Nat} {o x : Ob} (hi : T[i]? = some o) (hx : x ∈ T) : x = o ∨ x ∈ T.eraseIdx i := by
  obtain ⟨j, hj⟩ := List.getElem?_of_mem hx
  rw [List.mem_eraseIdx_iff_getElem?]
  by_cases e : j = i
  · subst e
    rw [hi] at hj
    cases hj
    exact .inl rfl
  · exact .inr ⟨j, e, hj⟩
theorem erase_other {T : List Ob} {i : Nat} {o x : Ob} (hnd : (T.map Ob.n).Nodup) (hi : T[i]? = some o) (hx : x ∈ T.eraseIdx i) : x ∈ T ∧ x.n ≠ o.n := by
  refine ⟨List.mem_of_mem_eraseIdx hx, fun e => ?_⟩
  rw [List.mem_eraseIdx_iff_getElem?] at hx
  obtain ⟨j, hj, hjx⟩ := hx
  have h1 := List.getElem?_eq_some_iff.1 hi
  have h2 := List.getElem?_eq_some_iff.1 hjx
  obtain ⟨h1, h1'⟩ := h1
  obtain ⟨h2, h2'⟩ := h2
  have h3 := List.pairwise_iff_getElem.1 hnd
  rcases Nat.lt_or_gt_of_ne hj with h4 | h4
  · have := h3 j i (by simpa using h2) (by simpa using h1) h4
    simp only [List.getElem_map, h1', h2'] at this
    exact this e
  · have := h3 i j (by simpa using h1) (by simpa using h2) h4
    simp only [List.getElem_map, h1', h2'] at this
    exact this e.symm
section
variable {R R' : RS} {G G' : PG} {L : List Nat} {T : List Ob}
theorem HeldZ.stay (h : HeldZ R G L T) (hs : RStay R R') : HeldZ R' G L T := ⟨h.good.stay hs, fun o ho => by rw [hs.all]; exact h.one o ho, h.nd, h.all, h.len⟩
theorem HeldZ.els (h : HeldZ R G L T) {F : List Nat} (he : Else R R' F) (hd : ∀ n ∈ F, n ∉ G.F) : HeldZ R' G L T :=
  ⟨h.good.els he hd, fun o ho => by rw [he.far _ h.good.ok.row hd]; exact h.one o ho, h.nd, h.all, h.len⟩
theorem HeldZ.start (h : GoodP R G L) (hl : L.length = G.x.length) (hx : ∀ k : Nat, G.x.getD k false = false) : HeldZ R G L [] :=
  ⟨h, fun _ h => (by cases h), by simp, fun k _ h2 => (by rw [hx] at h2; cases h2), by simpa using hl⟩
theorem put_at (x : List Bool) (n k : Nat) (b : Bool) (hn : n < x.length) : (putL x n b).getD k false = if n = k then b else x.getD k false := by
  rw [putL, if_pos (by omega)]
  show (x.set n b).getD k false = _
  rw [getD_set]
  by_cases e : n = k
  · rw [if_pos ⟨e, hn⟩, if_pos e]
  · rw [if_neg (by omega), if_neg e]
theorem HeldZ.take {n : Nat} (h : HeldZ R G (n :: L) T) (hs : RStay R R') (hg : GoodP R' G' L) (hm : Same2 G G') (hx : G'.x = putL G.x n true) : HeldZ R' G' L (T ++ [⟨n, none, 0, 0, []⟩]) ∧ hasO T n = false := by
  obtain ⟨h1, h2⟩ := (h.good.mem n).1 (by simp)
  have hno : ¬ ∃ o ∈ T, o.n = (n : Int) := by
    rintro ⟨o, ho, e⟩
    obtain ⟨k, hk, _, h3, _⟩ := h.one o ho
    obtain rfl : k = n := by omega
    rw [h2] at h3
    cases h3
  have hg2 : ∀ k : Nat, G'.x.getD k false = if n = k then true else G.x.getD k false := fun k => by rw [hx]; exact put_at _ _ _ _ h1
  have hlen : G'.x.length = G.x.length := by rw [hx, len_putL]
  refine ⟨⟨hg, fun o ho => ?_, ?_, fun k hk hk2 => ?_, ?_⟩, hasO_no hno⟩
  · rw [hlen, hm.c, hm.F, hs.all]
    rcases List.mem_append.1 ho with h3 | h3
    · obtain ⟨k, e, h4, h5, h6, h7⟩ := h.one o h3
      refine ⟨k, e, h4, ?_, h6, h7⟩
      rw [hg2]
      split
      · rfl
      · exact h5
    · obtain rfl : o = ⟨n, none, 0, 0, []⟩ := by simpa using h3
      exact ⟨n, rfl, h1, by rw [hg2, if_pos rfl], Nat.zero_le _, by simp [seg]⟩
  · rw [List.map_append, List.nodup_append]
    refine ⟨h.nd, by simp, fun a ha b hb e => ?_⟩
    simp at hb
    subst hb e
    obtain ⟨o, ho, e⟩ := List.mem_map.1 ha
    exact hno ⟨o, ho, e⟩
  · rw [hasO_mem]
    rw [hg2] at hk2
    by_cases e : n = k
    · subst e
      exact ⟨⟨n, none, 0, 0, []⟩, by simp, rfl⟩
    · rw [if_neg e] at hk2
      obtain ⟨o, ho, e2⟩ := hasO_mem.1 (h.all k (by rw [← hlen]; exact hk) hk2)
      exact ⟨o, List.mem_append_left _ ho, e2⟩
  · have := h.len
    rw [List.length_cons] at this
    rw [hlen, List.length_append, List.length_singleton]
    omega
theorem HeldZ.give {i n : Nat} {o : Ob} (h : HeldZ R G L T) (hi : T[i]? = some o) (hn : o.n = n) (hw : Wrote R R' G.F (n * jSz G.c) (putN 2 G.f)) (hg : GoodP R' G' (n :: L)) (hm : Same2 G G') (hx : G'.x = putL G.x n false) : HeldZ R' G' (n :: L) (T.eraseIdx i) := by
  obtain ⟨k, e, h1, h2, _⟩ := h.one o (List.mem_of_getElem? hi)
  obtain rfl : k = n := by omega
  have hg2 : ∀ j : Nat, G'.x.getD j false = if k = j then false else G.x.getD j false := fun j => by rw [hx]; exact put_at _ _ _ _ h1
  have hlen : G'.x.length = G.x.length := by rw [hx, len_putL]
  have hs := h.good.ok.sz
  have hl := (List.getElem?_eq_some_iff.1 hi).1
  refine ⟨hg, fun x hxx => ?_, ?_, fun j hj hj2 => ?_, ?_⟩
  · obtain ⟨hxT, hne⟩ := erase_other h.nd hi hxx
    obtain ⟨j, e2, h4, h5, h6, h7⟩ := h.one x hxT
    rw [hlen, hm.c, hm.F, hw.at_]
    have hkj : k ≠ j := by omega
    refine ⟨j, e2, h4, by rw [hg2, if_neg hkj]; exact h5, h6, ?_⟩
    rw [seg_other hkj (by rw [length_putN]; omega) h6 (by rw [h.good.ok.all]; exact h.good.ok.room h1) (by rw [h.good.ok.all]; exact h.good.ok.room h4)]
    exact h7
  · exact h.nd.sublist ((List.eraseIdx_sublist _ _).map _)
  · rw [hg2] at hj2
    split at hj2
    · cases hj2
    · rename_i hkj
      obtain ⟨x, hxT, e2⟩ := hasO_mem.1 (h.all j (by rw [← hlen]; exact hj) hj2)
      rw [hasO_mem]
      rcases erase_mem hi hxT with h3 | h3
      · subst h3
        omega
      · exact ⟨x, h3, e2⟩
  · have := h.len
    rw [hlen, List.length_eraseIdx_of_lt hl, List.length_cons]
    omega
theorem seg_over {Z x y : List Nat} {a : Nat} (hx : seg Z a x.length = x) (h1 : a + x.length ≤ Z.length) (h2 : a + y.length ≤ Z.length) : seg (putAt Z a y) a (overB x y).length = overB x y := by
  rw [over_len]
  have hl : (putAt Z a y).length = Z.length := length_putAt h2
  refine ext_getD (by rw [length_seg (by rw [hl]; omega), over_len]) fun i hi => ?_
  rw [length_seg (by rw [hl]; omega)] at hi
  rw [seg_getD hi, putAt_getD h2]
  unfold overB
  by_cases c : i < y.length
  · rw [if_pos (by omega), List.getD_eq_getElem?_getD, List.getD_eq_getElem?_getD, List.getElem?_append_left c, Nat.add_sub_cancel_left]
  · rw [if_neg (by omega), List.getD_eq_getElem?_getD, List.getD_eq_getElem?_getD, List.getElem?_append_right (by omega), List.getElem?_drop, show y.length + (i - y.length) = i by omega, ← List.getD_eq_getElem?_getD, ← List.getD_eq_getElem?_getD]
    conv => rhs; rw [← hx]
    rw [seg_getD (by omega)]
theorem HeldZ.write {i n : Nat} {o : Ob} {y : List Nat} {p : Option Addr} {l c : Nat} (h : HeldZ R G L T) (hi : T[i]? = some o) (hn : o.n = n) (hy : y.length ≤ jSz G.c) (hw : Wrote R R' G.F (n * jSz G.c) y) : HeldZ R' G L (T.set i ⟨o.n, p, l, c, overB o.b y⟩) := by
  obtain ⟨k, e, h1, h2, h3, h3'⟩ := h.one o (List.mem_of_getElem? hi)
  obtain rfl : k = n := by omega
  have hl := (List.getElem?_eq_some_iff.1 hi).1
  have hmap : (T.set i ⟨o.n, p, l, c, overB o.b y⟩).map Ob.n = T.map Ob.n := by
    rw [List.map_set]
    apply List.ext_getElem? 
    intro j
    rw [List.getElem?_set]
    split
    · rename_i hj
      subst hj
      rw [List.getElem?_map, hi]
      simp [hl]
    · rfl
  have hr := h.good.ok.room h1
  refine ⟨h.good.wrote h1 h2 hy hw, fun x hx => ?_, by rw [hmap]; exact h.nd, fun j hj hj2 => ?_, by rw [List.length_set]; exact h.len⟩
  · rw [hw.at_]
    obtain ⟨j, hj⟩ := List.getElem?_of_mem hx
    rw [List.getElem?_set] at hj
    split at hj
    · rename_i hji
      subst hji
      cases hj
      refine ⟨k, e, h1, h2, ?_, seg_over h3' (by rw [h.good.ok.all]; omega) (by rw [h.good.ok.all]; omega)⟩
      show (overB o.b y).length ≤ _
      rw [over_len]
      omega
    · rename_i hji
      have hxe : x ∈ T.eraseIdx i := by rw [List.mem_eraseIdx_iff_getElem?]; exact ⟨j, fun e => hji e.symm, hj⟩
      obtain ⟨hxT, hne⟩ := erase_other h.nd hi hxe
      obtain ⟨m, e2, h4, h5, h6, h7⟩ := h.one x hxT
      have hkm : k ≠ m := by omega
      refine ⟨m, e2, h4, h5, h6, ?_⟩
      rw [seg_other hkm hy h6 (by rw [h.good.ok.all]; exact hr) (by rw [h.good.ok.all]; exact h.good.ok.room h4)]
      exact h7
  · obtain ⟨x, hxT, e2⟩ := hasO_mem.1 (h.all j hj hj2)
    rw [hasO_mem]
    have hm : (j : Int) ∈ (T.set i ⟨o.n, p, l, c, overB o.b y⟩).map Ob.n := by rw [hmap]; exact List.mem_map.2 ⟨x, hxT, e2⟩
    obtain ⟨z, hz, e3⟩ := List.mem_map.1 hm
    exact ⟨z, hz, e3⟩
theorem HeldZ.small (h : HeldZ R G L T) : T.length ≤ 256 := by have := h.len; have := h.good.ok.many; omega
/-- An object that is there. -/
theorem HeldZ.at {i : Nat} {o : Ob} (h : HeldZ R G L T) (hi : T[i]? = some o) : ∃ k : Nat, o.n = k ∧ k < G.x.length ∧ G.x.getD k false = true ∧ o.b.length ≤ jSz G.c ∧ seg (allZ R G.F) (k * jSz G.c) o.b.length = o.b := h.one o (List.mem_of_getElem? hi)
theorem HeldZ.not (h : HeldZ R G L T) {n : Int} (hn : ¬ (0 ≤ n ∧ n < G.x.length ∧ hasO T n = true)) : hasB G.x n = false := by
  cases hb : hasB G.x n
  · rfl
  · exfalso
    have h1 := mayB_of_has hb
    obtain ⟨h2, h3⟩ := of_decide_eq_true h1
    obtain ⟨k, rfl⟩ := Int.eq_ofNat_of_zero_le h2
    rw [hasB_nat] at hb
    exact hn ⟨h2, h3, h.all k (by omega) hb⟩
theorem HeldZ.used (h : HeldZ R G L T) : (allL G.x).length = T.length := by have := h.len; have := h.good.count; omega
theorem HeldZ.free (h : HeldZ R G L T) {n : Nat} (hn : n ∈ L) : hasO T n = false := by
  refine hasO_no ?_
  rintro ⟨o, ho, e⟩
  obtain ⟨k, hk, _, h3, _⟩ := h.one o ho
  obtain rfl : k = n := by omega
  rw [((h.good.mem k).1 hn).2] at h3
  cases h3
end
theorem ObsAt.kept {K : Nat → Prop} {w w' : World} {base : Nat} {v : Value} {T : List Ob} (h : ObsAt w base v T) (hk : Keeps K w w') (hK : ∀ i, base ≤ i → K i) : ObsAt w' base v T :=
  ⟨hk.row h.own fun g hg => hK g (h.own.lt g hg).1, fun o ho => hk.by (h.by_ o ho) fun g off e h0 => hK g (h.low o ho g off e h0), h.low⟩
end Go.Proofs.Ytjgkhckcoknnfaa
/- The walk of the law's own 'has': each object has what was written into it. -/
namespace Go.Proofs.Ytjgkhckcoknnfaa
open Go.RowKit
set_option maxHeartbeats 2000000 in
theorem holds_any {B E C D r q base : Nat} {R : RS} {G : PG} {L : List Nat} {T : List Ob} {v : Value} (h : HeldZ R G L T) (w : World) (hp : PageZ C D w q G) (hr : RamAt B E w r R) (hd : D ≤ B ∨ E ≤ C) (ho : ObsAt w base v T) (hb : E ≤ base) :
    Calls Try.prog 24 #[.pointer (some ⟨r, 0, none⟩), .pointer (some ⟨q, 0, none⟩), v] w fun e w' => ∃ R', e = .returned (.bool true) ∧ RamAt B E w' r R' ∧ RStay R R' ∧ Turns B E w w' := by
  obtain ⟨a, cc, rfl⟩ := row_slice ho.own
  have HH : Hid (HeldZ R G L T) := h
  have HP : Hid (PageZ C D w q G) := hp
  have HR : Hid (RamAt B E w r R) := hr
  have HD : Hid (D ≤ B ∨ E ≤ C) := hd
  have HO : Hid (ObsAt w base (.slice a T.length cc) T) := ho
  have HB : Hid (E ≤ base) := hb
  have hsm := h.small
  clear h hp hr hd ho hb
  go_enter Try.func24, Try.ntmps24
  go_wp2_with fail
  go_loopg [7] T.length (fun gk i wr => ∃ (k : Nat) (R' : RS), k ≤ T.length ∧ gk = T.length - k ∧ i = .int .i64 k ∧ RamAt B E wr r R' ∧ RStay R R' ∧ Turns B E w wr)
  case atStart => exact ⟨0, R, by omega, rfl, rfl, HR.out, RStay.refl R, Turns.refl _ _ _⟩
  case round =>
    obtain ⟨k, R', hk, rfl, rfl, hram, hst, htu⟩ := hrel
    have HRM : Hid (RamAt B E wr r R') := hram
    have HST : Hid (RStay R R') := hst
    have HTU : Hid (Turns B E w wr) := htu
    have hp2 := HP.out.turns HD.out htu
    have HP2 : Hid (PageZ C D wr q G) := hp2
    clear hram hst hp2
    by_cases hlt : k < T.length
    · have i1 : (k : Int) < (T.length : Int) := by omega
      obtain ⟨o, hto⟩ : ∃ o, T[k]? = some o := ⟨_, List.getElem?_eq_getElem hlt⟩
      have hob := HO.out.kept (turns_keeps htu) (fun i hi => .inr (Nat.le_trans HB.out hi))
      obtain ⟨g, rfl, hg1, hg2, c0, c1, _⟩ := hob.at hto
      obtain ⟨n, hn, hn1, hn2, hn3, hn4⟩ := HH.out.at hto
      have hby := hob.by_ o (List.mem_of_getElem? hto)
      have hlow := hob.low o (List.mem_of_getElem? hto)
      have hlen := hby.len
      rw [hn] at c0
      have HSE : Hid (seg (allZ R' G.F) (n * jSz G.c) o.l = o.b) := by show _ = _; rw [HST.out.all, ← hlen]; exact hn4
      have HN1 : Hid (n < G.x.length) := hn1
      have HN2 : Hid (G.x.getD n false = true) := hn2
      have HN3 : Hid (o.l ≤ jSz G.c) := by show _ ≤ _; rw [← hlen]; exact hn3
      have HBY : Hid (ByAt wr o.p o.l o.c o.b) := hby
      have HLOW : Hid (∀ gg off, o.p = some ⟨gg, off, none⟩ → 0 < o.l → base ≤ gg) := hlow
      have HGB : Hid (base ≤ g ∧ g < wr.heap.size) := ⟨hg1, hg2⟩
      clear hob hn hn1 hn2 hn3 hn4 hby hlow hlen hto htu hg1 hg2
      obtain ⟨on, p, l, c, b⟩ := o
      dsimp only at c0 c1 HSE HN3 HBY HLOW
      have HC : Hid (∀ w', Turns B E wr w' → w'.cell? ⟨g, k * 2, none⟩ = some (.int .i64 (n : Nat)) ∧ w'.cell? ⟨g, k * 2 + 1, none⟩ = some (.slice p l c)) := by
        intro w' ht
        have h1 := ht.block g HGB.out.2 (.inr (Nat.le_trans HB.out HGB.out.1))
        exact ⟨by rw [← c0]; exact World.cell?_of_block h1, by rw [← c1]; exact World.cell?_of_block h1⟩
      clear on
      generalize T.length = tl at *
      go_wp2_with fail
      go_region_held3 (fun w' => w'.cell? ⟨g, k * 2, none⟩ = some (.int .i64 (n : Nat)) ∧ w'.cell? ⟨g, k * 2 + 1, none⟩ = some (.slice p l c)) (first | (go_keep; done)) (first | (go_at_call 49; refine (read_z (HH.out.good.ok.stay HST.out) HN1.out HN2.out HN3.out _ (HP2.out.below (drew_below _ _)) (HRM.out.below (drew_below _ _)) HD.out).mono ?_; rintro e w4 ⟨v4, R4, rfl, own, ram, st, ht⟩; have ht2 := (Turns.of_below (drew_below _ _) : Turns B E wr wr.drew).trans ht; obtain ⟨k1, k2⟩ := HC.out w4 ht2))
      all_goals
        rw [HSE.out] at own
        obtain ⟨a4, c4, rfl⟩ := row_slice own
        have HR4 : Hid (RamAt B E w4 r R4) := ram
        have HS4 : Hid (RStay R R4) := HST.out.trans st
        have HT4 : Hid (Turns B E w w4) := HTU.out.trans ht2
        have hby4 : ByAt w4 p l c b := (turns_keeps ht2).by HBY.out (fun gg off e h0 => .inr (Nat.le_trans HB.out (HLOW.out gg off e h0)))
        have hc1 : ∀ m, (convert 49 9 (.slice a4 l c4)).run Try.prog (w4.drewN m) = .ok (.string (strB b)) (w4.drewN m) := fun m => conv_any (row_below own (drewN_below _ _ _))
        have hc2 : ∀ m, (convert 49 9 (.slice p l c)).run Try.prog (w4.drewN m) = .ok (.string (strB b)) (w4.drewN m) := fun m => (hby4.later (drewN_below _ _ _)).conv
        generalize strB b = s at *
        clear own ram st ht ht2 hby4 c0 c1
        go_upto_region 5 with (fail)
        go_quiet (fail)
        go_wp2
        go_roundg (tl - (k + 1))
        case measure => omega
        case rel => exact ⟨k + 1, R4, by omega, rfl, by go_num, HR4.out.below (drewN_below _ _ _), HS4.out, HT4.out.trans (Turns.of_below (drewN_below _ _ _))⟩
    · have e : k = T.length := by omega
      subst e
      have HU : Hid ((allL G.x).length = T.length) := HH.out.used
      generalize T.length = tl at *
      go_wp2_with fail
      refine (used_z wr HP2.out).mono ?_
      rintro e w4 ⟨rfl, rfl⟩
      rw [HU.out]
      go_wp2
      go_ret
      exact ⟨R', rfl, HRM.out, HST.out, HTU.out⟩
end Go.Proofs.Ytjgkhckcoknnfaa
/- Opening bytes that were handed in, in a field or by themselves: general. -/
namespace Go.Proofs.Ytjgkhckcoknnfaa
open Go.ChangeShapes Go.WideShapes Go.ChangeAt Go.RowKit Go.Deep

variable {H : Type} {enc : TypeId × Value → H} {P : Program} {w : World}
/-- Bytes that were handed in. -/
theorem bytes_cap {t e : TypeId} {fuel : Nat} {v : Value} {x : DataW H × List MemPlace} (ht : P.underlying t = some (.slice e)) (he : P.underlying e = some (.int .u8)) (hce : P.cellsOf e = 1)
    (hf : DataW.trod enc P w 0 (fun _ => true) true fuel t [v] = some x) :
    ∃ (p : Option Addr) (l c : Nat) (b : List Nat), v = .slice p l c ∧ l ≤ maxLen ∧ (l ≤ c ∧ c ≤ maxLen) ∧ SrcAt w (.slice p l c) l 1 (bv b) ∧ (∀ x ∈ b, x < 256) := by
  rcases open_ints ht he hce hf with ⟨hcs, _⟩ | ⟨a, l, c, zs, hcs, _, hl, hm, hz, _, hcell, hwz⟩
  · simp at hcs
    subst hcs
    exact ⟨none, 0, 0, [], rfl, by unfold maxLen; omega, by unfold maxLen; omega, .inl ⟨rfl, rfl, rfl⟩, by simp⟩
  · simp at hcs
    subst hcs
    have hzl : zs.length = c := by simpa using hz
    have hb8 : ∀ z ∈ zs, 0 ≤ z ∧ z < 256 := fun z hz => by have := bounds_u8 (hwz z hz); omega
    have hlen : ((zs.take l).map Int.toNat).length = l := by simp; omega
    refine ⟨_, l, c, (zs.take l).map Int.toNat, rfl, Nat.le_trans hl hm, ⟨hl, hm⟩, .inr ⟨a, c, rfl, by simp only [length_bv, hlen, Nat.mul_one], fun j u hj => ?_⟩, ?_⟩
    · obtain ⟨h1, rfl⟩ := bv_some hj
      rw [hlen] at h1
      have hj' : j < zs.length := by omega
      have hcj := hcell j hj'
      have hlt := World.block_lt_of_cell? w _ hcj
      rw [block_add] at hlt
      refine ⟨hlt, ?_⟩
      rw [hcj]
      have hz0 := hb8 (zs.getD j 0) (by rw [List.getD_eq_getElem?_getD, List.getElem?_eq_getElem hj']; exact List.getElem_mem _)
      have e : (((zs.take l).map Int.toNat).getD j 0 : Nat) = (zs.getD j 0).toNat := by simp [List.getD, hj', h1]
      rw [e, Int.toNat_of_nonneg hz0.1]
    · intro x hx
      obtain ⟨z, hz, rfl⟩ := List.mem_map.1 hx
      have := hb8 z (List.mem_of_mem_take hz)
      omega
theorem bytes_in {t e : TypeId} {fuel : Nat} {v : Value} {x : DataW H × List MemPlace} (ht : P.underlying t = some (.slice e)) (he : P.underlying e = some (.int .u8)) (hce : P.cellsOf e = 1)
    (hf : DataW.trod enc P w 0 (fun _ => true) true fuel t [v] = some x) :
    ∃ (p : Option Addr) (l c : Nat) (b : List Nat), v = .slice p l c ∧ l ≤ maxLen ∧ SrcAt w (.slice p l c) l 1 (bv b) ∧ (∀ x ∈ b, x < 256) := by
  obtain ⟨p, l, c, b, h1, h2, _, h4, h5⟩ := bytes_cap ht he hce hf
  exact ⟨p, l, c, b, h1, h2, h4, h5⟩
end Go.Proofs.Ytjgkhckcoknnfaa
/- Opening a slice of structs of a bool, two ints and a slice of bytes. -/
namespace Go.Proofs.Ytjgkhckcoknnfaa
open Go.ChangeShapes Go.WideShapes Go.ChangeAt Go.RowKit Go.Deep

/-- A deed. -/
structure Dn where
  o : Bool
  K : Int
  N : Int
  p : Option Addr
  l : Nat
  c : Nat
  b : List Nat
structure DnOk (w : World) (d : Dn) : Prop where
  n : -9223372036854775808 ≤ d.N ∧ d.N ≤ 9223372036854775807
  by_ : ByAt w d.p d.l d.c d.b
def Dn.cells (d : Dn) : List Value := [.bool d.o, .int .i64 d.K, .int .i64 d.N, .slice d.p d.l d.c]
theorem DnOk.below {w w' : World} {d : Dn} (h : DnOk w d) (hb : Below w.heap.size w w') : DnOk w' d := ⟨h.n, h.by_.later hb⟩
/-- L deeds that lie in memory, read through a slice value. -/
def DnsAt (w : World) (a : Option Addr) (L : Nat) (D : Nat → Dn) : Prop :=
  L = 0 ∨ ∃ b off, a = some ⟨b, off, none⟩ ∧ b < w.heap.size ∧ ∀ i, i < L → DnOk w (D i) ∧ ∀ j, j < 4 → w.cell? ⟨b, off + i * 4 + j, none⟩ = (D i).cells[j]?
section
variable {w w' : World} {a : Option Addr} {L : Nat} {D : Nat → Dn}
theorem DnsAt.ok (h : DnsAt w a L D) {i : Nat} (hi : i < L) : DnOk w (D i) := by
  rcases h with rfl | ⟨b, off, rfl, hlt, hc⟩
  · omega
  · exact (hc i hi).1
theorem DnsAt.below (h : DnsAt w a L D) (hb : Below w.heap.size w w') : DnsAt w' a L D := by
  rcases h with rfl | ⟨b, off, rfl, hlt, hc⟩
  · exact .inl rfl
  · refine .inr ⟨b, off, rfl, Nat.lt_of_lt_of_le hlt hb.size, fun i hi => ⟨(hc i hi).1.below hb, fun j hj => ?_⟩⟩
    rw [hb.cell (p := ⟨b, off + i * 4 + j, none⟩) hlt]
    exact (hc i hi).2 j hj
/-- Where the i-th lies. -/
theorem DnsAt.at (h : DnsAt w a L D) {i : Nat} (hi : i < L) :
    ∃ b off, a = some ⟨b, off, none⟩ ∧ b < w.heap.size ∧ ∀ w', Below w.heap.size w w' → w'.cell? ⟨b, off + i * 4, none⟩ = some (.bool (D i).o) ∧ w'.cell? ⟨b, off + i * 4 + 1, none⟩ = some (.int .i64 (D i).K) ∧
      w'.cell? ⟨b, off + i * 4 + 2, none⟩ = some (.int .i64 (D i).N) ∧ w'.cell? ⟨b, off + i * 4 + 3, none⟩ = some (.slice (D i).p (D i).l (D i).c) := by
  rcases h with rfl | ⟨b, off, rfl, hlt, hc⟩
  · omega
  · obtain ⟨_, h2⟩ := hc i hi
    refine ⟨b, off, rfl, hlt, fun w' hb => ⟨?_, ?_, ?_, ?_⟩⟩
    · rw [hb.cell (p := ⟨b, off + i * 4, none⟩) hlt]; exact h2 0 (by omega)
    · rw [hb.cell (p := ⟨b, off + i * 4 + 1, none⟩) hlt]; exact h2 1 (by omega)
    · rw [hb.cell (p := ⟨b, off + i * 4 + 2, none⟩) hlt]; exact h2 2 (by omega)
    · rw [hb.cell (p := ⟨b, off + i * 4 + 3, none⟩) hlt]; exact h2 3 (by omega)
end
variable {H : Type} {enc : TypeId × Value → H} {P : Program} {w : World} {base : Nat}
theorem dn_four {t e : TypeId} {f0 f1 f2 f3 : Field} {fuel : Nat} {cs : List Value} {x : DataW H × List MemPlace} (he : P.underlying t = some (.struct #[f0, f1, f2, f3])) (hone : oneCellFields P #[f0, f1, f2, f3] = true) (ce : P.cellsOf t = 4)
    (u0 : P.underlying f0.type = some .bool) (u1 : P.underlying f1.type = some (.int .i64)) (u2 : P.underlying f2.type = some (.int .i64))
    (u3 : P.underlying f3.type = some (.slice e)) (ue : P.underlying e = some (.int .u8)) (hce : P.cellsOf e = 1)
    (h : DataW.trod enc P w 0 (fun _ => true) true fuel t cs = some x) : ∃ d : Dn, cs = d.cells ∧ DnOk w d := by
  obtain ⟨xs, k, _, _, hl, hxl, hf⟩ := DataW.trod_struct he h
  rw [ce] at hl
  match xs, hxl, cs, hl with
  | [y0, y1, y2, y3], _, [v0, v1, v2, v3], _ =>
    have hone' := hone_of hone
    have g0 := hf 0 f0 rfl
    have g1 := hf 1 f1 rfl
    have g2 := hf 2 f2 rfl
    have g3 := hf 3 f3 rfl
    simp [(hone' 0 f0 rfl).1, (hone' 0 f0 rfl).2] at g0
    simp [(hone' 1 f1 rfl).1, (hone' 1 f1 rfl).2] at g1
    simp [(hone' 2 f2 rfl).1, (hone' 2 f2 rfl).2] at g2
    simp [(hone' 3 f3 rfl).1, (hone' 3 f3 rfl).2] at g3
    obtain ⟨z0, q0, _⟩ := DataW.trod_bool u0 g0
    obtain ⟨z1, q1, _⟩ := DataW.trod_int u1 g1
    obtain ⟨z2, q2, _, w2⟩ := DataW.trod_int u2 g2
    obtain ⟨p, l, c, b, rfl, hlm, hcp, hs, h8⟩ := bytes_cap u3 ue hce g3
    simp at q0 q1 q2
    refine ⟨⟨z0, z1, z2, p, l, c, b⟩, ?_, ⟨bounds_i64 w2, hs, hcp.2, hcp.1, h8⟩⟩
    simp only [Dn.cells, q0, q1, q2]
theorem openDns {t e s : TypeId} {f0 f1 f2 f3 : Field} {v : Value} {d : DataW H} {p : List MemPlace} (ht : P.underlying t = some (.slice s)) (he : P.underlying s = some (.struct #[f0, f1, f2, f3])) (hone : oneCellFields P #[f0, f1, f2, f3] = true) (ce : P.cellsOf s = 4)
    (u0 : P.underlying f0.type = some .bool) (u1 : P.underlying f1.type = some (.int .i64)) (u2 : P.underlying f2.type = some (.int .i64))
    (u3 : P.underlying f3.type = some (.slice e)) (ue : P.underlying e = some (.int .u8)) (hce : P.cellsOf e = 1)
    (o : Value.okWide P w .any base t v) (h : DataW.Trod enc P w 0 (fun _ => true) true t v d p) :
    ∃ (a : Option Addr) (L c : Nat) (D : Nat → Dn), v = .slice a L c ∧ L ≤ maxLen ∧ DnsAt w a L D := by
  obtain ⟨a, L, c, rfl⟩ := okWide_slice ht o
  obtain ⟨fuel, hf⟩ := h
  rcases open_slice ht hf with ⟨hcs, _⟩ | ⟨x, l, c', m, n, Dx, Pl, hcs, _, hl, hm, hmm, _, hx⟩
  · simp [Value.cells] at hcs
    obtain ⟨rfl, rfl, rfl⟩ := hcs
    exact ⟨none, 0, 0, fun _ => ⟨false, 0, 0, none, 0, 0, []⟩, rfl, by unfold maxLen; omega, .inl rfl⟩
  · simp [Value.cells] at hcs
    obtain ⟨rfl, rfl, rfl⟩ := hcs
    have hmc : m = c := by simpa using hmm
    subst hmc
    have each : ∀ i, i < m → ∃ q : Dn, DnOk w q ∧ ∀ j, j < 4 → w.cell? ((x.add (i * 4)).add j) = q.cells[j]? := by
      intro i hi
      obtain ⟨cs', h1, h2⟩ := hx i hi
      rw [ce] at h1
      obtain ⟨_, hlen, hcell⟩ := World.cells?_some h1
      obtain ⟨q, hq, hok⟩ := dn_four he hone ce u0 u1 u2 u3 ue hce h2
      exact ⟨q, hok, fun j hj => by rw [hcell j hj, hq]⟩
    have inh : Inhabited Dn := ⟨⟨false, 0, 0, none, 0, 0, []⟩⟩
    obtain ⟨q, hq⟩ := choose_lt each
    refine ⟨_, L, m, q, rfl, Nat.le_trans hl hm, ?_⟩
    by_cases h0 : L = 0
    · exact .inl h0
    · right
      obtain ⟨b, off, spot⟩ := x
      have hc0 := (hq 0 (by omega)).2 0 (by omega)
      rw [show (q 0).cells[0]? = some (.bool (q 0).o) from rfl] at hc0
      have hspot : spot = none := by simpa [Addr.add] using World.cell?_spot hc0
      subst hspot
      refine ⟨b, off, rfl, ?_, ?_⟩
      · have := World.block_lt_of_cell? w _ hc0
        simpa [Addr.add] using this
      · intro i hi
        obtain ⟨g0, g1⟩ := hq i (by omega)
        refine ⟨g0, fun j hj => ?_⟩
        have := g1 j hj
        rwa [Addr.add_lit, Addr.add_lit] at this
end Go.Proofs.Ytjgkhckcoknnfaa
/- The walk of the law's own 'great': what isn't great has at most 80 deeds. -/
namespace Go.Proofs.Ytjgkhckcoknnfaa
open Go.RowKit

def Great80 (v : Value) (L : Nat) : Prop := ∃ b : Bool, v = .bool b ∧ (b = false → L ≤ 80)
set_option maxHeartbeats 1000000 in
theorem dgreat_any (a : Option Addr) (L c : Nat) (D : Nat → Dn) (w : World) (hL : L ≤ maxLen) (hd : DnsAt w a L D) :
    Calls Try.prog 22 #[.slice a L c] w fun e w' => ∃ v, e = .returned v ∧ w = w' ∧ Great80 v L := by
  unfold maxLen at hL
  have HD : Hid (DnsAt w a L D) := hd
  clear hd
  go_enter Try.func22, Try.ntmps22
  go_wp2_with fail
  go_loopw [3, 4] (fun n i wr => ∃ k m : Nat, k ≤ L ∧ k ≤ 200 ∧ i = .int .i64 k ∧ n = .int .i64 m ∧ m ≤ k * 9000 ∧ w = wr) (fun _ i _ => 200 - (intOf i).toNat)
  case atStart => exact ⟨0, 0, Nat.zero_le _, by omega, rfl, rfl, Nat.zero_le _, rfl⟩
  case round =>
    obtain ⟨k, m, hk, hk2, rfl, rfl, hm, rfl⟩ := hrel
    have hm2 : (m : Int) ≤ 1800000 := by omega
    by_cases hlt : k < L
    · have i1 : (k : Int) < (L : Int) := by omega
      by_cases hlt2 : k < 200
      · obtain ⟨b, off, rfl, hb, hc⟩ := HD.out.at hlt
        obtain ⟨_, _, _, c3⟩ := hc w (Below.refl _ _)
        have hl := (HD.out.ok hlt).by_.short
        unfold maxLen at hl
        have i2 : (k : Int) < 200 := by omega
        generalize (D k).p = p at *
        generalize (D k).l = l at *
        generalize (D k).c = cc at *
        obtain ⟨x, hx⟩ : ∃ x, min l 9000 = x := ⟨_, rfl⟩
        have hmin : ∀ (ts : Array TypeId) (t : TypeId) (w : World), (Builtin.min_ ts t #[.int .i64 (l : Int), .int .i64 9000]).run Try.prog w = .ok (.int .i64 (x : Int)) w := by
          intro ts t w
          rw [run_min_int2]
          congr 2
          split <;> omega
        have hx9 : x ≤ 9000 := by omega
        clear hx hc
        go_wp2
        go_roundw
        case rel => exact ⟨k + 1, m + x, by omega, by omega, by go_num, by go_num, by omega, trivial⟩
        case measure => simp [intOf]; omega
      · have e : k = 200 := by omega
        subst e
        have i4 : (80 : Int) < (L : Int) := by omega
        go_wp2
        go_ret
        exact ⟨_, rfl, rfl, true, rfl, by simp⟩
    · have e : k = L := by omega
      subst e
      by_cases h60 : 80 < k
      · have i4 : (80 : Int) < (k : Int) := by omega
        go_wp2
        go_ret
        exact ⟨_, rfl, rfl, true, rfl, by simp⟩
      · have i4 : ¬ (80 : Int) < (k : Int) := by omega
        go_wp2
        go_ret
        exact ⟨_, rfl, rfl, _, rfl, fun _ => by omega⟩
end Go.Proofs.Ytjgkhckcoknnfaa
/- The walk of the law's own 'step': a deed that takes. -/
namespace Go.Proofs.Ytjgkhckcoknnfaa
open Go.RowKit

theorem cells4 {w : World} {g : Nat} {a b c d : Value} {tg : TypeId} (h : w.heap[g]? = some (.cells #[a, b, c, d] tg (0, 0))) :
    w.cell? ⟨g, 0, none⟩ = some a ∧ w.cell? ⟨g, 1, none⟩ = some b ∧ w.cell? ⟨g, 2, none⟩ = some c ∧ w.cell? ⟨g, 3, none⟩ = some d := by
  refine ⟨?_, ?_, ?_, ?_⟩ <;> rw [cell_of_row w g _ _ _ _ h] <;> rfl
/-- What a deed leaves. -/
def StepOut (B E C D r q base : Nat) (R : RS) (G : PG) (w : World) (e : Ending) (w' : World) : Prop :=
  ∃ v' T' R' G' L', e = .returned (.tuple #[v', .bool true]) ∧ HeldZ R' G' L' T' ∧ PageZ C D w' q G' ∧ RamAt B E w' r R' ∧ ObsAt w' base v' T' ∧ Else R R' G.F ∧ Same2 G G' ∧ Keeps (Off B E C D) w w'
/-- What a deed meets. -/
structure StepIn (B E C D r q base : Nat) (R : RS) (G : PG) (L : List Nat) (T : List Ob) (v : Value) (d : Dn) (w : World) : Prop where
  held : HeldZ R G L T
  page : PageZ C D w q G
  ram : RamAt B E w r R
  dis : D ≤ B ∨ E ≤ C
  obs : ObsAt w base v T
  lo : E ≤ base ∧ D ≤ base
  hi : base ≤ w.heap.size
  ok : DnOk w d
  far : ∀ g off, d.p = some ⟨g, off, none⟩ → 0 < d.l → g < B ∧ g < C
section
variable {B E C D r q base : Nat} {R : RS} {G : PG} {L : List Nat} {T : List Ob} {v : Value} {d : Dn} {w w' : World}
theorem StepIn.kept (h : StepIn B E C D r q base R G L T v d w) (hb : Below w.heap.size w w') : StepIn B E C D r q base R G L T v d w' :=
  ⟨h.held, h.page.below hb, h.ram.below hb, h.dis, h.obs.below hb, h.lo, Nat.le_trans h.hi hb.size, h.ok.below hb, h.far⟩
/-- Objects in a new row. -/
theorem ObsAt.made {v' : Value} {T' : List Ob} (h : ObsAt w base v T) (hk : Below w.heap.size w w') (own : w'.ownsRow base 87 2 v' T'.length (rowO T'))
    (hs : ∀ o ∈ T', o ∈ T ∨ (ByAt w' o.p o.l o.c o.b ∧ ∀ g off, o.p = some ⟨g, off, none⟩ → 0 < o.l → base ≤ g)) : ObsAt w' base v' T' :=
  ⟨own, fun o ho => (hs o ho).elim (fun h1 => (h.by_ o h1).later hk) (fun h1 => h1.1), fun o ho => (hs o ho).elim (fun h1 => h.low o h1) (fun h1 => h1.2)⟩
theorem rowO_snoc (T : List Ob) (o : Ob) : rowO (T ++ [o]) = rowO T ++ o.cells := by rw [rowO_app]; simp [rowO]
set_option maxRecDepth 100000 in
set_option maxHeartbeats 2000000 in
theorem stepTake (size : Value) (h : StepIn B E C D r q base R G L T v d w) (hK : d.K < 2) :
    Calls Try.prog 23 #[.pointer (some ⟨r, 0, none⟩), .pointer (some ⟨q, 0, none⟩), v, .agg #[.bool d.o, .int .i64 d.K, .int .i64 d.N, .slice d.p d.l d.c], size] w (StepOut B E C D r q base R G w) := by
  obtain ⟨i0, hi0, hz0, hz1, hz2⟩ := info_parts Try.infoO
  obtain ⟨a, cv, rfl⟩ := row_slice h.obs.own
  obtain ⟨dO, K, N, dp, dl, dc, db⟩ := d
  have hdn := h.ok.n
  have hok := h.ok.by_
  have hfar := h.far
  dsimp only at hK hdn hok hfar ⊢
  obtain ⟨W, hW⟩ : ∃ W, w.alloc (.cells #[.bool dO, .int .i64 K, .int .i64 N, .slice dp dl dc] 51) = W := ⟨_, rfl⟩
  have hbW : Below w.heap.size w W := by rw [← hW]; exact (Below.refl _ w).alloc (Nat.le_refl _) _
  have hxW : W.heap[w.heap.size]? = some (.cells #[.bool dO, .int .i64 K, .int .i64 N, .slice dp dl dc] 51 (0, 0)) := by rw [← hW]; exact heap_alloc_new _ _
  have HX : Hid (W.heap[w.heap.size]? = some (.cells #[.bool dO, .int .i64 K, .int .i64 N, .slice dp dl dc] 51 (0, 0))) := hxW
  obtain ⟨x0, x1, x2, x3⟩ := cells4 hxW
  have HBW : Hid (Below w.heap.size w W) := hbW
  have HH : Hid (HeldZ R G L T) := h.held
  have HP : Hid (PageZ C D W q G) := h.page.below hbW
  have HR : Hid (RamAt B E W r R) := h.ram.below hbW
  have HD : Hid (D ≤ B ∨ E ≤ C) := h.dis
  have HO : Hid (ObsAt W base (.slice a T.length cv) T) := h.obs.below hbW
  have HLO : Hid (E ≤ base ∧ D ≤ base) := h.lo
  have HHI : Hid (base ≤ w.heap.size) := h.hi
  have HBY : Hid (ByAt W dp dl dc db) := hok.later hbW
  have HFAR : Hid (∀ g off, dp = some ⟨g, off, none⟩ → 0 < dl → g < B ∧ g < C) := hfar
  have hsm := h.held.small
  have hHI := h.hi
  have hWS := hbW.size
  have HWS1 : Hid (W.heap.size = w.heap.size + 1) := by show _ = _; rw [← hW]; simp
  clear h hok hfar hbW hxW
  cases L with
  | nil =>
    have HXL : Hid (G.x.length = T.length) := by show _ = _; have := HH.out.len; simpa using this.symm
    generalize T.length = tl at HO HXL hsm ⊢
    go_enter Try.func23, Try.ntmps23
    go_wp2_with fail
    refine (takeNone_z HH.out.good (.pointer (some ⟨r, 0, none⟩)) W HP.out).mono ?_
    rintro e w2 ⟨rfl, m, rfl⟩
    have HB2 : Hid (Below W.heap.size W (W.drewN m)) := drewN_below _ _ _
    go_wp2_with fail
    refine (many_z (W.drewN m) (HP.out.below HB2.out)).mono ?_
    rintro e w2 ⟨rfl, rfl⟩
    rw [HXL.out]
    have i1 : decide ((tl : Int) < (tl : Int)) = false := decide_eq_false (by omega)
    go_wp2
    go_ret2
    exact ⟨_, T, R, G, [], rfl, HH.out, HP.out.below HB2.out, HR.out.below HB2.out, HO.out.below HB2.out, (RStay.refl R).else _, ⟨rfl, rfl⟩, keeps_all (HBW.out.trans (HB2.out.mono hWS))⟩
  | cons n L =>
    obtain ⟨hnx, hn0⟩ := (HH.out.good.mem n).1 (by simp)
    have hlen : T.length + 1 ≤ G.x.length := by have := HH.out.len; rw [List.length_cons] at this; omega
    have hmm := HH.out.good.ok.many
    generalize htl : T.length = tl at HO hlen hsm ⊢
    generalize hxl : G.x.length = xl at hlen hmm
    have HXL0 : Hid (G.x.length = xl) := hxl
    have HNX : Hid (n < G.x.length) := hnx
    have hnxl : n < xl := by rw [← hxl]; exact hnx
    clear hxl hnx
    go_enter Try.func23, Try.ntmps23
    go_wp2_with fail
    refine (take_z HH.out.good W HP.out HR.out HD.out).mono ?_
    rintro e w2 ⟨R2, G2, rfl, ram, st, hp, hg, hs2, hx2, hk⟩
    obtain ⟨hh, hno⟩ := HH.out.take st hg hs2 hx2
    have HH2 : Hid (HeldZ R2 G2 L (T ++ [⟨n, none, 0, 0, []⟩])) := hh
    have HNO : Hid (hasO T n = false) := hno
    have HP2 : Hid (PageZ C D w2 q G2) := hp
    have HR2 : Hid (RamAt B E w2 r R2) := ram
    have HK2 : Hid (Keeps (Off B E C D) W w2) := hk
    have HST : Hid (RStay R R2) := st
    have HSM : Hid (Same2 G G2) := hs2
    have HO2 : Hid (ObsAt w2 base (.slice a tl cv) T) := HO.out.kept hk fun i hi => ⟨.inr (Nat.le_trans HLO.out.1 hi), .inr (Nat.le_trans HLO.out.2 hi)⟩
    have HXL : Hid (G2.x.length = xl) := by show _ = _; rw [hx2, len_putL]; exact HXL0.out
    have HHB : Hid (hasB G2.x n = true) := by show _ = _; rw [hasB_nat, hx2, put_at _ _ _ _ HNX.out, if_pos rfl]
    have hb2 : base ≤ w2.heap.size := Nat.le_trans HHI.out (Nat.le_trans hWS hk.size)
    clear hh hno hp ram hk st hs2 hx2 hg
    have HTL : Hid (T.length = tl) := htl
    clear htl
    have i1 : decide ((tl : Int) < (xl : Int)) = true := decide_eq_true (by omega)
    have i3 : decide ((xl : Int) ≤ (n : Int)) = false := decide_eq_false (by omega)
    go_wp2_with fail
    refine (many_z w2 HP2.out).mono ?_
    rintro e w3 ⟨rfl, rfl⟩
    rw [HXL.out]
    go_wp2_with fail
    refine (refAtO_any (n : Nat) w2 HO2.out (by rw [HTL.out]; omega)).mono ?_
    rintro e w3 ⟨x, rfl, rfl, hx⟩
    have i2 : decide ((0 : Int) ≤ x) = false := decide_eq_false (fun h => by have h2 := hx.1 h; rw [HNO.out] at h2; cases h2)
    clear hx
    go_wp2_with fail
    refine (many_z w2 HP2.out).mono ?_
    rintro e w3 ⟨rfl, rfl⟩
    rw [HXL.out]
    go_wp2_with fail
    refine (has_z (n : Nat) w2 HP2.out).mono ?_
    rintro e w3 ⟨rfl, m, rfl⟩
    rw [HHB.out]
    obtain ⟨w5, hw5⟩ : ∃ w5, w2.drewN m = w5 := ⟨_, rfl⟩
    have hb5 : Below w2.heap.size w2 w5 := by rw [← hw5]; exact drewN_below _ _ _
    rw [hw5]
    have HB5 : Hid (Below w2.heap.size w2 w5) := hb5
    have HO5 : Hid (ObsAt w5 base (.slice a tl cv) T) := HO2.out.below hb5
    have hb6 : base ≤ w5.heap.size := Nat.le_trans hb2 hb5.size
    have HSR : Hid (SrcAt (w5.alloc (.cells #[] 87)) (.slice a tl cv) tl 2 (rowO T)) := by
      have h5 := (HO5.out.below ((Below.refl _ w5).alloc (Nat.le_refl _) (.cells #[] 87))).own
      rw [HTL.out] at h5
      exact src_row h5
    clear hb5 hw5
    go_wp2_with (at_builtin; refine wpList_append_src rfl _ _ 48 rfl w5.heap.size 87 i0 _ 2 32 Try.underlying48 hi0 hz0 hz1 hz2 rfl (by decide) _ _ _ rfl (World.ownsRow_made w5 #[] 0 (Nat.le_refl _) (by unfold maxLen; omega) rfl) _ tl (rowO T) rfl HSR.out (rowO_one _) ?c3 ?c4 ?c5 ?_)
    case c3 => unfold maxLen; omega
    case c4 => omega
    case c5 => simp
    intro v7 w7 own7 gr7
    have b7 : Below w5.heap.size w5 w7 := ((Below.refl _ w5).alloc (Nat.le_refl _) _).grown gr7 (by simp) (fun i hi => by simp [Value.ownBlock] at hi; omega)
    have own7' : w7.ownsRow w5.heap.size 87 2 v7 tl (rowO T) := by simpa using own7
    obtain ⟨a7, c7, rfl⟩ := row_slice own7'
    have HB7 : Hid (Below w5.heap.size w5 w7) := b7
    have HOW7 : Hid (w7.ownsRow w5.heap.size 87 2 (.slice a7 tl c7) tl (rowO T)) := own7'
    clear own7 gr7 b7 own7'
    go_wp2_with (at_builtin; refine wpList_append_src rfl _ _ 48 rfl w5.heap.size 87 i0 _ 2 32 Try.underlying48 hi0 hz0 hz1 hz2 rfl (by decide) _ tl (rowO T) rfl (row_below HOW7.out ((Below.refl _ w7).alloc (Nat.le_refl _) _)) _ 1 [.int .i64 (n : Nat), .slice none 0 0] rfl (src_row (World.ownsRow_lit (base := w7.heap.size) (e := 87) (size := 2) w7 #[.int .i64 (n : Nat), .slice none 0 0] 1 (Nat.le_refl _) (by unfold maxLen; omega) rfl)) (by simp [Value.oneCell']) ?d3 ?d4 ?d5 ?_)
    case d3 => unfold maxLen; omega
    case d4 => omega
    case d5 => have := HB7.out.size; simp; omega
    intro v8 w8 own8 gr8
    have b8 : Below w5.heap.size w7 w8 := ((Below.refl _ w7).alloc HB7.out.size _).grown gr8 (by have := HB7.out.size; simp; omega) (fun i hi => (HOW7.out.lt i hi).1)
    have HB8 : Hid (Below w5.heap.size w5 w8) := HB7.out.trans b8
    have HO8 : Hid (ObsAt w8 base v8 (T ++ [⟨n, none, 0, 0, []⟩])) := by
      refine HO5.out.made HB8.out ?_ (fun o ho => ?_)
      · rw [List.length_append, HTL.out, rowO_snoc]
        exact rowMono own8 hb6
      · rcases List.mem_append.1 ho with h1 | h1
        · exact .inl h1
        · obtain rfl : o = ⟨n, none, 0, 0, []⟩ := by simpa using h1
          exact .inr ⟨by_nil _, fun g off e => by cases e⟩
    clear own8 gr8 b8
    go_wp2
    go_ret2
    have hb28 : Below w2.heap.size w2 w8 := HB5.out.trans (HB8.out.mono HB5.out.size)
    exact ⟨_, _, R2, G2, L, rfl, HH2.out, HP2.out.below hb28, HR2.out.below hb28, HO8.out, HST.out.else _, HSM.out, ((keeps_all HBW.out).trans HK2.out).trans (keeps_all hb28)⟩
end
end Go.Proofs.Ytjgkhckcoknnfaa
/- The walk of the law's own 'step': a deed of an object that is none of them. -/
namespace Go.Proofs.Ytjgkhckcoknnfaa
open Go.RowKit
section
variable {B E C D r q base : Nat} {R : RS} {G : PG} {L : List Nat} {T : List Ob} {v : Value} {d : Dn} {w w' : World}
set_option maxRecDepth 100000 in
set_option maxHeartbeats 2000000 in
theorem stepNone (size : Value) (h : StepIn B E C D r q base R G L T v d w) (hK : ¬ d.K < 2) (hN : ¬ (0 ≤ d.N ∧ d.N < T.length)) :
    Calls Try.prog 23 #[.pointer (some ⟨r, 0, none⟩), .pointer (some ⟨q, 0, none⟩), v, .agg #[.bool d.o, .int .i64 d.K, .int .i64 d.N, .slice d.p d.l d.c], size] w (StepOut B E C D r q base R G w) := by
  obtain ⟨a, cv, rfl⟩ := row_slice h.obs.own
  obtain ⟨dO, K, N, dp, dl, dc, db⟩ := d
  have hdn := h.ok.n
  have hok := h.ok.by_
  have hfar := h.far
  dsimp only at hK hdn hok hfar ⊢
  obtain ⟨W, hW⟩ : ∃ W, w.alloc (.cells #[.bool dO, .int .i64 K, .int .i64 N, .slice dp dl dc] 51) = W := ⟨_, rfl⟩
  have hbW : Below w.heap.size w W := by rw [← hW]; exact (Below.refl _ w).alloc (Nat.le_refl _) _
  have hxW : W.heap[w.heap.size]? = some (.cells #[.bool dO, .int .i64 K, .int .i64 N, .slice dp dl dc] 51 (0, 0)) := by rw [← hW]; exact heap_alloc_new _ _
  have HX : Hid (W.heap[w.heap.size]? = some (.cells #[.bool dO, .int .i64 K, .int .i64 N, .slice dp dl dc] 51 (0, 0))) := hxW
  obtain ⟨x0, x1, x2, x3⟩ := cells4 hxW
  have HBW : Hid (Below w.heap.size w W) := hbW
  have HH : Hid (HeldZ R G L T) := h.held
  have HP : Hid (PageZ C D W q G) := h.page.below hbW
  have HR : Hid (RamAt B E W r R) := h.ram.below hbW
  have HD : Hid (D ≤ B ∨ E ≤ C) := h.dis
  have HO : Hid (ObsAt W base (.slice a T.length cv) T) := h.obs.below hbW
  have HLO : Hid (E ≤ base ∧ D ≤ base) := h.lo
  have HHI : Hid (base ≤ w.heap.size) := h.hi
  have HBY : Hid (ByAt W dp dl dc db) := hok.later hbW
  have HFAR : Hid (∀ g off, dp = some ⟨g, off, none⟩ → 0 < dl → g < B ∧ g < C) := hfar
  have hsm := h.held.small
  have hHI := h.hi
  have hWS := hbW.size
  have HWS1 : Hid (W.heap.size = w.heap.size + 1) := by show _ = _; rw [← hW]; simp
  clear h hok hfar hbW hxW
  dsimp only at hN
  have HTL0 : Hid (T.length ≤ 256) := hsm
  generalize htl : T.length = tl at HO hsm hN ⊢
  have HTL : Hid (T.length = tl) := htl
  clear htl
  by_cases h0 : N < 0
  · have HXN : Hid (hasB G.x N = false) := HH.out.not (fun h => by omega)
    clear hN
    go_enter Try.func23, Try.ntmps23
    have HBD : Hid (∀ k, Below W.heap.size W (W.drewN k)) := fun k => drewN_below _ _ _
    go_wp2_with fail
    refine (readNo_z 1 HXN.out (.pointer (some ⟨r, 0, none⟩)) W HP.out).mono ?_
    rintro e w2 ⟨rfl, m, rfl⟩
    go_wp2_with fail
    refine (giveNo_z HXN.out (.pointer (some ⟨r, 0, none⟩)) _ (HP.out.below (HBD.out m))).mono ?_
    rintro e w3 ⟨rfl, m3, rfl⟩
    go_wp2_with fail
    refine (writeNo_z (.slice dp dl dc) HXN.out (.pointer (some ⟨r, 0, none⟩)) _ (HP.out.below (HBD.out (m + m3)))).mono ?_
    rintro e w4 ⟨rfl, m4, rfl⟩
    go_wp2
    go_ret2
    exact ⟨_, T, R, G, L, rfl, HH.out, HP.out.below (HBD.out _), HR.out.below (HBD.out _), HO.out.below (HBD.out _), (RStay.refl R).else _, ⟨rfl, rfl⟩, keeps_all (HBW.out.trans ((HBD.out _).mono hWS))⟩
  · have i1 : (tl : Int) ≤ N := by omega
    have h0' : (0 : Int) ≤ N := by omega
    clear hN h0
    by_cases h1 : N < G.x.length
    · cases hh : hasO T N with
      | true =>
        have HHA : Hid (hasO T N = true) := hh
        clear hh
        go_enter Try.func23, Try.ntmps23
        go_wp2_with fail
        refine (many_z W HP.out).mono ?_
        rintro e w3 ⟨rfl, rfl⟩
        go_wp2_with fail
        refine (refAtO_any N W HO.out (by rw [HTL.out]; omega)).mono ?_
        rintro e w3 ⟨x, rfl, rfl, hx⟩
        have i2 : (0 : Int) ≤ x := hx.2 HHA.out
        clear hx
        go_wp2
        go_ret2
        exact ⟨_, T, R, G, L, rfl, HH.out, HP.out, HR.out, HO.out, (RStay.refl R).else _, ⟨rfl, rfl⟩, keeps_all HBW.out⟩
      | false =>
        have HXN : Hid (hasB G.x N = false) := HH.out.not (fun h => by have := h.2.2; rw [hh] at this; cases this)
        have HHA : Hid (hasO T N = false) := hh
        clear hh
        go_enter Try.func23, Try.ntmps23
        go_wp2_with fail
        refine (many_z W HP.out).mono ?_
        rintro e w3 ⟨rfl, rfl⟩
        go_wp2_with fail
        refine (refAtO_any N W HO.out (by rw [HTL.out]; omega)).mono ?_
        rintro e w3 ⟨x, rfl, rfl, hx⟩
        have i2 : ¬ (0 : Int) ≤ x := fun h => by have h2 := hx.1 h; rw [HHA.out] at h2; cases h2
        clear hx
        have HBD : Hid (∀ k, Below W.heap.size W (W.drewN k)) := fun k => drewN_below _ _ _
        go_wp2_with fail
        refine (readNo_z 1 HXN.out (.pointer (some ⟨r, 0, none⟩)) W HP.out).mono ?_
        rintro e w2 ⟨rfl, m, rfl⟩
        go_wp2_with fail
        refine (giveNo_z HXN.out (.pointer (some ⟨r, 0, none⟩)) _ (HP.out.below (HBD.out m))).mono ?_
        rintro e w3 ⟨rfl, m3, rfl⟩
        go_wp2_with fail
        refine (writeNo_z (.slice dp dl dc) HXN.out (.pointer (some ⟨r, 0, none⟩)) _ (HP.out.below (HBD.out (m + m3)))).mono ?_
        rintro e w4 ⟨rfl, m4, rfl⟩
        go_wp2
        go_ret2
        exact ⟨_, T, R, G, L, rfl, HH.out, HP.out.below (HBD.out _), HR.out.below (HBD.out _), HO.out.below (HBD.out _), (RStay.refl R).else _, ⟨rfl, rfl⟩, keeps_all (HBW.out.trans ((HBD.out _).mono hWS))⟩
    · have HXN : Hid (hasB G.x N = false) := HH.out.not (fun h => h1 h.2.1)
      go_enter Try.func23, Try.ntmps23
      go_wp2_with fail
      refine (many_z W HP.out).mono ?_
      rintro e w3 ⟨rfl, rfl⟩
      have HBD : Hid (∀ k, Below W.heap.size W (W.drewN k)) := fun k => drewN_below _ _ _
      go_wp2_with fail
      refine (readNo_z 1 HXN.out (.pointer (some ⟨r, 0, none⟩)) W HP.out).mono ?_
      rintro e w2 ⟨rfl, m, rfl⟩
      go_wp2_with fail
      refine (giveNo_z HXN.out (.pointer (some ⟨r, 0, none⟩)) _ (HP.out.below (HBD.out m))).mono ?_
      rintro e w3 ⟨rfl, m3, rfl⟩
      go_wp2_with fail
      refine (writeNo_z (.slice dp dl dc) HXN.out (.pointer (some ⟨r, 0, none⟩)) _ (HP.out.below (HBD.out (m + m3)))).mono ?_
      rintro e w4 ⟨rfl, m4, rfl⟩
      go_wp2
      go_ret2
      exact ⟨_, T, R, G, L, rfl, HH.out, HP.out.below (HBD.out _), HR.out.below (HBD.out _), HO.out.below (HBD.out _), (RStay.refl R).else _, ⟨rfl, rfl⟩, keeps_all (HBW.out.trans ((HBD.out _).mono hWS))⟩
end
end Go.Proofs.Ytjgkhckcoknnfaa
/- The walk of the law's own 'step': a deed that gives an object back. -/
namespace Go.Proofs.Ytjgkhckcoknnfaa
open Go.RowKit
section
variable {B E C D r q base : Nat} {R : RS} {G : PG} {L : List Nat} {T : List Ob} {v : Value} {d : Dn} {w w' : World}
set_option maxRecDepth 100000 in
set_option maxHeartbeats 4000000 in
theorem stepGive (size : Value) (h : StepIn B E C D r q base R G L T v d w) (hK : d.K = 2) (hN : 0 ≤ d.N ∧ d.N < T.length) :
    Calls Try.prog 23 #[.pointer (some ⟨r, 0, none⟩), .pointer (some ⟨q, 0, none⟩), v, .agg #[.bool d.o, .int .i64 d.K, .int .i64 d.N, .slice d.p d.l d.c], size] w (StepOut B E C D r q base R G w) := by
  obtain ⟨a, cv, rfl⟩ := row_slice h.obs.own
  obtain ⟨dO, K, N, dp, dl, dc, db⟩ := d
  have hdn := h.ok.n
  have hok := h.ok.by_
  have hfar := h.far
  dsimp only at hK hdn hok hfar ⊢
  obtain ⟨W, hW⟩ : ∃ W, w.alloc (.cells #[.bool dO, .int .i64 K, .int .i64 N, .slice dp dl dc] 51) = W := ⟨_, rfl⟩
  have hbW : Below w.heap.size w W := by rw [← hW]; exact (Below.refl _ w).alloc (Nat.le_refl _) _
  have hxW : W.heap[w.heap.size]? = some (.cells #[.bool dO, .int .i64 K, .int .i64 N, .slice dp dl dc] 51 (0, 0)) := by rw [← hW]; exact heap_alloc_new _ _
  have HX : Hid (W.heap[w.heap.size]? = some (.cells #[.bool dO, .int .i64 K, .int .i64 N, .slice dp dl dc] 51 (0, 0))) := hxW
  obtain ⟨x0, x1, x2, x3⟩ := cells4 hxW
  have HBW : Hid (Below w.heap.size w W) := hbW
  have HH : Hid (HeldZ R G L T) := h.held
  have HP : Hid (PageZ C D W q G) := h.page.below hbW
  have HR : Hid (RamAt B E W r R) := h.ram.below hbW
  have HD : Hid (D ≤ B ∨ E ≤ C) := h.dis
  have HO : Hid (ObsAt W base (.slice a T.length cv) T) := h.obs.below hbW
  have HLO : Hid (E ≤ base ∧ D ≤ base) := h.lo
  have HHI : Hid (base ≤ w.heap.size) := h.hi
  have HBY : Hid (ByAt W dp dl dc db) := hok.later hbW
  have HFAR : Hid (∀ g off, dp = some ⟨g, off, none⟩ → 0 < dl → g < B ∧ g < C) := hfar
  have hsm := h.held.small
  have hHI := h.hi
  have hWS := hbW.size
  have HWS1 : Hid (W.heap.size = w.heap.size + 1) := by show _ = _; rw [← hW]; simp
  clear h hok hfar hbW hxW
  have i1 : ¬ K < 2 := by omega
  have i2 : (K == 2) = true := by rw [beq_iff_eq]; exact hK
  clear hK
  dsimp only at hN
  obtain ⟨i, rfl, hi⟩ : ∃ i : Nat, N = (i : Nat) ∧ i < T.length := by obtain ⟨k, hk⟩ := Int.eq_ofNat_of_zero_le hN.1; exact ⟨k, hk, by omega⟩
  obtain ⟨o, hto⟩ : ∃ o, T[i]? = some o := ⟨_, List.getElem?_eq_getElem hi⟩
  obtain ⟨g, rfl, hg1, hg2, c0, c1, _⟩ := HO.out.at hto
  obtain ⟨n, hn, hn1, hn2, hn3, hn4⟩ := HH.out.at hto
  have HTO : Hid (T[i]? = some o) := hto
  have HON : Hid (o.n = (n : Nat)) := hn
  have HN1 : Hid (n < G.x.length) := hn1
  have HN2 : Hid (G.x.getD n false = true) := hn2
  have HN3 : Hid (o.b.length ≤ jSz G.c) := hn3
  have HOY : Hid (ByAt W o.p o.l o.c o.b) := HO.out.by_ o (List.mem_of_getElem? hto)
  have HOL : Hid (∀ g off, o.p = some ⟨g, off, none⟩ → 0 < o.l → base ≤ g) := HO.out.low o (List.mem_of_getElem? hto)
  rw [hn] at c0
  generalize hop : o.p = op at c1 HOY HOL
  generalize hol : o.l = ol at c1 HOY HOL
  generalize hoc : o.c = oc at c1 HOY HOL
  have hiI : (i : Int) < (T.length : Int) := by omega
  have hi256 : n < 256 := by have := HH.out.good.ok.many; omega
  have hgW : g < W.heap.size := hg2
  have HGB : Hid (base ≤ g) := hg1
  clear hto hn hn1 hn2 hn3 hn4 hN hop hol hoc hg1 hg2
  obtain ⟨W2, hW2⟩ : ∃ W2, W.alloc (.cells #[.int .i64 (n : Nat), .slice op ol oc] 87) = W2 := ⟨_, rfl⟩
  have hb2 : Below W.heap.size W W2 := by rw [← hW2]; exact (Below.refl _ W).alloc (Nat.le_refl _) _
  have hx2 : W2.heap[W.heap.size]? = some (.cells #[.int .i64 (n : Nat), .slice op ol oc] 87 (0, 0)) := by rw [← hW2]; exact heap_alloc_new _ _
  have hs2 : W2.heap.size = W.heap.size + 1 := by rw [← hW2]; simp
  have hWS1 := HWS1.out
  have HX2 : Hid (W2.heap[W.heap.size]? = some (.cells #[.int .i64 (n : Nat), .slice op ol oc] 87 (0, 0))) := hx2
  have HB2 : Hid (Below W.heap.size W W2) := hb2
  have y0 : W2.cell? ⟨W.heap.size, 0, none⟩ = some (.int .i64 (n : Nat)) := by rw [cell_of_row W2 _ _ _ _ _ hx2]; rfl
  have y1 : W2.cell? ⟨W.heap.size, 1, none⟩ = some (.slice op ol oc) := by rw [cell_of_row W2 _ _ _ _ _ hx2]; rfl
  have hdW : w.heap.size < W.heap.size := by omega
  have HDB : Hid (W2.heap[w.heap.size]? = some (.cells #[.bool dO, .int .i64 K, .int .i64 (i : Nat), .slice dp dl dc] 51 (0, 0))) := (hb2.block _ hdW).trans HX.out
  obtain ⟨z0, z1, z2, z3⟩ := cells4 HDB.out
  have HK2 : Hid (Keeps (Off B E C D) w W2) := keeps_all (HBW.out.trans (hb2.mono hWS))
  have HP2 : Hid (PageZ C D W2 q G) := HP.out.below hb2
  have HR2 : Hid (RamAt B E W2 r R) := HR.out.below hb2
  have HO2 : Hid (ObsAt W2 base (.slice (some ⟨g, 0, none⟩) T.length cv) T) := HO.out.below hb2
  have HBY2 : Hid (ByAt W2 dp dl dc db) := HBY.out.later hb2
  have HOY2 : Hid (ByAt W2 op ol oc o.b) := HOY.out.later hb2
  have HBS : Hid (base ≤ W2.heap.size) := by show _ ≤ _; omega
  have HCC : Hid (∀ w', Keeps (fun k => base ≤ k) W2 w' → (w'.cell? ⟨w.heap.size, 2, none⟩ = some (.int .i64 (i : Nat)) ∧ w'.cell? ⟨w.heap.size, 3, none⟩ = some (.slice dp dl dc)) ∧ w'.cell? ⟨W.heap.size, 0, none⟩ = some (.int .i64 (n : Nat)) ∧ w'.cell? ⟨W.heap.size, 1, none⟩ = some (.slice op ol oc)) := by
    intro w' hk
    obtain ⟨_, _, k2, k3⟩ := cells4 (hk.at HDB.out hHI)
    have h5 := hk.at HX2.out (show base ≤ W.heap.size by omega)
    exact ⟨⟨k2, k3⟩, by rw [cell_of_row w' _ _ _ _ _ h5]; rfl, by rw [cell_of_row w' _ _ _ _ _ h5]; rfl⟩
  have HOFF : Hid (∀ k, base ≤ k → Off B E C D k) := fun k hk => ⟨.inr (Nat.le_trans HLO.out.1 hk), .inr (Nat.le_trans HLO.out.2 hk)⟩
  have HW2S : Hid (W2.heap.size = W.heap.size + 1) := hs2
  clear hb2 hx2 hs2 hWS1 hdW
  have HDR : Hid (Below W2.heap.size W2 W2.drew) := drew_below _ _
  have HSM : Hid (T.length ≤ 4096) := by show _ ≤ _; omega
  have HI : Hid (i < T.length) := hi
  clear hi hsm
  go_enter Try.func23, Try.ntmps23
  go_upto_region 17 with (fail)
  go_region_held3 (fun w' => w'.cell? ⟨w.heap.size, 2, none⟩ = some (.int .i64 (i : Nat)) ∧ w'.cell? ⟨W.heap.size, 0, none⟩ = some (.int .i64 (n : Nat))) (first | (go_keep; done)) (first | (go_at_call 21; refine (giveNo_z HNB.out (.pointer (some ⟨r, 0, none⟩)) _ HPH.out).mono ?_; rintro e w6 ⟨rfl, m6, rfl⟩) | (go_at_call 12; refine (has_z (n : Nat) _ HPG.out).mono ?_; rintro e w5 ⟨rfl, m5, rfl⟩; rw [HNB.out]; have HPH : Hid (PageZ C D (w4.drewN m5) q G4) := HPG.out.below (drewN_below _ _ _)) | (go_at_call 21; refine (give_z HH.out.good HN1.out HN2.out w3 HPD.out HRD.out HD.out).mono ?_; rintro e w4 ⟨R4, G4, rfl, ram, hw, hp, hg, hm, hx, hk⟩; have HPG : Hid (PageZ C D w4 q G4) := hp; have HRG : Hid (RamAt B E w4 r R4) := ram; have HNB : Hid (hasB G4.x n = false) := (hasB_nat _ _).trans ((congrArg (fun y : List Bool => y.getD n false) hx).trans ((put_at _ _ _ _ HN1.out).trans (if_pos rfl))); have HHG : Hid (HeldZ R4 G4 (n :: L) (T.eraseIdx i)) := HH.out.give HTO.out HON.out hw hg hm hx; have HEL : Hid (Else R R4 G.F) := hw.els; have HM : Hid (Same2 G G4) := hm; have HK4 : Hid (Keeps (Off B E C D) w3 w4) := hk; obtain ⟨⟨q2, _⟩, q0, _⟩ := HCC.out w4 ((keeps_all (HDR.out.trans (HB3.out.mono HDR.out.size))).trans (hk.mono fun k _ h => HOFF.out k h)); clear ram hw hp hg hm hx hk) | (go_at_call 51; refine (refDropO_any W2.drew (HO2.out.below HDR.out) HSM.out HI.out (Nat.le_trans HBS.out HDR.out.size)).mono ?_; rintro e w3 ⟨v3, rfl, ho3, b3⟩; have HB3 : Hid (Below W2.drew.heap.size W2.drew w3) := b3; have HO3 : Hid (ObsAt w3 base v3 (T.eraseIdx i)) := ho3; have HPD : Hid (PageZ C D w3 q G) := (HP2.out.below HDR.out).below b3; have HRD : Hid (RamAt B E w3 r R) := (HR2.out.below HDR.out).below b3; obtain ⟨⟨p2, _⟩, p0, _⟩ := HCC.out w3 (keeps_all (HDR.out.trans (b3.mono HDR.out.size))); clear ho3 b3))
  all_goals
    go_wp2
    go_ret2
    exact ⟨_, T.eraseIdx i, R4, G4, n :: L, rfl, HHG.out, HPG.out.below (drewN_below _ _ _), HRG.out.below (drewN_below _ _ _), (HO3.out.kept HK4.out HOFF.out).below (drewN_below _ _ _), HEL.out, HM.out,
      ((HK2.out.trans (keeps_all (HDR.out.trans (HB3.out.mono HDR.out.size)))).trans HK4.out).trans (keeps_drew _ _ _)⟩
end
end Go.Proofs.Ytjgkhckcoknnfaa
