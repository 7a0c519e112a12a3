/- Texts of this seat, joined: IObs, IHeld, IOut, GArr, GOpen, GOpBy: each opens with what it holds. -/
import Derived.Test.YtjgkhckcoknnfaaZ3
import Derived.Deep.LoopGhost
import Derived.Deep.AppendLies
import Derived.Test.YtjgkhckcoknnfaaZ6
import Derived.Test.YtjgkhckcoknnfaaZ5
import Derived.Test.YtjgkhckcoknnfaaZ2
import Derived.ArgAppend
import Derived.Test.YtjgkhckcoknnfaaRows
import Derived.ProofKit
import Derived.WalkKit
import Derived.OpenShut
import Derived.ShutString
import Derived.ChangeOld
import Derived.Laws.IdiomArrays
import Derived.Test.YtjgkhckcoknnfaaZ1
import Derived.Deep.Slices
import Derived.Deep.SlicePairs
import Derived.Deep.Fields
import Derived.Lib.SmallJoins
/- Objects that are taken and what was written into them (gunnyref17.O), as they lie in memory, and the walks of the document's At, Drop, Write. -/
namespace Go.Proofs.Ytjgkhckcoknnfaa
open Go.RowKit

/-- An object: which one, and its bytes. -/
structure Ob where
  n : Int
  p : Option Addr
  l : Nat
  c : Nat
  b : List Nat
def Ob.cells (o : Ob) : List Value := [.int .i64 o.n, .slice o.p o.l o.c]
def rowO (T : List Ob) : List Value := T.flatMap Ob.cells
theorem rowO_len : ∀ T : List Ob, (rowO T).length = T.length * 2
  | [] => rfl
  | x :: T => by
    have := rowO_len T
    unfold rowO at this ⊢
    rw [List.flatMap_cons, List.length_append, this, List.length_cons]
    simp [Ob.cells]
    omega
theorem rowO_app (S T : List Ob) : rowO (S ++ T) = rowO S ++ rowO T := by simp [rowO]
theorem rowO_split (T : List Ob) (j : Nat) : rowO T = rowO (T.take j) ++ rowO (T.drop j) := by rw [← rowO_app, List.take_append_drop]
theorem rowO_one (T : List Ob) : ∀ u ∈ rowO T, u.oneCell' = true := by
  intro u hu
  obtain ⟨x, _, hx⟩ := List.mem_flatMap.1 hu
  simp only [Ob.cells, List.mem_cons, List.not_mem_nil, or_false] at hx
  rcases hx with rfl | rfl <;> rfl
theorem rowO_at : ∀ {T : List Ob} {i : Nat} {o : Ob}, T[i]? = some o → (rowO T)[i * 2]? = some (.int .i64 o.n) ∧ (rowO T)[i * 2 + 1]? = some (.slice o.p o.l o.c)
  | [], i, o, h => by simp at h
  | x :: T, 0, o, h => by
    obtain rfl : x = o := by simpa using h
    exact ⟨rfl, rfl⟩
  | x :: T, i + 1, o, h => by
    have := rowO_at (T := T) (i := i) (o := o) (by simpa using h)
    have e : (Ob.cells x).length = 2 := rfl
    show (Ob.cells x ++ rowO T)[(i + 1) * 2]? = _ ∧ (Ob.cells x ++ rowO T)[(i + 1) * 2 + 1]? = _
    rw [List.getElem?_append_right (by omega), List.getElem?_append_right (by omega), e, show (i + 1) * 2 - 2 = i * 2 by omega, show (i + 1) * 2 + 1 - 2 = i * 2 + 1 by omega]
    exact this
/-- Objects in memory, all in blocks from base on. -/
structure ObsAt (w : World) (base : Nat) (v : Value) (T : List Ob) : Prop where
  own : w.ownsRow base 87 2 v T.length (rowO T)
  by_ : ∀ o ∈ T, ByAt w o.p o.l o.c o.b
  low : ∀ o ∈ T, ∀ g off, o.p = some ⟨g, off, none⟩ → 0 < o.l → base ≤ g
section
variable {w w' : World} {base : Nat} {v : Value} {T : List Ob}
theorem ObsAt.below (h : ObsAt w base v T) (hb : Below w.heap.size w w') : ObsAt w' base v T := ⟨row_below h.own hb, fun o ho => (h.by_ o ho).later hb, h.low⟩
theorem ObsAt.nil (w : World) (base : Nat) : ObsAt w base (.slice none 0 0) [] := ⟨World.ownsRow_nil _ _ _ _, fun _ h => (by cases h), fun _ h => (by cases h)⟩
/-- Where the i-th lies. -/
theorem ObsAt.at {a : Option Addr} {c i : Nat} {o : Ob} (h : ObsAt w base (.slice a T.length c) T) (hi : T[i]? = some o) :
    ∃ g, a = some ⟨g, 0, none⟩ ∧ base ≤ g ∧ g < w.heap.size ∧ w.cell? ⟨g, i * 2, none⟩ = some (.int .i64 o.n) ∧ w.cell? ⟨g, i * 2 + 1, none⟩ = some (.slice o.p o.l o.c) ∧ ∀ j, w.frozen? ⟨g, j, none⟩ = false := by
  have hl := (List.getElem?_eq_some_iff.1 hi).1
  obtain ⟨h1, h2⟩ := rowO_at hi
  rcases h.own.2 with ⟨_, h3⟩ | ⟨g, cap, cur, h3, h4, h5, _⟩
  · omega
  · simp only [Value.slice.injEq, true_and] at h3
    obtain ⟨rfl, rfl⟩ := h3
    refine ⟨g, rfl, h4, (Array.getElem?_eq_some_iff.1 h5).1, ?_, ?_, fun j => h.own.frozenAt j⟩
    · rw [h.own.cellAt (i * 2) (by omega)]; exact h1
    · rw [h.own.cellAt (i * 2 + 1) (by omega)]; exact h2
end

/-- Is an object there? -/
def hasO (T : List Ob) (n : Int) : Bool := T.any fun o => decide (o.n = n)
set_option maxHeartbeats 1000000 in
theorem refAtO_any {base : Nat} {v : Value} {T : List Ob} (n : Int) (w : World) (h : ObsAt w base v T) (hT : T.length ≤ 4096) :
    Calls Try.prog 48 #[v, .int .i64 n] w fun e w' => ∃ x : Int, e = .returned (.int .i64 x) ∧ w = w' ∧ (0 ≤ x ↔ hasO T n = true) := by
  obtain ⟨a, c, rfl⟩ := row_slice h.own
  have H : Hid (ObsAt w base (.slice a T.length c) T) := h
  clear h
  go_enter Try.func48, Try.ntmps48
  go_wp2_with fail
  go_loopg [5] T.length (fun gk i wr => ∃ k : Nat, k ≤ T.length ∧ gk = T.length - k ∧ i = .int .i64 k ∧ w = wr ∧ ∀ j o, j < k → T[j]? = some o → o.n ≠ n)
  case atStart => exact ⟨0, by omega, rfl, rfl, rfl, fun j _ h => by omega⟩
  case round =>
    obtain ⟨k, hk, rfl, rfl, rfl, hno⟩ := hrel
    have HNO : Hid (∀ j o, j < k → T[j]? = some o → o.n ≠ n) := hno
    clear hno
    by_cases hlt : k < T.length
    · have i1 : (k : Int) < (T.length : Int) := by omega
      obtain ⟨o, ho⟩ : ∃ o, T[k]? = some o := ⟨_, List.getElem?_eq_getElem hlt⟩
      obtain ⟨g, rfl, _, _, c0, _⟩ := H.out.at ho
      have HO : Hid (T[k]? = some o) := ho
      clear ho
      by_cases he : o.n = n
      · have i2 : (o.n == n) = true := by rw [beq_iff_eq]; exact he
        have HF : Hid (hasO T n = true) := by
          show _ = _
          unfold hasO
          rw [List.any_eq_true]
          exact ⟨o, List.mem_of_getElem? HO.out, decide_eq_true he⟩
        clear he
        generalize o.n = y at *
        go_wp2
        go_ret
        exact ⟨_, rfl, rfl, by rw [HF.out]; simp⟩
      · have i2 : (o.n == n) = false := by rw [beq_eq_false_iff_ne]; exact he
        have HK : Hid (∀ j o, j < k + 1 → T[j]? = some o → o.n ≠ n) := by
          intro j o2 hj h2
          by_cases hjk : j = k
          · subst hjk
            rw [HO.out] at h2
            cases h2
            exact he
          · exact HNO.out j o2 (by omega) h2
        generalize o.n = y at *
        go_wp2
        go_roundg (T.length - (k + 1))
        case measure => omega
        case rel => exact ⟨k + 1, by omega, rfl, by go_num, rfl, HK.out⟩
    · have i1 : ¬ (k : Int) < (T.length : Int) := by omega
      have HF : Hid (hasO T n = false) := by
        show _ = _
        unfold hasO
        rw [List.any_eq_false]
        intro o ho
        obtain ⟨j, hj⟩ := List.getElem?_of_mem ho
        have := HNO.out j o (by have := (List.getElem?_eq_some_iff.1 hj).1; omega) hj
        simpa using this
      go_wp2
      go_ret
      exact ⟨_, rfl, rfl, by rw [HF.out]; simp⟩

theorem Try.infoO : (Try.prog.info? 87).map (fun i => (i.zero, i.size, i.bytes)) = some (some (.agg #[.int .i64 0, .slice none 0 0]), 2, 32) := by kernel_rfl
theorem headO_at {w : World} {B g c : Nat} {T : List Ob} (h : w.ownsRow B 87 2 (.slice (some ⟨g, 0, none⟩) T.length c) T.length (rowO T)) (j : Nat) : ∀ i u, (rowO (T.take j))[i]? = some u → w.cell? ((⟨g, 0, none⟩ : Addr).add i) = some u := by
  intro i u hu
  refine h.cells rfl i u ?_
  rw [rowO_split T j, List.getElem?_append_left (List.getElem?_eq_some_iff.1 hu).1]
  exact hu
theorem tailO_at {w : World} {B g c : Nat} {T : List Ob} (h : w.ownsRow B 87 2 (.slice (some ⟨g, 0, none⟩) T.length c) T.length (rowO T)) {j : Nat} (hj : j ≤ T.length) :
    ∃ A : Addr, (if c = j then some (⟨g, 0, none⟩ : Addr) else some ⟨g, j * 2, none⟩) = some A ∧ ∀ i u, (rowO (T.drop j))[i]? = some u → w.cell? (A.add i) = some u := by
  have hc := (row_cap h).1
  by_cases e : c = j
  · refine ⟨⟨g, 0, none⟩, by rw [if_pos e], ?_⟩
    intro i u hu
    have := (List.getElem?_eq_some_iff.1 hu).1
    rw [rowO_len, List.length_drop] at this
    omega
  · refine ⟨⟨g, j * 2, none⟩, by rw [if_neg e], ?_⟩
    intro i u hu
    have h1 := h.cells rfl (j * 2 + i) u (by
      have e2 : (rowO (T.take j)).length = j * 2 := by rw [rowO_len, List.length_take]; omega
      rw [rowO_split T j, List.getElem?_append_right (by omega), e2, show j * 2 + i - j * 2 = i by omega]
      exact hu)
    rw [Addr.add_lit] at h1 ⊢
    simpa using h1
set_option maxHeartbeats 1000000 in
theorem refDropO_any {base i : Nat} {v : Value} {T : List Ob} (w : World) (h : ObsAt w base v T) (hT : T.length ≤ 4096) (hi : i < T.length) (hbase : base ≤ w.heap.size) :
    Calls Try.prog 51 #[v, .int .i64 (i : Nat)] w fun e w' => ∃ v', e = .returned v' ∧ ObsAt w' base v' (T.eraseIdx i) ∧ Below w.heap.size w w' := by
  obtain ⟨i0, hi0, hz0, hz1, hz2⟩ := info_parts Try.infoO
  obtain ⟨a, c, rfl⟩ := row_slice h.own
  obtain ⟨g, rfl, _, hg, _⟩ := h.at (List.getElem?_eq_getElem hi)
  have H : Hid (ObsAt w base (.slice (some ⟨g, 0, none⟩) T.length c) T) := h
  obtain ⟨hcap, hcm⟩ := row_cap h.own
  unfold maxLen at hcm
  have HC1 : Hid _ := headO_at h.own i
  have LN1 : Hid ((rowO (T.take i)).length = i * 2) := by show _ = _; rw [rowO_len, List.length_take]; omega
  have hic : (i : Int) ≤ (c : Int) := by omega
  clear h
  go_enter Try.func51, Try.ntmps51
  go_wp2_with (at_builtin; refine wpList_append_own _ rfl _ _ 48 rfl w.heap.size 87 i0 _ 2 32 Try.underlying48 hi0 hz0 hz1 hz2 rfl (by decide) _ _ _ rfl (World.ownsRow_made w #[] 0 (Nat.le_refl _) (by unfold maxLen; omega) rfl) ⟨g, 0, none⟩ i c (rowO (T.take i)) rfl LN1.out ?c1 (rowO_one _) ?c3 ?c4 ?c5 ?_)
  case c1 =>
    intro j u hu
    have h3 := HC1.out j u hu
    rw [Addr.add_lit] at h3 ⊢
    rw [← h3]
    exact World.cell?_of_block (Below.heap_alloc w _ g hg)
  case c3 => unfold maxLen; omega
  case c4 => omega
  case c5 => simp
  intro v2 w2 own2 gr2 _
  have b2 : Below w.heap.size w w2 := ((Below.refl _ w).alloc (Nat.le_refl _) _).grown gr2 (by simp) (fun j hj => by simp [Value.ownBlock] at hj; omega)
  have own2' : w2.ownsRow w.heap.size 87 2 v2 i (rowO (T.take i)) := by simpa using own2
  obtain ⟨a2, c2, rfl⟩ := row_slice own2'
  have h2r := (H.out.below b2).own
  obtain ⟨A, hA, hAc⟩ := tailO_at h2r (j := i + 1) (by omega)
  have HAC : Hid (∀ j u, (rowO (T.drop (i + 1)))[j]? = some u → w2.cell? (A.add j) = some u) := hAc
  have LN2 : Hid ((rowO (T.drop (i + 1))).length = (T.length - (i + 1)) * 2) := by show _ = _; rw [rowO_len, List.length_drop]
  have OWN2 : Hid (w2.ownsRow w.heap.size 87 2 (.slice a2 i c2) i (rowO (T.take i))) := own2'
  have B2 : Hid (Below w.heap.size w w2) := b2
  have hj3 : 0 ≤ (i : Int) + 1 := by omega
  have hj4 : (i : Int) + 1 ≤ (T.length : Int) := by omega
  have hj5 : (i : Int) < (T.length : Int) := by omega
  have hwr : IntKind.i64.wrap ((i : Int) + 1) = (i : Int) + 1 := IntWalk.i64_in _ (by omega)
  have htn : ((i : Int) + 1).toNat = i + 1 := by omega
  clear gr2 own2 b2 own2' h2r hAc HC1
  go_wp2_with (at_builtin; refine wpList_append_own _ rfl _ _ 48 rfl w.heap.size 87 i0 _ 2 32 Try.underlying48 hi0 hz0 hz1 hz2 rfl (by decide) (.slice a2 i c2) i (rowO (T.take i)) rfl OWN2.out A (T.length - (i + 1)) (c - (i + 1)) (rowO (T.drop (i + 1))) (by simp [Act.eval]) LN2.out HAC.out (rowO_one _) ?e3 ?e4 ?e5 ?_)
  case e3 => unfold maxLen; omega
  case e4 => omega
  case e5 => exact B2.out.size
  intro v3 w3 own3 gr3 _
  have HF : Hid (ObsAt w3 base v3 (T.eraseIdx i) ∧ Below w.heap.size w w3) := by
    have b3 : Below w.heap.size w w3 := B2.out.grown gr3 B2.out.size (fun j hj => (OWN2.out.lt j hj).1)
    have e1 : T.eraseIdx i = T.take i ++ T.drop (i + 1) := List.eraseIdx_eq_take_drop_succ ..
    have e2 : (T.eraseIdx i).length = i + (T.length - (i + 1)) := by rw [e1, List.length_append, List.length_take, List.length_drop]; omega
    have hx := H.out.below b3
    refine ⟨⟨?_, fun o ho => hx.by_ o (List.mem_of_mem_eraseIdx ho), fun o ho => hx.low o (List.mem_of_mem_eraseIdx ho)⟩, b3⟩
    rw [e2, e1, rowO_app]
    exact rowMono own3 hbase
  clear own3 gr3
  go_wp2
  go_ret
  exact ⟨_, rfl, HF.out⟩

/-- Bytes over the first ones that were there. -/
def overB (x y : List Nat) : List Nat := y ++ x.drop y.length
theorem over_len (x y : List Nat) : (overB x y).length = max x.length y.length := by simp [overB]; omega
set_option maxHeartbeats 1000000 in
theorem refWriteO_any {p1 p2 : Option Addr} {l1 c1 l2 c2 : Nat} {x y : List Nat} (w : World) (h1 : ByAt w p1 l1 c1 x) (h2 : ByAt w p2 l2 c2 y) (hl1 : l1 ≤ 100000) (hl2 : l2 ≤ 100000) :
    Calls Try.prog 52 #[.slice p1 l1 c1, .slice p2 l2 c2] w fun e w' => ∃ v, e = .returned v ∧ w'.ownsRow w.heap.size 5 1 v (overB x y).length (bv (overB x y)) ∧ Below w.heap.size w w' := by
  obtain ⟨i0, hi, hz0, hz1, hz2⟩ := info_parts Try.info5
  have hx := h1.len
  have hy := h2.len
  have hcap1 := h1.cap
  have H1 : Hid (∀ w', Below w.heap.size w w' → SrcAt w' (.slice p1 l1 c1) l1 1 (bv x)) := fun w' hb => (h1.later hb).src
  have HB1 : Hid (ByAt w p1 l1 c1 x) := h1
  have H2 : Hid (∀ w', Below w.heap.size w w' → SrcAt w' (.slice p2 l2 c2) l2 1 (bv y)) := fun w' hb => (h2.later hb).src
  clear h1 h2
  go_enter Try.func52, Try.ntmps52
  go_wp2_with (at_builtin; refine wpList_append_src rfl _ _ 49 rfl w.heap.size 5 i0 (.int .u8 0) 1 1 Try.underlying49 hi hz0 hz1 hz2 rfl (by decide) _ _ _ rfl (World.ownsRow_made w #[] 0 (Nat.le_refl _) (by unfold maxLen; omega) rfl) _ l2 (bv y) rfl (H2.out _ ((Below.refl _ w).alloc (Nat.le_refl _) _)) (bv_one _) ?c3 ?c4 ?c5 ?_)
  case c3 => unfold maxLen; omega
  case c4 => omega
  case c5 => simp
  intro v3 w3 own3 gr3
  have b3 : Below w.heap.size w w3 := ((Below.refl _ w).alloc (Nat.le_refl _) _).grown gr3 (by simp) (fun i hi => by simp [Value.ownBlock] at hi; omega)
  have own3' : w3.ownsRow w.heap.size 5 1 v3 l2 (bv y) := by simpa using own3
  obtain ⟨a3, c3, rfl⟩ := row_slice own3'
  have HB3 : Hid (Below w.heap.size w w3) := b3
  have HO3 : Hid (w3.ownsRow w.heap.size 5 1 (.slice a3 l2 c3) l2 (bv y)) := own3'
  clear own3 gr3 own3' b3
  by_cases hlt : l2 < l1
  · have i1 : (l2 : Int) < (l1 : Int) := by omega
    obtain ⟨g, o, rfl, hg, _⟩ := HB1.out.at (by omega)
    have hcut := run_cut_from (g := g) (o := o) (L := l1) (c := c1) (l := l2) (A := (l2 : Int)) rfl (by omega) (by omega)
    have HS : Hid (SrcAt w3 (.slice (some ⟨g, o + l2, none⟩) (l1 - l2) (c1 - l2)) (l1 - l2) 1 (bv (seg x l2 (l1 - l2)))) := ((HB1.out.part (l := l2) (s := l1 - l2) (by omega) (by omega)).later HB3.out).src
    have HSG : Hid (seg x l2 (l1 - l2) = x.drop l2) := by show (x.drop l2).take (l1 - l2) = _; rw [List.take_of_length_le (by rw [List.length_drop]; omega)]
    go_wp2_with (at_builtin; refine wpList_append_src rfl _ _ 49 rfl w.heap.size 5 i0 (.int .u8 0) 1 1 Try.underlying49 hi hz0 hz1 hz2 rfl (by decide) _ l2 (bv y) rfl HO3.out _ (l1 - l2) (bv (seg x l2 (l1 - l2))) rfl HS.out (bv_one _) ?d3 ?d4 ?d5 ?_)
    case d3 => unfold maxLen; omega
    case d4 => omega
    case d5 => exact HB3.out.size
    intro v4 w4 own4 gr4
    have HF : Hid (w4.ownsRow w.heap.size 5 1 v4 (overB x y).length (bv (overB x y)) ∧ Below w.heap.size w w4) := by
      refine ⟨?_, HB3.out.grown gr4 HB3.out.size (fun j hj => (HO3.out.lt j hj).1)⟩
      rw [over_len, show max x.length y.length = l2 + (l1 - l2) by omega, overB, bv_append, hy, ← HSG.out]
      exact own4
    clear own4 gr4
    go_wp2
    go_ret
    exact ⟨_, rfl, HF.out⟩
  · have i1 : ¬ (l2 : Int) < (l1 : Int) := by omega
    have HF : Hid (overB x y = y) := by show y ++ x.drop y.length = y; rw [List.drop_of_length_le (by omega), List.append_nil]
    go_wp2
    go_ret
    exact ⟨_, rfl, by rw [HF.out, hy]; exact HO3.out, HB3.out⟩
end Go.Proofs.Ytjgkhckcoknnfaa
/- What objects hold: plain facts, and objects in memory that stay. -/
namespace Go.Proofs.Ytjgkhckcoknnfaa
open Go.RowKit

/-- Objects that are taken of a zspage, each with what was written into it. -/
structure HeldZ (R : RS) (G : PG) (L : List Nat) (T : List Ob) : Prop where
  good : GoodP R G L
  one : ∀ o ∈ T, ∃ k : Nat, o.n = k ∧ k < G.x.length ∧ G.x.getD k false = true ∧ o.b.length ≤ jSz G.c ∧ seg (allZ R G.F) (k * jSz G.c) o.b.length = o.b
  nd : (T.map Ob.n).Nodup
  all : ∀ k : Nat, k < G.x.length → G.x.getD k false = true → hasO T k = true
  len : T.length + L.length = G.x.length
theorem hasO_mem {T : List Ob} {n : Int} : hasO T n = true ↔ ∃ o ∈ T, o.n = n := by
  unfold hasO
  rw [List.any_eq_true]
  simp
theorem hasO_no {T : List Ob} {n : Int} (h : ¬ ∃ o ∈ T, o.n = n) : hasO T n = false := by
  cases h2 : hasO T n
  · rfl
  · exact absurd (hasO_mem.1 h2) h
theorem erase_mem {T : List Ob} {i : Nat} {o x : Ob} (hi : T[i]? = some o) (hx : x ∈ T) : x = o ∨ x ∈ T.eraseIdx i := by
  obtain ⟨j, hj⟩ := List.getElem?_of_mem hx
  rw [List.mem_eraseIdx_iff_getElem?]
  by_cases e : j = i
  · subst e
    rw [hi] at hj
    cases hj
    exact .inl rfl
  · exact .inr ⟨j, e, hj⟩
theorem erase_other {T : List Ob} {i : Nat} {o x : Ob} (hnd : (T.map Ob.n).Nodup) (hi : T[i]? = some o) (hx : x ∈ T.eraseIdx i) : x ∈ T ∧ x.n ≠ o.n := by
  refine ⟨List.mem_of_mem_eraseIdx hx, fun e => ?_⟩
  rw [List.mem_eraseIdx_iff_getElem?] at hx
  obtain ⟨j, hj, hjx⟩ := hx
  have h1 := List.getElem?_eq_some_iff.1 hi
  have h2 := List.getElem?_eq_some_iff.1 hjx
  obtain ⟨h1, h1'⟩ := h1
  obtain ⟨h2, h2'⟩ := h2
  have h3 := List.pairwise_iff_getElem.1 hnd
  rcases Nat.lt_or_gt_of_ne hj with h4 | h4
  · have := h3 j i (by simpa using h2) (by simpa using h1) h4
    simp only [List.getElem_map, h1', h2'] at this
    exact this e
  · have := h3 i j (by simpa using h1) (by simpa using h2) h4
    simp only [List.getElem_map, h1', h2'] at this
    exact this e.symm
section
variable {R R' : RS} {G G' : PG} {L : List Nat} {T : List Ob}
theorem HeldZ.stay (h : HeldZ R G L T) (hs : RStay R R') : HeldZ R' G L T := ⟨h.good.stay hs, fun o ho => by rw [hs.all]; exact h.one o ho, h.nd, h.all, h.len⟩
theorem HeldZ.els (h : HeldZ R G L T) {F : List Nat} (he : Else R R' F) (hd : ∀ n ∈ F, n ∉ G.F) : HeldZ R' G L T :=
  ⟨h.good.els he hd, fun o ho => by rw [he.far _ h.good.ok.row hd]; exact h.one o ho, h.nd, h.all, h.len⟩
theorem HeldZ.start (h : GoodP R G L) (hl : L.length = G.x.length) (hx : ∀ k : Nat, G.x.getD k false = false) : HeldZ R G L [] :=
  ⟨h, fun _ h => (by cases h), by simp, fun k _ h2 => (by rw [hx] at h2; cases h2), by simpa using hl⟩
theorem put_at (x : List Bool) (n k : Nat) (b : Bool) (hn : n < x.length) : (putL x n b).getD k false = if n = k then b else x.getD k false := by
  rw [putL, if_pos (by omega)]
  show (x.set n b).getD k false = _
  rw [getD_set]
  by_cases e : n = k
  · rw [if_pos ⟨e, hn⟩, if_pos e]
  · rw [if_neg (by omega), if_neg e]
theorem HeldZ.take {n : Nat} (h : HeldZ R G (n :: L) T) (hs : RStay R R') (hg : GoodP R' G' L) (hm : Same2 G G') (hx : G'.x = putL G.x n true) : HeldZ R' G' L (T ++ [⟨n, none, 0, 0, []⟩]) ∧ hasO T n = false := by
  obtain ⟨h1, h2⟩ := (h.good.mem n).1 (by simp)
  have hno : ¬ ∃ o ∈ T, o.n = (n : Int) := by
    rintro ⟨o, ho, e⟩
    obtain ⟨k, hk, _, h3, _⟩ := h.one o ho
    obtain rfl : k = n := by omega
    rw [h2] at h3
    cases h3
  have hg2 : ∀ k : Nat, G'.x.getD k false = if n = k then true else G.x.getD k false := fun k => by rw [hx]; exact put_at _ _ _ _ h1
  have hlen : G'.x.length = G.x.length := by rw [hx, len_putL]
  refine ⟨⟨hg, fun o ho => ?_, ?_, fun k hk hk2 => ?_, ?_⟩, hasO_no hno⟩
  · rw [hlen, hm.c, hm.F, hs.all]
    rcases List.mem_append.1 ho with h3 | h3
    · obtain ⟨k, e, h4, h5, h6, h7⟩ := h.one o h3
      refine ⟨k, e, h4, ?_, h6, h7⟩
      rw [hg2]
      split
      · rfl
      · exact h5
    · obtain rfl : o = ⟨n, none, 0, 0, []⟩ := by simpa using h3
      exact ⟨n, rfl, h1, by rw [hg2, if_pos rfl], Nat.zero_le _, by simp [seg]⟩
  · rw [List.map_append, List.nodup_append]
    refine ⟨h.nd, by simp, fun a ha b hb e => ?_⟩
    simp at hb
    subst hb e
    obtain ⟨o, ho, e⟩ := List.mem_map.1 ha
    exact hno ⟨o, ho, e⟩
  · rw [hasO_mem]
    rw [hg2] at hk2
    by_cases e : n = k
    · subst e
      exact ⟨⟨n, none, 0, 0, []⟩, by simp, rfl⟩
    · rw [if_neg e] at hk2
      obtain ⟨o, ho, e2⟩ := hasO_mem.1 (h.all k (by rw [← hlen]; exact hk) hk2)
      exact ⟨o, List.mem_append_left _ ho, e2⟩
  · have := h.len
    rw [List.length_cons] at this
    rw [hlen, List.length_append, List.length_singleton]
    omega
theorem HeldZ.give {i n : Nat} {o : Ob} (h : HeldZ R G L T) (hi : T[i]? = some o) (hn : o.n = n) (hw : Wrote R R' G.F (n * jSz G.c) (putN 2 G.f)) (hg : GoodP R' G' (n :: L)) (hm : Same2 G G') (hx : G'.x = putL G.x n false) : HeldZ R' G' (n :: L) (T.eraseIdx i) := by
  obtain ⟨k, e, h1, h2, _⟩ := h.one o (List.mem_of_getElem? hi)
  obtain rfl : k = n := by omega
  have hg2 : ∀ j : Nat, G'.x.getD j false = if k = j then false else G.x.getD j false := fun j => by rw [hx]; exact put_at _ _ _ _ h1
  have hlen : G'.x.length = G.x.length := by rw [hx, len_putL]
  have hs := h.good.ok.sz
  have hl := (List.getElem?_eq_some_iff.1 hi).1
  refine ⟨hg, fun x hxx => ?_, ?_, fun j hj hj2 => ?_, ?_⟩
  · obtain ⟨hxT, hne⟩ := erase_other h.nd hi hxx
    obtain ⟨j, e2, h4, h5, h6, h7⟩ := h.one x hxT
    rw [hlen, hm.c, hm.F, hw.at_]
    have hkj : k ≠ j := by omega
    refine ⟨j, e2, h4, by rw [hg2, if_neg hkj]; exact h5, h6, ?_⟩
    rw [seg_other hkj (by rw [length_putN]; omega) h6 (by rw [h.good.ok.all]; exact h.good.ok.room h1) (by rw [h.good.ok.all]; exact h.good.ok.room h4)]
    exact h7
  · exact h.nd.sublist ((List.eraseIdx_sublist _ _).map _)
  · rw [hg2] at hj2
    split at hj2
    · cases hj2
    · rename_i hkj
      obtain ⟨x, hxT, e2⟩ := hasO_mem.1 (h.all j (by rw [← hlen]; exact hj) hj2)
      rw [hasO_mem]
      rcases erase_mem hi hxT with h3 | h3
      · subst h3
        omega
      · exact ⟨x, h3, e2⟩
  · have := h.len
    rw [hlen, List.length_eraseIdx_of_lt hl, List.length_cons]
    omega
theorem seg_over {Z x y : List Nat} {a : Nat} (hx : seg Z a x.length = x) (h1 : a + x.length ≤ Z.length) (h2 : a + y.length ≤ Z.length) : seg (putAt Z a y) a (overB x y).length = overB x y := by
  rw [over_len]
  have hl : (putAt Z a y).length = Z.length := length_putAt h2
  refine ext_getD (by rw [length_seg (by rw [hl]; omega), over_len]) fun i hi => ?_
  rw [length_seg (by rw [hl]; omega)] at hi
  rw [seg_getD hi, putAt_getD h2]
  unfold overB
  by_cases c : i < y.length
  · rw [if_pos (by omega), List.getD_eq_getElem?_getD, List.getD_eq_getElem?_getD, List.getElem?_append_left c, Nat.add_sub_cancel_left]
  · rw [if_neg (by omega), List.getD_eq_getElem?_getD, List.getD_eq_getElem?_getD, List.getElem?_append_right (by omega), List.getElem?_drop, show y.length + (i - y.length) = i by omega, ← List.getD_eq_getElem?_getD, ← List.getD_eq_getElem?_getD]
    conv => rhs; rw [← hx]
    rw [seg_getD (by omega)]
theorem HeldZ.write {i n : Nat} {o : Ob} {y : List Nat} {p : Option Addr} {l c : Nat} (h : HeldZ R G L T) (hi : T[i]? = some o) (hn : o.n = n) (hy : y.length ≤ jSz G.c) (hw : Wrote R R' G.F (n * jSz G.c) y) : HeldZ R' G L (T.set i ⟨o.n, p, l, c, overB o.b y⟩) := by
  obtain ⟨k, e, h1, h2, h3, h3'⟩ := h.one o (List.mem_of_getElem? hi)
  obtain rfl : k = n := by omega
  have hl := (List.getElem?_eq_some_iff.1 hi).1
  have hmap : (T.set i ⟨o.n, p, l, c, overB o.b y⟩).map Ob.n = T.map Ob.n := by
    rw [List.map_set]
    apply List.ext_getElem? 
    intro j
    rw [List.getElem?_set]
    split
    · rename_i hj
      subst hj
      rw [List.getElem?_map, hi]
      simp [hl]
    · rfl
  have hr := h.good.ok.room h1
  refine ⟨h.good.wrote h1 h2 hy hw, fun x hx => ?_, by rw [hmap]; exact h.nd, fun j hj hj2 => ?_, by rw [List.length_set]; exact h.len⟩
  · rw [hw.at_]
    obtain ⟨j, hj⟩ := List.getElem?_of_mem hx
    rw [List.getElem?_set] at hj
    split at hj
    · rename_i hji
      subst hji
      cases hj
      refine ⟨k, e, h1, h2, ?_, seg_over h3' (by rw [h.good.ok.all]; omega) (by rw [h.good.ok.all]; omega)⟩
      show (overB o.b y).length ≤ _
      rw [over_len]
      omega
    · rename_i hji
      have hxe : x ∈ T.eraseIdx i := by rw [List.mem_eraseIdx_iff_getElem?]; exact ⟨j, fun e => hji e.symm, hj⟩
      obtain ⟨hxT, hne⟩ := erase_other h.nd hi hxe
      obtain ⟨m, e2, h4, h5, h6, h7⟩ := h.one x hxT
      have hkm : k ≠ m := by omega
      refine ⟨m, e2, h4, h5, h6, ?_⟩
      rw [seg_other hkm hy h6 (by rw [h.good.ok.all]; exact hr) (by rw [h.good.ok.all]; exact h.good.ok.room h4)]
      exact h7
  · obtain ⟨x, hxT, e2⟩ := hasO_mem.1 (h.all j hj hj2)
    rw [hasO_mem]
    have hm : (j : Int) ∈ (T.set i ⟨o.n, p, l, c, overB o.b y⟩).map Ob.n := by rw [hmap]; exact List.mem_map.2 ⟨x, hxT, e2⟩
    obtain ⟨z, hz, e3⟩ := List.mem_map.1 hm
    exact ⟨z, hz, e3⟩
theorem HeldZ.small (h : HeldZ R G L T) : T.length ≤ 256 := by have := h.len; have := h.good.ok.many; omega
/-- An object that is there. -/
theorem HeldZ.at {i : Nat} {o : Ob} (h : HeldZ R G L T) (hi : T[i]? = some o) : ∃ k : Nat, o.n = k ∧ k < G.x.length ∧ G.x.getD k false = true ∧ o.b.length ≤ jSz G.c ∧ seg (allZ R G.F) (k * jSz G.c) o.b.length = o.b := h.one o (List.mem_of_getElem? hi)
theorem HeldZ.not (h : HeldZ R G L T) {n : Int} (hn : ¬ (0 ≤ n ∧ n < G.x.length ∧ hasO T n = true)) : hasB G.x n = false := by
  cases hb : hasB G.x n
  · rfl
  · exfalso
    have h1 := mayB_of_has hb
    obtain ⟨h2, h3⟩ := of_decide_eq_true h1
    obtain ⟨k, rfl⟩ := Int.eq_ofNat_of_zero_le h2
    rw [hasB_nat] at hb
    exact hn ⟨h2, h3, h.all k (by omega) hb⟩
theorem HeldZ.used (h : HeldZ R G L T) : (allL G.x).length = T.length := by have := h.len; have := h.good.count; omega
theorem HeldZ.free (h : HeldZ R G L T) {n : Nat} (hn : n ∈ L) : hasO T n = false := by
  refine hasO_no ?_
  rintro ⟨o, ho, e⟩
  obtain ⟨k, hk, _, h3, _⟩ := h.one o ho
  obtain rfl : k = n := by omega
  rw [((h.good.mem k).1 hn).2] at h3
  cases h3
end
theorem ObsAt.kept {K : Nat → Prop} {w w' : World} {base : Nat} {v : Value} {T : List Ob} (h : ObsAt w base v T) (hk : Keeps K w w') (hK : ∀ i, base ≤ i → K i) : ObsAt w' base v T :=
  ⟨hk.row h.own fun g hg => hK g (h.own.lt g hg).1, fun o ho => hk.by (h.by_ o ho) fun g off e h0 => hK g (h.low o ho g off e h0), h.low⟩
end Go.Proofs.Ytjgkhckcoknnfaa
/- A slice of ints of one's own that is cut at its head and appended to: s[0], s = s[1:], s = append(s, n). -/
namespace Go.Proofs.Ytjgkhckcoknnfaa
open Go.RowKit

theorem size_int (w : World) : (sizeOf (Try.prog.elem 30)).run Try.prog w = .ok 1 w := by
  obtain ⟨i0, h0, hz0, hz1, hz2⟩ := info_parts Try.infoInt
  have he : Try.prog.elem 30 = 3 := by kernel_rfl
  rw [he]
  simp [sizeOf, typeInfo, h0, hz1, go_sem]
theorem und_int : Try.prog.underlying 30 = some (.slice (Try.prog.elem 30)) := by
  have he : Try.prog.elem 30 = 3 := by kernel_rfl
  rw [he]; exact Try.underlying30
/-- Numbers that a slice value tells, in a block from base on. -/
def OutAt (w : World) (base : Nat) (v : Value) (xs : List Nat) : Prop :=
  (xs = [] ∧ ∃ ao, v = .slice ao 0 0) ∨ ∃ g off c cur, v = .slice (some ⟨g, off, none⟩) xs.length c ∧ base ≤ g ∧ w.heap[g]? = some (.cells cur 3 (0, 0)) ∧ xs.length ≤ c ∧ 0 < c ∧ off + c ≤ cur.size ∧ c ≤ maxLen ∧
    ∀ j, j < xs.length → cur[off + j]? = some (.int .i64 (xs.getD j 0 : Nat))
section
variable {w w' : World} {base : Nat} {v : Value} {xs : List Nat} {x : Nat}
theorem OutAt.nil (w : World) (base : Nat) : OutAt w base (.slice none 0 0) [] := .inl ⟨rfl, none, rfl⟩
theorem OutAt.kept {K : Nat → Prop} (h : OutAt w base v xs) (hk : Keeps K w w') (hK : ∀ i, base ≤ i → K i) : OutAt w' base v xs := by
  rcases h with h | ⟨g, off, c, cur, h1, h2, h3, r⟩
  · exact .inl h
  · exact .inr ⟨g, off, c, cur, h1, h2, hk.at h3 (hK g h2), r⟩
theorem OutAt.form (h : OutAt w base v xs) : ∃ a c, v = .slice a xs.length c := by
  rcases h with ⟨rfl, ao, rfl⟩ | ⟨g, off, c, cur, h1, _⟩
  · exact ⟨ao, 0, rfl⟩
  · exact ⟨_, _, h1⟩
theorem OutAt.head (h : OutAt w base v (x :: xs)) : ∃ g off c, v = .slice (some ⟨g, off, none⟩) (xs.length + 1) c ∧ w.cell? ⟨g, off, none⟩ = some (.int .i64 (x : Nat)) ∧ base ≤ g ∧ g < w.heap.size := by
  rcases h with ⟨h, _⟩ | ⟨g, off, c, cur, h1, h2, h3, h4, h5, h6, h7, h8⟩
  · cases h
  · refine ⟨g, off, c, h1, ?_, h2, (Array.getElem?_eq_some_iff.1 h3).1⟩
    rw [cell_of_row w g off _ _ _ h3]
    exact h8 0 (by simp)
theorem OutAt.tail (h : OutAt w base v (x :: xs)) : ∃ v', (∀ w : World, (Instr.slice 30 v (some (.int .i64 1)) none none).run Try.prog w = .ok v' w) ∧ OutAt w base v' xs := by
  rcases h with ⟨h, _⟩ | ⟨g, off, c, cur, rfl, h2, h3, h4, h5, h6, h7, h8⟩
  · cases h
  · rw [List.length_cons] at h4
    have hrun : ∀ w : World, (Instr.slice 30 (.slice (some ⟨g, off, none⟩) (x :: xs).length c) (some (.int .i64 1)) none none).run Try.prog w =
        .ok (.slice (if c = 1 then some ⟨g, off, none⟩ else some ⟨g, off + 1, none⟩) xs.length (c - 1)) w := by
      intro w
      rw [List.length_cons, run_slice_l (P := Try.prog) w 30 _ _ _ und_int .i64 _ (by omega) (by omega), size_int]
      simp only [Result.andThen, sliced, Option.map_some, Nat.mul_one, Int.toNat_one, add_lit', Nat.add_sub_cancel]
    refine ⟨_, hrun, ?_⟩
    by_cases hc : c = 1
    · rw [if_pos hc]
      have hx : xs = [] := List.eq_nil_of_length_eq_zero (by omega)
      subst hx hc
      exact .inl ⟨rfl, _, rfl⟩
    · rw [if_neg hc]
      refine .inr ⟨g, off + 1, c - 1, cur, rfl, h2, h3, by omega, by omega, by omega, by omega, fun j hj => ?_⟩
      have := h8 (j + 1) (by rw [List.length_cons]; omega)
      rw [show off + 1 + j = off + (j + 1) by omega, this]
      rfl
theorem out_grown (w : World) (base : Nat) (xs : List Nat) (x cp : Nat) (z : Value) (hz : z.cells.size = 1) (hb : base ≤ w.heap.size) (h1 : xs.length + 1 ≤ cp) (h2 : cp ≤ maxLen) :
    OutAt (w.drew.alloc (.cells ((fiv xs).toArray ++ [Value.int .i64 (x : Nat)].toArray ++ Builtin.zeroCells z.cells (cp - (xs.length + 1))) 3)) base (.slice (some ⟨w.heap.size, 0, none⟩) (xs.length + 1) cp) (xs ++ [x]) := by
  have e1 : (xs ++ [x]).length = xs.length + 1 := by simp
  have hf : (fiv xs).length = xs.length := by simp [fiv]
  refine .inr ⟨w.heap.size, 0, cp, _, by rw [e1], hb, heap_alloc_new w.drew _, by omega, by omega, ?_, h2, fun j hj => ?_⟩
  · simp only [Array.size_append, List.size_toArray, size_zeroCells, hz, hf, List.length_singleton]
    omega
  · rw [Nat.zero_add, Array.getElem?_append_left (by simp only [Array.size_append, List.size_toArray, hf, List.length_singleton]; omega), List.append_toArray, List.getElem?_toArray,
      show fiv xs ++ [Value.int .i64 (x : Nat)] = fiv (xs ++ [x]) by simp [fiv]]
    exact fiv_at _ _ hj
theorem run_append_out (ty : TypeId) (h : OutAt w base v xs) (hl : xs.length ≤ 100000) (hb : base ≤ w.heap.size) (ad : Addr) (cc : Nat) (hnews : ∀ j u, [Value.int .i64 (x : Nat)][j]? = some u → w.cell? (ad.add j) = some u) :
    ∃ v' w', (Builtin.append_ #[30, 30] ty #[v, .slice (some ad) 1 cc]).run Try.prog w = .ok v' w' ∧ OutAt w' base v' (xs ++ [x]) ∧ Keeps (fun i => i < base) w w' := by
  obtain ⟨i, hi, hz0, hz1, hz2⟩ := info_parts Try.infoInt
  have hzs : (Value.int IntKind.i64 0).cells.size = 1 := rfl
  have keep : ∀ o, Keeps (fun i => i < base) w (w.drew.alloc o) := fun o => ⟨rfl, rfl, rfl, by simp, fun k hk _ => Below.heap_alloc w.drew o k hk⟩
  have hf : (fiv xs).length = xs.length := by simp [fiv]
  rcases h with ⟨rfl, ao, rfl⟩ | ⟨g, off, c, cur, rfl, h2, h3, h4, h5, h6, h7, h8⟩
  · cases ao with
    | none =>
      have hr := run_append_nil (P := Try.prog) w 30 ty 3 i _ Try.underlying30 hi hz0 ad 1 cc _ (by rw [hz1]; rfl) hnews (by omega) (by omega) (by rw [hz2]; omega)
      have hg := grownCap_ge w 1 0 3
      refine ⟨_, _, hr, ?_, keep _⟩
      have := out_grown w base [] x (grownCap w 1 0 3) (.int .i64 0) hzs hb hg (grownCap_le_maxLen w 1 0 3 (by unfold maxLen; omega))
      simpa [fiv] using this
    | some b =>
      have hr := run_append_grow (P := Try.prog) w 30 ty 3 i _ Try.underlying30 hi hz0 b 0 0 [] (by simp) (by intro _ _ h'; simp at h') ad 1 cc _ (by rw [hz1]; rfl) hnews (by omega) (by omega) (growslice_fits (by omega) (by rw [hz2]; omega))
      have hg := grownCap_ge w 1 0 3
      refine ⟨_, _, hr, ?_, keep _⟩
      have := out_grown w base [] x (grownCap w 1 0 3) (.int .i64 0) hzs hb hg (grownCap_le_maxLen w 1 0 3 (by unfold maxLen; omega))
      simpa [fiv] using this
  · have hgl := (Array.getElem?_eq_some_iff.1 h3).1
    have hcell : ∀ j, j < cur.size → w.cell? ⟨g, j, none⟩ = some cur[j]! := by
      intro j hj
      rw [cell_of_row w g j _ _ _ h3, Array.getElem?_eq_getElem hj, getElem!_pos cur j hj]
    by_cases hroom : xs.length + 1 ≤ c
    · have hr := run_append_room_cells (P := Try.prog) w 30 ty 3 i Try.underlying30 hi g off xs.length c ad 1 cc _ (by rw [hz1]; rfl) hnews (by simp [Value.oneCell']) hroom
        (fun j hj => by
          have : j = 0 := by simpa using hj
          subst this
          rw [hz1, Nat.mul_one, Nat.add_zero, hcell _ (by omega)]; rfl)
        (fun j hj => by
          rw [frozen_of_row w g _ _ _ h3])
      rw [hz1, Nat.mul_one] at hr
      refine ⟨_, _, hr, ?_, ?_⟩
      · refine .inr ⟨g, off, c, cur.setIfInBounds (off + xs.length) (.int .i64 (x : Nat)), by simp, h2, ?_, by simpa using hroom, h5, by simpa using h6, h7, fun j hj => ?_⟩
        · show (w.setCell ⟨g, off + xs.length, none⟩ (.int .i64 (x : Nat))).heap[g]? = _
          exact heap_setCell_same w g _ _ _ _ h3
        · rw [Array.getElem?_setIfInBounds]
          by_cases e : j = xs.length
          · subst e
            rw [if_pos rfl, if_pos (by omega)]
            simp
          · rw [if_neg (by omega), h8 j (by simp at hj; omega)]
            rw [List.getD_eq_getElem?_getD, List.getD_eq_getElem?_getD, List.getElem?_append_left (by simp at hj; omega)]
      · show Keeps _ w (w.setCell ⟨g, off + xs.length, none⟩ (.int .i64 (x : Nat)))
        exact ⟨rfl, rfl, rfl, by simp, fun k _ hk => Below.heap_setCell _ _ _ _ (by show k ≠ g; omega)⟩
    · have hr := run_append_grow (P := Try.prog) w 30 ty 3 i _ Try.underlying30 hi hz0 ⟨g, off, none⟩ xs.length c (fiv xs) (by rw [hf, hz1, Nat.mul_one]) (fun j u hj => by
          have hj2 : j < xs.length := by rw [← hf]; exact (List.getElem?_eq_some_iff.1 hj).1
          rw [add_lit', cell_of_row w g _ _ _ _ h3, h8 j hj2, ← hj, fiv_at _ _ hj2]) ad 1 cc _ (by rw [hz1]; rfl) hnews (by omega) (by omega) (growslice_fits (by omega) (by rw [hz2]; omega))
      have hg := grownCap_ge w (xs.length + 1) c 3
      exact ⟨_, _, hr, out_grown w base xs x _ (.int .i64 0) hzs hb hg (grownCap_le_maxLen w _ _ 3 (by unfold maxLen; omega)), keep _⟩
end
theorem wpList_append_out {w : World} {base : Nat} {v : Value} {xs : List Nat} {n : Nat} {ops : Array Oper} {rest : List Oper} {o : Oper} {a : Act} {Q : Exit → Act → World → Prop} (hgd : o.guard = none) (s x : Operand)
    (ho : o.op = .call { callee := .builtin .append, args := #[s, x], argTypes := #[30, 30] }) (hs : a.eval s = v) (h : OutAt w base v xs) (ad : Addr) (cc : Nat) (hx : a.eval x = .slice (some ad) 1 cc)
    (hnews : ∀ j u, [Value.int .i64 (n : Nat)][j]? = some u → w.cell? (ad.add j) = some u) (hl : xs.length ≤ 100000) (hb : base ≤ w.heap.size)
    (hK : ∀ v' w', OutAt w' base v' (xs ++ [n]) → Keeps (fun i => i < base) w w' → wpList Try.prog ops Q rest (a.put o.dst v') w') : wpList Try.prog ops Q (o :: rest) a w := by
  refine wpList_plain hgd fun K hK' => ?_
  obtain ⟨v', w', hr, h2, h3⟩ := run_append_out o.type h hl hb ad cc hnews
  unfold Oper.wp execOp
  simp only [ho, resolve, invoke, builtin, Sem.run_bind, Sem.run_pure, Result.andThen_ok, List.map_toArray, List.map_cons, List.map_nil, hs, hx, hr]
  exact hK' _ _ (hK v' w' h2 h3)
end Go.Proofs.Ytjgkhckcoknnfaa
/- Opening an array of integers that was handed in by value: general. -/
namespace Go.Proofs.Ytjgkhckcoknnfaa
open Go.ChangeShapes Go.WideShapes Go.ChangeAt Go.RowKit
variable {H : Type} {enc : TypeId × Value → H} {P : Program} {w : World} {base : Nat}

theorem trodElems {t e : TypeId} {n fuel : Nat} {cs : List Value} {x : DataW H × List MemPlace} {k : IntKind} (ht : P.underlying t = some (.array n e)) (he : P.underlying e = some (.int k)) (hce : P.cellsOf e = 1) (hct : P.cellsOf t = n)
    (h : DataW.trod enc P w 0 (fun _ => true) true fuel t cs = some x) : ∃ zs : List Int, cs = zs.map (Value.int k) ∧ zs.length = n ∧ ∀ z ∈ zs, (Lit.int k z).wf = true := by
  obtain ⟨xs, m, _, _, hl, hxl, hel⟩ := DataW.trod_array ht h
  rw [hct] at hl
  have hel' : ∀ i, (hi : i < cs.length) → ∃ z : Int, cs[i] = .int k z ∧ (Lit.int k z).wf = true := by
    intro i hi
    have h1 := hel i (by omega)
    rw [hce, Nat.mul_one, List.getElem?_eq_getElem (by omega)] at h1
    have h2 : (cs.drop i).take 1 = [cs[i]] := by rw [List.drop_eq_getElem_cons hi]; rfl
    rw [h2] at h1
    obtain ⟨z, e0, _, wz⟩ := DataW.trod_int he h1
    simp at e0
    exact ⟨z, e0, wz⟩
  refine ⟨cs.map intOf, ?_, by simp [hl], ?_⟩
  · apply List.ext_getElem
    · simp
    · intro i h1 h2
      obtain ⟨z, e1, _⟩ := hel' i h1
      simp [e1, intOf]
  · intro z hz
    obtain ⟨c, hc, rfl⟩ := List.mem_map.1 hz
    obtain ⟨i, hi, rfl⟩ := List.getElem_of_mem hc
    obtain ⟨z, e1, wz⟩ := hel' i hi
    rw [e1]
    exact wz

/-- An array of integers, by value. -/
theorem openArr {t e : TypeId} {n : Nat} {k : IntKind} {v : Value} {d : DataW H} {p : List MemPlace} (ht : P.underlying t = some (.array n e)) (he : P.underlying e = some (.int k)) (hce : P.cellsOf e = 1) (hct : P.cellsOf t = n)
    (o : Value.okWide P w .any base t v) (h : DataW.Trod enc P w 0 (fun _ => true) true t v d p) : ∃ zs : List Int, v = .agg (zs.map (Value.int k)).toArray ∧ zs.length = n ∧ ∀ z ∈ zs, (Lit.int k z).wf = true := by
  obtain ⟨cs, rfl, _, _⟩ : ∃ cs, v = .agg cs ∧ cs.size = P.cellsOf t ∧ Row.okWide P w .any base t cs := by
    simpa [Value.okWide, ht] using o
  obtain ⟨fuel, hf⟩ := h
  obtain ⟨zs, h1, h2, h3⟩ := trodElems ht he hce hct hf
  refine ⟨zs, ?_, h2, h3⟩
  simp only [Value.cells] at h1
  rw [← h1]
theorem openArr2 {t e : TypeId} {k : IntKind} {v : Value} {d : DataW H} {p : List MemPlace} (ht : P.underlying t = some (.array 2 e)) (he : P.underlying e = some (.int k)) (hce : P.cellsOf e = 1) (hct : P.cellsOf t = 2)
    (o : Value.okWide P w .any base t v) (h : DataW.Trod enc P w 0 (fun _ => true) true t v d p) : ∃ a b : Int, v = .agg #[.int k a, .int k b] ∧ (Lit.int k a).wf = true ∧ (Lit.int k b).wf = true := by
  obtain ⟨zs, rfl, h2, h3⟩ := openArr ht he hce hct o h
  match zs, h2 with
  | [a, b], _ => exact ⟨a, b, rfl, h3 a (by simp), h3 b (by simp)⟩
theorem openArr3 {t e : TypeId} {k : IntKind} {v : Value} {d : DataW H} {p : List MemPlace} (ht : P.underlying t = some (.array 3 e)) (he : P.underlying e = some (.int k)) (hce : P.cellsOf e = 1) (hct : P.cellsOf t = 3)
    (o : Value.okWide P w .any base t v) (h : DataW.Trod enc P w 0 (fun _ => true) true t v d p) : ∃ a b c : Int, v = .agg #[.int k a, .int k b, .int k c] ∧ (Lit.int k a).wf = true ∧ (Lit.int k b).wf = true ∧ (Lit.int k c).wf = true := by
  obtain ⟨zs, rfl, h2, h3⟩ := openArr ht he hce hct o h
  match zs, h2 with
  | [a, b, c], _ => exact ⟨a, b, c, rfl, h3 a (by simp), h3 b (by simp), h3 c (by simp)⟩
end Go.Proofs.Ytjgkhckcoknnfaa
/- Opening bytes that were handed in, in a field or by themselves: general. -/
namespace Go.Proofs.Ytjgkhckcoknnfaa
open Go.ChangeShapes Go.WideShapes Go.ChangeAt Go.RowKit Go.Deep

variable {H : Type} {enc : TypeId × Value → H} {P : Program} {w : World}
/-- Bytes that were handed in. -/
theorem bytes_cap {t e : TypeId} {fuel : Nat} {v : Value} {x : DataW H × List MemPlace} (ht : P.underlying t = some (.slice e)) (he : P.underlying e = some (.int .u8)) (hce : P.cellsOf e = 1)
    (hf : DataW.trod enc P w 0 (fun _ => true) true fuel t [v] = some x) :
    ∃ (p : Option Addr) (l c : Nat) (b : List Nat), v = .slice p l c ∧ l ≤ maxLen ∧ (l ≤ c ∧ c ≤ maxLen) ∧ SrcAt w (.slice p l c) l 1 (bv b) ∧ (∀ x ∈ b, x < 256) := by
  rcases open_ints ht he hce hf with ⟨hcs, _⟩ | ⟨a, l, c, zs, hcs, _, hl, hm, hz, _, hcell, hwz⟩
  · simp at hcs
    subst hcs
    exact ⟨none, 0, 0, [], rfl, by unfold maxLen; omega, by unfold maxLen; omega, .inl ⟨rfl, rfl, rfl⟩, by simp⟩
  · simp at hcs
    subst hcs
    have hzl : zs.length = c := by simpa using hz
    have hb8 : ∀ z ∈ zs, 0 ≤ z ∧ z < 256 := fun z hz => by have := bounds_u8 (hwz z hz); omega
    have hlen : ((zs.take l).map Int.toNat).length = l := by simp; omega
    refine ⟨_, l, c, (zs.take l).map Int.toNat, rfl, Nat.le_trans hl hm, ⟨hl, hm⟩, .inr ⟨a, c, rfl, by simp only [length_bv, hlen, Nat.mul_one], fun j u hj => ?_⟩, ?_⟩
    · obtain ⟨h1, rfl⟩ := bv_some hj
      rw [hlen] at h1
      have hj' : j < zs.length := by omega
      have hcj := hcell j hj'
      have hlt := World.block_lt_of_cell? w _ hcj
      rw [block_add] at hlt
      refine ⟨hlt, ?_⟩
      rw [hcj]
      have hz0 := hb8 (zs.getD j 0) (by rw [List.getD_eq_getElem?_getD, List.getElem?_eq_getElem hj']; exact List.getElem_mem _)
      have e : (((zs.take l).map Int.toNat).getD j 0 : Nat) = (zs.getD j 0).toNat := by simp [List.getD, hj', h1]
      rw [e, Int.toNat_of_nonneg hz0.1]
    · intro x hx
      obtain ⟨z, hz, rfl⟩ := List.mem_map.1 hx
      have := hb8 z (List.mem_of_mem_take hz)
      omega
theorem bytes_in {t e : TypeId} {fuel : Nat} {v : Value} {x : DataW H × List MemPlace} (ht : P.underlying t = some (.slice e)) (he : P.underlying e = some (.int .u8)) (hce : P.cellsOf e = 1)
    (hf : DataW.trod enc P w 0 (fun _ => true) true fuel t [v] = some x) :
    ∃ (p : Option Addr) (l c : Nat) (b : List Nat), v = .slice p l c ∧ l ≤ maxLen ∧ SrcAt w (.slice p l c) l 1 (bv b) ∧ (∀ x ∈ b, x < 256) := by
  obtain ⟨p, l, c, b, h1, h2, _, h4, h5⟩ := bytes_cap ht he hce hf
  exact ⟨p, l, c, b, h1, h2, h4, h5⟩
end Go.Proofs.Ytjgkhckcoknnfaa
/- Opening a slice of bytes that was handed in: general. -/
namespace Go.Proofs.Ytjgkhckcoknnfaa
open Go.ChangeShapes Go.WideShapes Go.ChangeAt Go.RowKit Go.Deep

variable {H : Type} {enc : TypeId × Value → H} {P : Program} {w : World} {base : Nat}
theorem openBy {t e : TypeId} {v : Value} {d : DataW H} {p : List MemPlace} (ht : P.underlying t = some (.slice e)) (he : P.underlying e = some (.int .u8)) (hce : P.cellsOf e = 1)
    (o : Value.okWide P w .any base t v) (h : DataW.Trod enc P w 0 (fun _ => true) true t v d p) : ∃ (q : Option Addr) (L c : Nat) (b : List Nat), v = .slice q L c ∧ ByAt w q L c b := by
  obtain ⟨q, L, c, rfl⟩ := okWide_slice ht o
  obtain ⟨fuel, hf⟩ := h
  obtain ⟨q', l', c2, b, e, hl, hcp, hs, h8⟩ := bytes_cap (v := .slice q L c) ht he hce hf
  cases e
  exact ⟨q, L, c, b, rfl, hs, hcp.2, hcp.1, h8⟩
end Go.Proofs.Ytjgkhckcoknnfaa
