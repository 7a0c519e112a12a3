/- The walks of All, of the function that it tells numbers by, and of the law's own 'all'. -/
import Derived.Test.YtnihgibgfnhbiaaBLen
import Derived.Test.YtnihgibgfnhbiaaBPut
import Derived.OneCell
namespace Go.Proofs.Ytnihgibgfnhbiaa
open Go.RowKit

def iv (l : List Nat) : List Value := l.map fun n : Nat => Value.int .i64 (n : Int)
/-- A list of ints in a variable of one's own (block c); its row lies behind it. -/
def LAt (c : Nat) (w : World) (l : List Nat) : Prop := ∃ v, w.heap[c]? = some (.cells #[v] 24 (0, 0)) ∧ w.ownsRow (c + 1) 3 1 v l.length (iv l)
theorem Try.info3 : (Try.prog.info? 3).map (fun i => (i.zero, i.size, i.bytes)) = some (some (.int .i64 0), 1, 8) := by kernel_rfl

theorem rowMono {w : World} {base base' : Nat} {e : TypeId} {size : Nat} {v : Value} {n : Nat} {xs : List Value} (h : w.ownsRow base e size v n xs) (hb : base' ≤ base) : w.ownsRow base' e size v n xs := by
  refine ⟨h.1, ?_⟩
  rcases h.2 with h1 | ⟨g, cap, cur, h1, h2, r⟩
  · exact .inl h1
  · exact .inr ⟨g, cap, cur, h1, by omega, r⟩
theorem row_form {w : World} {base : Nat} {e : TypeId} {size n : Nat} {v : Value} {xs : List Value} (h : w.ownsRow base e size v n xs) (hv : ¬ v = .slice none 0 0) : ∃ g cap, v = .slice (some ⟨g, 0, none⟩) n cap := by
  rcases h.2 with ⟨h1, _⟩ | ⟨g, cap, cur, h1, _⟩
  · exact absurd h1 hv
  · exact ⟨g, cap, h1⟩

set_option maxHeartbeats 400000 in
theorem yield_any {c cm : Nat} {l : List Nat} (n : Nat) (most : Int) (w : World) (h : LAt c w l) (hm : w.cell? ⟨cm, 0, none⟩ = some (.int .i64 most)) (hcm : cm < c) (hl : l.length ≤ 4096) :
    Calls Try.prog 20 #[.int .i64 n, .pointer (some ⟨c, 0, none⟩), .pointer (some ⟨cm, 0, none⟩)] w fun e w' =>
      e = .returned (.bool ((l.length : Int) + 1 != most)) ∧ LAt c w' (l ++ [n]) ∧ Below c w w' := by
  obtain ⟨i0, hi, hz0, hz1, hz2⟩ := info_parts Try.info3
  obtain ⟨v, hv, hown⟩ := h
  have cV := cell_of_one hv
  have fV := free_of_one hv
  have hcl := (Array.getElem?_eq_some_iff.1 hv).1
  go_enter Try.func20, Try.ntmps20
  go_wp2_with (at_builtin; refine wpList_append_own _ rfl _ _ 24 rfl (c + 1) 3 i0 (.int .i64 0) 1 8 Try.underlying24 hi hz0 hz1 hz2 rfl (by decide) _ _ _ rfl (hown.alloc _) ⟨w.heap.size, 0, none⟩ 1 1 [.int .i64 (n : Int)] rfl rfl ?c1 ?c2 ?c3 ?c4 ?c5 ?_)
  case c1 =>
    intro j u hj
    match j, hj with
    | 0, hj => simp at hj; subst hj; simp [Addr.add]
  case c2 => intro u hu; simp at hu; subst hu; rfl
  case c3 => unfold maxLen; omega
  case c4 => omega
  case c5 => simp; omega
  intro v' w2 hown' hgr' _
  have hg1 : Below c w w2 := ((Below.refl c w).alloc (by omega) _).grown hgr' (by simp; omega) (fun k hk => by have := hown.lt k hk; omega)
  have hv2 : w2.heap[c]? = some (.cells #[v] 24 (0, 0)) := by
    rw [hgr'.block c (by simp; omega) (fun e => by have := hown.lt c e.symm; omega)]
    rw [Below.heap_alloc _ _ _ hcl]
    exact hv
  have hm2 : w2.cell? ⟨cm, 0, none⟩ = some (.int .i64 most) := by rw [hg1.cell (p := ⟨cm, 0, none⟩) hcm]; exact hm
  obtain ⟨g', cap', rfl⟩ := row_form hown' (by assumption)
  have cV2 := cell_of_one hv2
  have fV2 := free_of_one hv2
  have hne : cm ≠ c := by omega
  have hown2 := ownsRow_setCell_below hown' (a := ⟨c, 0, none⟩) (by show c < c + 1; omega) (.slice (some ⟨g', 0, none⟩) (l.length + 1) cap')
  have hl2 : LAt c (w2.setCell ⟨c, 0, none⟩ (.slice (some ⟨g', 0, none⟩) (l.length + 1) cap')) (l ++ [n]) := by
    refine ⟨_, one_setCell hv2, ?_⟩
    rw [List.length_append]
    have e : iv (l ++ [n]) = iv l ++ [.int .i64 (n : Int)] := by simp [iv]
    rw [e]
    exact hown2
  have hb2 : Below c w (w2.setCell ⟨c, 0, none⟩ (.slice (some ⟨g', 0, none⟩) (l.length + 1) cap')) := hg1.setCell (Nat.le_refl _) _
  have HL2 : Hid _ := hl2
  clear hl2 hown' hown2 hgr' hg1 hown hv hv2
  go_wp2
  go_ret
  exact ⟨rfl, HL2.out, hb2⟩

theorem yield_is {c cm : Nat} {l : List Nat} (n : Nat) (most : Int) (w : World) (h : LAt c w l) (hm : w.cell? ⟨cm, 0, none⟩ = some (.int .i64 most)) (hcm : cm < c) (hl : l.length ≤ 4096) {b : Bool} (hb : ((l.length : Int) + 1 != most) = b) :
    Calls Try.prog 20 #[.int .i64 n, .pointer (some ⟨c, 0, none⟩), .pointer (some ⟨cm, 0, none⟩)] w fun e w' =>
      e = .returned (.bool b) ∧ LAt c w' (l ++ [n]) ∧ Below c w w' := by
  rw [← hb]; exact yield_any n most w h hm hcm hl

/-- As many as are wanted: all, where the number isn't above 0. -/
def upTo (most : Int) (l : List Nat) : List Nat := if 0 < most then l.take most.toNat else l
theorem allTo_pre (x : List Bool) (k m : Nat) : allTo x k <+: allTo x (k + m) := by
  induction m with
  | zero => exact List.prefix_refl _
  | succ m ih =>
    rw [← Nat.add_assoc, allTo_succ]
    exact ih.trans (List.prefix_append _ _)
theorem upTo_all {x : List Bool} {most : Int} (h : most ≤ 0 ∨ ((allL x).length : Int) < most) : upTo most (allL x) = allL x := by
  unfold upTo
  split
  · exact List.take_of_length_le (by omega)
  · rfl
theorem upTo_stop {x : List Bool} {most : Int} {k : Nat} (hk : k < x.length) (h : ((allTo x (k + 1)).length : Int) = most) (hp : 0 < most) : upTo most (allL x) = allTo x (k + 1) := by
  have hpre := allTo_pre x (k + 1) (x.length - (k + 1))
  rw [show k + 1 + (x.length - (k + 1)) = x.length by omega] at hpre
  unfold upTo
  rw [if_pos hp]
  have e : most.toNat = (allTo x (k + 1)).length := by omega
  rw [e]
  exact (List.prefix_iff_eq_take.1 hpre).symm

set_option maxHeartbeats 400000 in
theorem seq_any {B c cm cs : Nat} {p : Option Addr} {r : Option Nat} {x : List Bool} (most : Int) (w : World) (hS : ∀ w', Below c w w' → SetP B w' p r x) (hl : LAt c w []) (hm : w.cell? ⟨cm, 0, none⟩ = some (.int .i64 most)) (hs : w.cell? ⟨cs, 0, none⟩ = some (.pointer p)) (hcm : cm < c) (hcs : cs < c) :
    Calls Try.prog 27 #[.func (.func 20) #[] #[.pointer (some ⟨c, 0, none⟩), .pointer (some ⟨cm, 0, none⟩)], .pointer (some ⟨cs, 0, none⟩)] w fun e w' =>
      e = .returned (.tuple #[]) ∧ LAt c w' (upTo most (allL x)) ∧ Below c w w' := by
  have hsm := (hS w (Below.refl _ _)).small
  have HS : Hid _ := hS
  go_enter Try.func27, Try.ntmps27
  go_wp2_with (go_at_call 10; refine (size_any _ (HS.out w (Below.refl _ _))).mono ?_; rintro e w' ⟨rfl, rfl⟩)
  go_loopw [3, 6] (fun _ i wr => ∃ k : Nat, k ≤ x.length ∧ i = .int .i64 k ∧ LAt c wr (allTo x k) ∧ Below c w wr ∧ (most ≤ 0 ∨ ((allTo x k).length : Int) < most)) (fun _ i _ => x.length - (intOf i).toNat)
  case atStart => exact ⟨0, Nat.zero_le _, rfl, hl, Below.refl _ _, by simp [allTo]; omega⟩
  case round =>
    obtain ⟨k, hk, rfl, hla, hb, hmo⟩ := hrel
    have hsr : wr.cell? ⟨cs, 0, none⟩ = some (.pointer p) := by rw [hb.cell (p := ⟨cs, 0, none⟩) hcs]; exact hs
    have hmr : wr.cell? ⟨cm, 0, none⟩ = some (.int .i64 most) := by rw [hb.cell (p := ⟨cm, 0, none⟩) hcm]; exact hm
    have hlen := allTo_len x k
    have hsu := allTo_succ x k
    have HU : Hid _ := hsu
    have HMO : Hid _ := hmo
    have HLA : Hid _ := hla
    clear hsu hmo hla hS
    by_cases hlt : k < x.length
    · cases hh : hasB x k
      · have HH : Hid (hasB x k = false) := hh
        clear hh
        go_wp2_with (go_at_call 9; refine (has_any _ _ (HS.out wr hb)).mono ?_; rw [HH.out]; rintro e w' ⟨rfl, m2, rfl⟩)
        go_roundw
        case rel =>
          have e1 : allTo x (k + 1) = allTo x k := by rw [HU.out, ← hasB_nat, HH.out]; simp
          refine ⟨k + 1, by omega, by go_num, ?_, ?_, ?_⟩
          · rw [e1]; exact HLA.out
          · exact ⟨hb.os, hb.tape, hb.output, hb.size, hb.block⟩
          · rw [e1]; exact HMO.out
        case measure => simp [intOf]; omega
      · have HH : Hid (hasB x k = true) := hh
        clear hh
        have e1 : allTo x (k + 1) = allTo x k ++ [k] := by rw [HU.out, ← hasB_nat, HH.out]; simp
        have E1 : Hid _ := e1
        clear e1
        cases hy : (((allTo x k).length : Int) + 1 != most)
        · have HY : Hid _ := hy
          clear hy
          go_wp2_with (first | (go_at_call 9; refine (has_any _ _ (HS.out wr hb)).mono ?_; rw [HH.out]; rintro e w' ⟨rfl, m2, rfl⟩) | (go_at_call 20; refine (yield_is k most (wr.drewN m2) HLA.out (by simpa using hmr) hcm (by omega) HY.out).mono ?_; rintro e w3 ⟨rfl, hl3, hb3⟩))
          refine bodyPost_ret (v := .tuple #[]) (by simp [results, Try.results27, go_sem]) rfl ⟨rfl, ?_, hb.trans ⟨hb3.os, hb3.tape, hb3.output, hb3.size, hb3.block⟩⟩
          have h1 := HMO.out
          have h2 := HY.out
          have h3 : ((allTo x (k + 1)).length : Int) = most := by rw [E1.out]; simp at h2 ⊢; omega
          rw [upTo_stop hlt h3 (by rw [E1.out] at h3; simp at h3; omega), E1.out]
          exact hl3
        · have HY : Hid _ := hy
          clear hy
          go_wp2_with (first | (go_at_call 9; refine (has_any _ _ (HS.out wr hb)).mono ?_; rw [HH.out]; rintro e w' ⟨rfl, m2, rfl⟩) | (go_at_call 20; refine (yield_is k most (wr.drewN m2) HLA.out (by simpa using hmr) hcm (by omega) HY.out).mono ?_; rintro e w3 ⟨rfl, hl3, hb3⟩))
          go_roundw
          case rel =>
            refine ⟨k + 1, by omega, by go_num, ?_, ?_, ?_⟩
            · rw [E1.out]; exact hl3
            · exact hb.trans ⟨hb3.os, hb3.tape, hb3.output, hb3.size, hb3.block⟩
            · rw [E1.out]
              have h1 := HMO.out
              have h2 := HY.out
              simp at h2 ⊢
              omega
          case measure => simp [intOf]; omega
    · have e : k = x.length := by omega
      subst e
      go_wp2
      go_end0
      refine ⟨rfl, ?_, hb⟩
      rw [upTo_all HMO.out]
      exact HLA.out

theorem Try.eqSeq (c : Value) (w : World) : (binOp .eql 46 (.func (.func 27) #[] #[c]) .nilFunc).run Try.prog w = .ok (.bool false) w := by rfl
set_option maxHeartbeats 400000 in
theorem seqOf_any (p : Option Addr) (w : World) :
    Calls Try.prog 19 #[.pointer p] w fun e w' => e = .returned (.func (.func 27) #[] #[.pointer (some ⟨w.heap.size, 0, none⟩)]) ∧ w.alloc (.cells #[.pointer p] 23) = w' := by
  have hmf : ∀ (fn : Fn) (first cap : Array Value) (w : World), (Instr.makeFunc fn first cap).run Try.prog w = .ok (.func fn first cap) w := fun _ _ _ _ => rfl
  go_enter Try.func19, Try.ntmps19
  go_wp2
  go_ret
  exact ⟨rfl, rfl⟩

set_option maxHeartbeats 400000 in
theorem all_any {B : Nat} {p : Option Addr} {r : Option Nat} {x : List Bool} (most : Int) (w : World) (h : SetP B w p r x) :
    Calls Try.prog 6 #[.pointer p, .int .i64 most] w fun e w' => ∃ v, e = .returned (.tuple #[v, .bool true]) ∧
      w'.ownsRow w.heap.size 3 1 v (upTo most (allL x)).length (iv (upTo most (allL x))) ∧ Below w.heap.size w w' := by
  have hmf : ∀ (fn : Fn) (first cap : Array Value) (w : World), (Instr.makeFunc fn first cap).run Try.prog w = .ok (.func fn first cap) w := fun _ _ _ _ => rfl
  have heq := Try.eqSeq
  go_enter Try.func6, Try.ntmps6
  go_wp2_with (first | (go_at_call 19; refine (seqOf_any _ _).mono ?_; rintro e w' ⟨rfl, rfl⟩) | fail)
  have hb3 : Below w.heap.size w (((w.alloc (.cells #[.int .i64 most] 3)).alloc (.cells #[.pointer p] 23)).alloc (.cells #[.slice none 0 0] 24)) :=
    (((Below.refl _ w).alloc (Nat.le_refl _) _).alloc (by simp) _).alloc (by simp; omega) _
  have hla : LAt (w.heap.size + 1 + 1) (((w.alloc (.cells #[.int .i64 most] 3)).alloc (.cells #[.pointer p] 23)).alloc (.cells #[.slice none 0 0] 24)) [] := by
    refine ⟨_, ?_, World.ownsRow_nil _ _ _ _⟩
    have := heap_alloc_new ((w.alloc (.cells #[.int .i64 most] 3)).alloc (.cells #[.pointer p] 23)) (.cells #[.slice none 0 0] 24)
    simpa using this
  refine (seq_any (B := B) (c := w.heap.size + 1 + 1) (cm := w.heap.size) (cs := w.heap.size + 1) (p := p) (r := r) (x := x) most _ (fun w' hw' => h.below (hb3.trans (hw'.mono (by omega)))) hla ?_ ?_ (by omega) (by omega)).mono ?_
  · refine cell_of_one (t := 3) ?_
    rw [Below.heap_alloc _ _ _ (by simp; omega), Below.heap_alloc _ _ _ (by simp)]
    exact heap_alloc_new w _
  · refine cell_of_one (t := 23) ?_
    rw [Below.heap_alloc _ _ _ (by simp)]
    have := heap_alloc_new (w.alloc (.cells #[.int .i64 most] 3)) (.cells #[.pointer p] 23)
    simpa using this
  rintro e w4 ⟨rfl, ⟨v, hv, hown⟩, hb4⟩
  have cV := cell_of_one hv
  go_wp2
  go_ret2
  exact ⟨v, rfl, rowMono hown (by omega), hb3.trans (hb4.mono (by omega))⟩
end Go.Proofs.Ytnihgibgfnhbiaa
