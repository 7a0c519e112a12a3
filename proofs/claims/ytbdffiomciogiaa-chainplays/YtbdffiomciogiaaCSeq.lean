/- The walks of All, of the function that it tells numbers by, and of the law's own 'all'. -/
import Derived.Test.YtbdffiomciogiaaCAll
namespace Go.Proofs.Ytbdffiomciogiaa
open Go.RowKit

/-- A list of ints in a variable of one's own (block c); its row lies from D on. -/
def LAt (c D : Nat) (w : World) (l : List Nat) : Prop := ∃ v, w.heap[c]? = some (.cells #[v] 22 (0, 0)) ∧ w.ownsRow D 3 1 v l.length (iv l)
/-- Below D no block but c turns. -/
structure Beside (c D : Nat) (w w' : World) : Prop where
  os : w'.os = w.os
  tape : w'.tape = w.tape
  output : w'.output = w.output
  size : w.heap.size ≤ w'.heap.size
  block : ∀ k, k < D → k ≠ c → w'.heap[k]? = w.heap[k]?
theorem Beside.refl (c D : Nat) (w : World) : Beside c D w w := ⟨rfl, rfl, rfl, Nat.le_refl _, fun _ _ _ => rfl⟩
theorem Beside.trans {c D : Nat} {a b d : World} (h : Beside c D a b) (k : Beside c D b d) : Beside c D a d :=
  ⟨k.os.trans h.os, k.tape.trans h.tape, k.output.trans h.output, Nat.le_trans h.size k.size, fun i h1 h2 => (k.block i h1 h2).trans (h.block i h1 h2)⟩
theorem Beside.below {c D : Nat} {w w' : World} (h : Beside c D w w') (hc : c ≤ D) : Below c w w' := ⟨h.os, h.tape, h.output, h.size, fun k hk => h.block k (by omega) (by omega)⟩
theorem Beside.cell {c D : Nat} {w w' : World} (h : Beside c D w w') {p : Addr} (h1 : p.block < D) (h2 : p.block ≠ c) : w'.cell? p = w.cell? p := World.cell?_of_block (w := w) (h.block p.block h1 h2)

set_option maxHeartbeats 400000 in
theorem yield_any {c cm D : Nat} {l : List Nat} (n : Nat) (most : Int) (w : World) (h : LAt c D w l) (hm : w.cell? ⟨cm, 0, none⟩ = some (.int .i64 most)) (hcm : cm < c) (hcD : c < D) (hD : D ≤ w.heap.size) (hl : l.length ≤ 4096) :
    Calls Try.prog 19 #[.int .i64 n, .pointer (some ⟨c, 0, none⟩), .pointer (some ⟨cm, 0, none⟩)] w fun e w' =>
      e = .returned (.bool ((l.length : Int) + 1 != most)) ∧ LAt c D w' (l ++ [n]) ∧ Beside c D w w' := by
  obtain ⟨i0, hi, hz0, hz1, hz2⟩ := info_parts Try.info3
  obtain ⟨v, hv, hown⟩ := h
  have cV := cell_of_one hv
  have fV := free_of_one hv
  have hcl := (Array.getElem?_eq_some_iff.1 hv).1
  go_enter Try.func19, Try.ntmps19
  go_wp2_with (at_builtin; refine wpList_append_own _ rfl _ _ 22 rfl D 3 i0 (.int .i64 0) 1 8 Try.underlying22 hi hz0 hz1 hz2 rfl (by decide) _ _ _ rfl (hown.alloc _) ⟨w.heap.size, 0, none⟩ 1 1 [.int .i64 (n : Int)] rfl rfl (one_new w _) (one_one _) ?c3 ?c4 ?c5 ?_)
  case c3 => unfold maxLen; omega
  case c4 => omega
  case c5 => simp; omega
  intro v' w2 hown' hgr' _
  have hg1 : Below D w w2 := ((Below.refl D w).alloc hD _).grown hgr' (by simp; omega) (fun k hk => by have := hown.lt k hk; omega)
  have hv2 : w2.heap[c]? = some (.cells #[v] 22 (0, 0)) := by rw [hg1.block c hcD]; exact hv
  have hm2 : w2.cell? ⟨cm, 0, none⟩ = some (.int .i64 most) := by rw [hg1.cell (p := ⟨cm, 0, none⟩) (Nat.lt_trans hcm hcD)]; exact hm
  obtain ⟨g', cap', rfl⟩ := row_form hown' (by assumption)
  have cV2 := cell_of_one hv2
  have fV2 := free_of_one hv2
  have hne : cm ≠ c := by omega
  have hown2 := ownsRow_setCell_below hown' (a := ⟨c, 0, none⟩) hcD (.slice (some ⟨g', 0, none⟩) (l.length + 1) cap')
  have hl2 : LAt c D (w2.setCell ⟨c, 0, none⟩ (.slice (some ⟨g', 0, none⟩) (l.length + 1) cap')) (l ++ [n]) := by
    refine ⟨_, one_setCell hv2, ?_⟩
    rw [List.length_append]
    have e : iv (l ++ [n]) = iv l ++ [.int .i64 (n : Int)] := by simp [iv]
    rw [e]
    exact hown2
  have hb2 : Beside c D w (w2.setCell ⟨c, 0, none⟩ (.slice (some ⟨g', 0, none⟩) (l.length + 1) cap')) := by
    refine ⟨hg1.os, hg1.tape, hg1.output, by simpa using hg1.size, fun k hk hne => ?_⟩
    rw [Below.heap_setCell _ _ _ _ hne]
    exact hg1.block k hk
  have HL2 : Hid _ := hl2
  have HB2 : Hid _ := hb2
  clear hl2 hown' hown2 hgr' hg1 hown hv hv2 hb2
  go_wp2
  go_ret
  exact ⟨rfl, HL2.out, HB2.out⟩
theorem yield_is {c cm D : Nat} {l : List Nat} (n : Nat) (most : Int) (w : World) (h : LAt c D w l) (hm : w.cell? ⟨cm, 0, none⟩ = some (.int .i64 most)) (hcm : cm < c) (hcD : c < D) (hD : D ≤ w.heap.size) (hl : l.length ≤ 4096) {b : Bool} (hb : ((l.length : Int) + 1 != most) = b) :
    Calls Try.prog 19 #[.int .i64 n, .pointer (some ⟨c, 0, none⟩), .pointer (some ⟨cm, 0, none⟩)] w fun e w' =>
      e = .returned (.bool b) ∧ LAt c D w' (l ++ [n]) ∧ Beside c D w w' := by
  rw [← hb]; exact yield_any n most w h hm hcm hcD hD hl

/-- As many as are wanted: all, where the number isn't above 0. -/
def upTo (most : Int) (l : List Nat) : List Nat := if 0 < most then l.take most.toNat else l
theorem upTo_all {l : List Nat} {most : Int} (h : most ≤ 0 ∨ (l.length : Int) < most) : upTo most l = l := by
  unfold upTo
  split
  · exact List.take_of_length_le (by omega)
  · rfl
theorem upTo_stop {l : List Nat} {most : Int} {k : Nat} (h : (k : Int) + 1 = most) : upTo most l = l.take (k + 1) := by
  unfold upTo
  rw [if_pos (by omega)]
  congr 1
  omega

set_option maxHeartbeats 1000000 in
theorem seq_any {B E m c cm cs : Nat} {p : Option Addr} {l : List Nat} (most : Int) (w : World) (hS : ∀ w', Below c w w' → ChainP B E w' p m l) (hv : w.heap[c]? = some (.cells #[.slice none 0 0] 22 (0, 0))) (hm : w.cell? ⟨cm, 0, none⟩ = some (.int .i64 most)) (hs : w.cell? ⟨cs, 0, none⟩ = some (.pointer p)) (hcm : cm < c) (hcs : cs < c) :
    Calls Try.prog 25 #[.func (.func 19) #[] #[.pointer (some ⟨c, 0, none⟩), .pointer (some ⟨cm, 0, none⟩)], .pointer (some ⟨cs, 0, none⟩)] w fun e w' =>
      e = .returned (.tuple #[]) ∧ LAt c (c + 1) w' (upTo most l) ∧ Below c w w' := by
  have h := hS w (Below.refl _ _)
  have hlen := h.len
  have hsm := h.small
  have hcl := (Array.getElem?_eq_some_iff.1 hv).1
  have HS : Hid _ := hS
  go_enter Try.func25, Try.ntmps25
  go_wp2_with fail
  refine (inOrder_any _ h).mono ?_
  rintro e w1 ⟨v1, rfl, own1, b1⟩
  obtain ⟨a1, c1, rfl⟩ := row_slice own1
  have hD : c < w1.heap.size := Nat.lt_of_lt_of_le hcl b1.size
  have hv1 : w1.heap[c]? = some (.cells #[.slice none 0 0] 22 (0, 0)) := by rw [b1.block c hcl]; exact hv
  have b1c : Below c w w1 := b1.mono (by omega)
  have hm1 : w1.cell? ⟨cm, 0, none⟩ = some (.int .i64 most) := by rw [b1c.cell (p := ⟨cm, 0, none⟩) hcm]; exact hm
  have hs1 : w1.cell? ⟨cs, 0, none⟩ = some (.pointer p) := by rw [b1c.cell (p := ⟨cs, 0, none⟩) hcs]; exact hs
  have OWN1 : Hid (w1.ownsRow w.heap.size 3 1 (.slice a1 l.length c1) l.length (iv l)) := own1
  have B1C : Hid _ := b1c
  have la : Hid (LAt c w1.heap.size w1 []) := ⟨_, hv1, World.ownsRow_nil _ _ _ _⟩
  have hwD := b1.size
  clear own1 b1 hv1 hv hm hs b1c h hS
  obtain ⟨D, hDe⟩ : ∃ D, D = w1.heap.size := ⟨_, rfl⟩
  rw [← hDe] at hD la hwD
  have HD : Hid _ := hDe
  clear hDe
  go_wp2_with fail
  go_loopw [4, 8] (fun _ i wr => ∃ k : Nat, k ≤ l.length ∧ i = .int .i64 k ∧ LAt c D wr (l.take k) ∧ Beside c D w1 wr ∧ (most ≤ 0 ∨ (k : Int) < most)) (fun _ i _ => l.length - (intOf i).toNat)
  case atStart => exact ⟨0, Nat.zero_le _, rfl, la.out, Beside.refl _ _ _, by omega⟩
  case round =>
    obtain ⟨k, hk, rfl, hla, hb, hmo⟩ := hrel
    have hsr : wr.cell? ⟨cs, 0, none⟩ = some (.pointer p) := by rw [hb.cell (p := ⟨cs, 0, none⟩) (by show cs < D; omega) (by show cs ≠ c; omega)]; exact hs1
    have hmr : wr.cell? ⟨cm, 0, none⟩ = some (.int .i64 most) := by rw [hb.cell (p := ⟨cm, 0, none⟩) (by show cm < D; omega) (by show cm ≠ c; omega)]; exact hm1
    have HMO : Hid _ := hmo
    have HLA : Hid (LAt c D wr (l.take k)) := hla
    have HC : Hid (ChainP B E wr p m l) := HS.out wr (B1C.out.trans (hb.below (by omega)))
    have HDr : Hid (D ≤ wr.heap.size) := by show _ ≤ _; rw [HD.out]; exact hb.size
    clear hmo hla
    by_cases hlt : k < l.length
    · obtain ⟨g, rfl, hc, _, hg1, hg2⟩ := row_at OWN1.out hlt
      have hcr : wr.cell? ⟨g, k, none⟩ = some (.int .i64 (l.getD k 0 : Nat)) := by
        rw [hb.cell (p := ⟨g, k, none⟩) (by show g < D; rw [HD.out]; exact hg2) (by show g ≠ c; omega), hc, iv_at l k hlt]
      have HT : Hid (l.take (k + 1) = l.take k ++ [l.getD k 0]) := take_next hlt
      have HH : Hid (decide (l.getD k 0 ∈ l) = true) := by
        show _ = _
        simp [List.getD, hlt]
      have HTL : Hid ((l.take k).length = k) := by show _ = _; rw [List.length_take]; omega
      clear hc
      generalize l.getD k 0 = n at *
      cases hy : ((k : Int) + 1 != most)
      · have HY : Hid ((((l.take k).length : Int) + 1 != most) = false) := by show _ = _; rw [HTL.out]; exact hy
        have HY2 : Hid ((k : Int) + 1 = most) := by show _ = _; simpa using hy
        clear hy
        go_wp2_with (first | (go_at_call 9; refine (has_is _ _ HC.out HH.out).mono ?_; rintro e w' ⟨rfl, rfl⟩) | (go_at_call 19; refine (yield_is n most wr HLA.out hmr hcm hD HDr.out (by rw [HTL.out]; omega) HY.out).mono ?_; rintro e w3 ⟨rfl, hl3, hb3⟩))
        refine bodyPost_ret (v := .tuple #[]) (by simp [results, Try.results25, go_sem]) rfl ⟨rfl, ?_, B1C.out.trans ((hb.trans hb3).below (by omega))⟩
        rw [upTo_stop HY2.out, HT.out]
        obtain ⟨v3, h31, h32⟩ := hl3
        exact ⟨v3, h31, rowMono h32 (by omega)⟩
      · have HY : Hid ((((l.take k).length : Int) + 1 != most) = true) := by show _ = _; rw [HTL.out]; exact hy
        have HY2 : Hid ((k : Int) + 1 ≠ most) := by show _ ≠ _; simpa using hy
        clear hy
        go_wp2_with (first | (go_at_call 9; refine (has_is _ _ HC.out HH.out).mono ?_; rintro e w' ⟨rfl, rfl⟩) | (go_at_call 19; refine (yield_is n most wr HLA.out hmr hcm hD HDr.out (by rw [HTL.out]; omega) HY.out).mono ?_; rintro e w3 ⟨rfl, hl3, hb3⟩))
        go_roundw
        case rel =>
          refine ⟨k + 1, by omega, by go_num, by rw [HT.out]; exact hl3, hb.trans hb3, ?_⟩
          have h1 := HMO.out
          have h2 := HY2.out
          omega
        case measure => simp [intOf]; omega
    · have e : k = l.length := by omega
      subst e
      go_wp2
      go_end0
      refine ⟨rfl, ?_, B1C.out.trans (hb.below (by omega))⟩
      rw [upTo_all HMO.out]
      obtain ⟨v3, h31, h32⟩ := HLA.out
      rw [List.take_length] at h32
      exact ⟨v3, h31, rowMono h32 (by omega)⟩

theorem Try.eqSeq (c : Value) (w : World) : (binOp .eql 42 (.func (.func 25) #[] #[c]) .nilFunc).run Try.prog w = .ok (.bool false) w := by rfl
set_option maxHeartbeats 400000 in
theorem seqOf_any (p : Option Addr) (w : World) :
    Calls Try.prog 18 #[.pointer p] w fun e w' => e = .returned (.func (.func 25) #[] #[.pointer (some ⟨w.heap.size, 0, none⟩)]) ∧ w.alloc (.cells #[.pointer p] 23) = w' := by
  have hmf : ∀ (fn : Fn) (first cap : Array Value) (w : World), (Instr.makeFunc fn first cap).run Try.prog w = .ok (.func fn first cap) w := fun _ _ _ _ => rfl
  go_enter Try.func18, Try.ntmps18
  go_wp2
  go_ret
  exact ⟨rfl, rfl⟩

set_option maxHeartbeats 400000 in
theorem all_any {B E m : Nat} {p : Option Addr} {l : List Nat} (most : Int) (w : World) (h : ChainP B E w p m l) :
    Calls Try.prog 6 #[.pointer p, .int .i64 most] w fun e w' => ∃ v, e = .returned (.tuple #[v, .bool true]) ∧
      w'.ownsRow w.heap.size 3 1 v (upTo most l).length (iv (upTo most l)) ∧ Below w.heap.size w w' := by
  have hmf : ∀ (fn : Fn) (first cap : Array Value) (w : World), (Instr.makeFunc fn first cap).run Try.prog w = .ok (.func fn first cap) w := fun _ _ _ _ => rfl
  have heq := Try.eqSeq
  go_enter Try.func6, Try.ntmps6
  go_wp2_with (first | (go_at_call 18; refine (seqOf_any _ _).mono ?_; rintro e w' ⟨rfl, rfl⟩) | fail)
  have hb3 : Below w.heap.size w (((w.alloc (.cells #[.int .i64 most] 3)).alloc (.cells #[.pointer p] 23)).alloc (.cells #[.slice none 0 0] 22)) :=
    (((Below.refl _ w).alloc (Nat.le_refl _) _).alloc (by simp) _).alloc (by simp; omega) _
  have hla : (((w.alloc (.cells #[.int .i64 most] 3)).alloc (.cells #[.pointer p] 23)).alloc (.cells #[.slice none 0 0] 22)).heap[w.heap.size + 1 + 1]? = some (.cells #[.slice none 0 0] 22 (0, 0)) := by
    have := heap_alloc_new ((w.alloc (.cells #[.int .i64 most] 3)).alloc (.cells #[.pointer p] 23)) (.cells #[.slice none 0 0] 22)
    simpa using this
  refine (seq_any (B := B) (E := E) (m := m) (c := w.heap.size + 1 + 1) (cm := w.heap.size) (cs := w.heap.size + 1) (p := p) (l := l) most _ (fun w' hw' => h.below (hb3.trans (hw'.mono (by omega)))) hla ?_ ?_ (by omega) (by omega)).mono ?_
  · refine cell_of_one (t := 3) ?_
    rw [Below.heap_alloc _ _ _ (by simp; omega), Below.heap_alloc _ _ _ (by simp)]
    exact heap_alloc_new w _
  · refine cell_of_one (t := 23) ?_
    rw [Below.heap_alloc _ _ _ (by simp)]
    have := heap_alloc_new (w.alloc (.cells #[.int .i64 most] 3)) (.cells #[.pointer p] 23)
    simpa using this
  rintro e w4 ⟨rfl, ⟨v, hv, hown⟩, hb4⟩
  have cV := cell_of_one hv
  go_wp2
  go_ret2
  exact ⟨v, rfl, rowMono hown (by omega), hb3.trans (hb4.mono (by omega))⟩
end Go.Proofs.Ytbdffiomciogiaa
