/- The walks of access, Many, Read, Write, Peek, Asked, Failed, Left, of a nil disk too. -/
import Derived.Test.YtacggabopdoijaaDSet
namespace Go.Proofs.Ytacggabopdoijaa
open Go.RowKit

/-- What access answers beside its error. -/
def acV (g m : Nat) (zs : List Bool) (k : Nat) (n : Int) (s : Nat) : Value := if acE m zs k n s = 0 then .slice (some ⟨g, n.toNat * 512, none⟩) 512 512 else .slice none 0 0
theorem ac_no {g m k s : Nat} {zs : List Bool} {n : Int} (h : inD m n = false) : acE m zs k n s = 2 ∧ acK m k n s = k ∧ acV g m zs k n s = .slice none 0 0 := by
  have h1 : acE m zs k n s = 2 := by simp [acE, h]
  exact ⟨h1, by simp [acK, acB, h, inc], by simp [acV, h1]⟩
theorem ac_size {g m k s : Nat} {zs : List Bool} {n : Int} (h : inD m n = true) (hs : s ≠ 512) : acE m zs k n s = 1 ∧ acK m k n s = k ∧ acV g m zs k n s = .slice none 0 0 := by
  have h1 : acE m zs k n s = 1 := by simp [acE, h, hs]
  exact ⟨h1, by simp [acK, acB, hs, inc], by simp [acV, h1]⟩
theorem ac_fail {g m k : Nat} {zs : List Bool} {n : Int} (h : inD m n = true) (hf : fa zs k = true) : acE m zs k n 512 = 12 ∧ acK m k n 512 = k + 1 ∧ acV g m zs k n 512 = .slice none 0 0 := by
  have h1 : acE m zs k n 512 = 12 := by simp [acE, h, hf]
  exact ⟨h1, by simp [acK, acB, h, inc], by simp [acV, h1]⟩
theorem ac_fine {g m k i : Nat} {zs : List Bool} (h : i < m) (hf : fa zs k = false) : acE m zs k (i : Int) 512 = 0 ∧ acK m k (i : Int) 512 = k + 1 ∧ acV g m zs k (i : Int) 512 = .slice (some ⟨g, i * 512, none⟩) 512 512 := by
  have h1 : acE m zs k (i : Int) 512 = 0 := by simp [acE, inD_nat h, hf]
  exact ⟨h1, by simp [acK, acB, inD_nat h, inc], by simp [acV, h1]⟩
set_option maxHeartbeats 400000 in
theorem access_no {r m c : Nat} {a : Option Addr} (n s : Int) (w : World) (hc : w.cell? ⟨r, 1, none⟩ = some (.slice a m c)) (hm : m ≤ 1024) (hno : inD m n = false) :
    Calls Try.prog 42 #[.pointer (some ⟨r, 0, none⟩), .int .i64 n, .int .i64 s] w fun e w' => e = .returned (.tuple #[.slice none 0 0, .int .i64 2]) ∧ w = w' := by
  have heq := fun w => Go.Lib.run_eql_slice_nil (P := Try.prog) w 28 5 none 0 0 0 0 Try.underlying28
  have HN : Hid (inD m n = false) := hno
  have HC : Hid (w.cell? ⟨r, 1, none⟩ = some (.slice a m c)) := hc
  clear hno hc
  go_enter Try.func42, Try.ntmps42
  go_wp2_with fail
  refine (sector_no n w HC.out hm HN.out).mono ?_
  rintro e w' ⟨rfl, rfl⟩
  go_wp2
  go_ret2
  exact ⟨rfl, rfl⟩
set_option maxHeartbeats 1000000 in
theorem access_any {B E r b g A C m k : Nat} {zs : List Bool} {P : List Nat} (n : Int) (s : Nat) (w : World) (h : DiskIn B E w r b g A C m zs k P) (hk : k < 1000000000) (hs : s ≤ maxLen) :
    Calls Try.prog 42 #[.pointer (some ⟨r, 0, none⟩), .int .i64 n, .int .i64 (s : Int)] w fun e w' => e = .returned (.tuple #[acV g m zs k n s, .int .i64 (acE m zs k n s : Nat)]) ∧
      DiskIn B E w' r b g A C m zs (acK m k n s) P ∧ Turns A C w w' := by
  unfold maxLen at hs
  cases hin : inD m n with
  | false =>
    obtain ⟨e1, e2, e3⟩ := ac_no (g := g) (k := k) (s := s) (zs := zs) hin
    rw [e1, e2, e3]
    exact (access_no n s w h.c1 h.small hin).mono fun e w' ⟨h1, h2⟩ => ⟨h1, by rw [← h2]; exact h, by rw [← h2]; exact Turns.refl _ _ _⟩
  | true =>
    obtain ⟨i, rfl, hi⟩ := inD_yes hin
    have heq := fun w => Go.Lib.run_eql_slice_nil (P := Try.prog) w 28 5 (some ⟨g, i * 512, none⟩) 512 512 0 0 Try.underlying28
    have H : Hid (DiskIn B E w r b g A C m zs k P) := h
    have HI : Hid (inD m (i : Int) = true) := hin
    have c0 := h.c0
    clear h hin
    by_cases h5 : s = 512
    · subst h5
      cases hf : fa zs k with
      | true =>
        obtain ⟨e1, e2, e3⟩ := ac_fail (g := g) HI.out hf
        rw [e1, e2, e3]
        have HF : Hid (fa zs k = true) := hf
        clear e1 e2 e3 hf
        go_enter Try.func42, Try.ntmps42
        go_wp2_with fail
        refine (sector_yes i w H.out.c1 H.out.small hi).mono ?_
        rintro e w' ⟨rfl, rfl⟩
        go_wp2_with fail
        refine (fails_is _ H.out.luck hk HF.out).mono ?_
        rintro e w1 ⟨rfl, h1, t1⟩
        go_wp2
        go_ret2
        exact ⟨rfl, H.out.asked h1 t1, t1⟩
      | false =>
        obtain ⟨e1, e2, e3⟩ := ac_fine (g := g) hi hf
        rw [e1, e2, e3]
        have HF : Hid (fa zs k = false) := hf
        clear e1 e2 e3 hf
        go_enter Try.func42, Try.ntmps42
        go_wp2_with fail
        refine (sector_yes i w H.out.c1 H.out.small hi).mono ?_
        rintro e w' ⟨rfl, rfl⟩
        go_wp2_with fail
        refine (fails_is _ H.out.luck hk HF.out).mono ?_
        rintro e w1 ⟨rfl, h1, t1⟩
        go_wp2
        go_ret2
        exact ⟨rfl, H.out.asked h1 t1, t1⟩
    · obtain ⟨e1, e2, e3⟩ := ac_size (g := g) (k := k) (zs := zs) HI.out h5
      rw [e1, e2, e3]
      have h6 : ((s : Int) != 512) = true := by rw [bne_iff_ne]; omega
      clear e1 e2 e3
      go_enter Try.func42, Try.ntmps42
      go_wp2_with fail
      refine (sector_yes i w H.out.c1 H.out.small hi).mono ?_
      rintro e w' ⟨rfl, rfl⟩
      go_wp2
      go_ret2
      exact ⟨rfl, H.out, Turns.refl _ _ _⟩

theorem rd_src {B E r b g A C m k k' : Nat} {zs : List Bool} {P : List Nat} {w : World} {n : Int} (h : DiskIn B E w r b g A C m zs k' P) : SrcAt w (acV g m zs k n 512) (rdD m zs k P n).length 1 (bv (rdD m zs k P n)) ∧ (rdD m zs k P n).length ≤ 8192 := by
  by_cases h0 : acE m zs k n 512 = 0
  · obtain ⟨h1, _, _⟩ := ac_ok h0
    obtain ⟨i, rfl, hi⟩ := inD_yes h1
    have hle := sec_le hi
    have e : rdD m zs k P (i : Int) = seg P (i * 512) 512 := by simp [rdD, h0]
    have hl : (seg P (i * 512) 512).length = 512 := length_seg (by rw [h.len]; exact hle)
    rw [e, hl, acV, if_pos h0, Int.toNat_natCast]
    exact ⟨h.src hi, by omega⟩
  · have e : rdD m zs k P n = [] := by simp [rdD, h0]
    rw [e, acV, if_neg h0]
    exact ⟨.inl ⟨rfl, rfl, rfl⟩, by simp⟩
set_option maxHeartbeats 1000000 in
theorem dRead_any {B E r m k : Nat} {zs : List Bool} {P : List Nat} (n : Int) (w : World) (h : DiskAt B E w r m zs k P) (hk : k < 1000000000) :
    Calls Try.prog 27 #[.pointer (some ⟨r, 0, none⟩), .int .i64 n] w fun e w' => ∃ v, e = .returned (.tuple #[v, .int .i64 (acE m zs k n 512 : Nat)]) ∧
      w'.ownsRow w.heap.size 5 1 v (rdD m zs k P n).length (bv (rdD m zs k P n)) ∧ DiskAt B E w' r m zs (acK m k n 512) P ∧ Turns B E w w' := by
  obtain ⟨b, g, A, C, h⟩ := h
  have H : Hid (DiskIn B E w r b g A C m zs k P) := h
  clear h
  go_enter Try.func27, Try.ntmps27
  go_wp2_with fail
  refine (dOwn_some _ _).mono ?_
  rintro e w' ⟨rfl, rfl⟩
  go_wp2_with fail
  refine (access_any n 512 w H.out hk (by unfold maxLen; omega)).mono ?_
  rintro e w1 ⟨rfl, h1, t1⟩
  have hs := rd_src (k := k) (n := n) h1
  have H1 : Hid (DiskIn B E w1 r b g A C m zs (acK m k n 512) P) := h1
  have T1 : Hid (Turns B E w w1) := t1.wide h1.lo.1 h1.lo.2.1
  have HS : Hid (SrcAt w1 (acV g m zs k n 512) (rdD m zs k P n).length 1 (bv (rdD m zs k P n))) := hs.1
  have HL : Hid ((rdD m zs k P n).length ≤ 8192) := hs.2
  clear h1 t1 hs
  obtain ⟨x, hx⟩ : ∃ x, acE m zs k n 512 = x := ⟨_, rfl⟩
  have HX : Hid (acE m zs k n 512 = x) := hx
  obtain ⟨v, hv⟩ : ∃ v, acV g m zs k n 512 = v := ⟨_, rfl⟩
  rw [hv] at HS
  rw [hv, hx]
  clear hv hx
  go_wp2_with fail
  refine (clone_src w1 HS.out HL.out).mono ?_
  rintro e w2 ⟨v2, rfl, own2, b2⟩
  go_wp2
  go_ret2
  exact ⟨v2, by rw [HX.out]; rfl, rowMono own2 T1.out.size, ⟨b, g, A, C, H1.out.kept b2.size (fun i _ hi => b2.block i (Nat.lt_of_lt_of_le hi H1.out.hi))⟩, T1.out.trans (Turns.of_below b2)⟩
theorem dRead_nil (n : Int) (w : World) :
    Calls Try.prog 27 #[.pointer none, .int .i64 n] w fun e w' => e = .returned (.tuple #[.slice none 0 0, .int .i64 2]) ∧ Below w.heap.size w w' := by
  have HB : Hid (Below w.heap.size w (w.alloc (.cells #[.pointer none, .slice none 0 0] 78))) := (Below.refl _ w).alloc (Nat.le_refl _) _
  have HC : Hid ((w.alloc (.cells #[.pointer none, .slice none 0 0] 78)).cell? ⟨w.heap.size, 1, none⟩ = some (.slice none 0 0)) := by show _ = _; rw [cell_of_row _ w.heap.size 1 _ _ _ (heap_alloc_new w _)]; rfl
  have HN : Hid (inD 0 n = false) := decide_eq_false (by omega)
  go_enter Try.func27, Try.ntmps27
  go_wp2_with fail
  refine (dOwn_nil _).mono ?_
  rintro e w1 ⟨rfl, rfl⟩
  go_wp2_with fail
  refine (access_no n 512 _ HC.out (by omega) HN.out).mono ?_
  rintro e w' ⟨rfl, rfl⟩
  go_wp2_with fail
  refine (clone_nil _).mono ?_
  rintro e w' ⟨rfl, rfl⟩
  go_wp2
  go_ret2
  exact ⟨rfl, HB.out⟩

set_option maxHeartbeats 1000000 in
theorem dWrite_any {B E r m k : Nat} {zs : List Bool} {P b : List Nat} {v : Value} (n : Int) (w : World) (h : DiskAt B E w r m zs k P) (hk : k < 1000000000) (hb : SrcAt w v b.length 1 (bv b)) (hap : Apart B E v b) (h8 : ∀ x ∈ b, x < 256) (hl : b.length ≤ maxLen) :
    Calls Try.prog 24 #[.pointer (some ⟨r, 0, none⟩), .int .i64 n, v] w fun e w' => e = .returned (.int .i64 (acE m zs k n b.length : Nat)) ∧
      DiskAt B E w' r m zs (acK m k n b.length) (wrD m zs k P n b) ∧ Turns B E w w' := by
  obtain ⟨bl, g, A, C, h⟩ := h
  obtain ⟨a, c, rfl⟩ := src_slice hb
  have hL := hl
  unfold maxLen at hL
  obtain ⟨q, hq⟩ : ∃ q, b.length = q := ⟨_, rfl⟩
  have HQ : Hid (b.length = q) := hq
  have e2 : wrD m zs k P n b = if acE m zs k n q = 0 then putAt P (n.toNat * 512) b else P := by rw [← hq]; rfl
  rw [e2]
  rw [hq] at hb hap hl hL
  rw [hq]
  have H : Hid (DiskIn B E w r bl g A C m zs k P) := h
  have HS : Hid (SrcAt w (.slice a q c) q 1 (bv b)) := hb
  have HA : Hid (Apart B E (.slice a q c) b) := hap
  have H8 : Hid (∀ x ∈ b, x < 256) := h8
  have HL : Hid (q ≤ maxLen) := hl
  clear h hb hap h8 hl hq e2
  by_cases h0 : acE m zs k n q = 0
  · obtain ⟨g1, g2, _⟩ := ac_ok h0
    obtain ⟨i, rfl, hi⟩ := inD_yes g1
    have hle := sec_le hi
    have e1 : acV g m zs k (i : Int) q = .slice (some ⟨g, i * 512, none⟩) q 512 := by rw [acV, if_pos h0, Int.toNat_natCast, g2]
    rw [if_pos h0, h0, Int.toNat_natCast]
    have E1 : Hid (acV g m zs k (i : Int) q = .slice (some ⟨g, i * 512, none⟩) q 512) := e1
    have H0 : Hid (acE m zs k (i : Int) q = 0) := h0
    have HF : Hid (i * 512 + b.length ≤ P.length) := by show _ ≤ _; rw [H.out.len, HQ.out, g2]; exact hle
    clear h0 g1 g2 e1 hle
    go_enter Try.func24, Try.ntmps24
    go_wp2_with fail
    refine (dOwn_some _ _).mono ?_
    rintro e w' ⟨rfl, rfl⟩
    go_wp2_with fail
    refine (access_any (i : Int) q w H.out hk HL.out).mono ?_
    rintro e w1 ⟨rfl, h1, t1⟩
    rw [E1.out, H0.out]
    have T1 : Hid (Turns B E w w1) := t1.wide h1.lo.1 h1.lo.2.1
    have hcp := fun ty => copy_row (cap := 512) h1.row HF.out (src_turns HS.out HA.out T1.out) ty
    have H2 : Hid (DiskIn B E (w1.setRow g (bv (putAt P (i * 512) b)).toArray) r bl g A C m zs (acK m k (i : Int) q) (putAt P (i * 512) b)) := h1.setP (by rw [length_putAt HF.out]; exact h1.len) (putAt_byte h1.byte H8.out)
    have T2 : Hid (Turns B E w (w1.setRow g (bv (putAt P (i * 512) b)).toArray)) := by have := h1.lo; exact T1.out.setRow (by omega) (by omega) _
    clear h1 t1
    go_wp2
    go_ret
    exact ⟨rfl, ⟨bl, g, A, C, H2.out⟩, T2.out⟩
  · have e1 : acV g m zs k n q = .slice none 0 0 := by rw [acV, if_neg h0]
    rw [if_neg h0]
    have hcp := fun (w : World) (ty : TypeId) => copy_gone (w := w) (a := a) (L := q) (c := c) ty
    have E1 : Hid (acV g m zs k n q = .slice none 0 0) := e1
    obtain ⟨x, hx⟩ : ∃ x, acE m zs k n q = x := ⟨_, rfl⟩
    have HX : Hid (acE m zs k n q = x) := hx
    rw [hx]
    clear h0 e1 hx
    go_enter Try.func24, Try.ntmps24
    go_wp2_with fail
    refine (dOwn_some _ _).mono ?_
    rintro e w' ⟨rfl, rfl⟩
    go_wp2_with fail
    refine (access_any n q w H.out hk HL.out).mono ?_
    rintro e w1 ⟨rfl, h1, t1⟩
    rw [E1.out, HX.out]
    have T1 : Hid (Turns B E w w1) := t1.wide h1.lo.1 h1.lo.2.1
    have H1 : Hid (DiskIn B E w1 r bl g A C m zs (acK m k n q) P) := h1
    clear h1 t1
    go_wp2
    go_ret
    exact ⟨rfl, ⟨bl, g, A, C, H1.out⟩, T1.out⟩
theorem dWrite_is {B E r m k q x : Nat} {zs : List Bool} {P b : List Nat} {v : Value} (n : Int) (w : World) (h : DiskAt B E w r m zs k P) (hk : k < 1000000000) (hb : SrcAt w v q 1 (bv b)) (hap : Apart B E v b) (h8 : ∀ x ∈ b, x < 256) (hl : q ≤ maxLen) (hx : acE m zs k n q = x) :
    Calls Try.prog 24 #[.pointer (some ⟨r, 0, none⟩), .int .i64 n, v] w fun e w' => e = .returned (.int .i64 (x : Nat)) ∧ DiskAt B E w' r m zs (acK m k n q) (wrD m zs k P n b) ∧ Turns B E w w' := by
  have e := src_len hb
  subst e
  subst hx
  exact dWrite_any n w h hk hb hap h8 hl
theorem dRead_is {B E r m k x : Nat} {zs : List Bool} {P : List Nat} (n : Int) (w : World) (h : DiskAt B E w r m zs k P) (hk : k < 1000000000) (hx : acE m zs k n 512 = x) :
    Calls Try.prog 27 #[.pointer (some ⟨r, 0, none⟩), .int .i64 n] w fun e w' => ∃ v, e = .returned (.tuple #[v, .int .i64 (x : Nat)]) ∧
      w'.ownsRow w.heap.size 5 1 v (rdD m zs k P n).length (bv (rdD m zs k P n)) ∧ DiskAt B E w' r m zs (acK m k n 512) P ∧ Turns B E w w' := by
  subst hx
  exact dRead_any n w h hk
theorem dWrite_nil {a : Option Addr} {L c : Nat} (n : Int) (w : World) :
    Calls Try.prog 24 #[.pointer none, .int .i64 n, .slice a L c] w fun e w' => e = .returned (.int .i64 2) ∧ Below w.heap.size w w' := by
  have HB : Hid (Below w.heap.size w (w.alloc (.cells #[.pointer none, .slice none 0 0] 78))) := (Below.refl _ w).alloc (Nat.le_refl _) _
  have HC : Hid ((w.alloc (.cells #[.pointer none, .slice none 0 0] 78)).cell? ⟨w.heap.size, 1, none⟩ = some (.slice none 0 0)) := by show _ = _; rw [cell_of_row _ w.heap.size 1 _ _ _ (heap_alloc_new w _)]; rfl
  have HN : Hid (inD 0 n = false) := decide_eq_false (by omega)
  have hcp := fun (w : World) (ty : TypeId) => copy_gone (w := w) (a := a) (L := L) (c := c) ty
  go_enter Try.func24, Try.ntmps24
  go_wp2_with fail
  refine (dOwn_nil _).mono ?_
  rintro e w1 ⟨rfl, rfl⟩
  go_wp2_with fail
  refine (access_no n L _ HC.out (by omega) HN.out).mono ?_
  rintro e w' ⟨rfl, rfl⟩
  go_wp2
  go_ret
  exact ⟨rfl, HB.out⟩

theorem dMany_any {B E r m k : Nat} {zs : List Bool} {P : List Nat} (w : World) (h : DiskAt B E w r m zs k P) :
    Calls Try.prog 20 #[.pointer (some ⟨r, 0, none⟩)] w fun e w' => e = .returned (.int .i64 (m : Nat)) ∧ w = w' := by
  obtain ⟨bl, g, A, C, h⟩ := h
  have c1 := h.c1
  have hm := h.small
  clear h
  go_enter Try.func20, Try.ntmps20
  go_wp2_with fail
  refine (dOwn_some _ _).mono ?_
  rintro e w' ⟨rfl, rfl⟩
  go_wp2
  go_ret
  exact ⟨rfl, rfl⟩
theorem dMany_nil (w : World) :
    Calls Try.prog 20 #[.pointer none] w fun e w' => e = .returned (.int .i64 0) ∧ Below w.heap.size w w' := by
  have HB : Hid (Below w.heap.size w (w.alloc (.cells #[.pointer none, .slice none 0 0] 78))) := (Below.refl _ w).alloc (Nat.le_refl _) _
  have c1 : (w.alloc (.cells #[.pointer none, .slice none 0 0] 78)).cell? ⟨w.heap.size, 1, none⟩ = some (.slice none 0 0) := by rw [cell_of_row _ w.heap.size 1 _ _ _ (heap_alloc_new w _)]; rfl
  go_enter Try.func20, Try.ntmps20
  go_wp2_with fail
  refine (dOwn_nil _).mono ?_
  rintro e w1 ⟨rfl, rfl⟩
  go_wp2
  go_ret
  exact ⟨rfl, HB.out⟩

theorem pk_src {B E r b g A C m k : Nat} {zs : List Bool} {P : List Nat} {w : World} {n : Int} (h : DiskIn B E w r b g A C m zs k P) : (pkD m P n).length ≤ 8192 := by
  unfold pkD
  split
  · rename_i h1
    obtain ⟨i, rfl, hi⟩ := inD_yes h1
    have hle := sec_le hi
    rw [Int.toNat_natCast, length_seg (by rw [h.len]; exact hle)]
    omega
  · simp
set_option maxHeartbeats 1000000 in
theorem dPeek_any {B E r m k : Nat} {zs : List Bool} {P : List Nat} (n : Int) (w : World) (h : DiskAt B E w r m zs k P) :
    Calls Try.prog 28 #[.pointer (some ⟨r, 0, none⟩), .int .i64 n] w fun e w' => ∃ v, e = .returned v ∧ w'.ownsRow w.heap.size 5 1 v (pkD m P n).length (bv (pkD m P n)) ∧ Below w.heap.size w w' := by
  obtain ⟨bl, g, A, C, h⟩ := h
  have H : Hid (DiskIn B E w r bl g A C m zs k P) := h
  have HL : Hid ((pkD m P n).length ≤ 8192) := pk_src h
  clear h
  cases hin : inD m n with
  | false =>
    have e : pkD m P n = [] := by simp [pkD, hin]
    rw [e]
    have HN : Hid (inD m n = false) := hin
    clear hin e
    go_enter Try.func28, Try.ntmps28
    go_wp2_with fail
    refine (dOwn_some _ _).mono ?_
    rintro e w' ⟨rfl, rfl⟩
    go_wp2_with fail
    refine (sector_no n w H.out.c1 H.out.small HN.out).mono ?_
    rintro e w' ⟨rfl, rfl⟩
    go_wp2_with fail
    refine (clone_nil _).mono ?_
    rintro e w' ⟨rfl, rfl⟩
    go_wp2
    go_ret
    exact ⟨_, rfl, World.ownsRow_nil _ _ _ _, Below.refl _ _⟩
  | true =>
    obtain ⟨i, rfl, hi⟩ := inD_yes hin
    have hle := sec_le hi
    have e : pkD m P (i : Int) = seg P (i * 512) 512 := by simp [pkD, hin]
    have hl : (seg P (i * 512) 512).length = 512 := length_seg (by rw [H.out.len]; exact hle)
    rw [e, hl]
    clear hin e hl HL hle
    go_enter Try.func28, Try.ntmps28
    go_wp2_with fail
    refine (dOwn_some _ _).mono ?_
    rintro e w' ⟨rfl, rfl⟩
    go_wp2_with fail
    refine (sector_yes i w H.out.c1 H.out.small hi).mono ?_
    rintro e w' ⟨rfl, rfl⟩
    go_wp2_with fail
    refine (clone_src w (H.out.src hi) (by omega)).mono ?_
    rintro e w2 ⟨v2, rfl, own2, b2⟩
    go_wp2
    go_ret
    exact ⟨_, rfl, own2, b2⟩
theorem dPeek_nil (n : Int) (w : World) :
    Calls Try.prog 28 #[.pointer none, .int .i64 n] w fun e w' => e = .returned (.slice none 0 0) ∧ Below w.heap.size w w' := by
  have HB : Hid (Below w.heap.size w (w.alloc (.cells #[.pointer none, .slice none 0 0] 78))) := (Below.refl _ w).alloc (Nat.le_refl _) _
  have HC : Hid ((w.alloc (.cells #[.pointer none, .slice none 0 0] 78)).cell? ⟨w.heap.size, 1, none⟩ = some (.slice none 0 0)) := by show _ = _; rw [cell_of_row _ w.heap.size 1 _ _ _ (heap_alloc_new w _)]; rfl
  have HN : Hid (inD 0 n = false) := decide_eq_false (by omega)
  go_enter Try.func28, Try.ntmps28
  go_wp2_with fail
  refine (dOwn_nil _).mono ?_
  rintro e w1 ⟨rfl, rfl⟩
  go_wp2_with fail
  refine (sector_no n _ HC.out (by omega) HN.out).mono ?_
  rintro e w' ⟨rfl, rfl⟩
  go_wp2_with fail
  refine (clone_nil _).mono ?_
  rintro e w' ⟨rfl, rfl⟩
  go_wp2
  go_ret
  exact ⟨rfl, HB.out⟩

theorem dAsked_is {B E r m k : Nat} {zs : List Bool} {P : List Nat} {x : Nat} (w : World) (h : DiskAt B E w r m zs k P) (hx : k = x) :
    Calls Try.prog 18 #[.pointer (some ⟨r, 0, none⟩)] w fun e w' => e = .returned (.int .i64 (x : Nat)) ∧ w = w' := by
  obtain ⟨bl, g, A, C, h⟩ := h
  have c0 := h.c0
  have HL : Hid (LuckAt A C w bl zs k) := h.luck
  have HX : Hid (k = x) := hx
  clear h hx
  go_enter Try.func18, Try.ntmps18
  go_wp2_with fail
  refine (dOwn_some _ _).mono ?_
  rintro e w' ⟨rfl, rfl⟩
  go_wp2_with fail
  refine (asked_any _ HL.out).mono ?_
  rintro e w' ⟨rfl, rfl⟩
  rw [HX.out]
  go_wp2
  go_ret
  exact ⟨rfl, rfl⟩
theorem dFailed_is {B E r m k : Nat} {zs : List Bool} {P : List Nat} {x : Nat} (w : World) (h : DiskAt B E w r m zs k P) (hx : ft zs k = x) :
    Calls Try.prog 21 #[.pointer (some ⟨r, 0, none⟩)] w fun e w' => e = .returned (.int .i64 (x : Nat)) ∧ w = w' := by
  obtain ⟨bl, g, A, C, h⟩ := h
  have c0 := h.c0
  have HL : Hid (LuckAt A C w bl zs k) := h.luck
  have HX : Hid (ft zs k = x) := hx
  clear h hx
  go_enter Try.func21, Try.ntmps21
  go_wp2_with fail
  refine (dOwn_some _ _).mono ?_
  rintro e w' ⟨rfl, rfl⟩
  go_wp2_with fail
  refine (failed_any _ HL.out).mono ?_
  rintro e w' ⟨rfl, rfl⟩
  rw [HX.out]
  go_wp2
  go_ret
  exact ⟨rfl, rfl⟩
end Go.Proofs.Ytacggabopdoijaa
