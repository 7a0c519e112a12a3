/- The walks of New, Take, Give, Owner, Count and Many of a RAM. -/
import Derived.Test.YteebjeifbccbnaaMWord
import Derived.Test.YteebjeifbccbnaaFNew
import Derived.Test.YteebjeifbccbnaaFCount
namespace Go.Proofs.Yteebjeifbccbnaa
open Go.RowKit

/-- 'clear(s)' of a part of a row. -/
theorem run_clear_row {P : Program} (w : World) (t e ty : TypeId) (z : Value) (ht : P.underlying t = some (.slice e)) (hv : ∀ w, (zeroValue e).run P w = .ok z w) (hz : z.cells = #[z]) (h1 : z.oneCell' = true) (g o n c : Nat) (hn : 0 < n) (cur : Array Value) (tt : TypeId)
    (hg : w.heap[g]? = some (.cells cur tt (0, 0))) (hfit : o + n ≤ cur.size) :
    (Builtin.clear_ #[t] ty #[.slice (some ⟨g, o, none⟩) n c]).run P w = .ok (.tuple #[]) (w.setRow g (cur.toList.take o ++ List.replicate n z ++ cur.toList.drop (o + n)).toArray) := by
  have hzc : (Builtin.zeroCells z.cells n).toList = List.replicate n z := by
    rw [hz]
    simp [Builtin.zeroCells]
    apply List.ext_getElem
    · simp
    · intro i h1 h2
      simp [Nat.mod_one]
  have hst := run_storeCells_at P g o tt (List.replicate n z) 0 cur w hg (by simpa using hfit) (fun v hv' => by rw [List.eq_of_mem_replicate hv']; exact h1)
  simp only [Nat.add_zero, List.length_replicate] at hst
  obtain ⟨m, rfl⟩ : ∃ m, n = m + 1 := ⟨n - 1, by omega⟩
  simp [Builtin.clear_, run_underlying ht, hv, hzc, hst]
theorem zero_u8 (w : World) : (zeroValue 5).run Try.prog w = .ok (.int .u8 0) w := by
  obtain ⟨i0, hi, hz0, hz1, hz2⟩ := info_parts Try.info5
  simp [zeroValue, typeInfo, hi, hz0]
theorem bv_rep (n : Nat) : bv (List.replicate n 0) = List.replicate n (.int .u8 0) := by simp [bv]
theorem rep_byte (n : Nat) : ∀ x ∈ List.replicate n 0, x < 256 := by intro x hx; rw [List.eq_of_mem_replicate hx]; omega
theorem CellsAt.cleared {B F E r g m t x n : Nat} {w : World} {pf : Option Addr} {tg : TypeId} {vP : Value} {O : List Int} {S P : List Nat} (h : CellsAt B F E w r g pf tg vP m t x O S P) (hn : n < m) :
    ∃ w2, (∀ ty, (Builtin.clear_ #[24] ty #[.slice (some ⟨g, n * 4096, none⟩) 4096 4096]).run Try.prog w = .ok (.tuple #[]) w2) ∧
      CellsAt B F E w2 r g pf tg vP m t x O S (putAt P (n * 4096) (List.replicate 4096 0)) ∧ Turns B E w w2 := by
  have hgp : w.heap[g]? = some (.cells (bv P).toArray 70 (0, 0)) := by
    rcases h.vp with h1 | ⟨_, h1⟩
    · omega
    · exact h1
  have hpl : n * 4096 + 4096 ≤ P.length := by have := plc_le (a := 0) (s := 4096) hn (by omega); have e := plc_nat n 0; have := h.len; omega
  have hlo := h.lo
  have hrl : (List.replicate 4096 0).length = 4096 := List.length_replicate
  refine ⟨w.setRow g (bv (putAt P (n * 4096) (List.replicate 4096 0))).toArray, fun ty => ?_, h.setP (length_putAt (by rw [hrl]; exact hpl)) (putAt_byte h.byte (rep_byte 4096)), (Turns.refl B E w).setRow (by omega) (by omega) _⟩
  have hr := run_clear_row (P := Try.prog) w 24 5 ty (.int .u8 0) Try.underlying24 zero_u8 rfl rfl g (n * 4096) 4096 4096 (by omega) (bv P).toArray 70 hgp (by simpa using hpl)
  rw [hr]
  have e2 := bv_putAt P (n * 4096) (List.replicate 4096 0)
  rw [length_bv, hrl, bv_rep] at e2
  rw [← e2]

theorem tkP_no {S P : List Nat} {o : Int} (h : tkB S o = false) : tkP S P o = P := by simp [tkP, h]
set_option maxHeartbeats 1000000 in
theorem ramTake_any {B E r m t x : Nat} {O : List Int} {S P : List Nat} (o : Int) (w : World) (h : RamAt B E w r m t x O S P) (ht : t < 1000) :
    Calls Try.prog 8 #[.pointer (some ⟨r, 0, none⟩), .int .i64 o] w fun e w' => e = .returned (.tuple #[.int .i64 (tkN S o : Nat), .bool (tkB S o)]) ∧
      RamAt B E w' r m (up t (tkB S o)) x (tkO O S o) (tkS S o) (tkP S P o) ∧ Turns B E w w' := by
  obtain ⟨F, g, pf, tg, vP, h⟩ := h
  have c0 := h.c0
  have hlo := h.lo
  cases hb : tkB S o with
  | false =>
    rw [tkP_no hb]
    have HB : Hid (tkB S o = false) := hb
    have HH : Hid (CellsAt B F E w r g pf tg vP m t x O S P) := h
    clear hb h
    go_enter Try.func8, Try.ntmps8
    go_wp2_with fail
    refine (own_some _ _).mono ?_
    rintro e w' ⟨rfl, rfl⟩
    go_wp2_with fail
    refine (take_any o w HH.out.fr ht).mono ?_
    rintro e w1 ⟨rfl, h1, t1⟩
    rw [HB.out] at h1 ⊢
    have HF : Hid (CellsAt B F E w1 r g pf tg vP m (up t false) x (tkO O S o) (tkS S o) P) := HH.out.step h1 t1
    have HT : Hid (Turns B E w w1) := t1.wide (Nat.le_refl _) (by omega)
    clear h1 t1 c0
    go_wp2
    go_ret2
    exact ⟨rfl, ⟨F, g, pf, tg, vP, HF.out⟩, HT.out⟩
  | true =>
    obtain ⟨hs, o1, o3⟩ := tk_of hb
    have hsm := h.fr.small
    have htop := (h.fr.good.top hs).1
    have e1 : tkN S o = S.getD (S.length - 1) 0 := by simp [tkN, hb]
    obtain ⟨n, hn⟩ : ∃ n, tkN S o = n := ⟨_, rfl⟩
    rw [← e1, hn] at htop
    have HN : Hid (tkN S o = n) := hn
    have HP : Hid (tkP S P o = putAt P (n * 4096) (List.replicate 4096 0)) := by show _ = _; rw [tkP, if_pos hb, hn]
    rw [HP.out, hn]
    have HB : Hid (tkB S o = true) := hb
    have HH : Hid (CellsAt B F E w r g pf tg vP m t x O S P) := h
    clear hb h e1 hn hs
    go_enter Try.func8, Try.ntmps8
    go_wp2_with fail
    refine (own_some _ _).mono ?_
    rintro e w' ⟨rfl, rfl⟩
    go_wp2_with fail
    refine (take_any o w HH.out.fr ht).mono ?_
    rintro e w1 ⟨rfl, h1, t1⟩
    rw [HB.out] at h1 ⊢
    rw [HN.out]
    have hf : CellsAt B F E w1 r g pf tg vP m (up t true) x (tkO O S o) (tkS S o) P := HH.out.step h1 t1
    have HT : Hid (Turns B E w w1) := t1.wide (Nat.le_refl _) (by omega)
    obtain ⟨w2, hrun, hp2, ht2⟩ := hf.cleared htop
    have c1 := hf.c1
    have HP2 : Hid (CellsAt B F E w2 r g pf tg vP m (up t true) x (tkO O S o) (tkS S o) (putAt P (n * 4096) (List.replicate 4096 0))) := hp2
    have HT2 : Hid (Turns B E w w2) := HT.out.trans ht2
    rcases hf.vp with h5 | ⟨rfl, _⟩
    · omega
    have hnm : (n : Int) < (m : Int) := by omega
    clear h1 t1 c0 hf hp2 ht2
    go_wp2
    go_ret2
    exact ⟨rfl, ⟨F, g, pf, tg, _, HP2.out⟩, HT2.out⟩

set_option maxHeartbeats 400000 in
theorem ramGive_any {B E r m t x : Nat} {O : List Int} {S P : List Nat} (n : Int) (w : World) (h : RamAt B E w r m t x O S P) (ht : t < 1000) :
    Calls Try.prog 22 #[.pointer (some ⟨r, 0, none⟩), .int .i64 n] w fun e w' => e = .returned (.bool (gvB O n)) ∧
      RamAt B E w' r m (up t (gvB O n)) x (gvO O n) (gvS O S n) P ∧ Turns B E w w' := by
  obtain ⟨F, g, pf, tg, vP, h⟩ := h
  have c0 := h.c0
  have hlo := h.lo
  have HH : Hid (CellsAt B F E w r g pf tg vP m t x O S P) := h
  clear h
  go_enter Try.func22, Try.ntmps22
  go_wp2_with fail
  refine (own_some _ _).mono ?_
  rintro e w' ⟨rfl, rfl⟩
  go_wp2_with fail
  refine (give_any n w HH.out.fr ht).mono ?_
  rintro e w1 ⟨rfl, h1, t1⟩
  have HF : Hid _ := HH.out.step h1 t1
  have HT : Hid (Turns B E w w1) := t1.wide (Nat.le_refl _) (by omega)
  clear h1 t1 c0
  go_wp2
  go_ret
  exact ⟨rfl, ⟨F, g, pf, tg, vP, HF.out⟩, HT.out⟩
theorem ramOwner_any {B E r m t x : Nat} {O : List Int} {S P : List Nat} (n : Int) (w : World) (h : RamAt B E w r m t x O S P) :
    Calls Try.prog 21 #[.pointer (some ⟨r, 0, none⟩), .int .i64 n] w fun e w' => e = .returned (.int .i64 (ownI O n)) ∧ w = w' := by
  obtain ⟨F, g, pf, tg, vP, h⟩ := h
  have c0 := h.c0
  have HH : Hid (CellsAt B F E w r g pf tg vP m t x O S P) := h
  clear h
  go_enter Try.func21, Try.ntmps21
  go_wp2_with fail
  refine (own_some _ _).mono ?_
  rintro e w' ⟨rfl, rfl⟩
  go_wp2_with fail
  refine (owner_any n w HH.out.fr).mono ?_
  rintro e w' ⟨rfl, rfl⟩
  go_wp2
  go_ret
  exact ⟨rfl, rfl⟩
theorem ramMany_any {B E r m t x : Nat} {O : List Int} {S P : List Nat} (w : World) (h : RamAt B E w r m t x O S P) :
    Calls Try.prog 23 #[.pointer (some ⟨r, 0, none⟩)] w fun e w' => e = .returned (.int .i64 (m : Nat)) ∧ w = w' := by
  obtain ⟨F, g, pf, tg, vP, h⟩ := h
  have c0 := h.c0
  have HH : Hid (CellsAt B F E w r g pf tg vP m t x O S P) := h
  clear h
  go_enter Try.func23, Try.ntmps23
  go_wp2_with fail
  refine (own_some _ _).mono ?_
  rintro e w' ⟨rfl, rfl⟩
  go_wp2_with fail
  refine (many_any w HH.out.fr).mono ?_
  rintro e w' ⟨rfl, rfl⟩
  go_wp2
  go_ret
  exact ⟨rfl, rfl⟩
theorem ramCount_any {B E r m t x : Nat} {O : List Int} {S P : List Nat} (a : Option Addr) (L c : Nat) (zs : List Int) (w : World) (h : RamAt B E w r m t x O S P) (hz : IntsAt .i64 w a zs) (hzl : zs.length = L) (hL : L ≤ 1000) :
    Calls Try.prog 17 #[.pointer (some ⟨r, 0, none⟩), .slice a L c] w fun e w' => e = .returned (.int .i64 (cnt O zs : Nat)) ∧ Below w.heap.size w w' := by
  obtain ⟨F, g, pf, tg, vP, h⟩ := h
  have c0 := h.c0
  have HH : Hid (CellsAt B F E w r g pf tg vP m t x O S P) := h
  have HZ : Hid (IntsAt .i64 w a zs) := hz
  have HZL : Hid (zs.length = L) := hzl
  clear h hz hzl
  go_enter Try.func17, Try.ntmps17
  go_wp2_with fail
  refine (own_some _ _).mono ?_
  rintro e w' ⟨rfl, rfl⟩
  go_wp2_with fail
  refine (count_any a L c zs w HH.out.fr HZ.out HZL.out hL).mono ?_
  rintro e w1 ⟨rfl, b1⟩
  go_wp2
  go_ret
  exact ⟨rfl, b1⟩
end Go.Proofs.Yteebjeifbccbnaa
