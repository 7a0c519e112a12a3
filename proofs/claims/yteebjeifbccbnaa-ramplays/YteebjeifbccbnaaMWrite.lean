/- The walks of Write, Word, SetWord, Touches. -/
import Derived.Test.YteebjeifbccbnaaMOps
namespace Go.Proofs.Yteebjeifbccbnaa
open Go.RowKit

theorem Try.size5 : (Try.prog.info? 5).map (·.size) = some 1 := by kernel_rfl
/-- What copy does to the pages: bytes b that lie elsewhere are laid from o on. -/
theorem copy_pages {w : World} {g o s cap L c : Nat} {a : Option Addr} {b P : List Nat} (hg : w.heap[g]? = some (.cells (bv P).toArray 70 (0, 0))) (hl : b.length = s) (hL : s = L) (hfit : o + s ≤ P.length)
    (hb : NumsAt .u8 w a b) (ty : TypeId) :
    ∃ w2, (Builtin.copy_ #[24, 24] ty #[.slice (some ⟨g, o, none⟩) s cap, .slice a L c]).run Try.prog w = .ok (.int .i64 (s : Int)) w2 ∧ w2 = w.setRow g (bv (putAt P o b)).toArray := by
  subst hL
  rcases hb with rfl | ⟨bb, off, rfl, hbl, hcell⟩
  · obtain rfl : s = 0 := by simpa using hl.symm
    refine ⟨w, ?_, ?_⟩
    · exact run_copy_none w 24 24 ty 5 _ _ _ _ _ _ Try.underlying24 Try.size5 rfl
    · rw [putAt_nil, setRow_self w g _ _ _ hg]
  · have hr := run_copy_row (P := Try.prog) w 24 24 ty 5 g o s cap ⟨bb, off, none⟩ s c (bv P).toArray 70 (bv b) Try.underlying24 Try.size5 hg (by simp [hl]) ?_ (by simp [hl]; exact hfit) (bv_one b)
    · refine ⟨_, hr.trans ?_, rfl⟩
      have e : (bv b).length = s := by simp [hl]
      rw [e]
      have e2 := bv_putAt P o b
      rw [e] at e2
      show Result.ok (Value.int .i64 (s : Int)) (w.setRow g ((bv P).take o ++ bv b ++ (bv P).drop (o + s)).toArray) = _
      rw [e2]
    · intro j v hj
      obtain ⟨h1, rfl⟩ := bv_some hj
      rw [add_lit', hcell j h1]
theorem copy_gone {w : World} {a : Option Addr} {L c : Nat} (ty : TypeId) :
    (Builtin.copy_ #[24, 24] ty #[.slice none 0 0, .slice a L c]).run Try.prog w = .ok (.int .i64 0) w :=
  run_copy_none w 24 24 ty 5 _ _ _ _ _ _ Try.underlying24 Try.size5 (by simp)

theorem CellsAt.copied {B F E r g m t x n a s L c : Nat} {w : World} {p pf : Option Addr} {tg : TypeId} {vP : Value} {O : List Int} {S P b : List Nat} (h : CellsAt B F E w r g pf tg vP m t x O S P) (hn : n < m) (has : a + s ≤ 4096) (hl : b.length = s)
    (hb : NumsAt .u8 w p b) (h8 : ∀ x ∈ b, x < 256) (hL : s = L) :
    ∃ w2, (∀ ty, (Builtin.copy_ #[24, 24] ty #[.slice (some ⟨g, n * 4096 + offOf a, none⟩) s (4096 - a), .slice p L c]).run Try.prog w = .ok (.int .i64 (s : Int)) w2) ∧
      CellsAt B F E w2 r g pf tg vP m t x O S (putAt P (n * 4096 + a) b) ∧ Turns B E w w2 := by
  have hgp : w.heap[g]? = some (.cells (bv P).toArray 70 (0, 0)) := by
    rcases h.vp with h1 | ⟨_, h1⟩
    · omega
    · exact h1
  have hpl : n * 4096 + a + s ≤ P.length := by have := plc_le (s := s) hn has; have e := plc_nat n a; have := h.len; omega
  have ho : offOf a ≤ a := by unfold offOf; split <;> omega
  have hlo := h.lo
  refine ⟨w.setRow g (bv (putAt P (n * 4096 + a) b)).toArray, fun ty => ?_, h.setP (length_putAt (by omega)) (putAt_byte h.byte h8), (Turns.refl B E w).setRow (by omega) (by omega) _⟩
  obtain ⟨w3, h3, rfl⟩ := copy_pages (o := n * 4096 + offOf a) (cap := 4096 - a) (L := L) (c := c) hgp hl hL (by omega) hb ty
  rw [h3]
  by_cases ha : a = 4096
  · have hb0 : b = [] := List.eq_nil_of_length_eq_zero (by omega)
    rw [hb0, putAt_nil, putAt_nil]
  · have e0 : offOf a = a := by simp [offOf, ha]
    rw [e0]

theorem wr_no {O : List Int} {P b : List Nat} {n a : Int} (h : thB O n a b.length = false) : wrP O P n a b = P := by simp [wrP, h]
theorem wr_yes {O : List Int} {P b : List Nat} {n a : Nat} (h : thB O n a b.length = true) : wrP O P n a b = putAt P (n * 4096 + a) b := by rw [wrP, if_pos h, plc_nat]
theorem nums_set {w : World} {a : Option Addr} {b : List Nat} {r : Nat} {v : Value} (hb : NumsAt .u8 w a b) (hr : ∀ q, a = some q → b ≠ [] → q.block ≠ r) : NumsAt .u8 (w.setCell ⟨r, 2, none⟩ v) a b := by
  rcases hb with rfl | ⟨bb, off, rfl, hbl, hc⟩
  · exact .inl rfl
  by_cases he : b = []
  · exact .inl he
  · refine .inr ⟨bb, off, rfl, by simpa using hbl, fun i hi => ?_⟩
    rw [← hc i hi]
    exact World.cell?_of_block (Below.heap_setCell _ _ _ _ (hr ⟨bb, off, none⟩ rfl he))

set_option maxHeartbeats 1000000 in
theorem ramWrite_any {B E r m t x : Nat} {O : List Int} {S P b : List Nat} {p : Option Addr} {L c : Nat} (n a : Int) (w : World) (h : RamAt B E w r m t x O S P) (hx : x < 1000000) (hL : L ≤ maxLen)
    (hl : b.length = L) (hb : NumsAt .u8 w p b) (h8 : ∀ x ∈ b, x < 256) (hr : ∀ q, p = some q → b ≠ [] → q.block ≠ r) :
    Calls Try.prog 9 #[.pointer (some ⟨r, 0, none⟩), .int .i64 n, .int .i64 a, .slice p L c] w fun e w' => e = .returned (.bool (thB O n a L)) ∧
      RamAt B E w' r m t (up x (thB O n a L)) O S (wrP O P n a b) ∧ Turns B E w w' := by
  unfold maxLen at hL
  obtain ⟨F, g, pf, tg, vP, h⟩ := h
  cases hbb : thB O n a L with
  | false =>
    rw [wr_no (by rw [hl]; exact hbb)]
    have HB : Hid (thB O n a L = false) := hbb
    have HH : Hid (CellsAt B F E w r g pf tg vP m t x O S P) := h
    have hcg := fun (w : World) (ty : TypeId) => copy_gone (w := w) (a := p) (L := L) (c := c) ty
    clear hbb h hb hl hr h8
    go_enter Try.func9, Try.ntmps9
    go_wp2_with fail
    refine (own_some _ _).mono ?_
    rintro e w' ⟨rfl, rfl⟩
    go_wp2_with fail
    refine (touch_no n a L w HH.out (by omega) (by omega) HB.out).mono ?_
    rintro e w' ⟨rfl, rfl⟩
    go_wp2
    go_ret
    exact ⟨rfl, ⟨F, g, pf, tg, vP, HH.out⟩, Turns.refl _ _ _⟩
  | true =>
    obtain ⟨n, a, s, rfl, rfl, hs, hn, h0, has⟩ := th_of hbb
    obtain rfl : L = s := by omega
    rw [wr_yes (by rw [hl]; exact hbb)]
    rw [h.ol] at hn
    have hpl : n * 4096 + a + L ≤ m * 4096 := by have := plc_le (s := L) hn has; have e := plc_nat n a; omega
    have HPL : Hid (n * 4096 + a + L ≤ m * 4096) := hpl
    have HH : Hid (CellsAt B F E w r g pf tg vP m t x O S P) := h
    have HL : Hid (b.length = L) := hl
    have HN : Hid (NumsAt .u8 w p b) := hb
    have H8 : Hid (∀ x ∈ b, x < 256) := h8
    have HR : Hid (∀ q, p = some q → b ≠ [] → q.block ≠ r) := hr
    clear hbb h hl hb h8 hr hs hpl
    go_enter Try.func9, Try.ntmps9
    go_wp2_with fail
    refine (own_some _ _).mono ?_
    rintro e w' ⟨rfl, rfl⟩
    go_wp2_with fail
    refine (touch_yes n a L w HH.out hx hn h0 has).mono ?_
    rintro e w1 ⟨rfl, he⟩
    have hh1 : CellsAt B F E w1 r g pf tg vP m t (x + 1) O S P := by rw [he]; exact HH.out.setX (x + 1)
    have ht1 : Turns B E w w1 := by
      rw [he]; have := HH.out.lo
      exact (Turns.refl B E w).setCell (p := ⟨r, 2, none⟩) (by show B ≤ r; omega) (by show r < E; omega) _
    have hn1 : NumsAt .u8 w1 p b := by rw [he]; exact nums_set HN.out HR.out
    obtain ⟨w2, hrun, hp2, ht2⟩ := hh1.copied (L := L) (c := c) hn has HL.out hn1 H8.out rfl
    have HP2 : Hid (CellsAt B F E w2 r g pf tg vP m t (x + 1) O S (putAt P (n * 4096 + a) b)) := hp2
    have HT2 : Hid (Turns B E w w2) := ht1.trans ht2
    clear he hh1 ht1 hn1 hp2 ht2
    go_wp2
    go_ret
    exact ⟨rfl, ⟨F, g, pf, tg, vP, HP2.out⟩, HT2.out⟩
theorem ramTouches_any {B E r m t x : Nat} {O : List Int} {S P : List Nat} (w : World) (h : RamAt B E w r m t x O S P) :
    Calls Try.prog 11 #[.pointer (some ⟨r, 0, none⟩)] w fun e w' => e = .returned (.int .i64 (x : Nat)) ∧ w = w' := by
  obtain ⟨F, g, pf, tg, vP, h⟩ := h
  have c2 := h.c2
  clear h
  go_enter Try.func11, Try.ntmps11
  go_wp2_with fail
  refine (own_some _ _).mono ?_
  rintro e w' ⟨rfl, rfl⟩
  go_wp2
  go_ret
  exact ⟨rfl, rfl⟩
end Go.Proofs.Yteebjeifbccbnaa
