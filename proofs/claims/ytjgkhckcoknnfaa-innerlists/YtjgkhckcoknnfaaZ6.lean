/- Texts of this seat, joined: WTake, ITake, BNew, IMake, IClose, IList, WNew, ILives: each opens with what it holds. -/
import Derived.Test.YtjgkhckcoknnfaaZ2
import Derived.Test.YtjgkhckcoknnfaaZ5
import Derived.Deep.OwnRows
import Derived.Deep.LoopGhost
import Derived.Test.YtjgkhckcoknnfaaZ4
/- The walks of a RAM's Take, Give and Count: MTake of layer 6, for seats of today. -/
namespace Go.Proofs.Ytjgkhckcoknnfaa
open Go.RowKit

/-- 'clear(s)' of a part of a row. -/
theorem run_clear_row {P : Program} (w : World) (t e ty : TypeId) (z : Value) (ht : P.underlying t = some (.slice e)) (hv : ∀ w, (zeroValue e).run P w = .ok z w) (hz : z.cells = #[z]) (h1 : z.oneCell' = true) (g o n c : Nat) (hn : 0 < n) (cur : Array Value) (tt : TypeId)
    (hg : w.heap[g]? = some (.cells cur tt (0, 0))) (hfit : o + n ≤ cur.size) :
    (Builtin.clear_ #[t] ty #[.slice (some ⟨g, o, none⟩) n c]).run P w = .ok (.tuple #[]) (w.setRow g (cur.toList.take o ++ List.replicate n z ++ cur.toList.drop (o + n)).toArray) := by
  have hzc : (Builtin.zeroCells z.cells n).toList = List.replicate n z := by
    rw [hz]
    simp [Builtin.zeroCells]
    apply List.ext_getElem
    · simp
    · intro i h1 h2
      simp [Nat.mod_one]
  have hst := run_storeCells_at P g o tt (List.replicate n z) 0 cur w hg (by simpa using hfit) (fun v hv' => by rw [List.eq_of_mem_replicate hv']; exact h1)
  simp only [Nat.add_zero, List.length_replicate] at hst
  obtain ⟨m, rfl⟩ : ∃ m, n = m + 1 := ⟨n - 1, by omega⟩
  simp [Builtin.clear_, run_underlying ht, hv, hzc, hst]
theorem zero_byte (w : World) : (zeroValue 5).run Try.prog w = .ok (.int .u8 0) w := by
  obtain ⟨i0, hi, hz0, hz1, hz2⟩ := info_parts Try.info5
  simp [zeroValue, typeInfo, hi, hz0]
theorem CellsAt.cleared {B F E r g n : Nat} {w : World} {pf : Option Addr} {tg : TypeId} {vP : Value} {R : RS} (h : CellsAt B F E w r g pf tg vP R) (hn : n < R.m) :
    ∃ w2, (∀ ty, (Builtin.clear_ #[49] ty #[.slice (some ⟨g, n * 4096, none⟩) 4096 4096]).run Try.prog w = .ok (.tuple #[]) w2) ∧
      CellsAt B F E w2 r g pf tg vP { R with P := putAt R.P (n * 4096) (List.replicate 4096 0) } ∧ Turns B E w w2 := by
  obtain ⟨hgp, h3⟩ := h.rows hn
  have hpl : n * 4096 + 4096 ≤ R.P.length := by have := plc_le (a := 0) (s := 4096) hn (by omega); have := h.len; omega
  have hlo := h.lo
  have hrl : (List.replicate 4096 0).length = 4096 := List.length_replicate
  refine ⟨w.setRow g (bv (putAt R.P (n * 4096) (List.replicate 4096 0))).toArray, fun ty => ?_, h.setP (by omega) (length_putAt (by rw [hrl]; exact hpl)) (putAt_byte h.byte (rep_byte (by omega))), (Turns.refl B E w).setRow (by omega) (by omega) _⟩
  have hr := run_clear_row (P := Try.prog) w 49 5 ty (.int .u8 0) Try.underlying49 zero_byte rfl rfl g (n * 4096) 4096 4096 (by omega) (bv R.P).toArray 82 hgp (by simpa using hpl)
  rw [hr]
  have e2 := bv_putAt R.P (n * 4096) (List.replicate 4096 0)
  rw [length_bv, hrl, show bv (List.replicate 4096 0) = List.replicate 4096 (.int .u8 0) by simp only [bv, List.map_replicate]; rfl] at e2
  rw [← e2]
theorem tk_none {B E : Nat} {w : World} {p : Option Addr} {R : RS} (h : RamP B E w p R) (h0 : R.m = 0) (o : Int) : tkB R.S o = false := by
  have := h.good.slen
  exact tk_no (by omega)

set_option maxHeartbeats 1000000 in
theorem wTake {B E : Nat} {p : Option Addr} {R : RS} (o : Int) (w : World) (h : RamP B E w p R) :
    Calls Try.prog 15 #[.pointer p, .int .i64 o] w fun e w' => e = .returned (.tuple #[.int .i64 (tkN R.S o : Nat), .bool (tkB R.S o)]) ∧
      RamP B E w' p (R.tk o) ∧ Turns B E w w' := by
  have HP : Hid (RamP B E w p R) := h
  cases hb : tkB R.S o with
  | false =>
    have HK : Hid (R.tk o = R) := RS.tk_no hb
    have HB : Hid (tkB R.S o = false) := hb
    have HTK : Hid ({ R with t := bump R.t (tkB R.S o), O := tkO R.O R.S o, S := tkS R.S o } = R) := by
      show _ = _
      simp only [hb, bump_no, tkO, tkS, Bool.false_eq_true, if_false]
    clear hb h
    go_enter Try.func15, Try.ntmps15
    go_wp2_with fail
    refine (own_any _ HP.out).mono ?_
    rintro e w1 ⟨B1, F, E1, r, g, pf, tg, vP, rfl, how⟩
    have HO : Hid (Owns B E w p R w1 B1 F E1 r g pf tg vP) := how
    have c0 := how.at_.c0
    clear how
    go_wp2_with fail
    refine (fTake_any o w1 HO.out.at_.fr).mono ?_
    rintro e w2 ⟨rfl, h2, t2⟩
    have hc := HO.out.at_.step h2 t2
    rw [HTK.out] at hc
    rw [HB.out]
    have HF : Hid (RamP B E w2 p R) := HO.out.back _ _ hc rfl (fun _ => rfl)
    have HT2 : Hid (Turns B E w w2) := HO.out.turn _ (t2.wide (Nat.le_refl _) (by have := HO.out.at_.lo; omega))
    clear h2 t2 hc c0
    go_wp2
    go_ret2
    exact ⟨rfl, by rw [HK.out]; exact HF.out, HT2.out⟩
  | true =>
    obtain ⟨hs, o1, o3⟩ := tk_of hb
    have hsm := h.small
    have htop := (h.good.top hs).1
    have e1 : tkN R.S o = R.S.getD (R.S.length - 1) 0 := by simp [tkN, hb]
    obtain ⟨n, hn⟩ : ∃ n, tkN R.S o = n := ⟨_, rfl⟩
    rw [← e1, hn] at htop
    have HN : Hid (tkN R.S o = n) := hn
    have HK : Hid (R.tk o = { R with t := bump R.t (tkB R.S o), O := tkO R.O R.S o, S := tkS R.S o, P := putAt R.P (n * 4096) (List.replicate 4096 0) }) := by
      show _ = _
      rw [RS.tk, tkP, if_pos hb, hn]
    rw [hn]
    have HB : Hid (tkB R.S o = true) := hb
    clear hb h e1 hn hs
    go_enter Try.func15, Try.ntmps15
    go_wp2_with fail
    refine (own_any _ HP.out).mono ?_
    rintro e w1 ⟨B1, F, E1, r, g, pf, tg, vP, rfl, how⟩
    have HO : Hid (Owns B E w p R w1 B1 F E1 r g pf tg vP) := how
    have c0 := how.at_.c0
    clear how
    go_wp2_with fail
    refine (fTake_any o w1 HO.out.at_.fr).mono ?_
    rintro e w2 ⟨rfl, h2, t2⟩
    have hf := HO.out.at_.step h2 t2
    have HT : Hid (Turns B1 E1 w1 w2) := t2.wide (Nat.le_refl _) (by have := HO.out.at_.lo; omega)
    obtain ⟨w3, hrun, hp3, ht3⟩ := hf.cleared (n := n) htop
    have c1 := hf.c1
    rw [HB.out, HN.out]
    have HF : Hid (RamP B E w3 p (R.tk o)) := by rw [HK.out]; exact HO.out.back _ _ hp3 rfl (fun e => absurd htop (by omega))
    have HT3 : Hid (Turns B E w w3) := HO.out.turn _ (HT.out.trans ht3)
    rcases hf.vp with h5 | ⟨rfl, _⟩
    · exact absurd htop (by have : R.m = 0 := h5; omega)
    dsimp only at c1
    have hnm : (n : Int) < (R.m : Int) := by omega
    clear h2 t2 c0 hf hp3 ht3
    generalize R.m = m at *
    go_wp2
    go_ret2
    exact ⟨rfl, HF.out, HT3.out⟩
set_option maxHeartbeats 400000 in
theorem wGive {B E : Nat} {p : Option Addr} {R : RS} (n : Int) (w : World) (h : RamP B E w p R) :
    Calls Try.prog 39 #[.pointer p, .int .i64 n] w fun e w' => e = .returned (.bool (gvB R.O n)) ∧ RamP B E w' p (R.gv n) ∧ Turns B E w w' := by
  have HP : Hid (RamP B E w p R) := h
  clear h
  go_enter Try.func39, Try.ntmps39
  go_wp2_with fail
  refine (own_any _ HP.out).mono ?_
  rintro e w1 ⟨B1, F, E1, r, g, pf, tg, vP, rfl, how⟩
  have HO : Hid (Owns B E w p R w1 B1 F E1 r g pf tg vP) := how
  have c0 := how.at_.c0
  clear how
  go_wp2_with fail
  refine (fGive_any n w1 HO.out.at_.fr).mono ?_
  rintro e w2 ⟨rfl, h2, t2⟩
  have HF : Hid (RamP B E w2 p (R.gv n)) := HO.out.back _ (R.gv n) (HO.out.at_.step h2 t2) rfl (fun _ => rfl)
  have HT : Hid (Turns B E w w2) := HO.out.turn _ (t2.wide (Nat.le_refl _) (by have := HO.out.at_.lo; omega))
  clear h2 t2 c0
  go_wp2
  go_ret
  exact ⟨rfl, HF.out, HT.out⟩
theorem wCount {B E : Nat} {p : Option Addr} {R : RS} (a : Option Addr) (L c : Nat) (zs : List Int) (w : World) (h : RamP B E w p R) (hz : IntsAt .i64 w a zs) (hzl : zs.length = L) (hL : L ≤ 1000) :
    Calls Try.prog 16 #[.pointer p, .slice a L c] w fun e w' => e = .returned (.int .i64 (fcnt R.O zs : Nat)) ∧ Below w.heap.size w w' := by
  have HP : Hid (RamP B E w p R) := h
  have HZ : Hid (∀ w', Below w.heap.size w w' → IntsAt .i64 w' a zs) := by
    intro w' hw
    rcases hz with rfl | ⟨b, off, h1, h2, h3⟩
    · exact .inl rfl
    · exact .inr ⟨b, off, h1, Nat.lt_of_lt_of_le h2 hw.size, fun i hi => by rw [hw.cell (p := ⟨b, off + i, none⟩) h2]; exact h3 i hi⟩
  have HZL : Hid (zs.length = L) := hzl
  clear h hz hzl
  go_enter Try.func16, Try.ntmps16
  go_wp2_with fail
  refine (own_any _ HP.out).mono ?_
  rintro e w1 ⟨B1, F, E1, r, g, pf, tg, vP, rfl, how⟩
  have HO : Hid (Owns B E w p R w1 B1 F E1 r g pf tg vP) := how
  have c0 := how.at_.c0
  clear how
  go_wp2_with fail
  refine (fCount_any a L c zs w1 HO.out.at_.fr (HZ.out _ HO.out.bel) HZL.out hL).mono ?_
  rintro e w2 ⟨rfl, b2⟩
  have HB2 : Hid (Below w.heap.size w w2) := HO.out.bel.trans (b2.mono HO.out.bel.size)
  clear b2 c0
  go_wp2
  go_ret
  exact ⟨rfl, HB2.out⟩
end Go.Proofs.Ytjgkhckcoknnfaa
/- The walks of takeRow, of slices.Clone at ints. -/
namespace Go.Proofs.Ytjgkhckcoknnfaa
open Go.RowKit
theorem ramP_at {B E : Nat} {w : World} {r : Nat} {R : RS} (h : RamP B E w (some ⟨r, 0, none⟩) R) : RamAt B E w r R := by
  rcases h with ⟨h1, _⟩ | ⟨r', h1, h2⟩
  · cases h1
  · cases h1
    exact h2
section
variable {B E r : Nat} {R : RS}
theorem takeRow_no {m : Nat} (hm : R.S.length < m) (w : World) (hr : RamAt B E w r R) :
    Calls Try.prog 29 #[.pointer (some ⟨r, 0, none⟩), .int .i64 (m : Nat)] w fun e w' => e = .returned (.tuple #[.slice none 0 0, .bool false]) ∧ Below w.heap.size w w' := by
  have HR : Hid (RamAt B E w r R) := hr
  have HC : Hid (fcnt R.O [0] = R.S.length) := hr.good.cnt_free
  clear hr
  go_enter Try.func29, Try.ntmps29
  go_wp2_with fail
  obtain ⟨W, hW⟩ : ∃ W, W = w.alloc (.cells #[.int .i64 0] 3) := ⟨_, rfl⟩
  have hbw : Below w.heap.size w W := by rw [hW]; exact (Below.refl _ w).alloc (Nat.le_refl _) _
  have hz : IntsAt .i64 W (some ⟨w.heap.size, 0, none⟩) [0] := by rw [hW]; exact IntsAt.made w [0] _ rfl
  rw [← hW]
  clear hW
  refine (wCount _ 1 1 [0] W (RamP.some (HR.out.below hbw)) hz rfl (by omega)).mono ?_
  rintro e w1 ⟨rfl, hb1⟩
  rw [HC.out]
  have HB1 : Hid (Below w.heap.size w w1) := hbw.trans (hb1.mono hbw.size)
  clear hz hbw hb1
  have i1 : (R.S.length : Int) < (m : Int) := by omega
  go_wp2
  go_ret2
  exact ⟨rfl, HB1.out⟩
set_option maxHeartbeats 1000000 in
theorem takeRow_yes {m : Nat} (h1 : 1 ≤ m) (h4 : m ≤ 4) (hm : m ≤ R.S.length) (w : World) (hr : RamAt B E w r R) :
    Calls Try.prog 29 #[.pointer (some ⟨r, 0, none⟩), .int .i64 (m : Nat)] w fun e w' => ∃ R' F gr, e = .returned (.tuple #[.slice (some ⟨gr, 0, none⟩) m m, .bool true]) ∧ F.length = m ∧ TookZ R R' F ∧
      w.heap.size ≤ gr ∧ gr < w'.heap.size ∧ (∀ i, i < m → w'.cell? ⟨gr, i, none⟩ = some (.int .i64 (F.getD i 0 : Nat))) ∧ RamAt B E w' r R' ∧ Turns B E w w' := by
  have hmk := fun w => run_make_row' (P := Try.prog) 30 3 (.int .i64 0) 8 Try.underlying30 Try.infoInt rfl .i64 .i64 m (by omega) (by omega) w
  have HR : Hid (RamAt B E w r R) := hr
  have HC : Hid (fcnt R.O [0] = R.S.length) := hr.good.cnt_free
  clear hr
  go_enter Try.func29, Try.ntmps29
  go_wp2_with fail
  obtain ⟨W, hW⟩ : ∃ W, W = w.alloc (.cells #[.int .i64 0] 3) := ⟨_, rfl⟩
  have hbw : Below w.heap.size w W := by rw [hW]; exact (Below.refl _ w).alloc (Nat.le_refl _) _
  have hz : IntsAt .i64 W (some ⟨w.heap.size, 0, none⟩) [0] := by rw [hW]; exact IntsAt.made w [0] _ rfl
  rw [← hW]
  clear hW
  refine (wCount _ 1 1 [0] W (RamP.some (HR.out.below hbw)) hz rfl (by omega)).mono ?_
  rintro e w1 ⟨rfl, hb1⟩
  rw [HC.out]
  have HB1 : Hid (Below w.heap.size w w1) := hbw.trans (hb1.mono hbw.size)
  clear hz hbw hb1
  have i1 : ¬ (R.S.length : Int) < (m : Int) := by omega
  obtain ⟨W, hW⟩ : ∃ W, W = w1.alloc (.cells (madeCells #[Value.int .i64 0] m) 3) := ⟨_, rfl⟩
  have hbw : Below w1.heap.size w1 W := by rw [hW]; exact (Below.refl _ w1).alloc (Nat.le_refl _) _
  have hrow : W.ownsRow w.heap.size 3 1 (.slice (some ⟨w1.heap.size, 0, none⟩) m m) m (fzv (List.replicate m 0)) := by
    rw [hW, show fzv (List.replicate m 0) = List.replicate m (Value.int .i64 0) by simp [fzv]]
    exact fo_made w1 m (by omega) HB1.out.size
  have HBW : Hid (Below w.heap.size w W) := HB1.out.trans (hbw.mono HB1.out.size)
  have HROW : Hid (W.ownsRow w.heap.size 3 1 (.slice (some ⟨w1.heap.size, 0, none⟩) m m) m (fzv (List.replicate m 0))) := hrow
  have HG : Hid (w.heap.size ≤ w1.heap.size) := HB1.out.size
  clear hbw hrow
  go_wp2_with fail
  rw [← hW]
  clear hmk hW
  generalize w1.heap.size = gr at *
  rw [show decide (R.S.length < m) = false from decide_eq_false (by omega)]
  go_loopg [17] m (fun gk i wr => ∃ (k : Nat) (F : List Nat) (R' : RS) (X : List Int), k ≤ m ∧ gk = m - k ∧ i = .int .i64 k ∧ F.length = k ∧ TookZ R R' F ∧ X.length = m ∧ (∀ j, j < k → X.getD j 0 = (F.getD j 0 : Nat)) ∧
    wr.ownsRow w.heap.size 3 1 (.slice (some ⟨gr, 0, none⟩) m m) m (fzv X) ∧ RamAt B E wr r R' ∧ Turns B E w wr)
  case atStart => exact ⟨0, [], R, List.replicate m 0, by omega, by omega, rfl, rfl, TookZ.start HR.out.good HR.out.len, by simp, by intro j hj; omega, HROW.out, HR.out.below HBW.out, Turns.of_below HBW.out⟩
  case round =>
    obtain ⟨k, F, R', X, hk, rfl, rfl, hF, ht, hX, hx, hrow, hram, htu⟩ := hrel
    have HF : Hid (F.length = k) := hF
    have HT : Hid (TookZ R R' F) := ht
    have HX : Hid (X.length = m) := hX
    have HXX : Hid (∀ j, j < k → X.getD j 0 = (F.getD j 0 : Nat)) := hx
    have HW2 : Hid (wr.ownsRow w.heap.size 3 1 (.slice (some ⟨gr, 0, none⟩) m m) m (fzv X)) := hrow
    have HRAM : Hid (RamAt B E wr r R') := hram
    have HTU : Hid (Turns B E w wr) := htu
    have HS : Hid (k < m → 0 < R'.S.length) := fun h => by have := ht.cnt; omega
    clear hF ht hX hx hrow hram htu
    by_cases hlt : k < m
    · have i2 : (k : Int) < (m : Int) := by omega
      go_wp2_with fail
      refine (wTake 3 wr (RamP.some HRAM.out)).mono ?_
      rintro e w2 ⟨rfl, hram2, ht2⟩
      have hrow2 : w2.ownsRow w.heap.size 3 1 (.slice (some ⟨gr, 0, none⟩) m m) m (fzv X) := ht2.row HW2.out HR.out.hi.1
      have hlt2 := hrow2.lt gr rfl
      obtain ⟨v, hv⟩ : ∃ v : Nat, tkN R'.S 3 = v := ⟨_, rfl⟩
      have hst := hrow2.stored k (.int .i64 (v : Nat))
      rw [← fzv_set] at hst
      have HST : Hid ((w2.setCell ⟨gr, k, none⟩ (.int .i64 (v : Nat))).ownsRow w.heap.size 3 1 (.slice (some ⟨gr, 0, none⟩) m m) m (fzv (X.set k (v : Nat)))) := hst.1
      have HT2 : Hid (TookZ R (R'.tk 3) (F ++ [v])) := by have := HT.out.step (HS.out hlt); rw [hv] at this; exact this
      have HTT : Hid (Turns B E w (w2.setCell ⟨gr, k, none⟩ (.int .i64 (v : Nat)))) := (HTU.out.trans ht2).setNew (p := ⟨gr, k, none⟩) HG.out _
      have HRM : Hid (RamAt B E (w2.setCell ⟨gr, k, none⟩ (.int .i64 (v : Nat))) r (R'.tk 3)) := (ramP_at hram2).kept (by simp) fun i _ hi => Below.heap_setCell _ _ _ _ (by have := HR.out.hi.1; have := HG.out; show i ≠ gr; omega)
      have cX : w2.cell? ⟨gr, k, none⟩ = some (.int .i64 (X.getD k 0)) := by rw [hrow2.cellAt k (by omega), fzv_at _ _ (by rw [HX.out]; exact hlt)]
      have fX : w2.frozen? ⟨gr, k, none⟩ = false := hrow2.frozenAt k
      rw [hv]
      clear hram2 ht2 hrow2 hst hv
      generalize X.getD k 0 = u at *
      go_wp2
      go_roundg (m - (k + 1))
      case rel =>
        refine ⟨k + 1, F ++ [v], R'.tk 3, X.set k (v : Nat), by omega, rfl, by go_num, by rw [List.length_append, HF.out]; rfl, HT2.out, by rw [List.length_set]; exact HX.out, fun j hj => ?_, HST.out, HRM.out, HTT.out⟩
        by_cases e : k = j
        · subst e
          rw [fo_set _ _ _ _ (by rw [HX.out]; exact hlt), if_pos rfl, List.getD_eq_getElem?_getD, List.getElem?_append_right (by rw [HF.out]; exact Nat.le_refl _), HF.out]
          simp
        · rw [fo_set _ _ _ _ (by rw [HX.out]; exact hlt), if_neg e, HXX.out j (by omega), List.getD_eq_getElem?_getD, List.getD_eq_getElem?_getD, List.getElem?_append_left (by rw [HF.out]; omega)]
      case measure => omega
    · have e : k = m := by omega
      subst e
      go_wp2
      go_ret2
      refine ⟨R', F, gr, rfl, HF.out, HT.out, HG.out, (HW2.out.lt gr rfl).2, fun i hi => ?_, HRAM.out, HTU.out⟩
      rw [HW2.out.cellAt i (by omega), fzv_at _ _ (by rw [HX.out]; exact hi), HXX.out i hi]
end
end Go.Proofs.Ytjgkhckcoknnfaa
/- The walk of New: a set without numbers, in new memory. -/
namespace Go.Proofs.Ytjgkhckcoknnfaa
open Go.RowKit

def szN (n : Int) : Nat := if n < 0 then 0 else if 4096 < n then 4096 else n.toNat
theorem Try.info101 : (Try.prog.info? 101).map (fun i => (i.zero, i.size, i.bytes)) = some (some (.int .u64 0), 1, 8) := by kernel_rfl

theorem SetAt.made {B : Nat} {w w1 : World} {g m k : Nat} (hm : m ≤ 4096) (hk : k = (m + 63) / 64) (hB : B ≤ w.heap.size) (ho : w1.ownsRow B 101 1 (.slice (some ⟨g, 0, none⟩) k k) k (madeCells #[Value.int .u64 0] k).toList) (hw : w.heap.size ≤ w1.heap.size) {M : Int} (hM : M = m) :
    SetAt B (w1.alloc (.cells #[.int .i64 M, .slice (some ⟨g, 0, none⟩) k k] 99)) w1.heap.size g (List.replicate m false) := by
  subst hk hM
  have hlt := ho.lt g rfl
  refine ⟨by simpa using hm, by omega, by omega, ?_, ?_⟩
  · rw [List.length_replicate]
    exact heap_alloc_new w1 _
  · refine ⟨_, Fits.new m, ?_⟩
    rw [List.length_replicate]
    have e : wv (List.replicate ((m + 63) / 64) 0) = (madeCells #[Value.int .u64 0] ((m + 63) / 64)).toList := by
      rw [toList_madeCells_one]
      simp [wv]
    rw [e]
    exact ho.alloc _

set_option maxHeartbeats 400000 in
theorem setNew_any (n : Int) (w : World) :
    Calls Try.prog 31 #[.int .i64 n] w fun e w' => ∃ b g, e = .returned (.pointer (some ⟨b, 0, none⟩)) ∧ SetAt w.heap.size w' b g (List.replicate (szN n) false) ∧ Below w.heap.size w w' := by
  obtain ⟨i0, hi, hz0, hz1, hz2⟩ := info_parts Try.info101
  by_cases h1 : n < 0
  · have E : Hid (szN n = 0) := by simp [Hid, szN, h1]
    go_enter Try.func31, Try.ntmps31
    go_wp2_with (at_make; refine wpList_make_full _ rfl _ _ 97 rfl w.heap.size 101 i0 (.int .u64 0) 1 Try.underlying97 hi hz0 hz1 .i64 .i64 _ _ 0 rfl rfl rfl rfl (by rw [hz2]; omega) (by unfold maxLen; omega) (Nat.le_refl _) ?_)
    intro w1 hown hgr
    go_wp2
    go_ret
    refine ⟨_, w.heap.size, rfl, ?_, ?_⟩
    · rw [E.out]
      exact SetAt.made (w := w) (by omega) (by omega) (Nat.le_refl _) hown hgr.size rfl
    · exact ((Below.refl _ _).grown hgr (Nat.le_refl _) (by intro k hk; simp at hk)).alloc hgr.size _
  · by_cases h2 : 4096 < n
    · have E : Hid (szN n = 4096) := by simp [Hid, szN, h1, h2]
      have h3 : 0 ≤ n := by omega
      have h4 : 0 < n := by omega
      go_enter Try.func31, Try.ntmps31
      go_wp2_with (at_make; refine wpList_make_full _ rfl _ _ 97 rfl w.heap.size 101 i0 (.int .u64 0) 1 Try.underlying97 hi hz0 hz1 .i64 .i64 _ _ 64 rfl rfl rfl rfl (by rw [hz2]; omega) (by unfold maxLen; omega) (Nat.le_refl _) ?_)
      intro w1 hown hgr
      go_wp2
      go_ret
      refine ⟨_, w.heap.size, rfl, ?_, ?_⟩
      · rw [E.out]
        exact SetAt.made (w := w) (by omega) (by omega) (Nat.le_refl _) hown hgr.size rfl
      · exact ((Below.refl _ _).grown hgr (Nat.le_refl _) (by intro k hk; simp at hk)).alloc hgr.size _
    · obtain ⟨m, rfl⟩ := Int.eq_ofNat_of_zero_le (show 0 ≤ n by omega)
      have hm : m ≤ 4096 := by omega
      have E : Hid (szN m = m) := by simp [Hid, szN, h1, h2]
      have e2 : ((m : Int) + 64 - 1) / 64 = (((m + 63) / 64 : Nat) : Int) := by omega
      have E2 : Hid _ := e2
      clear h1 h2 e2
      go_enter Try.func31, Try.ntmps31
      go_wp2_with (at_make; refine wpList_make_full _ rfl _ _ 97 rfl w.heap.size 101 i0 (.int .u64 0) 1 Try.underlying97 hi hz0 hz1 .i64 .i64 _ _ ((m + 63) / 64) rfl rfl E2.out E2.out (by rw [hz2]; omega) (by unfold maxLen; omega) (Nat.le_refl _) ?_)
      intro w1 hown hgr
      go_wp2
      go_ret
      refine ⟨_, w.heap.size, rfl, ?_, ?_⟩
      · rw [E.out]
        exact SetAt.made (w := w) (by omega) rfl (Nat.le_refl _) hown hgr.size rfl
      · exact ((Below.refl _ _).grown hgr (Nat.le_refl _) (by intro k hk; simp at hk)).alloc hgr.size _
end Go.Proofs.Ytjgkhckcoknnfaa
/- The walk of Make. -/
namespace Go.Proofs.Ytjgkhckcoknnfaa
open Go.RowKit
section
variable {B E C D q s g cr r : Nat} {w w' : World} {tg : TypeId} {ar : Option Addr} {G : PG} {R : RS} {L : List Nat}
theorem turns_off {u : World} (h : Turns B E u w) (hC : u.heap.size ≤ C) (hk : Keeps (Off B E C D) w w') : Turns B E u w' :=
  ⟨hk.os.trans h.os, hk.tape.trans h.tape, hk.output.trans h.output, Nat.le_trans h.size hk.size, fun k h1 h2 => (hk.block k (Nat.lt_of_lt_of_le h1 h.size) ⟨h2, .inl (by omega)⟩).trans (h.block k h1 h2)⟩
theorem ObjsAt.copied (h : ObjsAt C D w q tg s g ar cr G) (tg2 : TypeId) :
    ObjsAt C (w.heap.size + 1) (w.alloc (.cells #[.pointer (some ⟨s, 0, none⟩), .int .i64 (G.c : Nat), .slice ar (rowL G.F).length cr, .int .i64 (G.f : Nat)] tg2)) w.heap.size tg2 s g ar cr G := by
  have hb : Below w.heap.size w (w.alloc (.cells #[.pointer (some ⟨s, 0, none⟩), .int .i64 (G.c : Nat), .slice ar (rowL G.F).length cr, .int .i64 (G.f : Nat)] tg2)) := (Below.refl _ w).alloc (Nat.le_refl _) _
  obtain ⟨l0, l1, l2, l3, l4, l5⟩ := h.loc
  have hh := h.hi
  have k := h.below hb
  obtain ⟨gr, e, r1, r2, r3, r4, r5⟩ := k.row
  exact ⟨heap_alloc_new w _, k.set, ⟨gr, e, r1, by omega, by omega, r4, r5⟩, ⟨by omega, by omega, by omega, by omega, by omega, by omega⟩, by simp⟩

/-- What a zspage's making leaves. -/
structure Made (R R' : RS) (F : List Nat) : Prop where
  m : R'.m = R.m
  cnt : R'.S.length + F.length = R.S.length
  pool : fcnt R'.O [3] = fcnt R.O [3] + F.length
  own : ∀ n ∈ F, R'.O.getD n 0 = 3
  far : ∀ G, RowOk R G → RowOk R' G ∧ allZ R' G = allZ R G ∧ ∀ n ∈ F, n ∉ G
theorem Made.of {R1 R' : RS} {F : List Nat} (h : TookZ R R1 F) (he : Else R1 R' F) : Made R R' F := by
  refine ⟨he.m.trans h.m, by rw [he.S]; exact h.cnt, by rw [he.O]; exact h.pool, fun n hn => by rw [he.O]; exact h.own n hn, fun G hG => ?_⟩
  obtain ⟨h1, h2, h3⟩ := h.far hG
  exact ⟨he.ok G h1, (he.far G h1 h3).trans h2, h3⟩

theorem make_noclass {c : Int} (hc : c < 0 ∨ 64 ≤ c) (p : Option Addr) (w : World) :
    Calls Try.prog 7 #[.pointer p, .int .i64 c] w fun e w' => e = .returned (.tuple #[.pointer none, .int .i64 1]) ∧ w = w' := by
  go_enter Try.func7, Try.ntmps7
  go_wp2_with fail
  refine (objects_no c w hc).mono ?_
  rintro e w1 ⟨rfl, rfl⟩
  go_wp2
  go_ret2
  exact ⟨rfl, rfl⟩
theorem jObj_one {c : Nat} (hc : c < 64) : 0 < jObj c (jFr c) := by
  refine jObj_next.1 ?_
  have := jSz_le hc
  have := jFr_le hc
  omega
theorem make_noram (c : Int) (w : World) :
    Calls Try.prog 7 #[.pointer none, .int .i64 c] w fun e w' => e = .returned (.tuple #[.pointer none, .int .i64 1]) ∧ w = w' := by
  by_cases hc : c < 0 ∨ 64 ≤ c
  · exact make_noclass hc none w
  · obtain ⟨c, rfl⟩ := Int.eq_ofNat_of_zero_le (show 0 ≤ c by omega)
    have hc : c < 64 := by omega
    have h1 := jObj_one hc
    have HO : Hid (∀ w, Calls Try.prog 28 #[.int .i64 (c : Nat)] w fun e w' => e = .returned (.int .i64 (jObj c (jFr c) : Nat)) ∧ w = w') := fun w => objects_yes c w hc
    generalize jObj c (jFr c) = m at *
    go_enter Try.func7, Try.ntmps7
    go_wp2_with fail
    refine (HO.out w).mono ?_
    rintro e w1 ⟨rfl, rfl⟩
    go_wp2
    go_ret2
    exact ⟨rfl, rfl⟩
theorem make_nomem {c : Nat} (hc : c < 64) (hs : R.S.length < jFr c) (w : World) (hr : RamAt B E w r R) :
    Calls Try.prog 7 #[.pointer (some ⟨r, 0, none⟩), .int .i64 (c : Nat)] w fun e w' => e = .returned (.tuple #[.pointer none, .int .i64 11]) ∧ Below w.heap.size w w' := by
  have HR : Hid (RamAt B E w r R) := hr
  have HSS : Hid (R.S.length < jFr c) := hs
  have h1 := jObj_one hc
  have HO : Hid (∀ w, Calls Try.prog 28 #[.int .i64 (c : Nat)] w fun e w' => e = .returned (.int .i64 (jObj c (jFr c) : Nat)) ∧ w = w') := fun w => objects_yes c w hc
  have HFR : Hid (∀ w, Calls Try.prog 30 #[.int .i64 (c : Nat)] w fun e w' => e = .returned (.int .i64 (jFr c : Nat)) ∧ w = w') := fun w => frames_yes c w hc
  clear hs hr
  generalize jObj c (jFr c) = m at *
  generalize jFr c = f at *
  go_enter Try.func7, Try.ntmps7
  go_wp2_with fail
  refine (HO.out w).mono ?_
  rintro e w1 ⟨rfl, rfl⟩
  go_wp2_with fail
  refine (HFR.out w).mono ?_
  rintro e w1 ⟨rfl, rfl⟩
  go_wp2_with fail
  refine (takeRow_no HSS.out w HR.out).mono ?_
  rintro e w2 ⟨rfl, hb⟩
  have HB : Hid (Below w.heap.size w w2) := hb
  clear hb
  go_wp2
  go_ret2
  exact ⟨rfl, HB.out⟩
theorem range_next {n m : Nat} (h : n < m) : List.range' n (m - n) = n :: List.range' (n + 1) (m - (n + 1)) := by
  rw [show m - n = (m - (n + 1)) + 1 by omega, List.range'_succ]
theorem range_mem {n m k : Nat} (h : k ∈ List.range' n (m - n)) : n ≤ k ∧ k < m := by
  rw [List.mem_range'_1] at h
  omega
set_option maxHeartbeats 1000000 in
theorem make_yes {c : Nat} (hc : c < 64) (hs : jFr c ≤ R.S.length) (w : World) (hr : RamAt B E w r R) :
    Calls Try.prog 7 #[.pointer (some ⟨r, 0, none⟩), .int .i64 (c : Nat)] w fun e w' => ∃ q s g ar cr R' G, e = .returned (.tuple #[.pointer (some ⟨q, 0, none⟩), .int .i64 0]) ∧
      ObjsAt w.heap.size w'.heap.size w' q 75 s g ar cr G ∧ RamAt B E w' r R' ∧ GoodP R' G (List.range (jObj c (jFr c))) ∧ G.c = c ∧ G.x = List.replicate (jObj c (jFr c)) false ∧ Made R R' G.F ∧ Turns B E w w' := by
  have HFL := jFr_le hc
  have HR : Hid (RamAt B E w r R) := hr
  have HSS : Hid (jFr c ≤ R.S.length) := hs
  have HRE : Hid (E ≤ w.heap.size) := hr.hi.1
  have h1 := jObj_one hc
  have HO : Hid (∀ w, Calls Try.prog 28 #[.int .i64 (c : Nat)] w fun e w' => e = .returned (.int .i64 (jObj c (jFr c) : Nat)) ∧ w = w') := fun w => objects_yes c w hc
  have HFR : Hid (∀ w, Calls Try.prog 30 #[.int .i64 (c : Nat)] w fun e w' => e = .returned (.int .i64 (jFr c : Nat)) ∧ w = w') := fun w => frames_yes c w hc
  have HC : Hid (c < 64) := hc
  have hm : jObj c (jFr c) ≤ 256 := by
    have h2 := jObj_mul c (jFr c)
    have h3 := jSz_le hc
    rcases Nat.lt_or_ge 256 (jObj c (jFr c)) with h4 | h4
    · have h5 := Nat.mul_le_mul_right (jSz c) (Nat.succ_le_of_lt h4)
      rw [Nat.succ_mul] at h5
      omega
    · exact h4
  obtain ⟨m, hmm⟩ : ∃ m, jObj c (jFr c) = m := ⟨_, rfl⟩
  obtain ⟨f, hff⟩ : ∃ f, jFr c = f := ⟨_, rfl⟩
  have HMM : Hid (m = jObj c (jFr c)) := hmm.symm
  have HFF : Hid (f = jFr c) := hff.symm
  rw [hmm] at HO h1 hm ⊢
  rw [hff] at HFR HSS HFL
  clear hmm hff hs hr
  go_enter Try.func7, Try.ntmps7
  go_wp2_with fail
  refine (HO.out w).mono ?_
  rintro e w1 ⟨rfl, rfl⟩
  go_wp2_with fail
  refine (HFR.out w).mono ?_
  rintro e w1 ⟨rfl, rfl⟩
  go_wp2_with fail
  refine (takeRow_yes HFL.1 HFL.2 HSS.out w HR.out).mono ?_
  rintro e w2 ⟨R1, F, gr, rfl, hF, hT, hg1, hg2, hcells, hram, htu⟩
  have HF : Hid (F.length = f) := hF
  have HTK : Hid (TookZ R R1 F) := hT
  have HGR : Hid (w.heap.size ≤ gr ∧ gr < w2.heap.size) := ⟨hg1, hg2⟩
  have HCE : Hid (∀ i, i < f → w2.cell? ⟨gr, i, none⟩ = some (.int .i64 (F.getD i 0 : Nat))) := hcells
  have HRM : Hid (RamAt B E w2 r R1) := hram
  have HTU : Hid (Turns B E w w2) := htu
  clear hF hT hg1 hg2 hcells hram htu
  go_wp2_with fail
  refine (setNew_any (m : Nat) w2).mono ?_
  rintro e w3 ⟨s, g, rfl, hset, hb3⟩
  have hsz : szN (m : Int) = m := by unfold szN; rw [if_neg (by omega), if_neg (by omega)]; rfl
  rw [hsz] at hset
  obtain ⟨W, hW⟩ : ∃ W, W = w3.alloc (.cells #[.pointer (some ⟨s, 0, none⟩), .int .i64 (c : Nat), .slice (some ⟨gr, 0, none⟩) f f, .int .i64 0] 73) := ⟨_, rfl⟩
  have hbW : Below w3.heap.size w3 W := by rw [hW]; exact (Below.refl _ w3).alloc (Nat.le_refl _) _
  have hbl := hset.bltg
  have hslo := hset.lo
  have h2w : w.heap.size ≤ w2.heap.size := HTU.out.size
  have hrl : (rowL F).length = f := by rw [rowL_len]; exact HF.out
  have HOB : Hid (ObjsAt w.heap.size (w3.heap.size + 1) W w3.heap.size 73 s g (some ⟨gr, 0, none⟩) f ⟨c, F, List.replicate m false, 0⟩) := by
    refine ⟨?_, ⟨hset.small, by omega, hset.ne, (hbW.block s hbl.1).trans hset.head, ?_⟩, ⟨gr, rfl, HGR.out.1, by have := HGR.out.2; have := hb3.size; omega, by have := HGR.out.2; have := hb3.size; omega, by have := HGR.out.2; have := hset.bltg; omega, fun i hi => ?_⟩, ⟨by have := hb3.size; omega, by omega, by omega, by omega, by omega, by omega⟩, by rw [hW]; simp⟩
    · rw [hW, hrl]; exact heap_alloc_new w3 _
    · obtain ⟨ws, hf, ho⟩ := hset.row
      exact ⟨ws, hf, rowMono (row_below ho hbW) h2w⟩
    · rw [hrl] at hi
      rw [hbW.cell (p := ⟨gr, i, none⟩) (Nat.lt_of_lt_of_le HGR.out.2 hb3.size), hb3.cell (p := ⟨gr, i, none⟩) HGR.out.2, HCE.out i hi, rowL_at (by rw [HF.out]; exact hi)]
  have HRW : Hid (RamAt B E W r R1) := (HRM.out.below hb3).below hbW
  have HTW : Hid (Turns B E w W) := (HTU.out.trans (Turns.of_below hb3)).trans (Turns.of_below hbW)
  have HPG : Hid (PGok R1 ⟨c, F, List.replicate m false, 0⟩) := ⟨HC.out, HTK.out.row, HF.out.trans HFF.out, by rw [List.length_replicate]; exact HMM.out⟩
  have HD : Hid (w3.heap.size + 1 ≤ B ∨ E ≤ w.heap.size) := .inr HRE.out
  obtain ⟨q, hq⟩ : ∃ q, w3.heap.size = q := ⟨_, rfl⟩
  rw [hq] at HOB HD
  clear hset hb3 hbW hbl hslo h2w hsz
  go_wp2_with fail
  rw [← hW]
  clear hW hq
  go_loopg [10] m (fun gk i wr => ∃ (k fl : Nat) (R' : RS), k ≤ m ∧ k = gk ∧ i = .int .i64 ((k : Int) - 1) ∧ fl ≤ 256 ∧ ObjsAt w.heap.size (q + 1) wr q 73 s g (some ⟨gr, 0, none⟩) f ⟨c, F, List.replicate m false, fl⟩ ∧
    RamAt B E wr r R' ∧ Else R1 R' F ∧ PathZ (allZ R' F) (jSz c) fl (List.range' k (m - k)) ∧ Turns B E w wr)
  case atStart => exact ⟨m, 0, R1, Nat.le_refl _, rfl, rfl, by omega, HOB.out, HRW.out, (RStay.refl R1).else F, by rw [Nat.sub_self]; rfl, HTW.out⟩
  case round =>
    obtain ⟨k, fl, R', hk, rfl, rfl, hfl, hob, hram, hels, hpath, htu⟩ := hrel
    have HOB2 : Hid (ObjsAt w.heap.size (q + 1) wr q 73 s g (some ⟨gr, 0, none⟩) f ⟨c, F, List.replicate m false, fl⟩) := hob
    have HRM2 : Hid (RamAt B E wr r R') := hram
    have HEL : Hid (Else R1 R' F) := hels
    have HPT : Hid (PathZ (allZ R' F) (jSz c) fl (List.range' k (m - k))) := hpath
    have HTU2 : Hid (Turns B E w wr) := htu
    have HP2 : Hid (PGok R' ⟨c, F, List.replicate m false, fl⟩) := by
      have h5 := HPG.out.els hels
      exact ⟨h5.cls, h5.row, h5.fl, h5.xl⟩
    clear hob hram hels hpath htu
    rcases Nat.eq_zero_or_pos k with h0 | h0
    · subst h0
      have c0 := HOB2.out.c0
      have c1 := HOB2.out.c1
      have c2 := HOB2.out.c2
      have c3 := HOB2.out.c3
      rw [hrl] at c2
      dsimp only at c1 c3
      go_wp2
      go_ret2
      refine ⟨wr.heap.size, s, g, some ⟨gr, 0, none⟩, f, R', ⟨c, F, List.replicate m false, fl⟩, rfl, ?_, ?_, ?_, rfl, rfl, Made.of HTK.out HEL.out, ?_⟩
      · have h5 := HOB2.out.copied 75
        dsimp only at h5
        rw [hrl] at h5
        simpa using h5
      · exact HRM2.out.below ((Below.refl _ wr).alloc (Nat.le_refl _) _)
      · refine ⟨HP2.out, ?_, List.nodup_range, fun n => ?_⟩
        · have h5 := HPT.out
          rw [Nat.sub_zero, ← List.range_eq_range'] at h5
          exact h5
        · show n ∈ List.range m ↔ n < (List.replicate m false).length ∧ (List.replicate m false).getD n false = false
          rw [List.mem_range, List.length_replicate, List.getD_eq_getElem?_getD, List.getElem?_replicate]
          constructor
          · intro h5; exact ⟨h5, by rw [if_pos h5]; rfl⟩
          · intro h5; exact h5.1
      · exact HTU2.out.trans (Turns.of_below ((Below.refl _ wr).alloc (Nat.le_refl _) _))
    · obtain ⟨n, rfl⟩ : ∃ n, k = n + 1 := ⟨k - 1, by omega⟩
      rw [show ((n + 1 : Nat) : Int) - 1 = (n : Nat) by omega]
      have HN : Hid (n < (List.replicate m false).length) := by show _ < _; rw [List.length_replicate]; omega
      have hn0 : (0 : Int) ≤ (n : Int) := by omega
      go_wp2_with fail
      refine (push_any HP2.out HN.out hfl wr HOB2.out HRM2.out HD.out).mono ?_
      rintro e w5 ⟨R5, rfl, ram, hw, ho, hkp⟩
      have HW5 : Hid (Wrote R' R5 F (n * jSz c) (putN 2 fl)) := hw
      have HO5 : Hid (ObjsAt w.heap.size (q + 1) w5 q 73 s g (some ⟨gr, 0, none⟩) f ⟨c, F, List.replicate m false, n + 1⟩) := ho
      have HR5 : Hid (RamAt B E w5 r R5) := ram
      have HT5 : Hid (Turns B E w w5) := turns_off HTU2.out (Nat.le_refl _) hkp
      have HP5 : Hid (PathZ (allZ R5 F) (jSz c) (n + 1) (n :: List.range' (n + 1) (m - (n + 1)))) := HP2.out.push HPT.out (fun k hk => by
        have := range_mem hk
        refine ⟨?_, by omega⟩
        show k < (List.replicate m false).length
        rw [List.length_replicate]
        omega) HN.out hfl hw
      clear ram hw ho hkp
      go_wp2
      go_roundg n
      case measure => omega
      case rel => exact ⟨n, n + 1, R5, by omega, rfl, by go_num, by omega, HO5.out, HR5.out, HEL.out.trans HW5.out.els, by rw [range_next (by omega)]; exact HP5.out, HT5.out⟩
end
end Go.Proofs.Ytjgkhckcoknnfaa
/- The walks of arePools, of Close. -/
namespace Go.Proofs.Ytjgkhckcoknnfaa
open Go.RowKit
section
variable {B E C D q s g cr r : Nat} {w w' : World} {tg : TypeId} {ar : Option Addr} {G : PG} {R : RS} {L : List Nat}
theorem pools_one {wb : Nat} (n : Int) (w : World) (hb : w.cell? ⟨wb, 0, none⟩ = some (.pointer (some ⟨r, 0, none⟩))) (h : RamAt B E w r R) (h3 : R.own n = 3) :
    Calls Try.prog 63 #[.int .i64 n, .pointer (some ⟨wb, 0, none⟩)] w fun e w' => e = .returned (.bool false) ∧ w = w' := by
  have HR : Hid (RamAt B E w r R) := h
  have H3 : Hid (R.own n = 3) := h3
  clear h h3
  go_enter Try.func63, Try.ntmps63
  go_wp2_with fail
  refine (wOwner_at n w HR.out).mono ?_
  rintro e w1 ⟨rfl, rfl⟩
  rw [H3.out]
  go_wp2
  go_ret
  exact ⟨rfl, rfl⟩
set_option maxHeartbeats 400000 in
theorem index_none {wb nF : Nat} {F : List Int} (w : World) (hb : w.cell? ⟨wb, 0, none⟩ = some (.pointer (some ⟨r, 0, none⟩))) (h : RamAt B E w r R) (hr : RowAt w B E ar F) (hF : F.length = nF) (h3 : ∀ i, i < F.length → R.own (F.getD i 0) = 3) (hn : nF ≤ 1000) :
    Calls Try.prog 79 #[.slice ar nF cr, .func (.func 63) #[] #[.pointer (some ⟨wb, 0, none⟩)]] w fun e w' => e = .returned (.int .i64 (-1)) ∧ w = w' := by
  have HR : Hid (RamAt B E w r R) := h
  have HROW : Hid (RowAt w B E ar F) := hr
  have H3 : Hid (∀ i, i < F.length → R.own (F.getD i 0) = 3) := h3
  have HL : Hid (F.length = nF) := hF
  clear h hr h3 hF
  go_enter Try.func79, Try.ntmps79
  go_wp2_with fail
  go_loopg [8] nF (fun gk i wr => ∃ k : Nat, k ≤ nF ∧ gk = nF - k ∧ i = .int .i64 k ∧ w = wr)
  case atStart => exact ⟨0, by omega, rfl, rfl, rfl⟩
  case round =>
    obtain ⟨k, hk, rfl, rfl, rfl⟩ := hrel
    by_cases hlt : k < nF
    · have i1 : (k : Int) < (nF : Int) := by omega
      obtain ⟨gr, o, rfl, _, _, hc⟩ := HROW.out.at (i := k) (by rw [HL.out]; exact hlt)
      have HV : Hid (R.own (F.getD k 0) = 3) := H3.out k (by rw [HL.out]; exact hlt)
      generalize F.getD k 0 = v at *
      go_wp2_with fail
      refine (pools_one v w hb HR.out HV.out).mono ?_
      rintro e w1 ⟨rfl, rfl⟩
      go_wp2
      go_roundg (nF - (k + 1))
      case measure => omega
      case rel => exact ⟨k + 1, by omega, rfl, by go_num, rfl⟩
    · have e : k = nF := by omega
      subst e
      go_wp2
      go_ret
      exact ⟨rfl, rfl⟩
theorem arePools_yes {nF : Nat} {F : List Int} (w : World) (h : RamAt B E w r R) (hr : RowAt w B E ar F) (hF : F.length = nF) (h3 : ∀ i, i < F.length → R.own (F.getD i 0) = 3) (hn : nF ≤ 1000) :
    Calls Try.prog 38 #[.pointer (some ⟨r, 0, none⟩), .slice ar nF cr] w fun e w' => e = .returned (.bool true) ∧ Below w.heap.size w w' := by
  have hmf : ∀ (fn : Fn) (first cap : Array Value) (w : World), (Instr.makeFunc fn first cap).run Try.prog w = .ok (.func fn first cap) w := fun _ _ _ _ => rfl
  obtain ⟨W, hW⟩ : ∃ W, W = w.alloc (.cells #[.pointer (some ⟨r, 0, none⟩)] 23) := ⟨_, rfl⟩
  have hbw : Below w.heap.size w W := by rw [hW]; exact (Below.refl _ w).alloc (Nat.le_refl _) _
  have hcell : W.cell? ⟨w.heap.size, 0, none⟩ = some (.pointer (some ⟨r, 0, none⟩)) := by rw [hW, cell_of_row _ w.heap.size 0 _ _ _ (heap_alloc_new w _)]; rfl
  have HI : Hid (Calls Try.prog 79 #[.slice ar nF cr, .func (.func 63) #[] #[.pointer (some ⟨w.heap.size, 0, none⟩)]] W fun e w' => e = .returned (.int .i64 (-1)) ∧ W = w') :=
    index_none W hcell (h.below hbw) (hr.later (Turns.of_below hbw)) hF h3 hn
  have HCF : Hid (Calls Try.prog 62 #[.slice ar nF cr, .func (.func 63) #[] #[.pointer (some ⟨w.heap.size, 0, none⟩)]] W fun e w' => e = .returned (.bool false) ∧ W = w') := by
    clear hW hbw hcell h hr h3
    show Calls _ _ _ _ _
    generalize w.heap.size = b at *
    go_enter Try.func62, Try.ntmps62
    go_wp2_with fail
    refine HI.out.mono ?_
    rintro e w1 ⟨rfl, rfl⟩
    go_wp2
    go_ret
    exact ⟨rfl, rfl⟩
  have HB : Hid (Below w.heap.size w W) := hbw
  have HWW : Hid (W = w.alloc (.cells #[.pointer (some ⟨r, 0, none⟩)] 23)) := hW
  clear h hr h3 hF hn hbw hcell HI hW
  go_enter Try.func38, Try.ntmps38
  go_wp2_with fail
  rw [← HWW.out]
  refine HCF.out.mono ?_
  rintro e w1 ⟨rfl, rfl⟩
  go_wp2
  go_ret
  exact ⟨rfl, HB.out⟩
theorem pClose_no (hu : 0 < (allL G.x).length) (r' : Value) (w : World) (h : ObjsAt C D w q tg s g ar cr G) : Calls Try.prog 13 #[.pointer (some ⟨q, 0, none⟩), r'] w fun e w' => e = .returned (.bool false) ∧ w = w' := by
  have c0 := h.c0
  have HH : Hid (ObjsAt C D w q tg s g ar cr G) := h
  clear h
  go_enter Try.func13, Try.ntmps13
  go_wp2_with fail
  refine (pOwn_some q w).mono ?_
  rintro e w1 ⟨rfl, rfl⟩
  go_wp2_with fail
  refine (len_any w HH.out.setP).mono ?_
  rintro e w1 ⟨rfl, rfl⟩
  have hu' : (0 : Int) < ((allL G.x).length : Int) := by omega
  generalize (allL G.x).length = u at *
  go_wp2
  go_ret
  exact ⟨rfl, rfl⟩
theorem take_not {F : List Nat} (h : F.Nodup) {k : Nat} (hk : k < F.length) : F[k] ∉ F.take k := by
  intro hm
  obtain ⟨j, hj, e⟩ := List.getElem_of_mem hm
  rw [List.length_take] at hj
  rw [List.getElem_take] at e
  have := nodup_at h (show j < F.length by omega) hk e
  omega
set_option maxHeartbeats 1000000 in
theorem pClose_yes (hu : (allL G.x).length = 0) (hF : RowOk R G.F) (hl : G.F.length ≤ 4) (h3 : ∀ n ∈ G.F, R.O.getD n 0 = 3) (w : World) (h : ObjsAt C D w q tg s g ar cr G) (hr : RamAt B E w r R) (hd : D ≤ B ∨ E ≤ C) :
    Calls Try.prog 13 #[.pointer (some ⟨q, 0, none⟩), .pointer (some ⟨r, 0, none⟩)] w fun e w' => ∃ R', e = .returned (.bool true) ∧ RamAt B E w' r R' ∧ GaveZ R R' G.F ∧
      w'.heap[q]? = some (.cells #[.pointer none, .int .i64 (G.c : Nat), .slice none 0 0, .int .i64 0] tg (0, 0)) ∧ Keeps (Off B E C D) w w' := by
  have c0 := h.c0
  have c2 := h.c2
  have HH : Hid (ObjsAt C D w q tg s g ar cr G) := h
  have HR : Hid (RamAt B E w r R) := hr
  have HD : Hid (D ≤ B ∨ E ≤ C) := hd
  have HROW : Hid (RowAt w B E ar (rowL G.F)) := h.rowAt hd
  have HOK : Hid (RowOk R G.F) := hF
  have H3 : Hid (∀ n ∈ G.F, R.O.getD n 0 = 3) := h3
  have HU : Hid ((allL G.x).length = 0) := hu
  obtain ⟨nF, hnF⟩ : ∃ nF, (rowL G.F).length = nF := ⟨_, rfl⟩
  have hn1 : nF ≤ 1000 := by rw [← hnF, rowL_len]; omega
  have HNF : Hid ((rowL G.F).length = nF) := hnF
  have HNG : Hid (G.F.length = nF) := by show _ = _; rw [← hnF, rowL_len]
  rw [hnF] at c2
  clear h hr hd hF h3 hu hnF hl
  go_enter Try.func13, Try.ntmps13
  go_wp2_with fail
  refine (pOwn_some q w).mono ?_
  rintro e w1 ⟨rfl, rfl⟩
  go_wp2_with fail
  refine (len_any w HH.out.setP).mono ?_
  rintro e w1 ⟨rfl, rfl⟩
  rw [HU.out]
  go_wp2_with fail
  refine (arePools_yes w HR.out HROW.out HNF.out (fun i hi => ?_) hn1).mono ?_
  · have hi' : i < G.F.length := by rw [rowL_len] at hi; exact hi
    unfold RS.own
    rw [rowL_at hi', ownI_nat]
    exact H3.out _ (mem_getD hi')
  rintro e w1 ⟨rfl, hb⟩
  have HB1 : Hid (Turns B E w w1) := Turns.of_below hb
  have HH1 : Hid (ObjsAt C D w1 q tg s g ar cr G) := HH.out.below hb
  have HR1 : Hid (RamAt B E w1 r R) := HR.out.below hb
  have HROW1 : Hid (RowAt w1 B E ar (rowL G.F)) := HROW.out.later (Turns.of_below hb)
  clear c0 c2
  have c2 := HH1.out.c2
  rw [HNF.out] at c2
  clear hb
  go_wp2_with fail
  go_loopg [34] nF (fun gk i wr => ∃ (k : Nat) (R' : RS), k ≤ nF ∧ gk = nF - k ∧ i = .int .i64 k ∧ RamAt B E wr r R' ∧ GaveZ R R' (G.F.take k) ∧ Turns B E w1 wr)
  case atStart => exact ⟨0, R, by omega, rfl, rfl, HR1.out, GaveZ.start HR.out.good, Turns.refl _ _ _⟩
  case round =>
    obtain ⟨k, R', hk, rfl, rfl, hram, hgv, htu⟩ := hrel
    have HRM : Hid (RamAt B E wr r R') := hram
    have HGV : Hid (GaveZ R R' (G.F.take k)) := hgv
    have HTU : Hid (Turns B E w1 wr) := htu
    by_cases hlt : k < nF
    · have i1 : (k : Int) < (nF : Int) := by omega
      obtain ⟨gr, o, rfl, _, _, hc⟩ := (HROW1.out.later htu).at (i := k) (by rw [HNF.out]; exact hlt)
      have hkF : k < G.F.length := by rw [HNG.out]; exact hlt
      rw [rowL_at hkF] at hc
      have HG2 : Hid (GaveZ R (R'.gv (G.F.getD k 0 : Nat)) (G.F.take (k + 1))) := by
        have hm := mem_getD hkF
        have e1 : G.F.getD k 0 = G.F[k] := by rw [List.getD_eq_getElem?_getD, List.getElem?_eq_getElem hkF]; rfl
        have h5 := hgv.step (n := G.F.getD k 0) (HOK.out.lt _ hm) (H3.out _ hm) (by rw [e1]; exact take_not HOK.out.nd hkF)
        show GaveZ _ _ _
        rw [List.take_add_one, List.getElem?_eq_getElem hkF, ← e1]
        exact h5
      clear hram hgv htu
      generalize G.F.getD k 0 = v at *
      go_wp2_with fail
      refine (wGive (v : Nat) wr (RamP.some HRM.out)).mono ?_
      rintro e w2 ⟨rfl, hram2, ht2⟩
      have HR2 : Hid (RamAt B E w2 r (R'.gv (v : Nat))) := ramP_at hram2
      have HT2 : Hid (Turns B E w1 w2) := HTU.out.trans ht2
      clear hram2 ht2
      go_wp2
      go_roundg (nF - (k + 1))
      case measure => omega
      case rel => exact ⟨k + 1, _, by omega, rfl, by go_num, HR2.out, HG2.out, HT2.out⟩
    · have e : k = nF := by omega
      subst e
      have hh := HH1.out.turns HD.out htu
      have c0 := hh.c0
      have c1 := hh.c1
      have c3 := hh.c3
      have cc2 := hh.c2
      have hd0 := hh.head
      have f0 := frozen_of_row wr q 0 _ _ hd0
      have f1 := frozen_of_row wr q 1 _ _ hd0
      have f2 := frozen_of_row wr q 2 _ _ hd0
      have f3 := frozen_of_row wr q 3 _ _ hd0
      have HHD : Hid _ := hd0
      have HLO := hh.loc
      have HGE : Hid (GaveZ R R' G.F) := by have := hgv; rw [List.take_of_length_le (by rw [HNG.out]; exact Nat.le_refl _)] at this; exact this
      clear hram hgv htu hd0 hh
      go_wp2
      go_ret
      obtain ⟨l0, l1, _⟩ := HLO
      refine ⟨R', rfl, (((HRM.out.set HD.out _ l0 l1).set HD.out _ l0 l1).set HD.out _ l0 l1).set HD.out _ l0 l1, HGE.out, ?_, ?_⟩
      · rw [heap_setCell_same _ q 3 _ _ _ (heap_setCell_same _ q 2 _ _ _ (heap_setCell_same _ q 1 _ _ _ (heap_setCell_same _ q 0 _ _ _ HHD.out)))]
        rfl
      · exact (off_turns C D (HB1.out.trans HTU.out)).trans ((((off_set B E _ _ l0 l1).trans (off_set B E _ _ l0 l1)).trans (off_set B E _ _ l0 l1)).trans (off_set B E _ _ l0 l1))
end
end Go.Proofs.Ytjgkhckcoknnfaa
/- The walk of List. -/
namespace Go.Proofs.Ytjgkhckcoknnfaa
open Go.RowKit
/-- What a list that is told, or not, has. -/
structure ListZ (R : RS) (G : PG) (T : List Nat) (ok : Bool) : Prop where
  yes : ok = true → T.Nodup ∧ (∀ n ∈ T, n < G.x.length ∧ G.x.getD n false = false) ∧ T.length + (allL G.x).length = G.x.length
  no : ok = false → T = []
  good : ∀ L, GoodP R G L → ok = true ∧ T = L
/-- A list that is under way: those told, and the set of them. -/
structure Way (Z : List Nat) (S f : Nat) (x : List Bool) (T : List Nat) (y : List Bool) (k : Nat) : Prop where
  pre : PreZ Z S f T k
  nd : T.Nodup
  fr : ∀ n ∈ T, n < x.length ∧ x.getD n false = false
  len : y.length = x.length
  mem : ∀ n, n ∈ T ↔ n < y.length ∧ y.getD n false = true
section
variable {Z : List Nat} {S f : Nat} {x y : List Bool} {T : List Nat} {k n : Nat}
theorem Way.start (Z : List Nat) (S f : Nat) (x : List Bool) : Way Z S f x [] (List.replicate x.length false) f := by
  refine ⟨rfl, List.nodup_nil, fun _ h => (by cases h), by simp, fun n => ?_⟩
  rw [List.getD_eq_getElem?_getD, List.getElem?_replicate]
  split <;> simp
theorem Way.le (h : Way Z S f x T y k) : T.length ≤ x.length := fo_nodup _ _ h.nd fun n hn => (h.fr n hn).1
theorem Way.more (h : Way Z S f x T y (n + 1)) (hn : n < x.length) (h0 : x.getD n false = false) (hy : y.getD n false = false) :
    Way Z S f x (T ++ [n]) (putL y n true) (lnkZ Z S n) ∧ T.length + 1 ≤ x.length := by
  have hno : n ∉ T := fun hT => by
    have := ((h.mem n).1 hT).2
    rw [hy] at this
    cases this
  have e : putL y n true = y.set n true := by rw [putL, if_pos (by omega)]; rfl
  have hny : n < y.length := by rw [h.len]; exact hn
  have W : Way Z S f x (T ++ [n]) (putL y n true) (lnkZ Z S n) := by
    refine ⟨pre_snoc h.pre, ?_, fun k hk => ?_, by rw [len_putL]; exact h.len, fun k => ?_⟩
    · rw [List.nodup_append]
      refine ⟨h.nd, by simp, fun a ha b hb e2 => ?_⟩
      simp at hb
      subst hb e2
      exact hno ha
    · rcases List.mem_append.1 hk with h1 | h1
      · exact h.fr k h1
      · obtain rfl : k = n := by simpa using h1
        exact ⟨hn, h0⟩
    · rw [len_putL, e, getD_set, List.mem_append, List.mem_singleton, h.mem]
      by_cases c : n = k
      · subst c
        simp [hny]
      · rw [if_neg (by omega)]
        have c2 : ¬ k = n := fun e => c e.symm
        simp [c2]
  refine ⟨W, ?_⟩
  have := W.le
  rw [List.length_append, List.length_singleton] at this
  exact this
end
section
variable {R R' : RS} {G : PG} {y : List Bool} {T : List Nat} {k n : Nat}
/-- What such a list would have still. -/
theorem Way.rest (h : Way (allZ R G.F) (jSz G.c) G.f G.x T y (n + 1)) {L : List Nat} (hG : GoodP R G L) : n < G.x.length ∧ G.x.getD n false = false ∧ y.getD n false = false := by
  obtain ⟨L2, rfl, h2⟩ := pre_split h.pre hG.path
  cases L2 with
  | nil => have h3 : n + 1 = 0 := h2; omega
  | cons a L2 =>
    obtain rfl : a = n := by have := h2.1; omega
    obtain ⟨h3, h4⟩ := (hG.mem a).1 (by simp)
    refine ⟨h3, h4, ?_⟩
    cases h5 : y.getD a false
    · rfl
    · exfalso
      have h6 := (h.mem a).2 ⟨by rw [h.len]; exact h3, h5⟩
      have h7 := (List.nodup_append.1 hG.nd).2.2 a h6 a (by simp)
      exact h7 rfl
theorem ListZ.stop (h : Way (allZ R G.F) (jSz G.c) G.f G.x T y (n + 1)) (hno : ¬ (n < G.x.length ∧ G.x.getD n false = false ∧ y.getD n false = false)) : ListZ R G [] false :=
  ⟨fun e => (by cases e), fun _ => rfl, fun L hG => absurd (h.rest hG) hno⟩
theorem Way.all (h : Way (allZ R G.F) (jSz G.c) G.f G.x T y 0) {L : List Nat} (hG : GoodP R G L) : T = L := by
  obtain ⟨L2, rfl, h2⟩ := pre_split h.pre hG.path
  cases L2 with
  | nil => simp
  | cons a L2 => have := h2.1; omega
theorem Way.told (h : Way (allZ R G.F) (jSz G.c) G.f G.x T y k) : (allL y).length = T.length := told_len h.nd h.mem
theorem ListZ.short (h : Way (allZ R G.F) (jSz G.c) G.f G.x T y 0) (hs : T.length + (allL G.x).length < G.x.length) : ListZ R G [] false :=
  ⟨fun e => (by cases e), fun _ => rfl, fun L hG => by have := hG.count; rw [h.all hG] at hs; omega⟩
theorem ListZ.full (h : Way (allZ R G.F) (jSz G.c) G.f G.x T y 0) (hs : ¬ T.length + (allL G.x).length < G.x.length) : ListZ R G T true :=
  ⟨fun _ => ⟨h.nd, h.fr, by have := free_le h.nd h.fr; omega⟩, fun e => (by cases e), fun L hG => ⟨rfl, h.all hG⟩⟩
end
theorem fiv_one (l : List Nat) : ∀ u ∈ fiv l, u.oneCell' = true := by
  intro u hu
  obtain ⟨_, _, rfl⟩ := List.mem_map.1 hu
  rfl
theorem fiv_len (l : List Nat) : (fiv l).length = l.length := by simp [fiv]
section
variable {B E C D q s g cr r : Nat} {w w' : World} {tg : TypeId} {ar : Option Addr} {G : PG} {R : RS} {L : List Nat}
set_option maxRecDepth 100000 in
set_option maxHeartbeats 2000000 in
theorem pList_any (hG : PGok R G) (hf : G.f ≤ 256) (w : World) (h : ObjsAt C D w q tg s g ar cr G) (hr : RamAt B E w r R) (hd : D ≤ B ∨ E ≤ C) :
    Calls Try.prog 19 #[.pointer (some ⟨q, 0, none⟩), .pointer (some ⟨r, 0, none⟩)] w fun e w' => ∃ v ok T R', e = .returned (.tuple #[v, .bool ok]) ∧ w'.ownsRow w.heap.size 3 1 v T.length (fiv T) ∧ ListZ R G T ok ∧
      RamAt B E w' r R' ∧ RStay R R' ∧ Turns B E w w' := by
  obtain ⟨i0, hi, hz0, hz1, hz2⟩ := info_parts Try.infoInt
  have c0 := h.c0
  have c3 := h.c3
  have HH : Hid (ObjsAt C D w q tg s g ar cr G) := h
  have HR : Hid (RamAt B E w r R) := hr
  have HG : Hid (PGok R G) := hG
  have HD : Hid (D ≤ B ∨ E ≤ C) := hd
  have HF : Hid (G.f ≤ 256) := hf
  have HM := hG.many
  clear h hr hG hd hf
  go_enter Try.func19, Try.ntmps19
  go_wp2_with fail
  refine (pOwn_some q w).mono ?_
  rintro e w1 ⟨rfl, rfl⟩
  go_wp2_with fail
  refine (size_any w HH.out.setP).mono ?_
  rintro e w1 ⟨rfl, rfl⟩
  go_wp2_with fail
  refine (setNew_any (G.x.length : Nat) w).mono ?_
  rintro e w2 ⟨s2, g2, rfl, hset, hb2⟩
  have hsz : szN (G.x.length : Int) = G.x.length := by unfold szN; rw [if_neg (by omega), if_neg (by omega)]; rfl
  rw [hsz] at hset
  have HSET : Hid (SetAt w.heap.size w2 s2 g2 (List.replicate G.x.length false)) := hset
  have HB2 : Hid (Below w.heap.size w w2) := hb2
  have HSG : Hid (s2 < w2.heap.size ∧ g2 < w2.heap.size ∧ w.heap.size ≤ g2 ∧ w.heap.size ≤ s2) := ⟨hset.bltg.1, hset.bltg.2.1, hset.bltg.2.2, hset.lo⟩
  have HH2 : Hid (ObjsAt C D w2 q tg s g ar cr G) := HH.out.below hb2
  have HR2 : Hid (RamAt B E w2 r R) := HR.out.below hb2
  have HRE : Hid (E ≤ w.heap.size ∧ D ≤ w.heap.size) := ⟨HR.out.hi.1, HH.out.hi⟩
  clear c0 c3 hset hb2 hsz
  have c3 := HH2.out.c3
  go_wp2_with fail
  go_loopg [7, 9] G.x.length (fun gk u i wr => ∃ (k : Nat) (T : List Nat) (y : List Bool) (R' : RS) (v : Value), gk = G.x.length - T.length ∧ v = u ∧ i = .int .i64 k ∧ k ≤ 65536 ∧ Way (allZ R G.F) (jSz G.c) G.f G.x T y k ∧ SetAt w.heap.size wr s2 g2 y ∧
    wr.ownsRow w2.heap.size 3 1 v T.length (fiv T) ∧ RamAt B E wr r R' ∧ RStay R R' ∧ ObjsAt C D wr q tg s g ar cr G ∧ Turns B E w wr ∧ w2.heap.size ≤ wr.heap.size)
  case atStart => exact ⟨G.f, [], _, R, _, rfl, rfl, rfl, by have := HF.out; omega, Way.start _ _ _ _, HSET.out, World.ownsRow_nil _ _ _ _, HR2.out, RStay.refl R, HH2.out, Turns.of_below HB2.out, Nat.le_refl _⟩
  case round =>
    obtain ⟨k, T, y, R', v, rfl, rfl, rfl, hk, hway, hset, hown, hram, hst, hob, htu, hsz⟩ := hrel
    have HWAY : Hid (Way (allZ R G.F) (jSz G.c) G.f G.x T y k) := hway
    have HSET2 : Hid (SetAt w.heap.size wr s2 g2 y) := hset
    have HOWN : Hid (wr.ownsRow w2.heap.size 3 1 v T.length (fiv T)) := hown
    have HRM : Hid (RamAt B E wr r R') := hram
    have HST : Hid (RStay R R') := hst
    have HOB : Hid (ObjsAt C D wr q tg s g ar cr G) := hob
    have HTU : Hid (Turns B E w wr) := htu
    have HSZ : Hid (w2.heap.size ≤ wr.heap.size) := hsz
    have HTL := hway.le
    clear hway hset hown hram hst hob htu hsz c3
    rcases Nat.eq_zero_or_pos k with h0 | h0
    · subst h0
      have c0 := HOB.out.c0
      have HTOLD : Hid ((allL y).length = T.length) := HWAY.out.told
      have HSP : Hid (SetP w.heap.size wr (some ⟨s2, 0, none⟩) (some g2) y) := .inr ⟨s2, g2, rfl, rfl, HSET2.out⟩
      have HXP : Hid (SetP C wr (some ⟨s, 0, none⟩) (some g) G.x) := HOB.out.setP
      have hul : (allL G.x).length ≤ G.x.length := by have := free_le (x := G.x) (D := []) List.nodup_nil (fun _ h => (by cases h)); simpa using this
      by_cases hs : T.length + (allL G.x).length < G.x.length
      · have HZ : Hid (ListZ R G [] false) := ListZ.short HWAY.out hs
        obtain ⟨tl, htl⟩ : ∃ tl, T.length = tl := ⟨_, rfl⟩
        obtain ⟨ul, hul2⟩ : ∃ ul, (allL G.x).length = ul := ⟨_, rfl⟩
        obtain ⟨xl, hxl⟩ : ∃ xl, G.x.length = xl := ⟨_, rfl⟩
        have HQ1 : Hid (∀ m, Calls Try.prog 36 #[.pointer (some ⟨s2, 0, none⟩)] (wr.drewN m) fun e w' => e = .returned (.int .i64 (tl : Nat)) ∧ wr.drewN m = w') := fun m => by rw [← htl, ← HTOLD.out]; exact len_any _ (HSP.out.drewN m)
        have HQ2 : Hid (∀ m, Calls Try.prog 36 #[.pointer (some ⟨s, 0, none⟩)] (wr.drewN m) fun e w' => e = .returned (.int .i64 (ul : Nat)) ∧ wr.drewN m = w') := fun m => by rw [← hul2]; exact len_any _ (HXP.out.drewN m)
        have HQ3 : Hid (∀ m, Calls Try.prog 35 #[.pointer (some ⟨s, 0, none⟩)] (wr.drewN m) fun e w' => e = .returned (.int .i64 (xl : Nat)) ∧ wr.drewN m = w') := fun m => by rw [← hxl]; exact size_any _ (HXP.out.drewN m)
        rw [htl, hul2, hxl] at hs
        rw [hul2, hxl] at hul
        rw [hxl] at HM
        clear htl hul2 hxl HTL
        have i1 : decide ((tl : Int) < (xl : Int) - (ul : Int)) = decide (tl + ul < xl) := by apply decide_eq_decide.2; omega
        go_upto_region 14 with (fail)
        go_quiet (first | (go_at_call_of 36 (Value.pointer (some ⟨s2, 0, none⟩)); exact quietSame (HQ1.out _)) | (go_at_call_of 36 (Value.pointer (some ⟨s, 0, none⟩)); exact quietSame (HQ2.out _)) | (go_at_call 35; exact quietSame (HQ3.out _)))
        all_goals
          go_wp2
          go_ret2
          exact ⟨_, false, [], R', rfl, World.ownsRow_nil _ _ _ _, HZ.out, HRM.out.below (drewN_below _ _ _), HST.out, HTU.out.trans (Turns.of_below (drewN_below _ _ _))⟩
      · have HZ : Hid (ListZ R G T true) := ListZ.full HWAY.out hs
        obtain ⟨tl, htl⟩ : ∃ tl, T.length = tl := ⟨_, rfl⟩
        obtain ⟨ul, hul2⟩ : ∃ ul, (allL G.x).length = ul := ⟨_, rfl⟩
        obtain ⟨xl, hxl⟩ : ∃ xl, G.x.length = xl := ⟨_, rfl⟩
        have HQ1 : Hid (∀ m, Calls Try.prog 36 #[.pointer (some ⟨s2, 0, none⟩)] (wr.drewN m) fun e w' => e = .returned (.int .i64 (tl : Nat)) ∧ wr.drewN m = w') := fun m => by rw [← htl, ← HTOLD.out]; exact len_any _ (HSP.out.drewN m)
        have HQ2 : Hid (∀ m, Calls Try.prog 36 #[.pointer (some ⟨s, 0, none⟩)] (wr.drewN m) fun e w' => e = .returned (.int .i64 (ul : Nat)) ∧ wr.drewN m = w') := fun m => by rw [← hul2]; exact len_any _ (HXP.out.drewN m)
        have HQ3 : Hid (∀ m, Calls Try.prog 35 #[.pointer (some ⟨s, 0, none⟩)] (wr.drewN m) fun e w' => e = .returned (.int .i64 (xl : Nat)) ∧ wr.drewN m = w') := fun m => by rw [← hxl]; exact size_any _ (HXP.out.drewN m)
        rw [htl, hul2, hxl] at hs
        rw [hul2, hxl] at hul
        rw [hxl] at HM
        clear htl hul2 hxl HTL
        have i1 : decide ((tl : Int) < (xl : Int) - (ul : Int)) = decide (tl + ul < xl) := by apply decide_eq_decide.2; omega
        go_upto_region 14 with (fail)
        go_quiet (first | (go_at_call_of 36 (Value.pointer (some ⟨s2, 0, none⟩)); exact quietSame (HQ1.out _)) | (go_at_call_of 36 (Value.pointer (some ⟨s, 0, none⟩)); exact quietSame (HQ2.out _)) | (go_at_call 35; exact quietSame (HQ3.out _)))
        all_goals
          go_wp2
          go_ret2
          exact ⟨_, true, T, R', rfl, rowMono (row_below HOWN.out (drewN_below _ _ _)) HB2.out.size, HZ.out, HRM.out.below (drewN_below _ _ _), HST.out, HTU.out.trans (Turns.of_below (drewN_below _ _ _))⟩
    · obtain ⟨n, rfl⟩ : ∃ n, k = n + 1 := ⟨k - 1, by omega⟩
      have hne : ((n : Int) + 1 == 0) = false := by rw [beq_eq_false_iff_ne]; omega
      have hne2 : ((n : Int) + 1 != 0) = true := by rw [bne_iff_ne]; omega
      rw [show ((n + 1 : Nat) : Int) = (n : Int) + 1 by omega]
      by_cases hfr : n < G.x.length ∧ G.x.getD n false = false
      · have HB : Hid (∀ R', RStay R R' → lnkZ (allZ R' G.F) (jSz G.c) n = lnkZ (allZ R G.F) (jSz G.c) n) := fun R' h => by rw [h.all]
        have HN : Hid (n < G.x.length) := hfr.1
        have H0 : Hid (G.x.getD n false = false) := hfr.2
        go_wp2_with fail
        refine (behind_yes (HG.out.stay HST.out) HN.out H0.out wr HOB.out HRM.out HD.out).mono ?_
        rintro e w4 ⟨R4, rfl, ram4, st4, ht4⟩
        rw [HB.out _ HST.out]
        have HR4 : Hid (RamAt B E w4 r R4) := ram4
        have HS4 : Hid (RStay R R4) := HST.out.trans st4
        have HO4 : Hid (ObjsAt C D w4 q tg s g ar cr G) := HOB.out.turns HD.out ht4
        have HT4 : Hid (Turns B E w w4) := HTU.out.trans ht4
        have HZ4 : Hid (w2.heap.size ≤ w4.heap.size) := Nat.le_trans HSZ.out ht4.size
        have HW4 : Hid (w4.ownsRow w2.heap.size 3 1 v T.length (fiv T)) := ht4.row HOWN.out (Nat.le_trans HRE.out.1 HB2.out.size)
        have HE4 : Hid (SetAt w.heap.size w4 s2 g2 y) := HSET2.out.of_blocks (ht4.block s2 (Nat.lt_of_lt_of_le HSG.out.1 HSZ.out) (.inr (Nat.le_trans HRE.out.1 HSG.out.2.2.2))) (ht4.block g2 (Nat.lt_of_lt_of_le HSG.out.2.1 HSZ.out) (.inr (Nat.le_trans HRE.out.1 HSG.out.2.2.1)))
        have hlt : lnkZ (allZ R G.F) (jSz G.c) n < 65536 := by
          rw [← HB.out _ HST.out, ← lnk_seg]
          refine getTo_lt (a := 0) (k := 2) (seg_byte fun x hx => ?_)
          obtain ⟨k, _, hk⟩ := List.mem_flatMap.1 hx
          exact seg_byte HRM.out.byte x hk
        have HHAS : Hid (hasB y n = y.getD n false) := hasB_nat y n
        have HMAY : Hid (mayB y n = true) := mayB_nat (by rw [HWAY.out.len]; exact HN.out)
        clear ram4 st4 ht4
        go_wp2_with fail
        refine (bput_any n w4 (.inr ⟨s2, g2, rfl, rfl, HE4.out⟩)).mono ?_
        rintro e w5 ⟨rfl, hs5, hg5⟩
        have hl4 := HO4.out.hi
        have HE5 : Hid (SetAt w.heap.size w5 s2 g2 (putL y n true)) := by
          rcases hs5 with ⟨h1, _⟩ | ⟨b', g', h1, h2, h3⟩
          · cases h1
          · cases h1
            cases h2
            exact h3
        have hk5 : Keeps (fun i => i ≠ g2) w4 w5 := keeps_grown hg5 fun k e => by cases e; simp
        have HR5 : Hid (RamAt B E w5 r R4) := HR4.out.keeps hk5 fun i _ h2 => by have := HRE.out.1; have := HSG.out.2.2.1; omega
        have HO5 : Hid (ObjsAt C D w5 q tg s g ar cr G) := HO4.out.kept hk5.size fun i _ h2 => hk5.block i (by omega) (by have := HRE.out.2; have := HSG.out.2.2.1; omega)
        have HT5 : Hid (Turns B E w w5) := ⟨hk5.os.trans HT4.out.os, hk5.tape.trans HT4.out.tape, hk5.output.trans HT4.out.output, Nat.le_trans HT4.out.size hk5.size, fun i h1 h2 => (hk5.block i (Nat.lt_of_lt_of_le h1 HT4.out.size) (by have := HSG.out.2.2.1; omega)).trans (HT4.out.block i h1 h2)⟩
        have HW5 : Hid (w5.ownsRow w2.heap.size 3 1 v T.length (fiv T)) := hk5.row HW4.out fun gg hgg => by have := (HW4.out.lt gg hgg).1; have := HSG.out.2.1; omega
        have HZ5 : Hid (w2.heap.size ≤ w5.heap.size) := Nat.le_trans HZ4.out hk5.size
        rw [HHAS.out, HMAY.out]
        clear hs5 hg5 hk5 hl4
        cases hy : y.getD n false with
        | true =>
          have HZ : Hid (ListZ R G [] false) := ListZ.stop HWAY.out fun h => by rw [hy] at h; exact absurd h.2.2 (by simp)
          clear hy
          go_wp2
          go_ret2
          exact ⟨_, false, [], R4, rfl, World.ownsRow_nil _ _ _ _, HZ.out, HR5.out, HS4.out, HT5.out⟩
        | false =>
          obtain ⟨hw1, hw2⟩ := HWAY.out.more hfr.1 hfr.2 hy
          have HWM : Hid (Way (allZ R G.F) (jSz G.c) G.f G.x (T ++ [n]) (putL y n true) (lnkZ (allZ R G.F) (jSz G.c) n)) := hw1
          clear hy hw1
          obtain ⟨K, hK⟩ : ∃ K, lnkZ (allZ R G.F) (jSz G.c) n = K := ⟨_, rfl⟩
          rw [hK] at hlt HWM ⊢
          clear hK
          go_wp2_with (at_builtin; refine wpList_append_src rfl _ _ 30 rfl w2.heap.size 3 i0 (.int .i64 0) 1 8 Try.underlying30 hi hz0 hz1 hz2 rfl (by decide) _ T.length (fiv T) rfl (row_below HW5.out ((Below.refl _ w5).alloc (Nat.le_refl _) _)) _ 1 [.int .i64 (n : Nat)] rfl (src_row (World.ownsRow_lit (base := w5.heap.size) (e := 3) (size := 1) w5 #[.int .i64 (n : Nat)] 1 (Nat.le_refl _) (by unfold maxLen; omega) rfl)) (by simp [Value.oneCell']) ?c3 ?c4 ?c5 ?_)
          case c3 => unfold maxLen; omega
          case c4 => omega
          case c5 => have := HZ5.out; simp; omega
          intro v6 w6 own6 gr6
          have b6 : Below w2.heap.size w5 w6 := ((Below.refl _ w5).alloc HZ5.out _).grown gr6 (by have := HZ5.out; simp; omega) (fun i hi => (HW5.out.lt i hi).1)
          have HOWN6 : Hid (w6.ownsRow w2.heap.size 3 1 v6 (T ++ [n]).length (fiv (T ++ [n]))) := by
            show World.ownsRow _ _ _ _ _ _ _
            rw [List.length_append, show fiv (T ++ [n]) = fiv T ++ [.int .i64 (n : Nat)] by simp [fiv]]
            exact own6
          have HR6 : Hid (RamAt B E w6 r R4) := HR5.out.kept b6.size fun i _ h2 => b6.block i (by have := HRE.out.1; have := HB2.out.size; omega)
          have HO6 : Hid (ObjsAt C D w6 q tg s g ar cr G) := HO5.out.kept b6.size fun i _ h2 => b6.block i (by have := HRE.out.2; have := HB2.out.size; omega)
          have HE6 : Hid (SetAt w.heap.size w6 s2 g2 (putL y n true)) := HE5.out.of_blocks (b6.block s2 HSG.out.1) (b6.block g2 HSG.out.2.1)
          have HT6 : Hid (Turns B E w w6) := ⟨b6.os.trans HT5.out.os, b6.tape.trans HT5.out.tape, b6.output.trans HT5.out.output, Nat.le_trans HT5.out.size b6.size, fun i h1 h2 => (b6.block i (Nat.lt_of_lt_of_le h1 HB2.out.size)).trans (HT5.out.block i h1 h2)⟩
          have HZ6 : Hid (w2.heap.size ≤ w6.heap.size) := Nat.le_trans HZ5.out b6.size
          clear own6 gr6 b6
          go_wp2
          go_roundg (G.x.length - (T ++ [n]).length)
          case measure => rw [List.length_append, List.length_singleton]; omega
          case rel => exact ⟨K, T ++ [n], _, R4, _, rfl, rfl, by go_num, by omega, HWM.out, HE6.out, HOWN6.out, HR6.out, HS4.out, HO6.out, HT6.out, HZ6.out⟩
      · have HZ : Hid (ListZ R G [] false) := ListZ.stop HWAY.out fun h => hfr ⟨h.1, h.2.1⟩
        have HFB : Hid (freeB G.x n = false) := by
          show _ = _
          cases h5 : freeB G.x n
          · rfl
          · obtain ⟨k, hk, h6, h7⟩ := freeB_of h5
            obtain rfl : n = k := by omega
            exact absurd ⟨h6, h7⟩ hfr
        clear hfr
        go_wp2_with fail
        refine (behind_no n (.pointer (some ⟨r, 0, none⟩)) HFB.out wr HOB.out).mono ?_
        rintro e w4 ⟨rfl, m, rfl⟩
        go_wp2
        go_ret2
        exact ⟨_, false, [], R', rfl, World.ownsRow_nil _ _ _ _, HZ.out, HRM.out.below (drewN_below _ _ _), HST.out, HTU.out.trans (Turns.of_below (drewN_below _ _ _))⟩
end
end Go.Proofs.Ytjgkhckcoknnfaa
/- The walk of ram.New: frames that are all Free, and all their bytes 0: MNew of layer 6, for seats of today. -/
namespace Go.Proofs.Ytjgkhckcoknnfaa
open Go.RowKit

theorem Try.infoPage : (Try.prog.info? 82).map (fun i => (i.zero.map Value.cells, i.size, i.bytes)) = some (some (Array.replicate 4096 (.int .u8 0)), 4096, 4096) := by kernel_rfl
theorem made_pages (n : Nat) : madeCells (Array.replicate 4096 (Value.int .u8 0)) n = (bv (List.replicate n 0)).toArray := by
  apply Array.ext
  · simp [madeCells]
  · intro i h1 h2
    simp only [madeCells, bv, Array.getElem_map, Array.getElem_range, List.getElem_toArray, List.getElem_map, List.getElem_replicate, Array.size_replicate]
    have : i % 4096 < 4096 := Nat.mod_lt _ (by omega)
    rw [getElem!_pos _ _ (by simpa using this)]
    simp
theorem run_make_pages (m : Nat) (hm : m ≤ 96) (w : World) :
    (Instr.makeSlice 64 (.int .i64 (m : Int)) (.int .i64 (m : Int))).run Try.prog w = .ok (.slice (some ⟨w.heap.size, 0, none⟩) m m) (w.alloc (.cells (bv (List.replicate (m * 4096) 0)).toArray 82)) := by
  obtain ⟨i, hi, hq⟩ := Option.map_eq_some_iff.1 Try.infoPage
  simp only [Prod.mk.injEq] at hq
  obtain ⟨hz, hs, hb⟩ := hq
  obtain ⟨z, hz0, hz1⟩ := Option.map_eq_some_iff.1 hz
  have hr := run_make (P := Try.prog) w 64 82 i z Try.underlying64 hi hz0 .i64 .i64 m m (by omega) (Int.le_refl _) (by rw [hb]; omega) (by omega)
  rw [hz1, hs, made_pages] at hr
  simp only [Int.toNat_natCast] at hr
  exact hr

set_option maxHeartbeats 1000000 in
theorem wNew (m : Nat) (h8 : 8 ≤ m) (hm : m ≤ 96) (w : World) :
    Calls Try.prog 6 #[.int .i64 (m : Nat)] w fun e w' => ∃ r, e = .returned (.tuple #[.pointer (some ⟨r, 0, none⟩), .int .i64 0]) ∧
      RamAt w.heap.size w'.heap.size w' r (RS.new m) ∧ Below w.heap.size w w' := by
  have hmk := run_make_pages m hm
  go_enter Try.func6, Try.ntmps6
  go_wp2_with fail
  refine (fNew_any m h8 hm w).mono ?_
  rintro e w1 ⟨p, rfl, h1, b1⟩
  have HF : Hid (FramesP w.heap.size w1.heap.size w1 p m 0 (List.replicate m 0) (fdown m)) := h1
  have HB : Hid (Below w.heap.size w w1) := b1
  clear h1 b1
  go_wp2
  go_ret2
  refine ⟨_, rfl, ⟨w1.heap.size, w1.heap.size, p, 68, .slice (some ⟨w1.heap.size, 0, none⟩) m m, ?_⟩, (HB.out.alloc HB.out.size _).alloc (by have := HB.out.size; simp; omega) _⟩
  have bb : Below w1.heap.size w1 ((w1.alloc (.cells (bv (List.replicate (m * 4096) 0)).toArray 82)).alloc (.cells #[.pointer p, .slice (some ⟨w1.heap.size, 0, none⟩) m m, .int .i64 0] 68)) := ((Below.refl _ w1).alloc (Nat.le_refl _) _).alloc (by simp) _
  have hh := heap_alloc_new (w1.alloc (.cells (bv (List.replicate (m * 4096) 0)).toArray 82)) (.cells #[.pointer p, .slice (some ⟨w1.heap.size, 0, none⟩) m m, .int .i64 0] 68)
  rw [World.size_alloc] at hh
  have hsz := HB.out.size
  refine ⟨HF.out.below bb, hh, .inr ⟨rfl, ?_, ?_⟩, by simp [RS.new], rep_byte (by omega), ?_, Nat.le_refl _⟩
  · rw [Below.heap_alloc _ _ _ (by simp)]
    exact heap_alloc_new w1 _
  · simp
    omega
  · simp
    omega
theorem wNew_bad (n : Int) (h : n < 8 ∨ 96 < n) (w : World) :
    Calls Try.prog 6 #[.int .i64 n] w fun e w' => e = .returned (.tuple #[.pointer none, .int .i64 1]) ∧ w = w' := by
  go_enter Try.func6, Try.ntmps6
  go_wp2_with fail
  refine (fNew_bad n h w).mono ?_
  rintro e w1 ⟨rfl, rfl⟩
  go_wp2
  go_ret2
  exact ⟨rfl, rfl⟩
end Go.Proofs.Ytjgkhckcoknnfaa
/- A zspage under one name (PageZ), its calls over it, and the walk of the law's own 'lives'. -/
namespace Go.Proofs.Ytjgkhckcoknnfaa
open Go.RowKit

/-- A zspage in block q, all in blocks from C to less than D. -/
def PageZ (C D : Nat) (w : World) (q : Nat) (G : PG) : Prop := ∃ tg s g ar cr, ObjsAt C D w q tg s g ar cr G
section
variable {B E C D q r : Nat} {w w' : World} {G : PG} {R : RS} {L : List Nat}
theorem PageZ.kept (h : PageZ C D w q G) (hs : w.heap.size ≤ w'.heap.size) (hk : ∀ i, C ≤ i → i < D → w'.heap[i]? = w.heap[i]?) : PageZ C D w' q G := by
  obtain ⟨tg, s, g, ar, cr, h⟩ := h; exact ⟨tg, s, g, ar, cr, h.kept hs hk⟩
theorem PageZ.turns (h : PageZ C D w q G) (hd : D ≤ B ∨ E ≤ C) (ht : Turns B E w w') : PageZ C D w' q G := by
  obtain ⟨tg, s, g, ar, cr, h⟩ := h; exact ⟨tg, s, g, ar, cr, h.turns hd ht⟩
theorem PageZ.below (h : PageZ C D w q G) (hb : Below w.heap.size w w') : PageZ C D w' q G := by
  obtain ⟨tg, s, g, ar, cr, h⟩ := h; exact ⟨tg, s, g, ar, cr, h.below hb⟩
theorem PageZ.hi (h : PageZ C D w q G) : D ≤ w.heap.size ∧ q < D ∧ C ≤ q := by obtain ⟨tg, s, g, ar, cr, h⟩ := h; exact ⟨h.hi, h.loc.2.1, h.loc.1⟩
/-- What a call of a zspage leaves of it: its class and its frames are the same. -/
structure Same2 (G G' : PG) : Prop where
  c : G'.c = G.c
  F : G'.F = G.F
theorem many_z (w : World) (h : PageZ C D w q G) : Calls Try.prog 10 #[.pointer (some ⟨q, 0, none⟩)] w fun e w' => e = .returned (.int .i64 (G.x.length : Nat)) ∧ w = w' := by
  obtain ⟨tg, s, g, ar, cr, h⟩ := h; exact pMany_some w h
theorem used_z (w : World) (h : PageZ C D w q G) : Calls Try.prog 11 #[.pointer (some ⟨q, 0, none⟩)] w fun e w' => e = .returned (.int .i64 ((allL G.x).length : Nat)) ∧ w = w' := by
  obtain ⟨tg, s, g, ar, cr, h⟩ := h; exact pUsed_some w h
theorem class_z (w : World) (h : PageZ C D w q G) : Calls Try.prog 8 #[.pointer (some ⟨q, 0, none⟩)] w fun e w' => e = .returned (.int .i64 (G.c : Nat)) ∧ w = w' := by
  obtain ⟨tg, s, g, ar, cr, h⟩ := h; exact pClass_some w h
theorem has_z (n : Int) (w : World) (h : PageZ C D w q G) : Calls Try.prog 12 #[.pointer (some ⟨q, 0, none⟩), .int .i64 n] w fun e w' => e = .returned (.bool (hasB G.x n)) ∧ ∃ m, w' = w.drewN m := by
  obtain ⟨tg, s, g, ar, cr, h⟩ := h; exact pHas_some n w h
theorem row_z (w : World) (h : PageZ C D w q G) (hF : G.F.length ≤ 4) : Calls Try.prog 9 #[.pointer (some ⟨q, 0, none⟩)] w fun e w' => ∃ a c, e = .returned (.slice a G.F.length c) ∧
    w'.ownsRow w.heap.size 3 1 (.slice a G.F.length c) G.F.length (fzv (rowL G.F)) ∧ Below w.heap.size w w' := by
  obtain ⟨tg, s, g, ar, cr, h⟩ := h
  refine (pRow_some w h hF).mono ?_
  rintro e w' ⟨v, rfl, own, hb⟩
  rw [rowL_len] at own
  obtain ⟨a, c, rfl⟩ := row_slice own
  exact ⟨a, c, rfl, own, hb⟩
theorem takeNone_z (hG : GoodP R G []) (r' : Value) (w : World) (h : PageZ C D w q G) : Calls Try.prog 20 #[.pointer (some ⟨q, 0, none⟩), r'] w fun e w' => e = .returned (.tuple #[.int .i64 0, .bool false]) ∧ ∃ m, w' = w.drewN m := by
  obtain ⟨tg, s, g, ar, cr, h⟩ := h; exact pTake_none hG r' w h
theorem take_z {n : Nat} (hG : GoodP R G (n :: L)) (w : World) (h : PageZ C D w q G) (hr : RamAt B E w r R) (hd : D ≤ B ∨ E ≤ C) :
    Calls Try.prog 20 #[.pointer (some ⟨q, 0, none⟩), .pointer (some ⟨r, 0, none⟩)] w fun e w' => ∃ R' G', e = .returned (.tuple #[.int .i64 (n : Nat), .bool true]) ∧
      RamAt B E w' r R' ∧ RStay R R' ∧ PageZ C D w' q G' ∧ GoodP R' G' L ∧ Same2 G G' ∧ G'.x = putL G.x n true ∧ Keeps (Off B E C D) w w' := by
  obtain ⟨tg, s, g, ar, cr, h⟩ := h
  refine (pTake_some hG w h hr hd).mono ?_
  rintro e w' ⟨R', rfl, ram, st, ho, hk⟩
  exact ⟨R', _, rfl, ram, st, ⟨_, _, _, _, _, ho⟩, hG.take.stay st, ⟨rfl, rfl⟩, rfl, hk⟩
theorem giveNo_z {n : Int} (hx : hasB G.x n = false) (r' : Value) (w : World) (h : PageZ C D w q G) : Calls Try.prog 21 #[.pointer (some ⟨q, 0, none⟩), r', .int .i64 n] w fun e w' => e = .returned (.bool false) ∧ ∃ m, w' = w.drewN m := by
  obtain ⟨tg, s, g, ar, cr, h⟩ := h; exact pGive_no hx r' w h
theorem give_z {n : Nat} (hG : GoodP R G L) (hn : n < G.x.length) (hx : G.x.getD n false = true) (w : World) (h : PageZ C D w q G) (hr : RamAt B E w r R) (hd : D ≤ B ∨ E ≤ C) :
    Calls Try.prog 21 #[.pointer (some ⟨q, 0, none⟩), .pointer (some ⟨r, 0, none⟩), .int .i64 (n : Nat)] w fun e w' => ∃ R' G', e = .returned (.bool true) ∧
      RamAt B E w' r R' ∧ Wrote R R' G.F (n * jSz G.c) (putN 2 G.f) ∧ PageZ C D w' q G' ∧ GoodP R' G' (n :: L) ∧ Same2 G G' ∧ G'.x = putL G.x n false ∧ Keeps (Off B E C D) w w' := by
  obtain ⟨tg, s, g, ar, cr, h⟩ := h
  refine (pGive_yes hG.ok hG.first hn hx w h hr hd).mono ?_
  rintro e w' ⟨R', rfl, ram, hw, ho, hk⟩
  exact ⟨R', _, rfl, ram, hw, ⟨_, _, _, _, _, ho⟩, hG.give hn hx hw, ⟨rfl, rfl⟩, rfl, hk⟩
theorem readNo_z {n : Int} (M : Int) (hx : hasB G.x n = false) (r' : Value) (w : World) (h : PageZ C D w q G) : Calls Try.prog 49 #[.pointer (some ⟨q, 0, none⟩), r', .int .i64 n, .int .i64 M] w fun e w' => e = .returned (.tuple #[.slice none 0 0, .bool false]) ∧ ∃ m, w' = w.drewN m := by
  obtain ⟨tg, s, g, ar, cr, h⟩ := h; exact pRead_no M hx r' w h
theorem read_z {n M : Nat} (hG : PGok R G) (hn : n < G.x.length) (hx : G.x.getD n false = true) (hM : M ≤ jSz G.c) (w : World) (h : PageZ C D w q G) (hr : RamAt B E w r R) (hd : D ≤ B ∨ E ≤ C) :
    Calls Try.prog 49 #[.pointer (some ⟨q, 0, none⟩), .pointer (some ⟨r, 0, none⟩), .int .i64 (n : Nat), .int .i64 (M : Nat)] w fun e w' => ∃ v R', e = .returned (.tuple #[v, .bool true]) ∧
      w'.ownsRow w.heap.size 5 1 v M (bv (seg (allZ R G.F) (n * jSz G.c) M)) ∧ RamAt B E w' r R' ∧ RStay R R' ∧ Turns B E w w' := by
  obtain ⟨tg, s, g, ar, cr, h⟩ := h; exact pRead_yes hG hn hx hM w h hr hd
theorem readFar_z {n M : Nat} (hG : PGok R G) (hx : G.x.getD n false = true) (hM : jSz G.c < M) (w : World) (h : PageZ C D w q G) (hr : RamAt B E w r R) (hd : D ≤ B ∨ E ≤ C) :
    Calls Try.prog 49 #[.pointer (some ⟨q, 0, none⟩), .pointer (some ⟨r, 0, none⟩), .int .i64 (n : Nat), .int .i64 (M : Nat)] w fun e w' => ∃ v, e = .returned (.tuple #[v, .bool false]) ∧
      w'.ownsRow w.heap.size 5 1 v 0 [] ∧ RamAt B E w' r R ∧ Turns B E w w' := by
  obtain ⟨tg, s, g, ar, cr, h⟩ := h; exact pRead_far hG hx hM w h hr hd
theorem writeNo_z {n : Int} (b : Value) (hx : hasB G.x n = false) (r' : Value) (w : World) (h : PageZ C D w q G) : Calls Try.prog 50 #[.pointer (some ⟨q, 0, none⟩), r', .int .i64 n, b] w fun e w' => e = .returned (.bool false) ∧ ∃ m, w' = w.drewN m := by
  obtain ⟨tg, s, g, ar, cr, h⟩ := h; exact pWrite_no b hx r' w h
theorem write_z {n Lb cb : Nat} {pb : Option Addr} {b : List Nat} (hG : PGok R G) (hn : n < G.x.length) (hx : G.x.getD n false = true) (hM : Lb ≤ jSz G.c) (w : World) (h : PageZ C D w q G) (hr : RamAt B E w r R) (hd : D ≤ B ∨ E ≤ C)
    (hs : ByAt w pb Lb cb b) (ap : Apart B E (.slice pb Lb cb) b) :
    Calls Try.prog 50 #[.pointer (some ⟨q, 0, none⟩), .pointer (some ⟨r, 0, none⟩), .int .i64 (n : Nat), .slice pb Lb cb] w fun e w' => ∃ R', e = .returned (.bool true) ∧
      RamAt B E w' r R' ∧ Wrote R R' G.F (n * jSz G.c) b ∧ Turns B E w w' := by
  obtain ⟨tg, s, g, ar, cr, h⟩ := h; exact pWrite_yes hG hn hx hM w h hr hd hs ap
theorem writeFar_z {n Lb cb : Nat} {pb : Option Addr} {b : List Nat} (hG : PGok R G) (hx : G.x.getD n false = true) (hM : jSz G.c < Lb) (w : World) (h : PageZ C D w q G) (hr : RamAt B E w r R) (hd : D ≤ B ∨ E ≤ C)
    (hs : ByAt w pb Lb cb b) (ap : Apart B E (.slice pb Lb cb) b) :
    Calls Try.prog 50 #[.pointer (some ⟨q, 0, none⟩), .pointer (some ⟨r, 0, none⟩), .int .i64 (n : Nat), .slice pb Lb cb] w fun e w' => e = .returned (.bool false) ∧
      RamAt B E w' r R ∧ Turns B E w w' := by
  obtain ⟨tg, s, g, ar, cr, h⟩ := h; exact pWrite_far hG hx hM w h hr hd hs ap
theorem list_z (hG : PGok R G) (hf : G.f ≤ 256) (w : World) (h : PageZ C D w q G) (hr : RamAt B E w r R) (hd : D ≤ B ∨ E ≤ C) :
    Calls Try.prog 19 #[.pointer (some ⟨q, 0, none⟩), .pointer (some ⟨r, 0, none⟩)] w fun e w' => ∃ a c ok T R', e = .returned (.tuple #[.slice a T.length c, .bool ok]) ∧ w'.ownsRow w.heap.size 3 1 (.slice a T.length c) T.length (fiv T) ∧ ListZ R G T ok ∧
      RamAt B E w' r R' ∧ RStay R R' ∧ Turns B E w w' := by
  obtain ⟨tg, s, g, ar, cr, h⟩ := h
  refine (pList_any hG hf w h hr hd).mono ?_
  rintro e w' ⟨v, ok, T, R', rfl, own, hl, ram, st, ht⟩
  obtain ⟨a, c, rfl⟩ := row_slice own
  exact ⟨a, c, ok, T, R', rfl, own, hl, ram, st, ht⟩
theorem make_z {c : Nat} (hc : c < 64) (hs : jFr c ≤ R.S.length) (w : World) (hr : RamAt B E w r R) :
    Calls Try.prog 7 #[.pointer (some ⟨r, 0, none⟩), .int .i64 (c : Nat)] w fun e w' => ∃ q R' G, e = .returned (.tuple #[.pointer (some ⟨q, 0, none⟩), .int .i64 0]) ∧
      PageZ w.heap.size w'.heap.size w' q G ∧ RamAt B E w' r R' ∧ GoodP R' G (List.range (jObj c (jFr c))) ∧ G.c = c ∧ G.x = List.replicate (jObj c (jFr c)) false ∧ Made R R' G.F ∧ Turns B E w w' := by
  refine (make_yes hc hs w hr).mono ?_
  rintro e w' ⟨q, s, g, ar, cr, R', G, rfl, ho, ram, hg, h1, h2, h3, h4⟩
  exact ⟨q, R', G, rfl, ⟨_, _, _, _, _, ho⟩, ram, hg, h1, h2, h3, h4⟩
theorem closeNo_z (hu : 0 < (allL G.x).length) (r' : Value) (w : World) (h : PageZ C D w q G) : Calls Try.prog 13 #[.pointer (some ⟨q, 0, none⟩), r'] w fun e w' => e = .returned (.bool false) ∧ w = w' := by
  obtain ⟨tg, s, g, ar, cr, h⟩ := h; exact pClose_no hu r' w h
theorem close_z (hu : (allL G.x).length = 0) (hF : RowOk R G.F) (hl : G.F.length ≤ 4) (h3 : ∀ n ∈ G.F, R.O.getD n 0 = 3) (w : World) (h : PageZ C D w q G) (hr : RamAt B E w r R) (hd : D ≤ B ∨ E ≤ C) :
    Calls Try.prog 13 #[.pointer (some ⟨q, 0, none⟩), .pointer (some ⟨r, 0, none⟩)] w fun e w' => ∃ R', e = .returned (.bool true) ∧ RamAt B E w' r R' ∧ GaveZ R R' G.F ∧
      GoneP w' (some ⟨q, 0, none⟩) G.c ∧ Keeps (Off B E C D) w w' := by
  obtain ⟨tg, s, g, ar, cr, h⟩ := h
  refine (pClose_yes hu hF hl h3 w h hr hd).mono ?_
  rintro e w' ⟨R', rfl, ram, hg, hh, hk⟩
  exact ⟨R', rfl, ram, hg, .inr ⟨q, tg, rfl, hh⟩, hk⟩
theorem GoodP.fl (h : GoodP R G L) : 1 ≤ G.F.length ∧ G.F.length ≤ 4 := by rw [h.ok.fl]; exact jFr_le h.ok.cls
theorem off_below {u : Nat} (hk : Keeps (Off B E C D) w w') (hB : u ≤ B) (hC : u ≤ C) (hu : u ≤ w.heap.size) : Below u w w' := hk.below (fun k h => ⟨.inl (by omega), .inl (by omega)⟩) hu
end
theorem count_z {B E r k : Nat} {R : RS} (z : Int) (w : World) (h : RamAt B E w r R) (hk : fcnt R.O [z] = k) :
    Calls Try.prog 16 #[.pointer (some ⟨r, 0, none⟩), .slice (some ⟨w.heap.size, 0, none⟩) 1 1] (w.alloc (.cells #[.int .i64 z] 3)) fun e w' => e = .returned (.int .i64 (k : Nat)) ∧ Below w.heap.size w w' := by
  have hb : Below w.heap.size w (w.alloc (.cells #[.int .i64 z] 3)) := (Below.refl _ w).alloc (Nat.le_refl _) _
  refine (wCount _ 1 1 [z] _ (RamP.some (h.below hb)) (IntsAt.made w [z] _ rfl) rfl (by omega)).mono ?_
  rintro e w' ⟨rfl, h2⟩
  exact ⟨by rw [hk], hb.trans (h2.mono hb.size)⟩
theorem one63 : jObj 63 (jFr 63) = 1 ∧ jFr 63 = 1 := by decide +kernel
set_option maxHeartbeats 400000 in
theorem lives_any (w : World) : Calls Try.prog 14 #[] w fun e w' => e = .returned (.bool true) ∧ Below w.heap.size w w' := by
  go_enter Try.func14, Try.ntmps14
  go_wp2_with fail
  refine (wNew 8 (by omega) (by omega) w).mono ?_
  rintro e w1 ⟨r, rfl, hram, hb⟩
  have HR1 : Hid (RamAt w.heap.size w1.heap.size w1 r (RS.new 8)) := hram
  have HB1 : Hid (Below w.heap.size w w1) := hb
  clear hram hb
  go_wp2_with fail
  refine (make_z (c := 63) (by omega) (by rw [one63.2]; show 1 ≤ (fdown 8).length; rw [fdown_len]; omega) w1 HR1.out).mono ?_
  rintro e w2 ⟨q, R2, G, rfl, hp, hr2, hg, hc, hx, hm, ht⟩
  rw [one63.1] at hg
  have HP2 : Hid (PageZ w1.heap.size w2.heap.size w2 q G) := hp
  have HR2 : Hid (RamAt w.heap.size w1.heap.size w2 r R2) := hr2
  have HG2 : Hid (GoodP R2 G [0]) := hg
  have HF2 : Hid (G.F.length = 1) := by show _ = _; rw [hg.ok.fl, hc, one63.2]
  have HB2 : Hid (Below w.heap.size w w2) := HB1.out.trans (ht.below HB1.out.size)
  clear hp hr2 hg hc hx hm ht
  go_wp2_with fail
  refine (take_z HG2.out w2 HP2.out HR2.out (.inr (Nat.le_refl _))).mono ?_
  rintro e w3 ⟨R3, G3, rfl, hr3, st3, hp3, hg3, hsm, hx3, hk3⟩
  have HP3 : Hid (PageZ w1.heap.size w2.heap.size w3 q G3) := hp3
  have HG3 : Hid (GoodP R3 G3 []) := hg3
  have HF3 : Hid (G3.F.length = 1) := by show _ = _; rw [hsm.F]; exact HF2.out
  have HB3 : Hid (Below w.heap.size w w3) := HB2.out.trans (off_below hk3 (Nat.le_refl _) HB1.out.size HB2.out.size)
  clear hr3 st3 hp3 hg3 hsm hx3 hk3
  go_wp2_with fail
  refine (takeNone_z HG3.out (.pointer (some ⟨r, 0, none⟩)) w3 HP3.out).mono ?_
  rintro e w4 ⟨rfl, m, rfl⟩
  go_wp2_with fail
  refine (row_z (w3.drewN m) (HP3.out.below (drewN_below _ _ _)) (by rw [HF3.out]; omega)).mono ?_
  rintro e w5 ⟨a, c, rfl, own, hb5⟩
  rw [HF3.out]
  have HB5 : Hid (Below w.heap.size w w5) := (HB3.out.trans (drewN_below _ _ _)).trans (hb5.mono (Nat.le_trans HB3.out.size (drewN_below w3.heap.size w3 m).size))
  clear own hb5
  go_wp2
  go_ret
  exact ⟨rfl, HB5.out⟩
end Go.Proofs.Ytjgkhckcoknnfaa
