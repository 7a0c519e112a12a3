/- The walk of the document's own Read (layer 6). -/
import Derived.Test.YteebjeifbccbnaaMDoc
import Derived.Deep.LoopGhost
namespace Go.Proofs.Yteebjeifbccbnaa
open Go.RowKit

/-- The first k bytes of t. -/
def Wt.upto (t : Wt) (k : Nat) : Wt := ⟨t.n, t.a, t.v, t.b.take k⟩
theorem rpL_zero (L : List Wt) (t : Wt) (n a s : Nat) : rpL (L ++ [t.upto 0]) n a s = rpL L n a s := by
  refine ext_getD (by simp [rpL]) ?_
  intro i hi
  rw [rpL_len] at hi
  have h1 : (t.upto 0).on n (a + i) = false := decide_eq_false (fun h => by have h3 := h.2.2; have h2 := h.2.1; simp [Wt.upto] at h2 h3; omega)
  rw [rpL_at _ _ _ _ _ hi, rpL_at _ _ _ _ _ hi, rp_snoc, h1]
  rfl
theorem rpL_other (L : List Wt) (t : Wt) (n a s : Nat) (h : t.n ≠ n) : rpL (L ++ [t]) n a s = rpL L n a s := by
  refine ext_getD (by simp [rpL]) ?_
  intro i hi
  rw [rpL_len] at hi
  have h1 : t.on n (a + i) = false := decide_eq_false (fun hh => h hh.1)
  rw [rpL_at _ _ _ _ _ hi, rpL_at _ _ _ _ _ hi, rp_snoc, h1]
  rfl
theorem take_byte {b : List Nat} {k : Nat} (hk : k < b.length) (i : Nat) : (b.take (k + 1)).getD i 0 = if i = k then b.getD k 0 else (b.take k).getD i 0 := by
  by_cases h : i = k
  · subst h
    simp [List.getD]
  · rw [if_neg h]
    by_cases h2 : i < k
    · have h3 : i < k + 1 := by omega
      simp [List.getD, h2, h3]
    · have h3 : ¬ i < k + 1 := by omega
      rw [List.getD_eq_getElem?_getD, List.getElem?_take, if_neg h3, List.getD_eq_getElem?_getD, List.getElem?_take, if_neg h2]
theorem rpL_in (L : List Wt) (t : Wt) (n a s k p : Nat) (hn : t.n = n) (hk : k < t.b.length) (hp : a + p = t.a + k) : rpL (L ++ [t.upto (k + 1)]) n a s = (rpL (L ++ [t.upto k]) n a s).set p (t.b.getD k 0) := by
  refine ext_getD (by simp [rpL]) ?_
  intro i hi
  rw [rpL_len] at hi
  have e : ((rpL (L ++ [t.upto k]) n a s).set p (t.b.getD k 0)).getD i 0 = if p = i then t.b.getD k 0 else (rpL (L ++ [t.upto k]) n a s).getD i 0 := by
    by_cases h : p = i
    · subst h; simp [List.getD, rpL_len, hi]
    · simp [List.getD, h, List.getElem?_set_ne h]
  rw [e, rpL_at _ _ _ _ _ hi, rpL_at _ _ _ _ _ hi, rp_snoc, rp_snoc]
  by_cases h : p = i
  · subst h
    have h1 : (t.upto (k + 1)).on n (a + p) = true := by
      simp [Wt.on, Wt.upto]; omega
    rw [if_pos rfl, if_pos h1]
    show (t.b.take (k + 1)).getD (a + p - t.a) 0 = _
    rw [take_byte hk, if_pos (by omega)]
  · rw [if_neg h]
    have h1 : (t.upto (k + 1)).on n (a + i) = (t.upto k).on n (a + i) := by
      apply decide_eq_decide.2
      simp [Wt.upto]
      omega
    rw [h1]
    split
    · show (t.b.take (k + 1)).getD (a + i - t.a) 0 = (t.b.take k).getD (a + i - t.a) 0
      rename_i h2
      have h3 := of_decide_eq_true h2
      simp [Wt.upto] at h3
      rw [take_byte hk, if_neg (by omega)]
    · rfl
theorem rpL_out (L : List Wt) (t : Wt) (n a s k : Nat) (hk : k < t.b.length) (hp : t.a + k < a ∨ a + s ≤ t.a + k) : rpL (L ++ [t.upto (k + 1)]) n a s = rpL (L ++ [t.upto k]) n a s := by
  refine ext_getD (by simp [rpL]) ?_
  intro i hi
  rw [rpL_len] at hi
  rw [rpL_at _ _ _ _ _ hi, rpL_at _ _ _ _ _ hi, rp_snoc, rp_snoc]
  have h1 : (t.upto (k + 1)).on n (a + i) = (t.upto k).on n (a + i) := by
    apply decide_eq_decide.2
    simp [Wt.upto]
    omega
  rw [h1]
  split
  · show (t.b.take (k + 1)).getD (a + i - t.a) 0 = (t.b.take k).getD (a + i - t.a) 0
    rename_i h2
    have h3 := of_decide_eq_true h2
    simp [Wt.upto] at h3
    rw [take_byte hk, if_neg (by omega)]
  · rfl
theorem upto_all (t : Wt) : t.upto t.b.length = t := by simp [Wt.upto]
theorem rpL_rep (n a s : Nat) : rpL [] n a s = List.replicate s 0 := by
  refine ext_getD (by simp [rpL]) ?_
  intro i hi
  rw [rpL_len] at hi
  rw [rpL_at _ _ _ _ _ hi, rp_nil, repN_getD]

/-- The rounds' state. -/
structure Rd (w0 wr : World) (fb g : Nat) (vO vW vL : Value) (now s : Nat) (T : List Nat) : Prop where
  box : wr.heap[fb]? = some (.cells #[vO, vW, .int .i64 (now : Int), vL] 45 (0, 0))
  out : wr.ownsRow w0.heap.size 5 1 (.slice (some ⟨g, 0, none⟩) s s) s (bv T)
  bel : Below w0.heap.size w0 wr
  lo : w0.heap.size ≤ fb ∧ w0.heap.size ≤ g ∧ fb ≠ g
section
variable {w0 wr w2 : World} {fb g now s : Nat} {vO vW vL : Value} {T : List Nat}
theorem Rd.below (h : Rd w0 wr fb g vO vW vL now s T) (hb : Below wr.heap.size wr w2) : Rd w0 w2 fb g vO vW vL now s T :=
  ⟨(hb.block fb (Array.getElem?_eq_some_iff.1 h.box).1).trans h.box, row_below h.out hb, h.bel.trans (hb.mono h.bel.size), h.lo⟩
theorem Rd.c3 (h : Rd w0 wr fb g vO vW vL now s T) : wr.cell? ⟨fb, 3, none⟩ = some vL := by rw [cell_of_row wr fb 3 _ _ _ h.box]; rfl
theorem Rd.set (h : Rd w0 wr fb g vO vW vL now s T) (p q : Nat) : Rd w0 (wr.setCell ⟨g, p, none⟩ (.int .u8 (q : Int))) fb g vO vW vL now s (T.set p q) := by
  refine ⟨?_, ?_, h.bel.setCell (p := ⟨g, p, none⟩) h.lo.2.1 _, h.lo⟩
  · rw [Below.heap_setCell _ _ _ _ h.lo.2.2]; exact h.box
  · rw [← bv_set]; exact (h.out.stored p _).1
end

set_option maxRecDepth 100000 in
set_option maxHeartbeats 2000000 in
theorem refRead6_any {C now : Nat} {vO vW vL : Value} {L : List Wt} (n a s : Nat) (w : World) (h : LogAt C w vL L) (hL : L.length ≤ 1000) (hn : n < 96) (ha : a ≤ 4096) (hs : s ≤ 4096) :
    Calls Try.prog 20 #[.agg #[vO, vW, .int .i64 (now : Int), vL], .int .i64 (n : Nat), .int .i64 (a : Nat), .int .i64 (s : Nat)] w fun e w' => ∃ v, e = .returned v ∧ w'.ownsRow w.heap.size 5 1 v s (bv (rpL L n a s)) ∧ Below w.heap.size w w' := by
  obtain ⟨i0, hi, hz0, hz1, hz2⟩ := info_parts Try.info5
  obtain ⟨aL, cL, rfl⟩ := row_slice h.row
  have HLG : Hid (LogAt C w (.slice aL L.length cL) L) := h
  have HB1 : Hid (Below w.heap.size w (w.alloc (.cells #[vO, vW, .int .i64 (now : Int), .slice aL L.length cL] 45))) := (Below.refl _ w).alloc (Nat.le_refl _) _
  have HX1 : Hid ((w.alloc (.cells #[vO, vW, .int .i64 (now : Int), .slice aL L.length cL] 45)).heap[w.heap.size]? = some (.cells #[vO, vW, .int .i64 (now : Int), .slice aL L.length cL] 45 (0, 0))) := heap_alloc_new w _
  have HZ1 : Hid ((w.alloc (.cells #[vO, vW, .int .i64 (now : Int), .slice aL L.length cL] 45)).heap.size = w.heap.size + 1) := by show _ = _; simp
  clear h
  go_enter Try.func20, Try.ntmps20
  go_wp2_with (at_make; refine wpList_make_full _ rfl _ _ 24 rfl w.heap.size 5 i0 (.int .u8 0) 1 Try.underlying24 hi hz0 hz1 .i64 .i64 _ _ s rfl rfl rfl rfl (by rw [hz2]; omega) (by unfold maxLen; omega) (by simp) ?_)
  generalize w.alloc (.cells #[vO, vW, .int .i64 (now : Int), .slice aL L.length cL] 45) = w1 at *
  intro w2 own2 gr2
  have hb2 : Below w1.heap.size w1 w2 := (Below.refl _ _).grown gr2 (Nat.le_refl _) (by intro k hk; simp at hk)
  have own2' : w2.ownsRow w.heap.size 5 1 (.slice (some ⟨w.heap.size + 1, 0, none⟩) s s) s (bv (rpL (L.take 0) n a s)) := by
    rw [List.take_zero, rpL_rep, ← made_bytes]
    exact own2
  have HR : Hid (Rd w w2 w.heap.size (w.heap.size + 1) vO vW (.slice aL L.length cL) now s (rpL (L.take 0) n a s)) :=
    ⟨(hb2.block _ (Array.getElem?_eq_some_iff.1 HX1.out).1).trans HX1.out, own2', HB1.out.trans (hb2.mono HB1.out.size), by omega⟩
  obtain ⟨g, hg⟩ : ∃ g, w.heap.size + 1 = g := ⟨_, rfl⟩
  rw [hg] at HR
  rw [hg]
  obtain ⟨fb, hfb⟩ : ∃ fb, w.heap.size = fb := ⟨_, rfl⟩
  have HR2 : Hid (Rd w w2 fb g vO vW (.slice aL L.length cL) now s (rpL (L.take 0) n a s)) := by rw [← hfb]; exact HR.out
  rw [hfb]
  clear own2 gr2 hb2 own2' hg hfb HR HB1 HX1 HZ1
  go_wp2_with fail
  go_loopg [10, 11, 12, 13] L.length (fun gk i _ _ _ wq => ∃ k : Nat, k ≤ L.length ∧ gk = L.length - k ∧ i = .int .i64 k ∧ Rd w wq fb g vO vW (.slice aL L.length cL) now s (rpL (L.take k) n a s))
  case atStart => exact ⟨0, Nat.zero_le _, rfl, rfl, HR2.out⟩
  case round =>
    obtain ⟨k, hk, rfl, rfl, hR⟩ := hrel
    have HR3 : Hid (Rd w wr fb g vO vW (.slice aL L.length cL) now s (rpL (L.take k) n a s)) := hR
    have c3 := hR.c3
    clear hR
    by_cases hlt : k < L.length
    · have i1 : (k : Int) < (L.length : Int) := by omega
      have hlw := HLG.out.below HR3.out.bel
      obtain ⟨gL, rfl, e0, e1, e2, hgl, hgl2⟩ := row_at3 hlw.row hlt
      obtain ⟨q0, q1, q2⟩ := wc_at L k hlt
      rw [q0] at e0
      rw [q1] at e1
      rw [q2] at e2
      obtain ⟨hb1, hb2, hb3⟩ := HLG.out.each L[k] (List.getElem_mem _)
      have htk : L.take (k + 1) = L.take k ++ [L[k]] := by rw [List.take_succ_eq_append_getElem hlt]
      generalize L[k] = tt at *
      obtain ⟨tn, ta, tv, tb⟩ := tt
      simp only at e0 e1 e2 hb1 hb2 hb3
      obtain ⟨ab, cb, rfl⟩ := row_slice hb1
      have HTK : Hid (L.take (k + 1) = L.take k ++ [⟨tn, ta, .slice ab tb.length cb, tb⟩]) := htk
      have HTB : Hid (w.ownsRow C 5 1 (.slice ab tb.length cb) tb.length (bv tb)) := hb1
      have n1 : fb ≠ wr.heap.size := by have := (Array.getElem?_eq_some_iff.1 HR3.out.box).1; omega
      have n2 : gL ≠ wr.heap.size := by omega
      have HBX : Hid (Below wr.heap.size wr (wr.alloc (.cells #[.int .i64 (tn : Int), .int .i64 (ta : Int), .slice ab tb.length cb] 86))) := (Below.refl _ wr).alloc (Nat.le_refl _) _
      have HWX : Hid ((wr.alloc (.cells #[.int .i64 (tn : Int), .int .i64 (ta : Int), .slice ab tb.length cb] 86)).heap[wr.heap.size]? = some (.cells #[.int .i64 (tn : Int), .int .i64 (ta : Int), .slice ab tb.length cb] 86 (0, 0))) := heap_alloc_new wr _
      clear hlw htk q0 q1 q2 hb1
      by_cases hne : tn = n
      · subst hne
        have j1 : ((tn : Int) != (tn : Int)) = false := by simp
        go_wp2_with fail
        have HR4 := HR3.out.below HBX.out
        have hwg : g < wr.heap.size := by
          rcases HR3.out.out.2 with ⟨h1, _⟩ | ⟨g', _, _, h1, _, h3, _⟩
          · simp at h1
          · simp only [Value.slice.injEq, Option.some.injEq, Addr.mk.injEq, and_true, true_and] at h1
            obtain ⟨rfl, _⟩ := h1
            exact (Array.getElem?_eq_some_iff.1 h3).1
        have HWG : Hid (g < wr.heap.size) := hwg
        generalize wr.alloc (.cells #[.int .i64 (tn : Int), .int .i64 (ta : Int), .slice ab tb.length cb] 86) = w5 at *
        generalize wr.heap.size = wb at *
        have HR5 : Hid (Rd w w5 fb g vO vW (.slice (some ⟨gL, 0, none⟩) L.length cL) now s (rpL (L.take k ++ [Wt.upto ⟨tn, ta, .slice ab tb.length cb, tb⟩ 0]) tn a s)) := by
          show Rd _ _ _ _ _ _ _ _ _ _
          rw [rpL_zero]; exact HR4
        clear c3 e0 e1 e2 n1 n2 HR4 hwg HR2 HBX hgl2 hgl
        go_loopg [12, 13] tb.length (fun gk i _ wq => ∃ j : Nat, j ≤ tb.length ∧ gk = tb.length - j ∧ i = .int .i64 j ∧ Rd w wq fb g vO vW (.slice (some ⟨gL, 0, none⟩) L.length cL) now s (rpL (L.take k ++ [Wt.upto ⟨tn, ta, .slice ab tb.length cb, tb⟩ j]) tn a s) ∧
          wq.heap[wb]? = some (.cells #[.int .i64 (tn : Int), .int .i64 (ta : Int), .slice ab tb.length cb] 86 (0, 0)))
        case atStart => exact ⟨0, Nat.zero_le _, rfl, rfl, HR5.out, HWX.out⟩
        case round =>
          obtain ⟨j, hj, rfl, rfl, hr6, hw6⟩ := hrel
          have HR6 : Hid (Rd w wr fb g vO vW (.slice (some ⟨gL, 0, none⟩) L.length cL) now s (rpL (L.take k ++ [Wt.upto ⟨tn, ta, .slice ab tb.length cb, tb⟩ j]) tn a s)) := hr6
          have HW6 : Hid (wr.heap[wb]? = some (.cells #[.int .i64 (tn : Int), .int .i64 (ta : Int), .slice ab tb.length cb] 86 (0, 0))) := hw6
          have d1 : wr.cell? ⟨wb, 1, none⟩ = some (.int .i64 (ta : Int)) := by rw [cell_of_row wr wb 1 _ _ _ hw6]; rfl
          have d2 : wr.cell? ⟨wb, 2, none⟩ = some (.slice ab tb.length cb) := by rw [cell_of_row wr wb 2 _ _ _ hw6]; rfl
          clear hr6 hw6
          by_cases hjl : j < tb.length
          · have j2 : (j : Int) < (tb.length : Int) := by omega
            obtain ⟨gb, rfl, cb2, _⟩ := row_at (row_below HTB.out HR6.out.bel) hjl
            rw [bv_at _ _ hjl] at cb2
            by_cases hap : a ≤ ta + j
            · obtain ⟨p, hp⟩ : ∃ p, ta + j = a + p := ⟨ta + j - a, by omega⟩
              have j3 : (ta : Int) + (j : Int) - (a : Int) = (p : Int) := by omega
              by_cases hps : p < s
              · have HI : Hid _ := rpL_in (L.take k) ⟨tn, ta, .slice (some ⟨gb, 0, none⟩) tb.length cb, tb⟩ tn a s j p rfl hjl hp.symm
                obtain ⟨gx, ex, cg, fg, _⟩ := row_at HR6.out.out hps
                obtain rfl : g = gx := by simpa using ex
                rw [bv_at _ _ (by rw [rpL_len]; exact hps)] at cg
                generalize (rpL (L.take k ++ [Wt.upto ⟨tn, ta, .slice (some ⟨gb, 0, none⟩) tb.length cb, tb⟩ j]) tn a s).getD p 0 = qo at *
                have HR7 : Hid _ := HR6.out.set p (tb.getD j 0)
                have HNE : Hid (wb ≠ g) := by have := HWG.out; show wb ≠ g; omega
                generalize tb.getD j 0 = qb at *
                have j4 : (p : Int) < (s : Int) := by omega
                clear ex hp hap
                go_wp2
                go_roundg (tb.length - (j + 1))
                case measure => omega
                case rel => exact ⟨j + 1, by omega, rfl, by go_num, by rw [HI.out]; exact HR7.out, by rw [Below.heap_setCell _ _ _ _ HNE.out]; exact HW6.out⟩
              · have HI : Hid _ := rpL_out (L.take k) ⟨tn, ta, .slice (some ⟨gb, 0, none⟩) tb.length cb, tb⟩ tn a s j hjl (.inr (by show a + s ≤ ta + j; omega))
                have j4 : ¬ (p : Int) < (s : Int) := by omega
                clear hp hap
                go_wp2
                go_roundg (tb.length - (j + 1))
                case measure => omega
                case rel => exact ⟨j + 1, by omega, rfl, by go_num, by rw [HI.out]; exact HR6.out, HW6.out⟩
            · have HI : Hid _ := rpL_out (L.take k) ⟨tn, ta, .slice (some ⟨gb, 0, none⟩) tb.length cb, tb⟩ tn a s j hjl (.inl (by show ta + j < a; omega))
              have j3 : ¬ 0 ≤ (ta : Int) + (j : Int) - (a : Int) := by omega
              go_wp2
              go_roundg (tb.length - (j + 1))
              case measure => omega
              case rel => exact ⟨j + 1, by omega, rfl, by go_num, by rw [HI.out]; exact HR6.out, HW6.out⟩
          · have e : j = tb.length := by omega
            have j2 : ¬ (j : Int) < (tb.length : Int) := by omega
            have HE : Hid (Wt.upto ⟨tn, ta, .slice ab tb.length cb, tb⟩ j = ⟨tn, ta, .slice ab tb.length cb, tb⟩) := by show _ = _; rw [e]; exact upto_all _
            clear e
            go_wp2
            go_roundg (L.length - (k + 1))
            case measure => omega
            case rel => exact ⟨k + 1, by omega, rfl, by go_num, by rw [HTK.out]; have := HR6.out; rw [HE.out] at this; exact this⟩
      · have j1 : ((tn : Int) != (n : Int)) = true := by rw [bne_iff_ne]; omega
        have j0 : ((tn : Int) == (n : Int)) = false := by rw [beq_eq_false_iff_ne]; omega
        go_wp2
        go_roundg (L.length - (k + 1))
        case measure => omega
        case rel => exact ⟨k + 1, by omega, rfl, by go_num, by rw [HTK.out, rpL_other _ _ _ _ _ hne]; exact HR3.out.below HBX.out⟩
    · have e : k = L.length := by omega
      have i1 : ¬ (k : Int) < (L.length : Int) := by omega
      have HE : Hid (L.take k = L) := by show _ = _; rw [e, List.take_length]
      clear e
      go_wp2
      go_ret
      exact ⟨_, rfl, by have := HR3.out.out; rw [HE.out] at this; exact this, HR3.out.bel⟩
end Go.Proofs.Yteebjeifbccbnaa
