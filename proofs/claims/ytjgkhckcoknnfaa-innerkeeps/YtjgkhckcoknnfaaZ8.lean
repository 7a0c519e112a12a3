/- Texts of this seat, joined: IStepW, IStepR, IBoth, GArr: each opens with what it holds. -/
import Derived.Test.YtjgkhckcoknnfaaZ7
import Derived.Deep.RegionHeld3
import Derived.Test.YtjgkhckcoknnfaaRows
import Derived.ProofKit
import Derived.WalkKit
import Derived.OpenShut
import Derived.ShutString
import Derived.ChangeOld
import Derived.Laws.IdiomArrays
/- The walk of the law's own 'step': a deed that writes. -/
namespace Go.Proofs.Ytjgkhckcoknnfaa
open Go.RowKit
section
variable {B E C D r q base : Nat} {R : RS} {G : PG} {L : List Nat} {T : List Ob} {v : Value} {d : Dn} {w w' : World}
theorem rowO_set (x : Ob) : ∀ (T : List Ob) (i : Nat), i < T.length → rowO (T.set i x) = ((rowO T).set (i * 2) (.int .i64 x.n)).set (i * 2 + 1) (.slice x.p x.l x.c)
  | [], i, h => by simp at h
  | y :: T, 0, _ => rfl
  | y :: T, i + 1, h => by
    have ih := rowO_set x T i (by simpa using h)
    show Ob.cells y ++ rowO (T.set i x) = ((Ob.cells y ++ rowO T).set ((i + 1) * 2) _).set ((i + 1) * 2 + 1) _
    rw [ih, Nat.succ_mul]
    rfl
set_option maxRecDepth 100000 in
set_option maxHeartbeats 4000000 in
theorem stepWrite (h : StepIn B E C D r q base R G L T v d w) (hK : d.K = 3 ∨ d.K = 4) (hN : 0 ≤ d.N ∧ d.N < T.length) :
    Calls Try.prog 23 #[.pointer (some ⟨r, 0, none⟩), .pointer (some ⟨q, 0, none⟩), v, .agg #[.bool d.o, .int .i64 d.K, .int .i64 d.N, .slice d.p d.l d.c], .int .i64 (jSz G.c : Nat)] w (StepOut B E C D r q base R G w) := by
  obtain ⟨i0, hi0, hz0, hz1, hz2⟩ := info_parts Try.infoO
  obtain ⟨a, cv, rfl⟩ := row_slice h.obs.own
  obtain ⟨dO, K, N, dp, dl, dc, db⟩ := d
  have hdn := h.ok.n
  have hok := h.ok.by_
  have hfar := h.far
  dsimp only at hK hdn hok hfar ⊢
  obtain ⟨W, hW⟩ : ∃ W, w.alloc (.cells #[.bool dO, .int .i64 K, .int .i64 N, .slice dp dl dc] 51) = W := ⟨_, rfl⟩
  have hbW : Below w.heap.size w W := by rw [← hW]; exact (Below.refl _ w).alloc (Nat.le_refl _) _
  have hxW : W.heap[w.heap.size]? = some (.cells #[.bool dO, .int .i64 K, .int .i64 N, .slice dp dl dc] 51 (0, 0)) := by rw [← hW]; exact heap_alloc_new _ _
  have HX : Hid (W.heap[w.heap.size]? = some (.cells #[.bool dO, .int .i64 K, .int .i64 N, .slice dp dl dc] 51 (0, 0))) := hxW
  obtain ⟨x0, x1, x2, x3⟩ := cells4 hxW
  have HBW : Hid (Below w.heap.size w W) := hbW
  have HH : Hid (HeldZ R G L T) := h.held
  have HP : Hid (PageZ C D W q G) := h.page.below hbW
  have HR : Hid (RamAt B E W r R) := h.ram.below hbW
  have HD : Hid (D ≤ B ∨ E ≤ C) := h.dis
  have HO : Hid (ObsAt W base (.slice a T.length cv) T) := h.obs.below hbW
  have HLO : Hid (E ≤ base ∧ D ≤ base) := h.lo
  have HHI : Hid (base ≤ w.heap.size) := h.hi
  have HBY : Hid (ByAt W dp dl dc db) := hok.later hbW
  have HFAR : Hid (∀ g off, dp = some ⟨g, off, none⟩ → 0 < dl → g < B ∧ g < C) := hfar
  have hsm := h.held.small
  have hHI := h.hi
  have hWS := hbW.size
  have HWS1 : Hid (W.heap.size = w.heap.size + 1) := by show _ = _; rw [← hW]; simp
  clear h hok hfar hbW hxW
  have i1 : ¬ K < 2 := by omega
  have i2 : (K == 2) = false := beq_eq_false_iff_ne.2 (by omega)
  dsimp only at hN
  obtain ⟨i, rfl, hi⟩ : ∃ i : Nat, N = (i : Nat) ∧ i < T.length := by obtain ⟨k, hk⟩ := Int.eq_ofNat_of_zero_le hN.1; exact ⟨k, hk, by omega⟩
  obtain ⟨o, hto⟩ : ∃ o, T[i]? = some o := ⟨_, List.getElem?_eq_getElem hi⟩
  obtain ⟨g, rfl, hg1, hg2, c0, c1, _⟩ := HO.out.at hto
  obtain ⟨n, hn, hn1, hn2, hn3, hn4⟩ := HH.out.at hto
  have HTO : Hid (T[i]? = some o) := hto
  have HON : Hid (o.n = (n : Nat)) := hn
  have HN1 : Hid (n < G.x.length) := hn1
  have HN2 : Hid (G.x.getD n false = true) := hn2
  have HN3 : Hid (o.b.length ≤ jSz G.c) := hn3
  have HOY : Hid (ByAt W o.p o.l o.c o.b) := HO.out.by_ o (List.mem_of_getElem? hto)
  have HOL : Hid (∀ g off, o.p = some ⟨g, off, none⟩ → 0 < o.l → base ≤ g) := HO.out.low o (List.mem_of_getElem? hto)
  rw [hn] at c0
  generalize hop : o.p = op at c1 HOY HOL
  generalize hol : o.l = ol at c1 HOY HOL
  generalize hoc : o.c = oc at c1 HOY HOL
  have hiI : (i : Int) < (T.length : Int) := by omega
  have hi256 : n < 256 := by have := HH.out.good.ok.many; omega
  have hgW : g < W.heap.size := hg2
  have HGB : Hid (base ≤ g) := hg1
  clear hto hn hn1 hn2 hn3 hn4 hN hop hol hoc hg1 hg2
  obtain ⟨W2, hW2⟩ : ∃ W2, W.alloc (.cells #[.int .i64 (n : Nat), .slice op ol oc] 87) = W2 := ⟨_, rfl⟩
  have hb2 : Below W.heap.size W W2 := by rw [← hW2]; exact (Below.refl _ W).alloc (Nat.le_refl _) _
  have hx2 : W2.heap[W.heap.size]? = some (.cells #[.int .i64 (n : Nat), .slice op ol oc] 87 (0, 0)) := by rw [← hW2]; exact heap_alloc_new _ _
  have hs2 : W2.heap.size = W.heap.size + 1 := by rw [← hW2]; simp
  have hWS1 := HWS1.out
  have HX2 : Hid (W2.heap[W.heap.size]? = some (.cells #[.int .i64 (n : Nat), .slice op ol oc] 87 (0, 0))) := hx2
  have HB2 : Hid (Below W.heap.size W W2) := hb2
  have y0 : W2.cell? ⟨W.heap.size, 0, none⟩ = some (.int .i64 (n : Nat)) := by rw [cell_of_row W2 _ _ _ _ _ hx2]; rfl
  have y1 : W2.cell? ⟨W.heap.size, 1, none⟩ = some (.slice op ol oc) := by rw [cell_of_row W2 _ _ _ _ _ hx2]; rfl
  have hdW : w.heap.size < W.heap.size := by omega
  have HDB : Hid (W2.heap[w.heap.size]? = some (.cells #[.bool dO, .int .i64 K, .int .i64 (i : Nat), .slice dp dl dc] 51 (0, 0))) := (hb2.block _ hdW).trans HX.out
  obtain ⟨z0, z1, z2, z3⟩ := cells4 HDB.out
  have HK2 : Hid (Keeps (Off B E C D) w W2) := keeps_all (HBW.out.trans (hb2.mono hWS))
  have HP2 : Hid (PageZ C D W2 q G) := HP.out.below hb2
  have HR2 : Hid (RamAt B E W2 r R) := HR.out.below hb2
  have HO2 : Hid (ObsAt W2 base (.slice (some ⟨g, 0, none⟩) T.length cv) T) := HO.out.below hb2
  have HBY2 : Hid (ByAt W2 dp dl dc db) := HBY.out.later hb2
  have HOY2 : Hid (ByAt W2 op ol oc o.b) := HOY.out.later hb2
  have HBS : Hid (base ≤ W2.heap.size) := by show _ ≤ _; omega
  have HCC : Hid (∀ w', Keeps (fun k => base ≤ k) W2 w' → (w'.cell? ⟨w.heap.size, 2, none⟩ = some (.int .i64 (i : Nat)) ∧ w'.cell? ⟨w.heap.size, 3, none⟩ = some (.slice dp dl dc)) ∧ w'.cell? ⟨W.heap.size, 0, none⟩ = some (.int .i64 (n : Nat)) ∧ w'.cell? ⟨W.heap.size, 1, none⟩ = some (.slice op ol oc)) := by
    intro w' hk
    obtain ⟨_, _, k2, k3⟩ := cells4 (hk.at HDB.out hHI)
    have h5 := hk.at HX2.out (show base ≤ W.heap.size by omega)
    exact ⟨⟨k2, k3⟩, by rw [cell_of_row w' _ _ _ _ _ h5]; rfl, by rw [cell_of_row w' _ _ _ _ _ h5]; rfl⟩
  have HOFF : Hid (∀ k, base ≤ k → Off B E C D k) := fun k hk => ⟨.inr (Nat.le_trans HLO.out.1 hk), .inr (Nat.le_trans HLO.out.2 hk)⟩
  have HW2S : Hid (W2.heap.size = W.heap.size + 1) := hs2
  clear hb2 hx2 hs2 hWS1 hdW
  have HTA : Hid (∀ g o, dp = some ⟨g, o, none⟩ → 0 < dl → g < B ∨ E ≤ g) := fun g o e h => .inl (HFAR.out g o e h).1
  have HAP : Hid (Apart B E (.slice dp dl dc) db) := by
    intro ad m c e hne
    cases e
    have hl0 : 0 < dl := by
      rw [← HBY.out.len]
      exact List.length_pos_iff.2 hne
    obtain ⟨gg, off, e2, _⟩ := HBY.out.at hl0
    cases e2
    exact HTA.out gg off rfl hl0
  have HDL : dl ≤ maxLen := HBY.out.short
  unfold maxLen at HDL
  by_cases hl : dl ≤ jSz G.c
  · by_cases h3 : K = 3
    · have i3 : (K == 3) = true := beq_iff_eq.2 h3
      clear hK h3
      have HL : Hid (dl ≤ jSz G.c) := hl
      have HSZ := HH.out.good.ok.sz
      generalize hS : jSz G.c = S at hl HSZ ⊢
      have h5 : decide ((dl : Int) ≤ (S : Int)) = true := decide_eq_true (by omega)
      have h6 : decide (dl ≤ S) = true := decide_eq_true hl
      have h7 : (dl : Int) ≤ (S : Int) := by omega
      have HDL4 : Hid (dl ≤ 4096) := by show _ ≤ _; omega
      clear hS hl
      have HI : Hid (i < T.length) := hi
      generalize htl : T.length = tl at HO2 hiI hsm ⊢
      have HTL : Hid (T.length = tl) := htl
      have hi2 : i < tl := by omega
      clear htl hi
      go_enter Try.func23, Try.ntmps23
      go_wp2_with fail
      refine (write_z HH.out.good.ok HN1.out HN2.out HL.out W2 HP2.out HR2.out HD.out HBY2.out HAP.out).mono ?_
      rintro e w3 ⟨R3, rfl, ram, hw, ht⟩
      have hk3 : Keeps (fun k => base ≤ k) W2 w3 := (turns_keeps ht).mono fun k _ h => .inr (Nat.le_trans HLO.out.1 h)
      have HK3 : Hid (Keeps (fun k => base ≤ k) W2 w3) := hk3
      have HR3 : Hid (RamAt B E w3 r R3) := ram
      have HW3 : Hid (Wrote R R3 G.F (n * jSz G.c) db) := hw
      have HP3 : Hid (PageZ C D w3 q G) := HP2.out.turns HD.out ht
      have HO3 : Hid (ObsAt w3 base (.slice (some ⟨g, 0, none⟩) tl cv) T) := HO2.out.kept hk3 fun _ h => h
      have HKW3 : Hid (Keeps (Off B E C D) w w3) := HK2.out.trans (off_turns C D ht)
      have HY3 : Hid (ByAt w3 dp dl dc db) := HBY2.out.turns HAP.out ht
      have HOY3 : Hid (ByAt w3 op ol oc o.b) := hk3.by HOY2.out HOL.out
      have HB3 : Hid (base ≤ w3.heap.size) := Nat.le_trans HBS.out ht.size
      have HSR : Hid (SrcAt (w3.alloc (.cells #[] 87)) (.slice (some ⟨g, 0, none⟩) tl cv) tl 2 (rowO T)) := by
        have h5 := (HO3.out.below ((Below.refl _ w3).alloc (Nat.le_refl _) (.cells #[] 87))).own
        rw [HTL.out] at h5
        exact src_row h5
      clear ram hw ht hk3
      go_wp2_with (at_builtin; refine wpList_append_src rfl _ _ 48 rfl w3.heap.size 87 i0 _ 2 32 Try.underlying48 hi0 hz0 hz1 hz2 rfl (by decide) _ _ _ rfl (World.ownsRow_made w3 #[] 0 (Nat.le_refl _) (by unfold maxLen; omega) rfl) _ tl (rowO T) rfl HSR.out (rowO_one _) ?c3 ?c4 ?c5 ?_)
      case c3 => unfold maxLen; omega
      case c4 => omega
      case c5 => simp
      intro v7 w7 own7 gr7
      have b7 : Below w3.heap.size w3 w7 := ((Below.refl _ w3).alloc (Nat.le_refl _) _).grown gr7 (by simp) (fun i hi => by simp [Value.ownBlock] at hi; omega)
      have own7' : w7.ownsRow w3.heap.size 87 2 v7 tl (rowO T) := by simpa using own7
      obtain ⟨a7, c7, rfl⟩ := row_slice own7'
      obtain ⟨g7, rfl, hg7, hg7'⟩ : ∃ g7, a7 = some ⟨g7, 0, none⟩ ∧ w3.heap.size ≤ g7 ∧ g7 < w7.heap.size := by
        rcases own7'.2 with ⟨_, h1⟩ | ⟨g7, cap, cur, h1, h2, h3, _⟩
        · omega
        · simp only [Value.slice.injEq, true_and] at h1
          exact ⟨g7, h1.1, h2, (Array.getElem?_eq_some_iff.1 h3).1⟩
      have HB7 : Hid (Below w3.heap.size w3 w7) := b7
      have HOW7 : Hid (w7.ownsRow w3.heap.size 87 2 (.slice (some ⟨g7, 0, none⟩) tl c7) tl (rowO T)) := own7'
      have HG7 : Hid (w3.heap.size ≤ g7 ∧ g7 < w7.heap.size) := ⟨hg7, hg7'⟩
      have HK7 : Hid (Keeps (fun k => base ≤ k) W2 w7) := HK3.out.trans (keeps_all b7)
      obtain ⟨⟨p2, p3⟩, p0, p1⟩ := HCC.out w7 HK7.out
      have hne1 : g7 ≠ w.heap.size := by have := HK3.out.size; have := HB2.out.size; have := HWS1.out; omega
      have hne2 : g7 ≠ W.heap.size := by have := HK3.out.size; have := HW2S.out; omega
      have HC7 : Hid (∀ w', Below w7.heap.size w7 w' → (∃ u, w'.cell? ⟨g7, i * 2, none⟩ = some u) ∧ (∃ u, w'.cell? ⟨g7, i * 2 + 1, none⟩ = some u) ∧ w'.frozen? ⟨g7, i * 2, none⟩ = false ∧ w'.frozen? ⟨g7, i * 2 + 1, none⟩ = false) := by
        intro w' hb
        have hr := row_below HOW7.out hb
        have hl : (rowO T).length = tl * 2 := by rw [rowO_len, HTL.out]
        refine ⟨⟨_, (hr.cellAt (i * 2) (by omega)).trans (List.getElem?_eq_getElem (by omega))⟩, ⟨_, (hr.cellAt (i * 2 + 1) (by omega)).trans (List.getElem?_eq_getElem (by omega))⟩, hr.frozenAt _, hr.frozenAt _⟩
      clear own7 gr7 b7 own7' hg7 hg7'
      have HDR : Hid (Below w7.heap.size w7 w7.drew) := drew_below _ _
      obtain ⟨l8, hl8⟩ : ∃ l8, (overB o.b db).length = l8 := ⟨_, rfl⟩
      have HL8 : Hid ((overB o.b db).length = l8) := hl8
      clear hl8
      have HOY7 : Hid (ByAt w7.drew op ol oc o.b) := (HOY3.out.later HB7.out).later (drew_below _ _)
      have HY7 : Hid (ByAt w7.drew dp dl dc db) := (HY3.out.later HB7.out).later (drew_below _ _)
      have HO1 : Hid (ol ≤ 100000) := by show _ ≤ _; rw [← HOY.out.len]; have := HN3.out; have := HH.out.good.ok.sz; omega
      have HD1 : Hid (dl ≤ 100000) := by show _ ≤ _; have := HDL4.out; omega
      go_upto_region 23 with (fail)
      go_region_held3 (fun w' => w'.cell? ⟨w.heap.size, 2, none⟩ = some (.int .i64 (i : Nat)) ∧ w'.cell? ⟨w.heap.size, 3, none⟩ = some (.slice dp dl dc) ∧ w'.cell? ⟨W.heap.size, 0, none⟩ = some (.int .i64 (n : Nat)) ∧ w'.cell? ⟨W.heap.size, 1, none⟩ = some (.slice op ol oc)) (first | (go_keep; done)) (first | (go_at_call 52; refine (refWriteO_any w7.drew HOY7.out HY7.out HO1.out HD1.out).mono ?_; rintro e w8 ⟨v8, rfl, own8, b8⟩; rw [HL8.out] at own8; obtain ⟨a8, c8, rfl⟩ := row_slice own8; have HB8 : Hid (Below w7.heap.size w7 w8) := HDR.out.trans (b8.mono HDR.out.size); have HOV8 : Hid (w8.ownsRow w7.drew.heap.size 5 1 (.slice a8 l8 c8) l8 (bv (overB o.b db))) := own8; obtain ⟨⟨r2, r3⟩, r0, r1⟩ := HCC.out w8 (HK7.out.trans (keeps_all HB8.out)); obtain ⟨⟨u0, e0⟩, ⟨u1, e1⟩, f0, f1⟩ := HC7.out w8 HB8.out; clear own8 b8))
      all_goals
        have hs1 := (row_below HOW7.out HB8.out).stored (i * 2) (.int .i64 (n : Nat))
        have hs2 := hs1.1.stored (i * 2 + 1) (.slice a8 l8 c8)
        have hk9 := (keeps_set w8 ⟨g7, i * 2, none⟩ (.int .i64 (n : Nat))).trans (keeps_set (w8.setCell ⟨g7, i * 2, none⟩ (.int .i64 (n : Nat))) ⟨g7, i * 2 + 1, none⟩ (.slice a8 l8 c8))
        have hb38 : Below w3.heap.size w3 w8 := HB7.out.trans (HB8.out.mono HB7.out.size)
        have hb39 := (hb38.setCell (p := ⟨g7, i * 2, none⟩) HG7.out.1 (.int .i64 (n : Nat))).setCell (p := ⟨g7, i * 2 + 1, none⟩) HG7.out.1 (.slice a8 l8 c8)
        obtain ⟨w9, hw9⟩ : ∃ w9, (w8.setCell ⟨g7, i * 2, none⟩ (.int .i64 (n : Nat))).setCell ⟨g7, i * 2 + 1, none⟩ (.slice a8 l8 c8) = w9 := ⟨_, rfl⟩
        rw [hw9] at hs2 hk9 hb39 ⊢
        have HB9 : Hid (Below w3.heap.size w3 w9) := hb39
        have HV9 : Hid (w9.ownsRow w7.drew.heap.size 5 1 (.slice a8 l8 c8) l8 (bv (overB o.b db))) := hk9.row HOV8.out fun gg hgg e => by
          have h5 := (HOV8.out.lt gg hgg).1
          have h6 := HG7.out.2
          have h7 := HDR.out.size
          have h8 : gg = g7 := e
          omega
        have HO9 : Hid (ObsAt w9 base (.slice (some ⟨g7, 0, none⟩) tl c7) (T.set i ⟨o.n, a8, l8, c8, overB o.b db⟩)) := by
          refine HO3.out.made HB9.out ?_ (fun x hx => ?_)
          · rw [List.length_set, HTL.out, rowO_set _ _ _ HI.out, HON.out]
            exact rowMono hs2.1 HB3.out
          · rcases List.mem_or_eq_of_mem_set hx with h5 | h5
            · exact .inl h5
            · subst h5
              refine .inr ⟨by_own HV9.out (fun y hy => ?_), fun gg off e _ => ?_⟩
              · rcases List.mem_append.1 hy with h6 | h6
                · exact HY7.out.byte y h6
                · exact HOY7.out.byte y (List.mem_of_mem_drop h6)
              · have e' : a8 = some ⟨gg, off, none⟩ := e
                subst e'
                have h5 := (HV9.out.lt gg rfl).1
                have h6 := HDR.out.size
                have h7 := HB7.out.size
                have h8 := HB3.out
                omega
        have HHW : Hid (HeldZ R3 G L (T.set i ⟨o.n, a8, l8, c8, overB o.b db⟩)) := HH.out.write HTO.out HON.out (by rw [HBY.out.len]; exact HL.out) HW3.out
        have HR9 : Hid (RamAt B E w9 r R3) := HR3.out.below HB9.out
        have HP9 : Hid (PageZ C D w9 q G) := HP3.out.below HB9.out
        have HK9 : Hid (Keeps (Off B E C D) w w9) := HKW3.out.trans (keeps_all HB9.out)
        clear r0 r1 r2 r3 e0 e1 f0 f1 p0 p1 p2 p3
        obtain ⟨⟨p2, p3⟩, p0, p1⟩ := HCC.out w9 (HK3.out.trans (keeps_all HB9.out))
        clear hs1 hs2 hk9 hb38 hb39 hw9
        go_upto_region 24 with (fail)
        go_quiet (fail)
        go_wp2
        go_ret2
        exact ⟨_, _, R3, G, L, rfl, HHW.out, HP9.out.below (drewN_below _ _ _), HR9.out.below (drewN_below _ _ _), HO9.out.below (drewN_below _ _ _), HW3.out.els, ⟨rfl, rfl⟩, HK9.out.trans (keeps_drew _ _ _)⟩
    · have i3 : (K == 3) = false := beq_eq_false_iff_ne.2 h3
      have i4 : (K == 4) = true := beq_iff_eq.2 (by omega)
      clear hK h3
      have HL : Hid (dl ≤ jSz G.c) := hl
      have HSZ := HH.out.good.ok.sz
      generalize hS : jSz G.c = S at hl HSZ ⊢
      have h5 : decide ((dl : Int) ≤ (S : Int)) = true := decide_eq_true (by omega)
      have h6 : decide (dl ≤ S) = true := decide_eq_true hl
      have h7 : (dl : Int) ≤ (S : Int) := by omega
      have HDL4 : Hid (dl ≤ 4096) := by show _ ≤ _; omega
      clear hS hl
      have HI : Hid (i < T.length) := hi
      generalize htl : T.length = tl at HO2 hiI hsm ⊢
      have HTL : Hid (T.length = tl) := htl
      have hi2 : i < tl := by omega
      clear htl hi
      go_enter Try.func23, Try.ntmps23
      go_wp2_with fail
      refine (write_z HH.out.good.ok HN1.out HN2.out HL.out W2 HP2.out HR2.out HD.out HBY2.out HAP.out).mono ?_
      rintro e w3 ⟨R3, rfl, ram, hw, ht⟩
      have hk3 : Keeps (fun k => base ≤ k) W2 w3 := (turns_keeps ht).mono fun k _ h => .inr (Nat.le_trans HLO.out.1 h)
      have HK3 : Hid (Keeps (fun k => base ≤ k) W2 w3) := hk3
      have HR3 : Hid (RamAt B E w3 r R3) := ram
      have HW3 : Hid (Wrote R R3 G.F (n * jSz G.c) db) := hw
      have HP3 : Hid (PageZ C D w3 q G) := HP2.out.turns HD.out ht
      have HO3 : Hid (ObsAt w3 base (.slice (some ⟨g, 0, none⟩) tl cv) T) := HO2.out.kept hk3 fun _ h => h
      have HKW3 : Hid (Keeps (Off B E C D) w w3) := HK2.out.trans (off_turns C D ht)
      have HY3 : Hid (ByAt w3 dp dl dc db) := HBY2.out.turns HAP.out ht
      have HOY3 : Hid (ByAt w3 op ol oc o.b) := hk3.by HOY2.out HOL.out
      have HB3 : Hid (base ≤ w3.heap.size) := Nat.le_trans HBS.out ht.size
      have HSR : Hid (SrcAt (w3.alloc (.cells #[] 87)) (.slice (some ⟨g, 0, none⟩) tl cv) tl 2 (rowO T)) := by
        have h5 := (HO3.out.below ((Below.refl _ w3).alloc (Nat.le_refl _) (.cells #[] 87))).own
        rw [HTL.out] at h5
        exact src_row h5
      clear ram hw ht hk3
      go_wp2_with (at_builtin; refine wpList_append_src rfl _ _ 48 rfl w3.heap.size 87 i0 _ 2 32 Try.underlying48 hi0 hz0 hz1 hz2 rfl (by decide) _ _ _ rfl (World.ownsRow_made w3 #[] 0 (Nat.le_refl _) (by unfold maxLen; omega) rfl) _ tl (rowO T) rfl HSR.out (rowO_one _) ?c3 ?c4 ?c5 ?_)
      case c3 => unfold maxLen; omega
      case c4 => omega
      case c5 => simp
      intro v7 w7 own7 gr7
      have b7 : Below w3.heap.size w3 w7 := ((Below.refl _ w3).alloc (Nat.le_refl _) _).grown gr7 (by simp) (fun i hi => by simp [Value.ownBlock] at hi; omega)
      have own7' : w7.ownsRow w3.heap.size 87 2 v7 tl (rowO T) := by simpa using own7
      obtain ⟨a7, c7, rfl⟩ := row_slice own7'
      obtain ⟨g7, rfl, hg7, hg7'⟩ : ∃ g7, a7 = some ⟨g7, 0, none⟩ ∧ w3.heap.size ≤ g7 ∧ g7 < w7.heap.size := by
        rcases own7'.2 with ⟨_, h1⟩ | ⟨g7, cap, cur, h1, h2, h3, _⟩
        · omega
        · simp only [Value.slice.injEq, true_and] at h1
          exact ⟨g7, h1.1, h2, (Array.getElem?_eq_some_iff.1 h3).1⟩
      have HB7 : Hid (Below w3.heap.size w3 w7) := b7
      have HOW7 : Hid (w7.ownsRow w3.heap.size 87 2 (.slice (some ⟨g7, 0, none⟩) tl c7) tl (rowO T)) := own7'
      have HG7 : Hid (w3.heap.size ≤ g7 ∧ g7 < w7.heap.size) := ⟨hg7, hg7'⟩
      have HK7 : Hid (Keeps (fun k => base ≤ k) W2 w7) := HK3.out.trans (keeps_all b7)
      obtain ⟨⟨p2, p3⟩, p0, p1⟩ := HCC.out w7 HK7.out
      have hne1 : g7 ≠ w.heap.size := by have := HK3.out.size; have := HB2.out.size; have := HWS1.out; omega
      have hne2 : g7 ≠ W.heap.size := by have := HK3.out.size; have := HW2S.out; omega
      have HC7 : Hid (∀ w', Below w7.heap.size w7 w' → (∃ u, w'.cell? ⟨g7, i * 2, none⟩ = some u) ∧ (∃ u, w'.cell? ⟨g7, i * 2 + 1, none⟩ = some u) ∧ w'.frozen? ⟨g7, i * 2, none⟩ = false ∧ w'.frozen? ⟨g7, i * 2 + 1, none⟩ = false) := by
        intro w' hb
        have hr := row_below HOW7.out hb
        have hl : (rowO T).length = tl * 2 := by rw [rowO_len, HTL.out]
        refine ⟨⟨_, (hr.cellAt (i * 2) (by omega)).trans (List.getElem?_eq_getElem (by omega))⟩, ⟨_, (hr.cellAt (i * 2 + 1) (by omega)).trans (List.getElem?_eq_getElem (by omega))⟩, hr.frozenAt _, hr.frozenAt _⟩
      clear own7 gr7 b7 own7' hg7 hg7'
      have HDR : Hid (Below w7.heap.size w7 w7.drew) := drew_below _ _
      obtain ⟨l8, hl8⟩ : ∃ l8, (overB o.b db).length = l8 := ⟨_, rfl⟩
      have HL8 : Hid ((overB o.b db).length = l8) := hl8
      clear hl8
      have HOY7 : Hid (ByAt w7.drew op ol oc o.b) := (HOY3.out.later HB7.out).later (drew_below _ _)
      have HY7 : Hid (ByAt w7.drew dp dl dc db) := (HY3.out.later HB7.out).later (drew_below _ _)
      have HO1 : Hid (ol ≤ 100000) := by show _ ≤ _; rw [← HOY.out.len]; have := HN3.out; have := HH.out.good.ok.sz; omega
      have HD1 : Hid (dl ≤ 100000) := by show _ ≤ _; have := HDL4.out; omega
      go_upto_region 23 with (fail)
      go_region_held3 (fun w' => w'.cell? ⟨w.heap.size, 2, none⟩ = some (.int .i64 (i : Nat)) ∧ w'.cell? ⟨w.heap.size, 3, none⟩ = some (.slice dp dl dc) ∧ w'.cell? ⟨W.heap.size, 0, none⟩ = some (.int .i64 (n : Nat)) ∧ w'.cell? ⟨W.heap.size, 1, none⟩ = some (.slice op ol oc)) (first | (go_keep; done)) (first | (go_at_call 52; refine (refWriteO_any w7.drew HOY7.out HY7.out HO1.out HD1.out).mono ?_; rintro e w8 ⟨v8, rfl, own8, b8⟩; rw [HL8.out] at own8; obtain ⟨a8, c8, rfl⟩ := row_slice own8; have HB8 : Hid (Below w7.heap.size w7 w8) := HDR.out.trans (b8.mono HDR.out.size); have HOV8 : Hid (w8.ownsRow w7.drew.heap.size 5 1 (.slice a8 l8 c8) l8 (bv (overB o.b db))) := own8; obtain ⟨⟨r2, r3⟩, r0, r1⟩ := HCC.out w8 (HK7.out.trans (keeps_all HB8.out)); obtain ⟨⟨u0, e0⟩, ⟨u1, e1⟩, f0, f1⟩ := HC7.out w8 HB8.out; clear own8 b8))
      all_goals
        have hs1 := (row_below HOW7.out HB8.out).stored (i * 2) (.int .i64 (n : Nat))
        have hs2 := hs1.1.stored (i * 2 + 1) (.slice a8 l8 c8)
        have hk9 := (keeps_set w8 ⟨g7, i * 2, none⟩ (.int .i64 (n : Nat))).trans (keeps_set (w8.setCell ⟨g7, i * 2, none⟩ (.int .i64 (n : Nat))) ⟨g7, i * 2 + 1, none⟩ (.slice a8 l8 c8))
        have hb38 : Below w3.heap.size w3 w8 := HB7.out.trans (HB8.out.mono HB7.out.size)
        have hb39 := (hb38.setCell (p := ⟨g7, i * 2, none⟩) HG7.out.1 (.int .i64 (n : Nat))).setCell (p := ⟨g7, i * 2 + 1, none⟩) HG7.out.1 (.slice a8 l8 c8)
        obtain ⟨w9, hw9⟩ : ∃ w9, (w8.setCell ⟨g7, i * 2, none⟩ (.int .i64 (n : Nat))).setCell ⟨g7, i * 2 + 1, none⟩ (.slice a8 l8 c8) = w9 := ⟨_, rfl⟩
        rw [hw9] at hs2 hk9 hb39 ⊢
        have HB9 : Hid (Below w3.heap.size w3 w9) := hb39
        have HV9 : Hid (w9.ownsRow w7.drew.heap.size 5 1 (.slice a8 l8 c8) l8 (bv (overB o.b db))) := hk9.row HOV8.out fun gg hgg e => by
          have h5 := (HOV8.out.lt gg hgg).1
          have h6 := HG7.out.2
          have h7 := HDR.out.size
          have h8 : gg = g7 := e
          omega
        have HO9 : Hid (ObsAt w9 base (.slice (some ⟨g7, 0, none⟩) tl c7) (T.set i ⟨o.n, a8, l8, c8, overB o.b db⟩)) := by
          refine HO3.out.made HB9.out ?_ (fun x hx => ?_)
          · rw [List.length_set, HTL.out, rowO_set _ _ _ HI.out, HON.out]
            exact rowMono hs2.1 HB3.out
          · rcases List.mem_or_eq_of_mem_set hx with h5 | h5
            · exact .inl h5
            · subst h5
              refine .inr ⟨by_own HV9.out (fun y hy => ?_), fun gg off e _ => ?_⟩
              · rcases List.mem_append.1 hy with h6 | h6
                · exact HY7.out.byte y h6
                · exact HOY7.out.byte y (List.mem_of_mem_drop h6)
              · have e' : a8 = some ⟨gg, off, none⟩ := e
                subst e'
                have h5 := (HV9.out.lt gg rfl).1
                have h6 := HDR.out.size
                have h7 := HB7.out.size
                have h8 := HB3.out
                omega
        have HHW : Hid (HeldZ R3 G L (T.set i ⟨o.n, a8, l8, c8, overB o.b db⟩)) := HH.out.write HTO.out HON.out (by rw [HBY.out.len]; exact HL.out) HW3.out
        have HR9 : Hid (RamAt B E w9 r R3) := HR3.out.below HB9.out
        have HP9 : Hid (PageZ C D w9 q G) := HP3.out.below HB9.out
        have HK9 : Hid (Keeps (Off B E C D) w w9) := HKW3.out.trans (keeps_all HB9.out)
        clear r0 r1 r2 r3 e0 e1 f0 f1 p0 p1 p2 p3
        obtain ⟨⟨p2, p3⟩, p0, p1⟩ := HCC.out w9 (HK3.out.trans (keeps_all HB9.out))
        clear hs1 hs2 hk9 hb38 hb39 hw9
        go_upto_region 24 with (fail)
        go_quiet (fail)
        go_wp2
        go_ret2
        exact ⟨_, _, R3, G, L, rfl, HHW.out, HP9.out.below (drewN_below _ _ _), HR9.out.below (drewN_below _ _ _), HO9.out.below (drewN_below _ _ _), HW3.out.els, ⟨rfl, rfl⟩, HK9.out.trans (keeps_drew _ _ _)⟩
  · by_cases h3 : K = 3
    · have i3 : (K == 3) = true := beq_iff_eq.2 h3
      clear hK h3
      have HL : Hid (jSz G.c < dl) := by show _ < _; omega
      have HSZ := HH.out.good.ok.sz
      generalize hS : jSz G.c = S at hl HSZ ⊢
      have h5 : decide ((dl : Int) ≤ (S : Int)) = false := decide_eq_false (by omega)
      have h6 : decide (dl ≤ S) = false := decide_eq_false hl
      have h7 : ¬ (dl : Int) ≤ (S : Int) := by omega
      clear hS hl
      go_enter Try.func23, Try.ntmps23
      go_wp2_with fail
      refine (writeFar_z HH.out.good.ok HN2.out HL.out W2 HP2.out HR2.out HD.out HBY2.out HAP.out).mono ?_
      rintro e w3 ⟨rfl, ram, ht⟩
      have hk3 : Keeps (fun k => base ≤ k) W2 w3 := (turns_keeps ht).mono fun k _ h => .inr (Nat.le_trans HLO.out.1 h)
      obtain ⟨⟨p2, p3⟩, p0, p1⟩ := HCC.out w3 hk3
      have HR3 : Hid (RamAt B E w3 r R) := ram
      have HP3 : Hid (PageZ C D w3 q G) := HP2.out.turns HD.out ht
      have HO3 : Hid (ObsAt w3 base (.slice (some ⟨g, 0, none⟩) T.length cv) T) := HO2.out.kept hk3 fun _ h => h
      have HK3 : Hid (Keeps (Off B E C D) w w3) := HK2.out.trans (off_turns C D ht)
      clear ram ht hk3
      go_upto_region 24 with (fail)
      go_quiet (fail)
      go_wp2
      go_ret2
      exact ⟨_, T, R, G, L, rfl, HH.out, HP3.out.below (drewN_below _ _ _), HR3.out.below (drewN_below _ _ _), HO3.out.below (drewN_below _ _ _), (RStay.refl R).else _, ⟨rfl, rfl⟩, HK3.out.trans (keeps_drew _ _ _)⟩
    · have i3 : (K == 3) = false := beq_eq_false_iff_ne.2 h3
      have i4 : (K == 4) = true := beq_iff_eq.2 (by omega)
      clear hK h3
      have HL : Hid (jSz G.c < dl) := by show _ < _; omega
      have HSZ := HH.out.good.ok.sz
      generalize hS : jSz G.c = S at hl HSZ ⊢
      have h5 : decide ((dl : Int) ≤ (S : Int)) = false := decide_eq_false (by omega)
      have h6 : decide (dl ≤ S) = false := decide_eq_false hl
      have h7 : ¬ (dl : Int) ≤ (S : Int) := by omega
      clear hS hl
      go_enter Try.func23, Try.ntmps23
      go_wp2_with fail
      refine (writeFar_z HH.out.good.ok HN2.out HL.out W2 HP2.out HR2.out HD.out HBY2.out HAP.out).mono ?_
      rintro e w3 ⟨rfl, ram, ht⟩
      have hk3 : Keeps (fun k => base ≤ k) W2 w3 := (turns_keeps ht).mono fun k _ h => .inr (Nat.le_trans HLO.out.1 h)
      obtain ⟨⟨p2, p3⟩, p0, p1⟩ := HCC.out w3 hk3
      have HR3 : Hid (RamAt B E w3 r R) := ram
      have HP3 : Hid (PageZ C D w3 q G) := HP2.out.turns HD.out ht
      have HO3 : Hid (ObsAt w3 base (.slice (some ⟨g, 0, none⟩) T.length cv) T) := HO2.out.kept hk3 fun _ h => h
      have HK3 : Hid (Keeps (Off B E C D) w w3) := HK2.out.trans (off_turns C D ht)
      clear ram ht hk3
      go_upto_region 24 with (fail)
      go_quiet (fail)
      go_wp2
      go_ret2
      exact ⟨_, T, R, G, L, rfl, HH.out, HP3.out.below (drewN_below _ _ _), HR3.out.below (drewN_below _ _ _), HO3.out.below (drewN_below _ _ _), (RStay.refl R).else _, ⟨rfl, rfl⟩, HK3.out.trans (keeps_drew _ _ _)⟩
end
end Go.Proofs.Ytjgkhckcoknnfaa
/- The walk of the law's own 'step': a deed that reads. -/
namespace Go.Proofs.Ytjgkhckcoknnfaa
open Go.RowKit
section
variable {B E C D r q base : Nat} {R : RS} {G : PG} {L : List Nat} {T : List Ob} {v : Value} {d : Dn} {w w' : World}
set_option maxRecDepth 100000 in
set_option maxHeartbeats 4000000 in
theorem stepRead (h : StepIn B E C D r q base R G L T v d w) (hK : ¬ d.K < 2 ∧ d.K ≠ 2 ∧ d.K ≠ 3 ∧ d.K ≠ 4) (hN : 0 ≤ d.N ∧ d.N < T.length) :
    Calls Try.prog 23 #[.pointer (some ⟨r, 0, none⟩), .pointer (some ⟨q, 0, none⟩), v, .agg #[.bool d.o, .int .i64 d.K, .int .i64 d.N, .slice d.p d.l d.c], .int .i64 (jSz G.c : Nat)] w (StepOut B E C D r q base R G w) := by
  obtain ⟨a, cv, rfl⟩ := row_slice h.obs.own
  obtain ⟨dO, K, N, dp, dl, dc, db⟩ := d
  have hdn := h.ok.n
  have hok := h.ok.by_
  have hfar := h.far
  dsimp only at hK hdn hok hfar ⊢
  obtain ⟨W, hW⟩ : ∃ W, w.alloc (.cells #[.bool dO, .int .i64 K, .int .i64 N, .slice dp dl dc] 51) = W := ⟨_, rfl⟩
  have hbW : Below w.heap.size w W := by rw [← hW]; exact (Below.refl _ w).alloc (Nat.le_refl _) _
  have hxW : W.heap[w.heap.size]? = some (.cells #[.bool dO, .int .i64 K, .int .i64 N, .slice dp dl dc] 51 (0, 0)) := by rw [← hW]; exact heap_alloc_new _ _
  have HX : Hid (W.heap[w.heap.size]? = some (.cells #[.bool dO, .int .i64 K, .int .i64 N, .slice dp dl dc] 51 (0, 0))) := hxW
  obtain ⟨x0, x1, x2, x3⟩ := cells4 hxW
  have HBW : Hid (Below w.heap.size w W) := hbW
  have HH : Hid (HeldZ R G L T) := h.held
  have HP : Hid (PageZ C D W q G) := h.page.below hbW
  have HR : Hid (RamAt B E W r R) := h.ram.below hbW
  have HD : Hid (D ≤ B ∨ E ≤ C) := h.dis
  have HO : Hid (ObsAt W base (.slice a T.length cv) T) := h.obs.below hbW
  have HLO : Hid (E ≤ base ∧ D ≤ base) := h.lo
  have HHI : Hid (base ≤ w.heap.size) := h.hi
  have HBY : Hid (ByAt W dp dl dc db) := hok.later hbW
  have HFAR : Hid (∀ g off, dp = some ⟨g, off, none⟩ → 0 < dl → g < B ∧ g < C) := hfar
  have hsm := h.held.small
  have hHI := h.hi
  have hWS := hbW.size
  have HWS1 : Hid (W.heap.size = w.heap.size + 1) := by show _ = _; rw [← hW]; simp
  clear h hok hfar hbW hxW
  have i1 : ¬ K < 2 := hK.1
  have i2 : (K == 2) = false := beq_eq_false_iff_ne.2 hK.2.1
  have i3 : (K == 3) = false := beq_eq_false_iff_ne.2 hK.2.2.1
  have i4 : (K == 4) = false := beq_eq_false_iff_ne.2 hK.2.2.2
  clear hK
  dsimp only at hN
  obtain ⟨i, rfl, hi⟩ : ∃ i : Nat, N = (i : Nat) ∧ i < T.length := by obtain ⟨k, hk⟩ := Int.eq_ofNat_of_zero_le hN.1; exact ⟨k, hk, by omega⟩
  obtain ⟨o, hto⟩ : ∃ o, T[i]? = some o := ⟨_, List.getElem?_eq_getElem hi⟩
  obtain ⟨g, rfl, hg1, hg2, c0, c1, _⟩ := HO.out.at hto
  obtain ⟨n, hn, hn1, hn2, hn3, hn4⟩ := HH.out.at hto
  have HTO : Hid (T[i]? = some o) := hto
  have HON : Hid (o.n = (n : Nat)) := hn
  have HN1 : Hid (n < G.x.length) := hn1
  have HN2 : Hid (G.x.getD n false = true) := hn2
  have HN3 : Hid (o.b.length ≤ jSz G.c) := hn3
  have HOY : Hid (ByAt W o.p o.l o.c o.b) := HO.out.by_ o (List.mem_of_getElem? hto)
  have HOL : Hid (∀ g off, o.p = some ⟨g, off, none⟩ → 0 < o.l → base ≤ g) := HO.out.low o (List.mem_of_getElem? hto)
  rw [hn] at c0
  generalize hop : o.p = op at c1 HOY HOL
  generalize hol : o.l = ol at c1 HOY HOL
  generalize hoc : o.c = oc at c1 HOY HOL
  have hiI : (i : Int) < (T.length : Int) := by omega
  have hi256 : n < 256 := by have := HH.out.good.ok.many; omega
  have hgW : g < W.heap.size := hg2
  have HGB : Hid (base ≤ g) := hg1
  clear hto hn hn1 hn2 hn3 hn4 hN hop hol hoc hg1 hg2
  obtain ⟨W2, hW2⟩ : ∃ W2, W.alloc (.cells #[.int .i64 (n : Nat), .slice op ol oc] 87) = W2 := ⟨_, rfl⟩
  have hb2 : Below W.heap.size W W2 := by rw [← hW2]; exact (Below.refl _ W).alloc (Nat.le_refl _) _
  have hx2 : W2.heap[W.heap.size]? = some (.cells #[.int .i64 (n : Nat), .slice op ol oc] 87 (0, 0)) := by rw [← hW2]; exact heap_alloc_new _ _
  have hs2 : W2.heap.size = W.heap.size + 1 := by rw [← hW2]; simp
  have hWS1 := HWS1.out
  have HX2 : Hid (W2.heap[W.heap.size]? = some (.cells #[.int .i64 (n : Nat), .slice op ol oc] 87 (0, 0))) := hx2
  have HB2 : Hid (Below W.heap.size W W2) := hb2
  have y0 : W2.cell? ⟨W.heap.size, 0, none⟩ = some (.int .i64 (n : Nat)) := by rw [cell_of_row W2 _ _ _ _ _ hx2]; rfl
  have y1 : W2.cell? ⟨W.heap.size, 1, none⟩ = some (.slice op ol oc) := by rw [cell_of_row W2 _ _ _ _ _ hx2]; rfl
  have hdW : w.heap.size < W.heap.size := by omega
  have HDB : Hid (W2.heap[w.heap.size]? = some (.cells #[.bool dO, .int .i64 K, .int .i64 (i : Nat), .slice dp dl dc] 51 (0, 0))) := (hb2.block _ hdW).trans HX.out
  obtain ⟨z0, z1, z2, z3⟩ := cells4 HDB.out
  have HK2 : Hid (Keeps (Off B E C D) w W2) := keeps_all (HBW.out.trans (hb2.mono hWS))
  have HP2 : Hid (PageZ C D W2 q G) := HP.out.below hb2
  have HR2 : Hid (RamAt B E W2 r R) := HR.out.below hb2
  have HO2 : Hid (ObsAt W2 base (.slice (some ⟨g, 0, none⟩) T.length cv) T) := HO.out.below hb2
  have HBY2 : Hid (ByAt W2 dp dl dc db) := HBY.out.later hb2
  have HOY2 : Hid (ByAt W2 op ol oc o.b) := HOY.out.later hb2
  have HBS : Hid (base ≤ W2.heap.size) := by show _ ≤ _; omega
  have HCC : Hid (∀ w', Keeps (fun k => base ≤ k) W2 w' → (w'.cell? ⟨w.heap.size, 2, none⟩ = some (.int .i64 (i : Nat)) ∧ w'.cell? ⟨w.heap.size, 3, none⟩ = some (.slice dp dl dc)) ∧ w'.cell? ⟨W.heap.size, 0, none⟩ = some (.int .i64 (n : Nat)) ∧ w'.cell? ⟨W.heap.size, 1, none⟩ = some (.slice op ol oc)) := by
    intro w' hk
    obtain ⟨_, _, k2, k3⟩ := cells4 (hk.at HDB.out hHI)
    have h5 := hk.at HX2.out (show base ≤ W.heap.size by omega)
    exact ⟨⟨k2, k3⟩, by rw [cell_of_row w' _ _ _ _ _ h5]; rfl, by rw [cell_of_row w' _ _ _ _ _ h5]; rfl⟩
  have HOFF : Hid (∀ k, base ≤ k → Off B E C D k) := fun k hk => ⟨.inr (Nat.le_trans HLO.out.1 hk), .inr (Nat.le_trans HLO.out.2 hk)⟩
  have HW2S : Hid (W2.heap.size = W.heap.size + 1) := hs2
  clear hb2 hx2 hs2 hWS1 hdW
  clear hsm
  have HDL : dl ≤ maxLen := HBY.out.short
  unfold maxLen at HDL
  by_cases hl : dl ≤ jSz G.c
  · have HL : Hid (dl ≤ jSz G.c) := hl
    have HSZ := HH.out.good.ok.sz
    generalize hS : jSz G.c = S at hl HSZ ⊢
    have h5 : decide ((dl : Int) ≤ (S : Int)) = true := decide_eq_true (by omega)
    have h6 : decide (dl ≤ S) = true := decide_eq_true hl
    have h7 : (dl : Int) ≤ (S : Int) := by omega
    clear hS hl
    go_enter Try.func23, Try.ntmps23
    go_wp2_with fail
    refine (read_z HH.out.good.ok HN1.out HN2.out HL.out W2 HP2.out HR2.out HD.out).mono ?_
    rintro e w3 ⟨v3, R3, rfl, own, ram, st, ht⟩
    obtain ⟨a3, c3, rfl⟩ := row_slice own
    have hk3 : Keeps (fun k => base ≤ k) W2 w3 := (turns_keeps ht).mono fun k _ h => .inr (Nat.le_trans HLO.out.1 h)
    obtain ⟨⟨p2, p3⟩, p0, p1⟩ := HCC.out w3 hk3
    have HR3 : Hid (RamAt B E w3 r R3) := ram
    have HST : Hid (RStay R R3) := st
    have HP3 : Hid (PageZ C D w3 q G) := HP2.out.turns HD.out ht
    have HO3 : Hid (ObsAt w3 base (.slice (some ⟨g, 0, none⟩) T.length cv) T) := HO2.out.kept hk3 fun _ h => h
    have HK3 : Hid (Keeps (Off B E C D) w w3) := HK2.out.trans (off_turns C D ht)
    clear own ram st ht hk3
    go_upto_region 26 with (fail)
    go_quiet (fail)
    go_wp2
    go_ret2
    exact ⟨_, T, R3, G, L, rfl, HH.out.stay HST.out, HP3.out.below (drewN_below _ _ _), HR3.out.below (drewN_below _ _ _), HO3.out.below (drewN_below _ _ _), HST.out.else _, ⟨rfl, rfl⟩, HK3.out.trans (keeps_drew _ _ _)⟩
  · have HL : Hid (jSz G.c < dl) := by show _ < _; omega
    have HSZ := HH.out.good.ok.sz
    generalize hS : jSz G.c = S at hl HSZ ⊢
    have h5 : decide ((dl : Int) ≤ (S : Int)) = false := decide_eq_false (by omega)
    have h6 : decide (dl ≤ S) = false := decide_eq_false hl
    have h7 : ¬ (dl : Int) ≤ (S : Int) := by omega
    clear hS hl
    go_enter Try.func23, Try.ntmps23
    go_wp2_with fail
    refine (readFar_z HH.out.good.ok HN2.out HL.out W2 HP2.out HR2.out HD.out).mono ?_
    rintro e w3 ⟨v3, rfl, own, ram, ht⟩
    obtain ⟨a3, c3, rfl⟩ := row_slice own
    have hk3 : Keeps (fun k => base ≤ k) W2 w3 := (turns_keeps ht).mono fun k _ h => .inr (Nat.le_trans HLO.out.1 h)
    obtain ⟨⟨p2, p3⟩, p0, p1⟩ := HCC.out w3 hk3
    have HR3 : Hid (RamAt B E w3 r R) := ram
    have HP3 : Hid (PageZ C D w3 q G) := HP2.out.turns HD.out ht
    have HO3 : Hid (ObsAt w3 base (.slice (some ⟨g, 0, none⟩) T.length cv) T) := HO2.out.kept hk3 fun _ h => h
    have HK3 : Hid (Keeps (Off B E C D) w w3) := HK2.out.trans (off_turns C D ht)
    clear own ram ht hk3
    go_upto_region 26 with (fail)
    go_quiet (fail)
    go_wp2
    go_ret2
    exact ⟨_, T, R, G, L, rfl, HH.out, HP3.out.below (drewN_below _ _ _), HR3.out.below (drewN_below _ _ _), HO3.out.below (drewN_below _ _ _), (RStay.refl R).else _, ⟨rfl, rfl⟩, HK3.out.trans (keeps_drew _ _ _)⟩
end
end Go.Proofs.Ytjgkhckcoknnfaa
/- The walk of the law's own 'step', whatever the deed; two zspages beside each other. -/
namespace Go.Proofs.Ytjgkhckcoknnfaa
open Go.RowKit
theorem step_any {B E C D r q base : Nat} {R : RS} {G : PG} {L : List Nat} {T : List Ob} {v : Value} {d : Dn} {w : World} {Sz : Int} (h : StepIn B E C D r q base R G L T v d w) (hS : Sz = (jSz G.c : Nat)) :
    Calls Try.prog 23 #[.pointer (some ⟨r, 0, none⟩), .pointer (some ⟨q, 0, none⟩), v, .agg #[.bool d.o, .int .i64 d.K, .int .i64 d.N, .slice d.p d.l d.c], .int .i64 Sz] w (StepOut B E C D r q base R G w) := by
  subst hS
  by_cases h1 : d.K < 2
  · exact stepTake _ h h1
  · by_cases h2 : 0 ≤ d.N ∧ d.N < T.length
    · by_cases h3 : d.K = 2
      · exact stepGive _ h h3 h2
      · by_cases h4 : d.K = 3 ∨ d.K = 4
        · exact stepWrite h h4 h2
        · exact stepRead h ⟨h1, h3, fun e => h4 (.inl e), fun e => h4 (.inr e)⟩ h2
    · exact stepNone _ h h1 h2
theorem GoodP.made {R R' : RS} {G : PG} {L F : List Nat} (h : GoodP R G L) (hm : Made R R' F) : GoodP R' G L := by
  obtain ⟨h1, h2, _⟩ := hm.far _ h.ok.row
  exact ⟨⟨h.ok.cls, h1, h.ok.fl, h.ok.xl⟩, by rw [h2]; exact h.path, h.nd, h.mem⟩

/-- Where two zspages of a RAM lie, their frames and their classes. -/
structure Z2 where
  B : Nat
  E : Nat
  C1 : Nat
  D1 : Nat
  C2 : Nat
  D2 : Nat
  base : Nat
  r : Nat
  q1 : Nat
  q2 : Nat
  F1 : List Nat
  F2 : List Nat
  c1 : Nat
  c2 : Nat
structure Z2.Ok (z : Z2) (W : World) : Prop where
  wb : W.heap.size ≤ z.B
  be : z.B ≤ z.E
  ec : z.E ≤ z.C1
  cd : z.C1 ≤ z.D1
  dc : z.D1 ≤ z.C2
  c2 : z.C2 ≤ z.D2
  db : z.D2 ≤ z.base
  dis : ∀ n ∈ z.F1, n ∉ z.F2
structure Z2.At (z : Z2) (W wr : World) (R : RS) (G1 : PG) (L1 : List Nat) (T1 : List Ob) (v1 : Value) (G2 : PG) (L2 : List Nat) (T2 : List Ob) (v2 : Value) : Prop where
  h1 : HeldZ R G1 L1 T1
  h2 : HeldZ R G2 L2 T2
  p1 : PageZ z.C1 z.D1 wr z.q1 G1
  p2 : PageZ z.C2 z.D2 wr z.q2 G2
  ram : RamAt z.B z.E wr z.r R
  o1 : ObsAt wr z.base v1 T1
  o2 : ObsAt wr z.base v2 T2
  f1 : G1.F = z.F1
  f2 : G2.F = z.F2
  k1 : G1.c = z.c1
  k2 : G2.c = z.c2
  pool : fcnt R.O [3] = z.F1.length + z.F2.length
  bel : Below W.heap.size W wr
  hi : z.base ≤ wr.heap.size
section
variable {z : Z2} {W wr w' : World} {R R' : RS} {G1 G2 : PG} {L1 L2 : List Nat} {T1 T2 : List Ob} {v1 v2 : Value} {d : Dn} {e : Ending}
theorem Z2.At.stay (h : z.At W wr R G1 L1 T1 v1 G2 L2 T2 v2) (ok : z.Ok W) (hr : RamAt z.B z.E w' z.r R') (hs : RStay R R') (ht : Turns z.B z.E wr w') : z.At W w' R' G1 L1 T1 v1 G2 L2 T2 v2 := by
  have e1 := ok.ec
  have e2 := ok.be
  have e3 := ok.cd
  have e4 := ok.dc
  have e5 := ok.c2
  have e6 := ok.db
  have e7 := ok.wb
  have hk := turns_keeps ht
  exact ⟨h.h1.stay hs, h.h2.stay hs, h.p1.turns (.inr e1) ht, h.p2.turns (.inr (by omega)) ht, hr, h.o1.kept hk fun i hi => .inr (by omega), h.o2.kept hk fun i hi => .inr (by omega), h.f1, h.f2, h.k1, h.k2, by rw [hs.O]; exact h.pool,
    h.bel.trans ⟨ht.os, ht.tape, ht.output, ht.size, fun k hk => ht.block k (Nat.lt_of_lt_of_le hk h.bel.size) (.inl (by omega))⟩, Nat.le_trans h.hi ht.size⟩
theorem Z2.At.later (h : z.At W wr R G1 L1 T1 v1 G2 L2 T2 v2) (hb : Below wr.heap.size wr w') : z.At W w' R G1 L1 T1 v1 G2 L2 T2 v2 :=
  ⟨h.h1, h.h2, h.p1.below hb, h.p2.below hb, h.ram.below hb, h.o1.below hb, h.o2.below hb, h.f1, h.f2, h.k1, h.k2, h.pool, h.bel.trans (hb.mono h.bel.size), Nat.le_trans h.hi hb.size⟩
theorem Z2.At.in1 (h : z.At W wr R G1 L1 T1 v1 G2 L2 T2 v2) (ok : z.Ok W) (hd : DnOk W d) : StepIn z.B z.E z.C1 z.D1 z.r z.q1 z.base R G1 L1 T1 v1 d wr := by
  have e1 := ok.ec
  have e2 := ok.be
  have e4 := ok.dc
  have e3 := ok.cd
  have e5 := ok.c2
  have e6 := ok.db
  have e7 := ok.wb
  refine ⟨h.h1, h.p1, h.ram, .inr e1, h.o1, ⟨by omega, by omega⟩, h.hi, hd.below h.bel, fun g off e h0 => ?_⟩
  obtain ⟨g', o', e', hg, _⟩ := hd.by_.at h0
  rw [e] at e'
  cases e'
  omega
theorem Z2.At.in2 (h : z.At W wr R G1 L1 T1 v1 G2 L2 T2 v2) (ok : z.Ok W) (hd : DnOk W d) : StepIn z.B z.E z.C2 z.D2 z.r z.q2 z.base R G2 L2 T2 v2 d wr := by
  have e1 := ok.ec
  have e2 := ok.be
  have e3 := ok.cd
  have e4 := ok.dc
  have e5 := ok.c2
  have e6 := ok.db
  have e7 := ok.wb
  refine ⟨h.h2, h.p2, h.ram, .inr (by omega), h.o2, ⟨by omega, by omega⟩, h.hi, hd.below h.bel, fun g off e h0 => ?_⟩
  obtain ⟨g', o', e', hg, _⟩ := hd.by_.at h0
  rw [e] at e'
  cases e'
  omega
theorem Z2.At.out1 (h : z.At W wr R G1 L1 T1 v1 G2 L2 T2 v2) (ok : z.Ok W) (ho : StepOut z.B z.E z.C1 z.D1 z.r z.q1 z.base R G1 wr e w') : ∃ v' T' R' G' L', e = .returned (.tuple #[v', .bool true]) ∧ z.At W w' R' G' L' T' v' G2 L2 T2 v2 := by
  have e1 := ok.ec
  have e2 := ok.be
  have e3 := ok.cd
  have e4 := ok.dc
  have e5 := ok.c2
  have e6 := ok.db
  have e7 := ok.wb
  obtain ⟨v', T', R', G', L', he, hh, hp, hr, hob, hel, hsm, hk⟩ := ho
  refine ⟨v', T', R', G', L', he, ⟨hh, h.h2.els hel (by rw [h.f1, h.f2]; exact ok.dis), hp, h.p2.kept hk.size fun i h1 h2 => hk.block i (Nat.lt_of_lt_of_le h2 h.p2.hi.1) ⟨.inr (by omega), .inr (by omega)⟩, hr, hob,
    h.o2.kept hk fun i hi => ⟨.inr (by omega), .inr (by omega)⟩, hsm.F.trans h.f1, h.f2, hsm.c.trans h.k1, h.k2, by rw [hel.O]; exact h.pool,
    h.bel.trans (off_below hk (by omega) (by omega) h.bel.size), Nat.le_trans h.hi hk.size⟩⟩
theorem Z2.At.out2 (h : z.At W wr R G1 L1 T1 v1 G2 L2 T2 v2) (ok : z.Ok W) (ho : StepOut z.B z.E z.C2 z.D2 z.r z.q2 z.base R G2 wr e w') : ∃ v' T' R' G' L', e = .returned (.tuple #[v', .bool true]) ∧ z.At W w' R' G1 L1 T1 v1 G' L' T' v' := by
  have e1 := ok.ec
  have e2 := ok.be
  have e3 := ok.cd
  have e4 := ok.dc
  have e5 := ok.c2
  have e6 := ok.db
  have e7 := ok.wb
  obtain ⟨v', T', R', G', L', he, hh, hp, hr, hob, hel, hsm, hk⟩ := ho
  refine ⟨v', T', R', G', L', he, ⟨h.h1.els hel (by rw [h.f1, h.f2]; exact fun n h1 h2 => ok.dis n h2 h1), hh, h.p1.kept hk.size fun i h1 h2 => hk.block i (Nat.lt_of_lt_of_le h2 h.p1.hi.1) ⟨.inr (by omega), .inl (by omega)⟩, hp, hr,
    h.o1.kept hk fun i hi => ⟨.inr (by omega), .inr (by omega)⟩, hob, h.f1, hsm.F.trans h.f2, h.k1, hsm.c.trans h.k2, by rw [hel.O]; exact h.pool,
    h.bel.trans (off_below hk (by omega) (by omega) h.bel.size), Nat.le_trans h.hi hk.size⟩⟩
end
end Go.Proofs.Ytjgkhckcoknnfaa
/- Opening an array of integers that was handed in by value: general. -/
namespace Go.Proofs.Ytjgkhckcoknnfaa
open Go.ChangeShapes Go.WideShapes Go.ChangeAt Go.RowKit
variable {H : Type} {enc : TypeId × Value → H} {P : Program} {w : World} {base : Nat}

theorem trodElems {t e : TypeId} {n fuel : Nat} {cs : List Value} {x : DataW H × List MemPlace} {k : IntKind} (ht : P.underlying t = some (.array n e)) (he : P.underlying e = some (.int k)) (hce : P.cellsOf e = 1) (hct : P.cellsOf t = n)
    (h : DataW.trod enc P w 0 (fun _ => true) true fuel t cs = some x) : ∃ zs : List Int, cs = zs.map (Value.int k) ∧ zs.length = n ∧ ∀ z ∈ zs, (Lit.int k z).wf = true := by
  obtain ⟨xs, m, _, _, hl, hxl, hel⟩ := DataW.trod_array ht h
  rw [hct] at hl
  have hel' : ∀ i, (hi : i < cs.length) → ∃ z : Int, cs[i] = .int k z ∧ (Lit.int k z).wf = true := by
    intro i hi
    have h1 := hel i (by omega)
    rw [hce, Nat.mul_one, List.getElem?_eq_getElem (by omega)] at h1
    have h2 : (cs.drop i).take 1 = [cs[i]] := by rw [List.drop_eq_getElem_cons hi]; rfl
    rw [h2] at h1
    obtain ⟨z, e0, _, wz⟩ := DataW.trod_int he h1
    simp at e0
    exact ⟨z, e0, wz⟩
  refine ⟨cs.map intOf, ?_, by simp [hl], ?_⟩
  · apply List.ext_getElem
    · simp
    · intro i h1 h2
      obtain ⟨z, e1, _⟩ := hel' i h1
      simp [e1, intOf]
  · intro z hz
    obtain ⟨c, hc, rfl⟩ := List.mem_map.1 hz
    obtain ⟨i, hi, rfl⟩ := List.getElem_of_mem hc
    obtain ⟨z, e1, wz⟩ := hel' i hi
    rw [e1]
    exact wz

/-- An array of integers, by value. -/
theorem openArr {t e : TypeId} {n : Nat} {k : IntKind} {v : Value} {d : DataW H} {p : List MemPlace} (ht : P.underlying t = some (.array n e)) (he : P.underlying e = some (.int k)) (hce : P.cellsOf e = 1) (hct : P.cellsOf t = n)
    (o : Value.okWide P w .any base t v) (h : DataW.Trod enc P w 0 (fun _ => true) true t v d p) : ∃ zs : List Int, v = .agg (zs.map (Value.int k)).toArray ∧ zs.length = n ∧ ∀ z ∈ zs, (Lit.int k z).wf = true := by
  obtain ⟨cs, rfl, _, _⟩ : ∃ cs, v = .agg cs ∧ cs.size = P.cellsOf t ∧ Row.okWide P w .any base t cs := by
    simpa [Value.okWide, ht] using o
  obtain ⟨fuel, hf⟩ := h
  obtain ⟨zs, h1, h2, h3⟩ := trodElems ht he hce hct hf
  refine ⟨zs, ?_, h2, h3⟩
  simp only [Value.cells] at h1
  rw [← h1]
theorem openArr2 {t e : TypeId} {k : IntKind} {v : Value} {d : DataW H} {p : List MemPlace} (ht : P.underlying t = some (.array 2 e)) (he : P.underlying e = some (.int k)) (hce : P.cellsOf e = 1) (hct : P.cellsOf t = 2)
    (o : Value.okWide P w .any base t v) (h : DataW.Trod enc P w 0 (fun _ => true) true t v d p) : ∃ a b : Int, v = .agg #[.int k a, .int k b] ∧ (Lit.int k a).wf = true ∧ (Lit.int k b).wf = true := by
  obtain ⟨zs, rfl, h2, h3⟩ := openArr ht he hce hct o h
  match zs, h2 with
  | [a, b], _ => exact ⟨a, b, rfl, h3 a (by simp), h3 b (by simp)⟩
theorem openArr3 {t e : TypeId} {k : IntKind} {v : Value} {d : DataW H} {p : List MemPlace} (ht : P.underlying t = some (.array 3 e)) (he : P.underlying e = some (.int k)) (hce : P.cellsOf e = 1) (hct : P.cellsOf t = 3)
    (o : Value.okWide P w .any base t v) (h : DataW.Trod enc P w 0 (fun _ => true) true t v d p) : ∃ a b c : Int, v = .agg #[.int k a, .int k b, .int k c] ∧ (Lit.int k a).wf = true ∧ (Lit.int k b).wf = true ∧ (Lit.int k c).wf = true := by
  obtain ⟨zs, rfl, h2, h3⟩ := openArr ht he hce hct o h
  match zs, h2 with
  | [a, b, c], _ => exact ⟨a, b, c, rfl, h3 a (by simp), h3 b (by simp), h3 c (by simp)⟩
end Go.Proofs.Ytjgkhckcoknnfaa
