/- The walks of Page and Look. -/
import Derived.Test.YtacggabopdoijaaSPut
import Derived.Deep.RegionLaw
namespace Go.Proofs.Ytacggabopdoijaa
open Go.RowKit

theorem step_append_fits {P : Program} {ops : Array Oper} {o : Oper} {a : Act} {w : World} {K : Act → World → Prop} {Q : Exit → Act → World → Prop} {E : Prop}
    (hg : o.guard = none) (s x : Operand) (t : TypeId) (hop : o.op = Op.call { callee := Callee.builtin Builtin.append, args := #[s, x], argTypes := #[t, t] })
    (base : Nat) (e : TypeId) (i : TypeInfo) (size : Nat) (h1 : P.underlying t = some (.slice e)) (h2 : P.info? e = some i) (h4 : i.size = size)
    (g k cap : Nat) (xs : List Value) (hs : a.eval s = .slice (some ⟨g, 0, none⟩) k cap) (hown : w.ownsRow base e size (.slice (some ⟨g, 0, none⟩) k cap) k xs) (ad : Addr) (m c : Nat) (news : List Value) (hx : a.eval x = .slice (some ad) m c) (hn : news.length = m * size)
    (hc : ∀ j u, news[j]? = some u → w.cell? (ad.add j) = some u) (h1c : ∀ u ∈ news, u.oneCell' = true) (b1 : k + m ≤ cap)
    (hK : ∀ w', w'.ownsRow base e size (.slice (some ⟨g, 0, none⟩) (k + m) cap) (k + m) (xs ++ news) → w.grownBy w' (some g) → K (a.put o.dst (.slice (some ⟨g, 0, none⟩) (k + m) cap)) w') :
    if Region.wanted o (yielded ops a.tmps) = true then Oper.wp P o a w K Q else E := by
  have hw : Region.wanted o (yielded ops a.tmps) = true := by simp [Region.wanted, hg]
  rw [if_pos hw]
  obtain ⟨w', hrun, r1, r2⟩ := run_append_fits (P := P) w base t o.type e i size h1 h2 h4 g k cap xs hown ad m c news hn hc h1c b1
  unfold Oper.wp
  simp [execOp, hop, resolve, invoke, builtin, hs, hx, hrun, Result.andThen]
  exact hK w' r1 r2
theorem Turns.grownNew {B E g : Nat} {a w w' : World} (h : Turns B E a w) (hg : w.grownBy w' (some g)) (hn : a.heap.size ≤ g) : Turns B E a w' :=
  ⟨hg.os.trans h.os, hg.tape.trans h.tape, hg.output.trans h.output, Nat.le_trans h.size hg.size, fun k hk hk2 => (hg.block k (Nat.lt_of_lt_of_le hk h.size) (fun e => by simp at e; omega)).trans (h.block k hk hk2)⟩
theorem seg_append (P : List Nat) (o a b : Nat) : seg P o a ++ seg P (o + a) b = seg P o (a + b) := by
  unfold seg
  rw [List.take_add, List.drop_drop]
theorem bv_append (a b : List Nat) : bv (a ++ b) = bv a ++ bv b := by simp [bv]
theorem row_src {w : World} {base n : Nat} {e : TypeId} {v : Value} {xs : List Value} (h : w.ownsRow base e 1 v n xs) (hn : n ≠ 0) : ∃ g c, v = .slice (some ⟨g, 0, none⟩) n c ∧ base ≤ g ∧ g < w.heap.size ∧ xs.length = n * 1 ∧ ∀ j u, xs[j]? = some u → w.cell? ((⟨g, 0, none⟩ : Addr).add j) = some u := by
  have hl := h.1
  rcases h.2 with ⟨_, h2⟩ | ⟨g, cap, cur, h1, h2, h3, _⟩
  · exact absurd h2 hn
  · refine ⟨g, cap, h1, h2, (Array.getElem?_eq_some_iff.1 h3).1, hl, fun j u hj => ?_⟩
    subst h1
    have hj2 : j < n * 1 := by rw [← hl]; exact (List.getElem?_eq_some_iff.1 hj).1
    rw [add_lit', Nat.zero_add, h.cellAt j hj2]
    exact hj

/-- What Page is answered, and how many were asked for then. -/
def pgE (x zs : List Bool) (k : Nat) (n : Int) : Nat := if hasB x n then (if askB zs k then 12 else 0) else 6
def pgK (x zs : List Bool) (k : Nat) (n : Int) : Nat := if hasB x n then k + askN zs k else k
def pgB (x zs : List Bool) (k : Nat) (pg : Nat → List Nat) (n : Int) : List Nat := if pgE x zs k n = 0 then pg n.toNat else []
/-- What Look tells. -/
def lkB (x : List Bool) (pg : Nat → List Nat) (n : Int) : List Nat := if hasB x n then pg n.toNat else []
theorem pgK_le (x zs : List Bool) (k : Nat) (n : Int) : pgK x zs k n ≤ k + 8 := by
  have := askN_le zs k
  unfold pgK
  split <;> omega
section
variable {x zs : List Bool} {k : Nat} {pg : Nat → List Nat} {n : Int}
theorem pg_none (h : hasB x n = false) : pgE x zs k n = 6 ∧ pgK x zs k n = k ∧ pgB x zs k pg n = [] := by
  have e : pgE x zs k n = 6 := by rw [pgE, h]; rfl
  exact ⟨e, by rw [pgK, h]; rfl, by rw [pgB, e]; rfl⟩
theorem pg_bad (h : hasB x n = true) (hb : askB zs k = true) : pgE x zs k n = 12 ∧ pgK x zs k n = k + askN zs k ∧ pgB x zs k pg n = [] := by
  have e : pgE x zs k n = 12 := by rw [pgE, h, hb]; rfl
  exact ⟨e, by rw [pgK, h]; rfl, by rw [pgB, e]; rfl⟩
theorem pg_fine (h : hasB x n = true) (hb : askB zs k = false) : pgE x zs k n = 0 ∧ pgK x zs k n = k + 8 ∧ pgB x zs k pg n = pg n.toNat := by
  have e : pgE x zs k n = 0 := by rw [pgE, h, hb]; rfl
  exact ⟨e, by rw [pgK, h, (ask_fine (ask_all hb)).2]; rfl, by rw [pgB, e]; rfl⟩
end

theorem sPage_none {M : Nat} {v p : Option Addr} {q : Option Nat} {x : List Bool} (n : Int) (w : World) (hu : UseP w v p) (h : SetP M w p q x) (hf : hasB x n = false) :
    Calls Try.prog 8 #[.pointer v, .int .i64 n] w fun e w' => e = .returned (.tuple #[.slice none 0 0, .int .i64 6]) ∧ ∃ m, w' = w.drewN m := by
  have HF : Hid (hasB x n = false) := hf
  clear hf
  go_enter Try.func8, Try.ntmps8
  go_wp2_with fail
  refine (sIn_is n _ hu h HF.out).mono ?_
  rintro e w' ⟨rfl, m, rfl⟩
  go_wp2
  go_ret2
  exact ⟨rfl, m, rfl⟩
theorem sLook_none {M : Nat} {v p : Option Addr} {q : Option Nat} {x : List Bool} (n : Int) (w : World) (hu : UseP w v p) (h : SetP M w p q x) (hf : hasB x n = false) :
    Calls Try.prog 9 #[.pointer v, .int .i64 n] w fun e w' => e = .returned (.tuple #[.slice none 0 0, .bool false]) ∧ ∃ m, w' = w.drewN m := by
  have HF : Hid (hasB x n = false) := hf
  clear hf
  go_enter Try.func9, Try.ntmps9
  go_wp2_with fail
  refine (sIn_is n _ hu h HF.out).mono ?_
  rintro e w' ⟨rfl, m, rfl⟩
  go_wp2
  go_ret2
  exact ⟨rfl, m, rfl⟩

/-- A page under way: i sectors were read. -/
structure Pags (B M : Nat) (w wr : World) (d m n i : Nat) (zs : List Bool) (k : Nat) (P : List Nat) (g : Nat) : Prop where
  disk : DiskAt B M wr d (m * 8) zs k P
  turn : Turns B M w wr
  row : wr.ownsRow w.heap.size 5 1 (.slice (some ⟨g, 0, none⟩) (i * 512) 4096) (i * 512) (bv (seg P (n * 4096) (i * 512)))
  lo : w.heap.size ≤ g
  ms : M ≤ w.heap.size
theorem Pags.next {B M : Nat} {w wr w2 w3 : World} {d m n i : Nat} {zs : List Bool} {k k' : Nat} {P : List Nat} {g : Nat} (h : Pags B M w wr d m n i zs k P g) (h2 : DiskAt B M w2 d (m * 8) zs k' P) (t2 : Turns B M wr w2)
    (h3 : w3.ownsRow w.heap.size 5 1 (.slice (some ⟨g, 0, none⟩) (i * 512 + 512) 4096) (i * 512 + 512) (bv (seg P (n * 4096) (i * 512)) ++ bv (seg P ((n * 8 + i) * 512) 512))) (g3 : w2.grownBy w3 (some g)) :
    Pags B M w w3 d m n (i + 1) zs k' P g := by
  have lo := h.lo
  have ms := h.ms
  have hh := h2.hi
  refine ⟨h2.kept g3.size (fun j _ hj => g3.block j (by omega) (fun e => by simp at e; omega)), (h.turn.trans t2).grownNew g3 lo, ?_, lo, ms⟩
  rw [show (i + 1) * 512 = i * 512 + 512 by omega, ← seg_append, bv_append, show n * 4096 + i * 512 = (n * 8 + i) * 512 by omega]
  exact h3

set_option maxRecDepth 100000 in
set_option maxHeartbeats 1000000 in
theorem sPage_any {B E r m k n : Nat} {zs : List Bool} {x : List Bool} {pg : Nat → List Nat} (w : World) (h : SlotsAt B E w r m zs k x pg) (hk : k < 900000000) (hf : hasB x (n : Int) = true) :
    Calls Try.prog 8 #[.pointer (some ⟨r, 0, none⟩), .int .i64 (n : Int)] w fun e w' => ∃ v, e = .returned (.tuple #[v, .int .i64 (pgE x zs k n : Nat)]) ∧
      w'.ownsRow w.heap.size 5 1 v (pgB x zs k pg n).length (bv (pgB x zs k pg n)) ∧ SlotsAt B E w' r m zs (pgK x zs k n) x pg ∧ Turns B E w w' := by
  have hlen := (h.byte hf).1
  obtain ⟨M, d, sb, g, P, h, hq⟩ := h
  have hm := h.small
  have hx := h.len
  have hnm : n < m := by
    have := mayB_of_has hf
    simp only [mayB, decide_eq_true_eq] at this
    omega
  have hn128 : n ≤ 128 := by omega
  have H : Hid (SlotsIn B M E w r d sb g m zs k P x) := h
  have HF : Hid (hasB x (n : Int) = true) := hf
  have HQ : Hid (∀ n, n < m → x.getD n false = true → seg P (n * 4096) 4096 = pg n) := hq
  have HPN : Hid (seg P (n * 4096) 4096 = pg n) := hq n hnm (by rw [← hasB_nat]; exact hf)
  have HLN : Hid ((pg n).length = 4096) := hlen
  obtain ⟨i0, hi, hz0, hz1, hz2⟩ := info_parts Try.info5
  clear h hf hq hx hlen
  go_enter Try.func8, Try.ntmps8
  go_wp2_with fail
  refine (sIn_is (n : Int) _ H.out.use H.out.setP HF.out).mono ?_
  rintro e w' ⟨rfl, dm, rfl⟩
  have HS0 : Hid (w.heap.size = (w.drewN dm).heap.size) := by show _ = _; rw [heap_drewN]
  have HD0 : Hid (DiskAt B M (w.drewN dm) d (m * 8) zs k P) := H.out.disk.drewN dm
  have HT0 : Hid (Turns B M w (w.drewN dm)) := Turns.of_below (drewN_below _ _ _)
  have HM : Hid (M ≤ w.heap.size) := H.out.bm.2
  generalize w.drewN dm = w0 at *
  go_wp2_with (at_make; refine wpList_make_own _ rfl _ _ 28 rfl w.heap.size 5 i0 (.int .u8 0) 1 Try.underlying28 hi hz0 hz1 .i64 .i64 _ 4096 rfl rfl rfl (by rw [hz2]; omega) (by unfold maxLen; omega) (by rw [HS0.out]; exact Nat.le_refl _) ?_)
  intro w1 hown hgr
  obtain ⟨gp, hgp⟩ : ∃ gp, w0.heap.size = gp := ⟨_, rfl⟩
  rw [hgp] at hown
  rw [hgp]
  have H1 : Hid (Pags B M w w1 d m n 0 zs (k + 0) P gp) := by
    have hlo : w.heap.size ≤ gp := by have := HS0.out; omega
    refine ⟨HD0.out.kept hgr.size (fun i _ hi => hgr.block i (by have := HD0.out.hi; omega) (fun e => by cases e)), ?_, by simpa [seg, bv] using hown, hlo, HM.out⟩
    exact ⟨hgr.os.trans HT0.out.os, hgr.tape.trans HT0.out.tape, hgr.output.trans HT0.out.output, Nat.le_trans HT0.out.size hgr.size, fun i hi hi2 => (hgr.block i (by have := HS0.out; omega) (fun e => by cases e)).trans (HT0.out.block i hi hi2)⟩
  clear hown hgr hgp HS0 HD0 HT0
  go_wp2_with fail
  go_loopg [6, 7, 8, 9, 15] 8 (fun gk pv _ _ _ i wr => ∃ (j : Nat), j ≤ 8 ∧ gk = 8 - j ∧ i = .int .i64 j ∧ pv = .slice (some ⟨gp, 0, none⟩) (j * 512) 4096 ∧ Pags B M w wr d m n j zs (k + j) P gp ∧ ∀ i, i < j → fa zs (k + i) = false)
  case atStart => exact ⟨0, by omega, rfl, rfl, rfl, H1.out, fun i hi => by omega⟩
  case round =>
    obtain ⟨j, hj, rfl, rfl, rfl, hH, hfin⟩ := hrel
    have Hh : Hid (Pags B M w wr d m n j zs (k + j) P gp) := hH
    have HFI : Hid (∀ i, i < j → fa zs (k + i) = false) := hfin
    clear hH H1 hfin
    by_cases hlt : j < 8
    · have i1 : (j : Int) < 8 := by omega
      have c0 := (H.out.disked Hh.out.disk Hh.out.turn).c0
      have hsec : n * 8 + j < m * 8 := by omega
      have HDR : Hid (DiskAt B M wr.drew d (m * 8) zs (k + j) P) := Hh.out.disk.drewN 1
      cases hfa : fa zs (k + j) with
      | true =>
        have HAC : Hid (acE (m * 8) zs (k + j) ((n * 8 + j : Nat) : Int) 512 = 12) := (ac_fail (g := 0) (inD_nat hsec) hfa).1
        have HA : Hid (askB zs k = true ∧ askN zs k = j + 1) := ask_fail hlt HFI.out hfa
        have HAK : Hid (acK (m * 8) (k + j) ((n * 8 + j : Nat) : Int) 512 = k + (j + 1)) := (ac_fail (g := 0) (inD_nat hsec) hfa).2.1
        clear hfa
        go_wp2_with fail
        go_region_with (first | (go_at_call 25; refine (sector_any n j _ hn128 (by omega)).mono ?_; rintro e w' ⟨rfl, rfl⟩) | (go_at_call 27; refine (dRead_is ((n * 8 + j : Nat) : Int) _ HDR.out (by omega) HAC.out).mono ?_; rintro e w2 ⟨v2, rfl, own2, h2, t2⟩))
        all_goals
          rw [HAK.out] at h2
          have T2 : Hid (Turns B M w w2) := Hh.out.turn.trans ((Turns.of_below (drew_below _ _)).trans t2)
          have H2 : Hid (SlotsIn B M E w2 r d sb g m zs (k + (j + 1)) P x) := H.out.disked h2 T2.out
          clear h2 t2 own2
          go_wp2
          go_ret2
          obtain ⟨a1, a2⟩ := HA.out
          obtain ⟨b1, b2, b3⟩ := pg_bad (pg := pg) HF.out a1
          rw [b1, b2, b3, a2]
          exact ⟨_, rfl, World.ownsRow_nil _ _ _ _, ⟨M, d, sb, g, P, H2.out, HQ.out⟩, H2.out.turnsD T2.out⟩
      | false =>
        have HAC : Hid (acE (m * 8) zs (k + j) ((n * 8 + j : Nat) : Int) 512 = 0) := (ac_fine (g := 0) hsec hfa).1
        have HAK : Hid (acK (m * 8) (k + j) ((n * 8 + j : Nat) : Int) 512 = k + (j + 1)) := (ac_fine (g := 0) (zs := zs) hsec hfa).2.1
        have HRD : Hid (rdD (m * 8) zs (k + j) P ((n * 8 + j : Nat) : Int) = seg P ((n * 8 + j) * 512) 512) := by
          show _ = _
          rw [rdD, HAC.out, if_pos rfl, Int.toNat_natCast]
        have HSL : Hid ((seg P ((n * 8 + j) * 512) 512).length = 512) := length_seg (by have := H.out.disk.len; omega)
        have HFA : Hid (fa zs (k + j) = false) := hfa
        clear hfa
        go_wp2_with fail
        go_region_with (first | (go_at_call 25; refine (sector_any n j _ hn128 (by omega)).mono ?_; rintro e w' ⟨rfl, rfl⟩) | (go_at_call 27; refine (dRead_is ((n * 8 + j : Nat) : Int) _ HDR.out (by omega) HAC.out).mono ?_; rintro e w2 ⟨v2, rfl, own2, h2, t2⟩))
        all_goals
          rw [HAK.out] at h2
          rw [HRD.out, HSL.out] at own2
          obtain ⟨g2, c2, rfl, g21, g22, l2, hc2⟩ := row_src own2 (by omega)
          have T2 : Hid (Turns B M wr w2) := (Turns.of_below (drew_below _ _)).trans t2
          have H2 : Hid (DiskAt B M w2 d (m * 8) zs (k + (j + 1)) P) := h2
          have HR2 : Hid (w2.ownsRow w.heap.size 5 1 (.slice (some ⟨gp, 0, none⟩) (j * 512) 4096) (j * 512) (bv (seg P (n * 4096) (j * 512)))) := T2.out.row Hh.out.row HM.out
          have HL2 : Hid ((bv (seg P ((n * 8 + j) * 512) 512)).length = 512 * 1) := l2
          have HC2 : Hid (∀ i u, (bv (seg P ((n * 8 + j) * 512) 512))[i]? = some u → w2.cell? ((⟨g2, 0, none⟩ : Addr).add i) = some u) := hc2
          clear h2 t2 own2 g21 g22 l2 hc2
          go_wp2_with (at_builtin; refine wpList_append_fits _ rfl _ _ 28 rfl w.heap.size 5 i0 1 Try.underlying28 hi hz1 gp (j * 512) 4096 (bv (seg P (n * 4096) (j * 512))) rfl HR2.out ⟨g2, 0, none⟩ 512 c2 (bv (seg P ((n * 8 + j) * 512) 512)) rfl HL2.out HC2.out (bv_one _) (by omega) ?_)
          intro w3 own3 g3
          have H3 : Hid (Pags B M w w3 d m n (j + 1) zs (k + (j + 1)) P gp) := Hh.out.next H2.out T2.out own3 g3
          clear own3 g3
          go_wp2
          go_roundg (8 - (j + 1))
          case measure => omega
          case rel =>
            refine ⟨j + 1, by omega, rfl, by go_num, by rw [show (j + 1) * 512 = j * 512 + 512 by omega], H3.out, fun i hi => ?_⟩
            by_cases e : i = j
            · subst e; exact HFA.out
            · exact HFI.out i (by omega)
    · have e : j = 8 := by omega
      subst e
      have HA : Hid (askB zs k = false) := (ask_fine HFI.out).1
      have H2 : Hid (SlotsIn B M E wr r d sb g m zs (k + 8) P x) := H.out.disked Hh.out.disk Hh.out.turn
      go_wp2
      go_ret2
      obtain ⟨b1, b2, b3⟩ := pg_fine (pg := pg) HF.out HA.out
      rw [b1, b2, b3, Int.toNat_natCast, HLN.out, ← HPN.out]
      exact ⟨_, rfl, Hh.out.row, ⟨M, d, sb, g, P, H2.out, HQ.out⟩, H2.out.turnsD Hh.out.turn⟩
end Go.Proofs.Ytacggabopdoijaa
