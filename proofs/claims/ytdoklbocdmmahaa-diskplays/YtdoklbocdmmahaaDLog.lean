/- The document's own log of what was written on a disk: plain facts, how it lies in memory, and the walk of the document's Peek. -/
import Derived.Test.YtdoklbocdmmahaaDOps
import Derived.Test.YtdoklbocdmmahaaGRes
import Derived.Test.YtdoklbocdmmahaaLRef
import Derived.Deep.DeepCutAuto
namespace Go.Proofs.Ytdoklbocdmmahaa
open Go.RowKit

/-- What was written: sector, the slice that holds it, its bytes. -/
structure Wt where
  n : Int
  v : Value
  b : List Nat
/-- The bytes of sector n, by the log. -/
def rp (L : List Wt) (n : Int) : List Nat := L.foldl (fun acc t => if t.n = n then t.b else acc) (List.replicate 512 0)
theorem rp_nil (n : Int) : rp [] n = List.replicate 512 0 := rfl
theorem rp_snoc (L : List Wt) (t : Wt) (n : Int) : rp (L ++ [t]) n = if t.n = n then t.b else rp L n := by unfold rp; rw [List.foldl_append]; rfl
/-- The disk is as the log says. -/
def AsLog (m : Nat) (P : List Nat) (L : List Wt) : Prop := ∀ n : Nat, n < m → seg P (n * 512) 512 = rp L (n : Int)
theorem AsLog.start (m : Nat) : AsLog m (List.replicate (m * 512) 0) [] := fun n hn => by rw [rp_nil]; exact seg_rep (sec_le hn)
theorem AsLog.write {m i : Nat} {P b : List Nat} {L : List Wt} {v : Value} (h : AsLog m P L) (hl : P.length = m * 512) (hi : i < m) (hb : b.length = 512) : AsLog m (putAt P (i * 512) b) (L ++ [⟨(i : Int), v, b⟩]) := by
  intro n hn
  have h1 := sec_le hi
  have h2 := sec_le hn
  rw [rp_snoc]
  by_cases e : n = i
  · subst e
    rw [if_pos rfl]
    have f1 : n * 512 + b.length ≤ P.length := by rw [hl, hb]; exact h1
    have := seg_putAt f1
    rw [hb] at this
    exact this
  · rw [if_neg (by show ¬ (i : Int) = (n : Int); omega), ← h n hn]
    have f1 : i * 512 + b.length ≤ P.length := by rw [hl, hb]; exact h1
    have f2 : n * 512 + 512 ≤ P.length := by rw [hl]; exact h2
    refine seg_putAt_other f1 f2 ?_
    rw [hb]
    rcases Nat.lt_or_gt_of_ne e with h4 | h4
    · have := sec_le h4; left; omega
    · have := sec_le h4; right; omega
/-- What the document's Peek answers. -/
def pkL (m : Nat) (L : List Wt) (n : Int) : List Nat := if inD m n then rp L n else []
theorem AsLog.peek {m : Nat} {P : List Nat} {L : List Wt} (h : AsLog m P L) (n : Int) : pkL m L n = pkD m P n := by
  unfold pkL pkD
  cases hin : inD m n with
  | false => rfl
  | true =>
    obtain ⟨i, rfl, hi⟩ := inD_yes hin
    rw [if_pos rfl, if_pos rfl, Int.toNat_natCast, h i hi]
/-- What the document's Read answers. -/
def rdL (m : Nat) (zs : List Bool) (k : Nat) (L : List Wt) (n : Int) : List Nat := if acE m zs k n 512 = 0 then rp L n else []
theorem AsLog.read {m k : Nat} {zs : List Bool} {P : List Nat} {L : List Wt} (h : AsLog m P L) (n : Int) : rdL m zs k L n = rdD m zs k P n := by
  unfold rdL rdD
  by_cases h0 : acE m zs k n 512 = 0
  · rw [if_pos h0, if_pos h0]
    obtain ⟨i, rfl, hi⟩ := inD_yes (ac_ok h0).1
    rw [Int.toNat_natCast, h i hi]
  · rw [if_neg h0, if_neg h0]

/-- The cells of a log. -/
def wc (L : List Wt) : List Value := L.flatMap fun t => [.int .i64 t.n, t.v]
theorem wc_len : ∀ L : List Wt, (wc L).length = L.length * 2
  | [] => rfl
  | t :: L => by
    have := wc_len L
    simp only [wc, List.flatMap_cons, List.length_append, List.length_cons, List.length_nil] at this ⊢
    omega
theorem wc_snoc (L : List Wt) (t : Wt) : wc (L ++ [t]) = wc L ++ [.int .i64 t.n, t.v] := by simp [wc]
theorem wc_at : ∀ (L : List Wt) (i : Nat) (hi : i < L.length), (wc L)[i * 2]? = some (.int .i64 L[i].n) ∧ (wc L)[i * 2 + 1]? = some L[i].v
  | t :: L, 0, _ => by simp [wc]
  | t :: L, i + 1, hi => by
    have h := wc_at L i (by simpa using hi)
    have e : wc (t :: L) = [.int .i64 t.n, t.v] ++ wc L := by simp [wc]
    rw [e]
    refine ⟨?_, ?_⟩
    · rw [List.getElem?_append_right (by simp; omega)]
      have : (i + 1) * 2 - 2 = i * 2 := by omega
      simpa [this] using h.1
    · rw [List.getElem?_append_right (by simp; omega)]
      have : (i + 1) * 2 + 1 - 2 = i * 2 + 1 := by omega
      simpa [this] using h.2
/-- A log in memory. -/
structure LogAt (C : Nat) (w : World) (vL : Value) (L : List Wt) : Prop where
  row : w.ownsRow C 65 2 vL L.length (wc L)
  each : ∀ t ∈ L, w.ownsRow C 5 1 t.v 512 (bv t.b) ∧ t.b.length = 512
section
variable {B E C : Nat} {w w' : World} {vL : Value} {L : List Wt}
theorem LogAt.nil (C : Nat) (w : World) : LogAt C w (.slice none 0 0) [] := ⟨World.ownsRow_nil _ _ _ _, by simp⟩
theorem LogAt.below (h : LogAt C w vL L) (hb : Below w.heap.size w w') : LogAt C w' vL L := ⟨row_below h.row hb, fun t ht => ⟨row_below (h.each t ht).1 hb, (h.each t ht).2⟩⟩
theorem LogAt.turns (h : LogAt C w vL L) (hb : Turns B E w w') (hC : E ≤ C) : LogAt C w' vL L := ⟨hb.row h.row hC, fun t ht => ⟨hb.row (h.each t ht).1 hC, (h.each t ht).2⟩⟩
theorem LogAt.tag {rb : Nat} {cs : Array Value} {fr : Nat × Nat} (h : LogAt C w vL L) (hx : w.heap[rb]? = some (.cells cs 39 fr)) (hk : ∀ g, g ≠ rb → w'.heap[g]? = w.heap[g]?) : LogAt C w' vL L :=
  ⟨row_tag h.row hx (by decide) hk, fun t ht => ⟨row_tag (h.each t ht).1 hx (by decide) hk, (h.each t ht).2⟩⟩
end
theorem rp_take (L : List Wt) (k : Nat) (hk : k < L.length) (n : Int) : rp (L.take (k + 1)) n = if L[k].n = n then L[k].b else rp (L.take k) n := by
  rw [List.take_succ_eq_append_getElem hk, rp_snoc]
theorem rp_len {C : Nat} {w : World} {vL : Value} {L : List Wt} (h : LogAt C w vL L) (n : Int) : (rp L n).length = 512 := by
  have key : ∀ (M : List Wt) (z : List Nat), (∀ t ∈ M, t.b.length = 512) → z.length = 512 → (M.foldl (fun acc t => if t.n = n then t.b else acc) z).length = 512 := by
    intro M
    induction M with
    | nil => intro z _ hz; exact hz
    | cons t M ih =>
      intro z hM hz
      rw [List.foldl_cons]
      refine ih _ (fun t ht => hM t (by simp [ht])) ?_
      split
      · exact hM t (by simp)
      · exact hz
  exact key L _ (fun t ht => (h.each t ht).2) List.length_replicate

set_option maxRecDepth 100000 in
set_option maxHeartbeats 2000000 in
theorem refPeek_any {C m k : Nat} {a0 : Option Addr} {L0 c0 : Nat} {vL : Value} {L : List Wt} (n : Int) (w : World) (h : LogAt C w vL L) (hL : L.length ≤ 1000) :
    Calls Try.prog 17 #[.agg #[.int .i64 (m : Int), .slice a0 L0 c0, .int .i64 (k : Int), vL], .int .i64 n] w fun e w' => ∃ v, e = .returned v ∧ w'.ownsRow w.heap.size 5 1 v (pkL m L n).length (bv (pkL m L n)) ∧ Below w.heap.size w w' := by
  obtain ⟨aL, cL, rfl⟩ := row_slice h.row
  have hbx : Below w.heap.size w (w.alloc (.cells #[.int .i64 (m : Int), .slice a0 L0 c0, .int .i64 (k : Int), .slice aL L.length cL] 39)) := (Below.refl _ w).alloc (Nat.le_refl _) _
  cases hin : inD m n with
  | false =>
    have e : pkL m L n = [] := by simp [pkL, hin]
    rw [e]
    have HBX : Hid (Below w.heap.size w (w.alloc (.cells #[.int .i64 (m : Int), .slice a0 L0 c0, .int .i64 (k : Int), .slice aL L.length cL] 39))) := hbx
    have hno := inD_no hin
    by_cases n0 : 0 ≤ n
    · have n1 : (m : Int) ≤ n := by omega
      clear hno hin e hbx h
      go_enter Try.func17, Try.ntmps17
      go_wp2
      go_ret
      exact ⟨_, rfl, World.ownsRow_nil _ _ _ _, HBX.out⟩
    · clear hno hin e hbx h
      go_enter Try.func17, Try.ntmps17
      go_wp2
      go_ret
      exact ⟨_, rfl, World.ownsRow_nil _ _ _ _, HBX.out⟩
  | true =>
    have e : pkL m L n = rp L n := by simp [pkL, hin]
    rw [e, rp_len h n]
    obtain ⟨n0, n1⟩ := of_decide_eq_true hin
    have n1 : n < (m : Int) := n1
    obtain ⟨Z, hZ⟩ : ∃ Z, Z = (bv (List.replicate 512 0)).toArray := ⟨_, rfl⟩
    have hmk : ∀ w : World, (Instr.makeSlice 25 (.int .i64 512) (.int .i64 512)).run Try.prog w = .ok (.slice (some ⟨w.heap.size, 0, none⟩) 512 512) (w.alloc (.cells Z 5)) := fun w => by rw [hZ]; exact run_make_bytes 512 (by omega) w
    have HMO : Hid (∀ w : World, (w.alloc (.cells Z 5)).ownsRow w.heap.size 5 1 (.slice (some ⟨w.heap.size, 0, none⟩) 512 512) 512 (bv (rp (L.take 0) n))) := by
      intro w
      rw [hZ]
      exact made_own w 512 (by unfold maxLen; omega)
    have HCE : Hid ((w.alloc (.cells #[.int .i64 (m : Int), .slice a0 L0 c0, .int .i64 (k : Int), .slice aL L.length cL] 39)).heap[w.heap.size]? = some (.cells #[.int .i64 (m : Int), .slice a0 L0 c0, .int .i64 (k : Int), .slice aL L.length cL] 39 (0, 0))) := heap_alloc_new w _
    have HSZ : Hid ((w.alloc (.cells #[.int .i64 (m : Int), .slice a0 L0 c0, .int .i64 (k : Int), .slice aL L.length cL] 39)).heap.size = w.heap.size + 1) := by show _ = _; simp
    have HBX : Hid (Below w.heap.size w (w.alloc (.cells #[.int .i64 (m : Int), .slice a0 L0 c0, .int .i64 (k : Int), .slice aL L.length cL] 39))) := hbx
    have HLG : Hid (LogAt C (w.alloc (.cells #[.int .i64 (m : Int), .slice a0 L0 c0, .int .i64 (k : Int), .slice aL L.length cL] 39)) (.slice aL L.length cL) L) := h.below hbx
    obtain ⟨i0, hi, hz0, hz1, hz2⟩ := info_parts Try.info5
    clear hZ e hin h hbx
    go_enter Try.func17, Try.ntmps17
    go_upto_region 3 with (fail)
    generalize w.alloc (.cells #[.int .i64 (m : Int), .slice a0 L0 c0, .int .i64 (k : Int), .slice aL L.length cL] 39) = w1 at *
    obtain ⟨fb, hfb⟩ : ∃ fb, w.heap.size = fb := ⟨_, rfl⟩
    have HFB : Hid (w.heap.size = fb) := hfb
    rw [hfb] at HCE HSZ
    rw [hfb]
    clear hfb
    have HC3 : Hid (∀ {w2 : World}, Below w1.heap.size w1 w2 → w2.cell? ⟨fb, 3, none⟩ = some (.slice aL L.length cL)) := by
      intro w2 hb
      rw [cell_of_row w2 fb 3 _ _ _ ((hb.block fb (by rw [HSZ.out]; omega)).trans HCE.out)]; rfl
    go_wp2_with fail
    go_loopw [5, 6] (fun o i wr => ∃ j : Nat, j ≤ L.length ∧ i = .int .i64 j ∧ wr.ownsRow w1.heap.size 5 1 o 512 (bv (rp (L.take j) n)) ∧ Below w1.heap.size w1 wr) (fun _ i _ => L.length - (intOf i).toNat)
    case atStart => exact ⟨0, Nat.zero_le _, rfl, HMO.out w1, (Below.refl _ w1).alloc (Nat.le_refl _) _⟩
    case round =>
      obtain ⟨j, hj, rfl, hown, hb⟩ := hrel
      have HO : Hid (wr.ownsRow w1.heap.size 5 1 _ 512 (bv (rp (L.take j) n))) := hown
      have HB : Hid (Below w1.heap.size w1 wr) := hb
      have c3 := HC3.out hb
      clear hown hb hmk
      by_cases hlt : j < L.length
      · have lgr := HLG.out.below HB.out
        obtain ⟨g, rfl, cg0, cg1, hg1, hg2⟩ := row_at2 lgr.row hlt
        rw [(wc_at L j hlt).1] at cg0
        rw [(wc_at L j hlt).2] at cg1
        have heach := lgr.each L[j] (List.getElem_mem _)
        have HT : Hid (rp (L.take (j + 1)) n = if L[j].n = n then L[j].b else rp (L.take j) n) := rp_take L j hlt n
        have hql : (j : Int) < (L.length : Int) := by omega
        generalize L[j] = t at *
        obtain ⟨av, cv, hav⟩ := row_slice heach.1
        rw [hav] at cg1
        have HEA : Hid (wr.ownsRow C 5 1 (.slice av 512 cv) 512 (bv t.b)) := by rw [← hav]; exact heach.1
        clear heach hav lgr
        by_cases hn : t.n = n
        · have hn2 : (t.n == n) = true := by rw [beq_iff_eq]; exact hn
          have HT2 : Hid (rp (L.take (j + 1)) n = t.b) := by show _ = _; rw [HT.out, if_pos hn]
          have HSR : Hid (SrcAt (wr.alloc (.cells #[] 5)) (.slice av 512 cv) 512 1 (bv t.b)) := (src_row HEA.out).later ((Below.refl _ wr).alloc (Nat.le_refl _) _)
          have n2 : fb < wr.heap.size := by have := HB.out.size; have := HSZ.out; omega
          have n3 : fb ≠ wr.heap.size := by omega
          have n4 : g ≠ wr.heap.size := by omega
          clear hn HT
          generalize L.length = N at *
          go_wp2_with (at_builtin; refine wpList_append_src rfl _ _ 25 rfl wr.heap.size 5 i0 (.int .u8 0) 1 1 Try.underlying25 hi hz0 hz1 hz2 rfl (by decide) _ _ _ rfl (World.ownsRow_made wr #[] 0 (Nat.le_refl _) (by unfold maxLen; omega) rfl) _ 512 (bv t.b) rfl HSR.out (bv_one _) ?c3 ?c4 ?c5 ?_)
          case c3 => unfold maxLen; omega
          case c4 => omega
          case c5 => simp
          intro v2 w2 own2 gr2
          have b2 : Below wr.heap.size wr w2 := ((Below.refl _ wr).alloc (Nat.le_refl _) _).grown gr2 (by simp) (fun i hi => by simp [Value.ownBlock] at hi; omega)
          have own2' : w2.ownsRow wr.heap.size 5 1 v2 512 (bv t.b) := by simpa using own2
          have HO2 : Hid (w2.ownsRow w1.heap.size 5 1 v2 512 (bv t.b)) := rowMono own2' HB.out.size
          have HB2 : Hid (Below w1.heap.size w1 w2) := HB.out.trans (b2.mono HB.out.size)
          clear own2 own2' gr2 b2
          go_wp2
          go_roundw
          case rel => exact ⟨j + 1, by omega, by go_num, by rw [HT2.out]; exact HO2.out, HB2.out⟩
          case measure => simp [intOf]; omega
        · have hn2 : (t.n == n) = false := by rw [beq_eq_false_iff_ne]; exact hn
          have HT2 : Hid (rp (L.take (j + 1)) n = rp (L.take j) n) := by show _ = _; rw [HT.out, if_neg hn]
          clear hn HT
          generalize L.length = N at *
          go_wp2
          go_roundw
          case rel => exact ⟨j + 1, by omega, by go_num, by rw [HT2.out]; exact HO.out, HB.out⟩
          case measure => simp [intOf]; omega
      · have e : j = L.length := by omega
        have HT2 : Hid (rp (L.take j) n = rp L n) := by show _ = _; rw [e, List.take_length]
        have hql : ¬ (j : Int) < (L.length : Int) := by omega
        generalize L.length = N at *
        go_wp2
        go_ret
        rw [HFB.out]
        refine ⟨_, rfl, ?_, ?_⟩
        · rw [← HT2.out]
          exact rowMono HO.out (by rw [HSZ.out]; omega)
        · have := HBX.out
          rw [HFB.out] at this
          exact this.trans (HB.out.mono (by rw [HSZ.out]; omega))
end Go.Proofs.Ytdoklbocdmmahaa
