/- The walk of Put: eight sectors are written, up to the first that fails. -/
import Derived.Test.YtacggabopdoijaaSSet
import Derived.Deep.RegionWith
import Derived.Deep.LoopGhost
import Derived.Deep.DeepCutAuto
import Derived.BigRegion
namespace Go.Proofs.Ytacggabopdoijaa
open Go.RowKit

/-- A page that a slice value reads. -/
structure PageAt (w : World) (b off c : Nat) (page : List Nat) : Prop where
  cap : 4096 ≤ c
  max : c ≤ maxLen
  lt : b < w.heap.size
  len : page.length = 4096
  byte : ∀ y ∈ page, y < 256
  cell : ∀ j, j < 4096 → w.cell? ⟨b, off + j, none⟩ = some (.int .u8 (page.getD j 0 : Nat))
theorem PageAt.turns {B E b off c : Nat} {w w' : World} {page : List Nat} (h : PageAt w b off c page) (ht : Turns B E w w') (hb : b < B ∨ E ≤ b) : PageAt w' b off c page :=
  ⟨h.cap, h.max, Nat.lt_of_lt_of_le h.lt ht.size, h.len, h.byte, fun j hj => by rw [← h.cell j hj]; exact World.cell?_of_block (ht.block b h.lt hb)⟩
theorem PageAt.below {b off c : Nat} {w w' : World} {page : List Nat} (h : PageAt w b off c page) (hb : Below w.heap.size w w') : PageAt w' b off c page :=
  ⟨h.cap, h.max, Nat.lt_of_lt_of_le h.lt hb.size, h.len, h.byte, fun j hj => by rw [← h.cell j hj]; exact World.cell?_of_block (hb.block b h.lt)⟩
theorem PageAt.src {b off c : Nat} {w : World} {page : List Nat} (h : PageAt w b off c page) {i c' : Nat} (hi : i < 8) : SrcAt w (.slice (some ⟨b, off + i * 512, none⟩) 512 c') 512 1 (bv (seg page (i * 512) 512)) := by
  have hl := h.len
  refine src_cell (length_seg (by omega)) h.lt (fun j hj => ?_)
  rw [seg_getD hj, Nat.add_assoc]
  exact h.cell _ (by omega)
theorem page_slice {c b off i : Nat} {F : Int} (hF : F = (i * 512 : Nat)) (hc : 4096 ≤ c) (hi : i < 8) (w : World) :
    (Instr.slice 28 (.slice (some ⟨b, off, none⟩) 4096 c) (some (.int .i64 F)) (some (.int .i64 (F + 512))) none).run Try.prog w = .ok (.slice (some ⟨b, off + i * 512, none⟩) 512 (c - i * 512)) w := by
  obtain ⟨i0, h0, hz0, hz1, hz2⟩ := info_parts Try.info5
  have he : Try.prog.elem 28 = 5 := by kernel_rfl
  subst hF
  rw [run_slice_lh (P := Try.prog) w 28 _ _ _ (by rw [he]; exact Try.underlying28) .i64 .i64 _ _ (by omega) (by omega) (by omega), he]
  have hs : (sizeOf 5).run Try.prog w = .ok 1 w := by simp [sizeOf, typeInfo, h0, hz1, go_sem]
  rw [hs]
  simp only [Result.andThen, sliced, Option.map_some, Nat.mul_one, Int.toNat_natCast, add_lit']
  rw [if_neg (by omega)]
  congr 2
  omega

/-- P with the first i sectors of a page laid from o on. -/
structure Half (P P' page : List Nat) (o i : Nat) : Prop where
  len : P'.length = P.length
  out : ∀ q, q < o ∨ o + 4096 ≤ q → P'.getD q 0 = P.getD q 0
  inn : ∀ q, q < i * 512 → P'.getD (o + q) 0 = page.getD q 0
theorem Half.start (P page : List Nat) (o : Nat) : Half P P page o 0 := ⟨rfl, fun _ _ => rfl, fun q hq => by omega⟩
theorem Half.step {P P' page : List Nat} {o i : Nat} (h : Half P P' page o i) (hi : i < 8) (ho : o + 4096 ≤ P.length) (hl : page.length = 4096) : Half P (putAt P' (o + i * 512) (seg page (i * 512) 512)) page o (i + 1) := by
  have hs : (seg page (i * 512) 512).length = 512 := length_seg (by omega)
  have hP := h.len
  have hf : o + i * 512 + (seg page (i * 512) 512).length ≤ P'.length := by omega
  refine ⟨by rw [length_putAt hf, hP], fun q hq => ?_, fun q hq => ?_⟩
  · rw [putAt_getD hf, if_neg (by omega)]
    exact h.out q hq
  · rw [putAt_getD hf]
    by_cases e : i * 512 ≤ q
    · rw [if_pos (by omega), seg_getD (by omega)]
      congr 1
      omega
    · rw [if_neg (by omega)]
      exact h.inn q (Nat.lt_of_not_le e)
theorem Half.fin {P P' page : List Nat} {o : Nat} (h : Half P P' page o 8) (ho : o + 4096 ≤ P.length) (hl : page.length = 4096) : seg P' o 4096 = page := by
  have hs : (seg P' o 4096).length = 4096 := length_seg (by have := h.len; omega)
  refine ext_getD (hs.trans hl.symm) fun i hi => ?_
  rw [hs] at hi
  rw [seg_getD hi]
  exact h.inn i (by omega)
theorem Half.other {P P' page : List Nat} {n j i m : Nat} (h : Half P P' page (n * 4096) i) (hj : j < m) (hP : P.length = m * 8 * 512) (hne : j ≠ n) : seg P' (j * 4096) 4096 = seg P (j * 4096) 4096 := by
  have hle := page_le hj
  have h1 : (seg P' (j * 4096) 4096).length = 4096 := length_seg (by have := h.len; omega)
  have h2 : (seg P (j * 4096) 4096).length = 4096 := length_seg (by omega)
  refine ext_getD (h1.trans h2.symm) fun q hq => ?_
  rw [h1] at hq
  rw [seg_getD hq, seg_getD hq]
  refine h.out _ ?_
  clear h1 h2 h hP hle
  omega

/-- What a Put of L bytes is answered, and leaves. -/
def puE (L : Nat) (zs : List Bool) (k : Nat) (x : List Bool) : Nat := if L = 4096 then (if frstB x then (if askB zs k then 12 else 0) else 11) else 1
def puN (L : Nat) (zs : List Bool) (k : Nat) (x : List Bool) : Nat := if puE L zs k x = 0 then frst x else 0
def puK (L : Nat) (zs : List Bool) (k : Nat) (x : List Bool) : Nat := if L = 4096 ∧ frstB x = true then k + askN zs k else k
def puX (L : Nat) (zs : List Bool) (k : Nat) (x : List Bool) : List Bool := if puE L zs k x = 0 then putL x (frst x) true else x
/-- Pages with one exchanged. -/
def upd (pg : Nat → List Nat) (n : Nat) (page : List Nat) : Nat → List Nat := fun j => if j = n then page else pg j
def puG (L : Nat) (zs : List Bool) (k : Nat) (x : List Bool) (pg : Nat → List Nat) (page : List Nat) : Nat → List Nat := if puE L zs k x = 0 then upd pg (frst x) page else pg
section
variable {L k : Nat} {zs x : List Bool} {pg : Nat → List Nat} {page : List Nat}
theorem pu_err (h : puE L zs k x ≠ 0) : puN L zs k x = 0 ∧ puX L zs k x = x ∧ puG L zs k x pg page = pg := ⟨by rw [puN, if_neg h], by rw [puX, if_neg h], by rw [puG, if_neg h]⟩
theorem pu_ok (h : puE L zs k x = 0) : puN L zs k x = frst x ∧ puX L zs k x = putL x (frst x) true ∧ puG L zs k x pg page = upd pg (frst x) page := ⟨by rw [puN, if_pos h], by rw [puX, if_pos h], by rw [puG, if_pos h]⟩
theorem pu_arg (h : L ≠ 4096) : puE L zs k x = 1 ∧ puK L zs k x = k := ⟨by rw [puE, if_neg h], by rw [puK, if_neg (fun e => h e.1)]⟩
theorem pu_full (h : frstB x = false) : puE 4096 zs k x = 11 ∧ puK 4096 zs k x = k := ⟨by rw [puE, if_pos rfl, h]; rfl, by rw [puK, if_neg (fun e => by rw [h] at e; cases e.2)]⟩
theorem pu_bad (h : frstB x = true) (hb : askB zs k = true) : puE 4096 zs k x = 12 ∧ puK 4096 zs k x = k + askN zs k := ⟨by rw [puE, if_pos rfl, h, hb]; rfl, by rw [puK, if_pos ⟨rfl, h⟩]⟩
theorem pu_fine (h : frstB x = true) (hb : askB zs k = false) : puE 4096 zs k x = 0 ∧ puK 4096 zs k x = k + 8 := by
  refine ⟨by rw [puE, if_pos rfl, h, hb]; rfl, ?_⟩
  rw [puK, if_pos ⟨rfl, h⟩, (ask_fine (ask_all hb)).2]
theorem puK_le (L : Nat) (zs : List Bool) (k : Nat) (x : List Bool) : puK L zs k x ≤ k + 8 := by
  have := askN_le zs k
  unfold puK
  split <;> omega
end

theorem sPut_arg {v : Value} {a : Option Addr} {L c : Nat} (w : World) (_hL : L ≤ maxLen) (hne : L ≠ 4096) :
    Calls Try.prog 6 #[v, .slice a L c] w fun e w' => e = .returned (.tuple #[.int .i64 0, .int .i64 1]) ∧ w = w' := by
  unfold maxLen at _hL
  have h6 : ((L : Int) != 4096) = true := by rw [bne_iff_ne]; omega
  go_enter Try.func6, Try.ntmps6
  go_wp2
  go_ret2
  exact ⟨rfl, rfl⟩
theorem sPut_full {M : Nat} {v p : Option Addr} {q : Option Nat} {x : List Bool} {a : Option Addr} {c : Nat} (w : World) (hu : UseP w v p) (h : SetP M w p q x) (hf : frstB x = false) :
    Calls Try.prog 6 #[.pointer v, .slice a 4096 c] w fun e w' => e = .returned (.tuple #[.int .i64 0, .int .i64 11]) ∧ ∃ m, w' = w.drewN m := by
  have HF : Hid (frstB x = false) := hf
  clear hf
  go_enter Try.func6, Try.ntmps6
  go_wp2_with fail
  refine (inUse_any _ hu).mono ?_
  rintro e w' ⟨rfl, rfl⟩
  go_wp2_with fail
  refine (first_any _ h).mono ?_
  rw [HF.out]
  rintro e w' ⟨rfl, m, rfl⟩
  go_wp2
  go_ret2
  exact ⟨rfl, m, rfl⟩

/-- A Put under way: i sectors stand. -/
structure Puts (B M : Nat) (w wr : World) (d m n i : Nat) (zs : List Bool) (k : Nat) (P P' page : List Nat) : Prop where
  disk : DiskAt B M wr d (m * 8) zs (k + i) P'
  turn : Turns B M w wr
  half : Half P P' page (n * 4096) i
  fine : ∀ j, j < i → fa zs (k + j) = false

set_option maxRecDepth 100000 in
set_option maxHeartbeats 1000000 in
theorem sPut_any {B E r m k b off c : Nat} {zs : List Bool} {x : List Bool} {pg : Nat → List Nat} {page : List Nat} (w : World) (h : SlotsAt B E w r m zs k x pg) (hk : k < 900000000) (hp : PageAt w b off c page) (hap : b < B ∨ E ≤ b) (hf : frstB x = true) :
    Calls Try.prog 6 #[.pointer (some ⟨r, 0, none⟩), .slice (some ⟨b, off, none⟩) 4096 c] w fun e w' =>
      e = .returned (.tuple #[.int .i64 (puN 4096 zs k x : Nat), .int .i64 (puE 4096 zs k x : Nat)]) ∧
      SlotsAt B E w' r m zs (puK 4096 zs k x) (puX 4096 zs k x) (puG 4096 zs k x pg page) ∧ Turns B E w w' := by
  obtain ⟨M, d, sb, g, P, h, hq⟩ := h
  obtain ⟨e1, e2⟩ := frstN_yes hf
  have hm := h.small
  have hx := h.len
  obtain ⟨n, hn⟩ : ∃ n, frst x = n := ⟨_, rfl⟩
  rw [hn] at e1 e2
  have hnm : n < m := by omega
  have hn128 : n ≤ 128 := by omega
  have H : Hid (SlotsIn B M E w r d sb g m zs k P x) := h
  have HP : Hid (PageAt w b off c page) := hp
  have HF : Hid (frstB x = true) := hf
  have HN : Hid (frstN x = n) := e1
  have HNF : Hid (frst x = n) := hn
  have HQ : Hid (∀ n, n < m → x.getD n false = true → seg P (n * 4096) 4096 = pg n) := hq
  have HAP : Hid (b < B ∨ M ≤ b) := by have := h.lo; show _ ∨ _; omega
  have hcap := hp.cap
  have hmax := hp.max
  unfold maxLen at hmax
  clear h hp hap hf e1 e2 hn hq hx
  go_enter Try.func6, Try.ntmps6
  go_wp2_with fail
  refine (inUse_any _ H.out.use).mono ?_
  rintro e w' ⟨rfl, rfl⟩
  go_wp2_with fail
  refine (first_any _ H.out.setP).mono ?_
  rw [HF.out, HN.out]
  rintro e w' ⟨rfl, dm, rfl⟩
  have H0 : Hid (Puts B M w (w.drewN dm) d m n 0 zs k P P page) := ⟨H.out.disk.drewN dm, Turns.of_below (drewN_below _ _ _), Half.start _ _ _, fun j hj => by omega⟩
  generalize w.drewN dm = w0 at *
  go_wp2_with fail
  go_loopg [8, 9, 10, 22] 8 (fun gk _ _ _ i wr => ∃ (j : Nat) (P' : List Nat), j ≤ 8 ∧ gk = 8 - j ∧ i = .int .i64 j ∧ Puts B M w wr d m n j zs k P P' page)
  case atStart => exact ⟨0, P, by omega, rfl, rfl, H0.out⟩
  case round =>
    obtain ⟨j, P', hj, rfl, rfl, hH⟩ := hrel
    have Hh : Hid (Puts B M w wr d m n j zs k P P' page) := hH
    clear hH H0
    by_cases hlt : j < 8
    · have i1 : (j : Int) < 8 := by omega
      have c0 := (H.out.disked Hh.out.disk Hh.out.turn).c0
      have hsl := page_slice (b := b) (off := off) (F := (j : Int) * 512) (by simp) hcap hlt
      have hwr : IntKind.i64.wrap ((j : Int) * 512 + 512) = (j : Int) * 512 + 512 := by rw [IntKind.wrap_i64]; omega
      have HS : Hid (SrcAt wr (.slice (some ⟨b, off + j * 512, none⟩) 512 (c - j * 512)) 512 1 (bv (seg page (j * 512) 512))) := (HP.out.turns Hh.out.turn HAP.out).src hlt
      have HSA : Hid (Apart B M (.slice (some ⟨b, off + j * 512, none⟩) 512 (c - j * 512)) (seg page (j * 512) 512)) := fun ad _ _ e _ => by cases e; exact HAP.out
      have H8 : Hid (∀ y ∈ seg page (j * 512) 512, y < 256) := seg_byte HP.out.byte
      have hsec : n * 8 + j < m * 8 := by omega
      have HDR : Hid (DiskAt B M wr.drew d (m * 8) zs (k + j) P') := Hh.out.disk.drewN 1
      have HSR : Hid (SrcAt wr.drew (.slice (some ⟨b, off + j * 512, none⟩) 512 (c - j * 512)) 512 1 (bv (seg page (j * 512) 512))) := HS.out.later (drew_below _ _)
      cases hfa : fa zs (k + j) with
      | true =>
        have HAC : Hid (acE (m * 8) zs (k + j) ((n * 8 + j : Nat) : Int) 512 = 12) := (ac_fail (g := 0) (inD_nat hsec) hfa).1
        go_wp2_with fail
        go_region_with (first | (go_at_call 25; refine (sector_any n j _ hn128 (by omega)).mono ?_; rintro e w' ⟨rfl, rfl⟩) | (go_at_call 24; refine (dWrite_is ((n * 8 + j : Nat) : Int) _ HDR.out (by omega) HSR.out HSA.out H8.out (by unfold maxLen; omega) HAC.out).mono ?_; rintro e w2 ⟨rfl, h2, t2⟩))
        all_goals
          obtain ⟨a1, a2⟩ := ask_fail hlt Hh.out.fine hfa
          have hak : acK (m * 8) (k + j) ((n * 8 + j : Nat) : Int) 512 = k + (j + 1) := (ac_fail (g := 0) (inD_nat hsec) hfa).2.1
          have hwd : wrD (m * 8) zs (k + j) P' ((n * 8 + j : Nat) : Int) (seg page (j * 512) 512) = P' := by
            have hl := HP.out.len
            have hs : (seg page (j * 512) 512).length = 512 := length_seg (by omega)
            unfold wrD
            rw [hs, HAC.out, if_neg (by decide)]
          rw [hak, hwd] at h2
          have T2 : Hid (Turns B M w w2) := Hh.out.turn.trans ((Turns.of_below (drew_below _ _)).trans t2)
          have H2 : Hid (SlotsIn B M E w2 r d sb g m zs (k + (j + 1)) P' x) := H.out.disked h2 T2.out
          have HPG : Hid (∀ n, n < m → x.getD n false = true → seg P' (n * 4096) 4096 = pg n) := by
            intro i hi hxi
            rw [← HQ.out i hi hxi]
            refine Hh.out.half.other hi H.out.disk.len ?_
            intro e
            subst e
            have := frst_has (x := x) (by have := H.out.len; have := HNF.out; omega)
            rw [HNF.out, hasB_nat, hxi] at this
            cases this
          have A1 : Hid (askB zs k = true) := a1
          have A2 : Hid (askN zs k = j + 1) := a2
          clear h2 t2 hak hwd a1 a2 hfa
          go_wp2
          go_ret2
          have a1 := A1.out
          have a2 := A2.out
          obtain ⟨b1, b2⟩ := pu_bad HF.out a1
          obtain ⟨b3, b4, b5⟩ := pu_err (pg := pg) (page := page) (show puE 4096 zs k x ≠ 0 by rw [b1]; decide)
          rw [b1, b2, b3, b4, b5, a2]
          exact ⟨rfl, ⟨M, d, sb, g, P', H2.out, HPG.out⟩, H2.out.turnsD T2.out⟩
      | false =>
        have HAC : Hid (acE (m * 8) zs (k + j) ((n * 8 + j : Nat) : Int) 512 = 0) := (ac_fine (g := 0) hsec hfa).1
        go_wp2_with fail
        go_region_with (first | (go_at_call 25; refine (sector_any n j _ hn128 (by omega)).mono ?_; rintro e w' ⟨rfl, rfl⟩) | (go_at_call 24; refine (dWrite_is ((n * 8 + j : Nat) : Int) _ HDR.out (by omega) HSR.out HSA.out H8.out (by unfold maxLen; omega) HAC.out).mono ?_; rintro e w2 ⟨rfl, h2, t2⟩))
        all_goals
          have hak : acK (m * 8) (k + j) ((n * 8 + j : Nat) : Int) 512 = k + (j + 1) := (ac_fine (g := 0) (zs := zs) hsec hfa).2.1
          have hwd : wrD (m * 8) zs (k + j) P' ((n * 8 + j : Nat) : Int) (seg page (j * 512) 512) = putAt P' (n * 4096 + j * 512) (seg page (j * 512) 512) := by
            have hl := HP.out.len
            have hs : (seg page (j * 512) 512).length = 512 := length_seg (by omega)
            unfold wrD
            rw [hs, HAC.out, if_pos rfl, Int.toNat_natCast, show (n * 8 + j) * 512 = n * 4096 + j * 512 by omega]
          rw [hak, hwd] at h2
          have H2 : Hid (Puts B M w w2 d m n (j + 1) zs k P (putAt P' (n * 4096 + j * 512) (seg page (j * 512) 512)) page) :=
            ⟨h2, Hh.out.turn.trans ((Turns.of_below (drew_below _ _)).trans t2), Hh.out.half.step hlt (by have := H.out.disk.len; have := page_le hnm; omega) HP.out.len, fun i hi => by
              by_cases e : i = j
              · subst e; exact hfa
              · exact Hh.out.fine i (by omega)⟩
          clear h2 t2 hak hwd
          go_wp2
          go_roundg (8 - (j + 1))
          case measure => omega
          case rel => exact ⟨j + 1, _, by omega, rfl, by go_num, H2.out⟩
    · have e : j = 8 := by omega
      subst e
      obtain ⟨a1, a2⟩ := ask_fine Hh.out.fine
      have H2 : Hid (SlotsIn B M E wr r d sb g m zs (k + 8) P' x) := H.out.disked Hh.out.disk Hh.out.turn
      have c1 := H2.out.c1
      go_wp2_with fail
      refine (put_any (n : Int) _ H2.out.setP).mono ?_
      rintro e w2 ⟨rfl, h3, g3⟩
      have H3 : Hid (SlotsIn B M E w2 r d sb g m zs (k + 8) P' (putL x (n : Int) true)) := H2.out.setted h3 g3 (len_putL _ _ _)
      have T3 : Hid (Turns B E w w2) := by
        obtain ⟨l1, l2, l3, l4, l5, l6⟩ := H2.out.lo
        have hg := H2.out.set.bltg
        have hb := H2.out.bm
        exact (H2.out.turnsD Hh.out.turn).grown g3 (by omega) l4
      have HPG : Hid (∀ i, i < m → (putL x (n : Int) true).getD i false = true → seg P' (i * 4096) 4096 = upd pg n page i) := by
        intro i hi hxi
        unfold upd
        by_cases e : i = n
        · subst e
          rw [if_pos rfl]
          exact Hh.out.half.fin (by have := H.out.disk.len; have := page_le hi; omega) HP.out.len
        · rw [if_neg e, ← HQ.out i hi ?_]
          · exact Hh.out.half.other hi H.out.disk.len e
          · have e2 : putL x (n : Int) true = x.set n true := by simp [putL]
            rw [e2, getD_set, if_neg (by omega)] at hxi
            exact hxi
      have A1 : Hid (askB zs k = false) := a1
      clear h3 g3 a1 a2
      go_wp2
      go_ret2
      have a1 := A1.out
      obtain ⟨b1, b2⟩ := pu_fine HF.out a1
      obtain ⟨b3, b4, b5⟩ := pu_ok (pg := pg) (page := page) b1
      rw [b1, b2, b3, b4, b5, HNF.out]
      exact ⟨rfl, ⟨M, d, sb, g, P', H3.out, HPG.out⟩, T3.out⟩
theorem slPut {B E r m k L : Nat} {a : Option Addr} {c : Nat} {zs : List Bool} {x : List Bool} {pg : Nat → List Nat} {page : List Nat} (w : World) (h : SlotsAt B E w r m zs k x pg) (hk : k < 900000000) (hL : L ≤ maxLen)
    (hp : L = 4096 → ∃ b off, a = some ⟨b, off, none⟩ ∧ PageAt w b off c page ∧ (b < B ∨ E ≤ b)) :
    Calls Try.prog 6 #[.pointer (some ⟨r, 0, none⟩), .slice a L c] w fun e w' =>
      e = .returned (.tuple #[.int .i64 (puN L zs k x : Nat), .int .i64 (puE L zs k x : Nat)]) ∧
      SlotsAt B E w' r m zs (puK L zs k x) (puX L zs k x) (puG L zs k x pg page) ∧ Turns B E w w' := by
  by_cases h4 : L = 4096
  · subst h4
    obtain ⟨b, off, rfl, hp, hb⟩ := hp rfl
    cases hf : frstB x with
    | true => exact sPut_any w h hk hp hb hf
    | false =>
      obtain ⟨e1, e2⟩ := pu_full (zs := zs) (k := k) hf
      obtain ⟨e3, e4, e5⟩ := pu_err (pg := pg) (page := page) (show puE 4096 zs k x ≠ 0 by rw [e1]; decide)
      rw [e1, e2, e3, e4, e5]
      have h0 := h
      obtain ⟨M, d, b, g, P, h, hq⟩ := h
      refine (sPut_full w h.use h.setP hf).mono ?_
      rintro e w' ⟨rfl, n, rfl⟩
      exact ⟨rfl, h0.drewN n, Turns.of_below (drewN_below _ _ _)⟩
  · obtain ⟨e1, e2⟩ := pu_arg (zs := zs) (k := k) (x := x) h4
    obtain ⟨e3, e4, e5⟩ := pu_err (pg := pg) (page := page) (show puE L zs k x ≠ 0 by rw [e1]; decide)
    rw [e1, e2, e3, e4, e5]
    refine (sPut_arg w hL h4).mono ?_
    rintro e w' ⟨rfl, rfl⟩
    exact ⟨rfl, h, Turns.refl _ _ _⟩
end Go.Proofs.Ytacggabopdoijaa
