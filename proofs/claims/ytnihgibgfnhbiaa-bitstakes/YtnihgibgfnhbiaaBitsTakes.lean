/- Proved: gunnylaw02.BitsTakes returns true for all sizes and all lists of bytes: who takes, and drops what was taken, is never told a number that is out; as many can be taken as there are. No conditions. -/
import Derived.Test.YtnihgibgfnhbiaaBOuts
import Derived.Test.YtnihgibgfnhbiaaBSame
import Derived.Test.YtnihgibgfnhbiaaBLives
import Derived.Test.YtnihgibgfnhbiaaBOpen
import Derived.Test.YtnihgibgfnhbiaaBStep
namespace Go.Proofs.Ytnihgibgfnhbiaa.BitsTakes
open Go.ChangeShapes Go.WideShapes Go.ChangeAt Go.RowKit
set_option linter.unusedVariables false
theorem own : ownKnob Try.prog.godebug = none := by kernel_rfl
theorem laidOut : laidOutB Try.prog = true := by kernel_rfl

theorem row_kept {w w' : World} {base g : Nat} {e : TypeId} {size n : Nat} {v : Value} {xs : List Value} (h : w.ownsRow base e size v n xs) (hg : w.grownBy w' (some g)) (hlt : g < base) : w'.ownsRow base e size v n xs :=
  h.kept hg (by
    cases hv : v.ownBlock
    · exact .inl rfl
    · right
      intro e
      have := h.lt _ hv
      cases e
      omega)

/-- The round's state: what is out is what is in the set. -/
structure Held (w wr : World) (B b g m : Nat) (v : Value) (os : List Nat) (x : List Bool) : Prop where
  set : SetP w.heap.size wr (some ⟨b, 0, none⟩) (some g) x
  row : wr.ownsRow B 3 1 v os.length (iv os)
  bel : Below w.heap.size w wr
  hi : B ≤ wr.heap.size
  lo : g < B
  lob : b < B
  wB : w.heap.size ≤ B
  outs : Outs x os
  len : x.length = m
theorem Held.small {w wr : World} {B b g m : Nat} {v : Value} {os : List Nat} {x : List Bool} (h : Held w wr B b g m v os x) : os.length ≤ x.length := by
  rw [h.outs.len]; exact List.count_le_length

theorem row_cap {w : World} {base n c : Nat} {e : TypeId} {size : Nat} {a : Addr} {xs : List Value} (h : w.ownsRow base e size (.slice (some a) n c) n xs) : n ≤ c ∧ c ≤ maxLen := by
  rcases h.2 with ⟨h1, _⟩ | ⟨g, cap, cur, h1, _, _, h4, h5, _⟩
  · simp at h1
  · simp only [Value.slice.injEq, true_and] at h1
    obtain ⟨_, rfl⟩ := h1
    exact ⟨h4, h5⟩

theorem head_at {w : World} {B g n c : Nat} {os : List Nat} (h : w.ownsRow B 3 1 (.slice (some ⟨g, 0, none⟩) n c) n (iv os)) {j : Nat} (hj : j < n) : ∀ i u, (iv (os.take j))[i]? = some u → w.cell? ⟨g, 0 + i, none⟩ = some u := by
  intro i u hu
  have hl : os.length = n := by have := h.1; simpa [iv] using this
  have hi : i < j := by have := (List.getElem?_eq_some_iff.1 hu).1; simp [iv] at this; omega
  rw [Nat.zero_add, h.cellAt i (by omega)]
  have e : (iv (os.take j))[i]? = (iv os)[i]? := by simp [iv, hi]
  rw [← e]; exact hu
theorem tail_at {w : World} {B g n c : Nat} {os : List Nat} (h : w.ownsRow B 3 1 (.slice (some ⟨g, 0, none⟩) n c) n (iv os)) {j : Nat} (hj : j < n) :
    ∃ A : Addr, (if c = j + 1 then some (⟨g, 0, none⟩ : Addr) else some ⟨g, j + 1, none⟩) = some A ∧ ∀ i u, (iv (os.drop (j + 1)))[i]? = some u → w.cell? (A.add i) = some u := by
  have hl : os.length = n := by have := h.1; simpa [iv] using this
  have hc := (row_cap h).1
  by_cases e : c = j + 1
  · refine ⟨⟨g, 0, none⟩, by rw [if_pos e], ?_⟩
    intro i u hu
    have := (List.getElem?_eq_some_iff.1 hu).1
    simp [iv] at this
    omega
  · refine ⟨⟨g, j + 1, none⟩, by rw [if_neg e], ?_⟩
    intro i u hu
    have hi := (List.getElem?_eq_some_iff.1 hu).1
    simp [iv] at hi
    rw [Addr.add_lit, h.cellAt (j + 1 + i) (by omega)]
    have e : (iv (os.drop (j + 1)))[i]? = (iv os)[j + 1 + i]? := by simp [iv]
    rw [← e]; exact hu
theorem after_put {w w2 w4 : World} {B g m3 n : Nat} {v : Value} {xs : List Value} {x : List Bool} {p : Option Addr} (r2 : w2.ownsRow B 3 1 v n xs) (g4 : (w2.drewN m3).grownBy w4 (some g)) (lo : g < B) (hi2 : B ≤ w2.heap.size) (bel2 : Below w.heap.size w w2) (s2 : SetP w.heap.size w2 p (some g) x) :
    w4.ownsRow B 3 1 v n xs ∧ B ≤ w4.heap.size ∧ Below w.heap.size w w4 :=
  ⟨row_kept (row_below r2 (drewN_below _ _ m3)) g4 lo, Nat.le_trans hi2 g4.size, (s2.drewN m3).step (bel2.trans (drewN_below _ _ m3)) bel2.size g4⟩
theorem one_new (w : World) (v : Value) : ∀ j u, [v][j]? = some u → (w.alloc (.cells #[v] 3)).cell? ((⟨w.heap.size, 0, none⟩ : Addr).add j) = some u := by
  intro j u hj
  match j, hj with
  | 0, hj => simp at hj; subst hj; simp [Addr.add]
theorem one_one (n : Int) : ∀ u ∈ [Value.int .i64 n], u.oneCell' = true := by intro u hu; simp at hu; subst hu; rfl
theorem hi_alloc {B : Nat} {w : World} (h : B ≤ w.heap.size) (o : Obj) : B ≤ (w.alloc o).heap.size := by simp; omega
theorem after4 {B : Nat} {w w4 : World} {o : Obj} (hi : B ≤ w.heap.size) (hg : ((w.alloc o).drew).grownBy w4 (Value.slice (some ⟨w.heap.size, 0, none⟩) 0 0).ownBlock) :
    B ≤ w4.heap.size ∧ ∀ A u, w.cell? A = some u → w4.cell? A = some u := by
  refine ⟨by have := hg.size; simp at this; omega, ?_⟩
  intro A u h
  have hlt := World.block_lt_of_cell? w A h
  refine hg.cell (a := A) ?_ ?_
  · rw [← h]
    exact World.cell?_of_block (Below.heap_alloc w o A.block hlt)
  · simp [Value.ownBlock]; omega

set_option maxRecDepth 100000 in
set_option maxHeartbeats 1000000 in
theorem run (m : Nat) (a : Option Addr) (L c : Nat) (zs : List Int) (w : World) (hm : m < 256) (hzl : zs.length = L) (hL : L ≤ maxLen) (hz : IntsAt .u8 w a zs) (hz8 : ∀ z ∈ zs, 0 ≤ z ∧ z < 256) :
    Calls Try.prog 5 #[.int .u8 m, .slice a L c] w fun e w' => e = .returned (.bool true) ∧ Below w.heap.size w w' := by
  unfold maxLen at hL
  by_cases hlong : 300 < L
  · go_enter Try.func5, Try.ntmps5
    go_wp2_with fail
    refine (lives_any _).mono ?_
    rintro e w1 ⟨rfl, hb⟩
    go_wp2
    go_ret
    exact ⟨rfl, hb⟩
  · have HZ : Hid (IntsAt .u8 w a zs) := hz
    have HZL : Hid _ := hzl
    have HZ8 : Hid _ := hz8
    clear hz hzl hz8
    obtain ⟨i0, hi, hz0, hz1, hz2⟩ := info_parts Try.info3
    go_enter Try.func5, Try.ntmps5
    go_wp2_with fail
    refine (new_any _ _).mono ?_
    rintro e w1 ⟨b, g, rfl, h1, b1⟩
    have hsz : szN (m : Int) = m := by unfold szN; rw [if_neg (by omega), if_neg (by omega)]; omega
    rw [hsz] at h1
    have hbg := h1.bltg
    have hH : Held w w1 w1.heap.size b g m (.slice none 0 0) [] (List.replicate m false) :=
      ⟨h1.p, World.ownsRow_nil _ _ _ _, b1, Nat.le_refl _, hbg.2.1, hbg.1, b1.size, Outs.start m, by simp⟩
    have HH : Hid _ := hH
    clear hH h1 hbg hsz b1
    generalize w1.heap.size = B at *
    go_wp2_with fail
    go_loopw [6, 7] (fun v i wr => ∃ (k : Nat) (os : List Nat) (x : List Bool), k ≤ L ∧ i = .int .i64 k ∧ Held w wr B b g m v os x) (fun _ i _ => L - (intOf i).toNat)
    case atStart => exact ⟨0, _, _, Nat.zero_le _, rfl, HH.out⟩
    case round =>
      obtain ⟨k, os, x, hk, rfl, hH⟩ := hrel
      have hsm := hH.set.small
      have hol := hH.small
      have hxl := hH.len
      obtain ⟨a6, c6, rfl⟩ := row_slice hH.row
      by_cases hlt : k < L
      · obtain ⟨bz, off, rfl, hc⟩ := HZ.out.later hH.bel (i := k) (by have := HZL.out; omega)
        have hq8 := HZ8.out (zs.getD k 0) (by
          have : k < zs.length := by have := HZL.out; omega
          simp [List.getD, this])
        generalize zs.getD k 0 = z at *
        obtain ⟨q, rfl⟩ := Int.eq_ofNat_of_zero_le hq8.1
        have hq : q < 256 := by omega
        clear hq8
        by_cases hd : q % 3 = 0 ∧ 0 < os.length
        · obtain ⟨hd1, hd2⟩ := hd
          have hd3 : ((q : Int) % 3 == 0) = true := by simp; omega
          have HD1 : Hid _ := hd1
          clear hd1
          obtain ⟨j, hj, hjl⟩ : ∃ j : Nat, (q : Int) / 3 % (os.length : Int) = (j : Int) ∧ j < os.length := by
            refine ⟨q / 3 % os.length, by simp, Nat.mod_lt _ hd2⟩
          obtain ⟨g6, rfl, hc6, hf6, hb6, hl6⟩ := row_at hH.row hjl
          rw [iv_at os j hjl] at hc6
          have HA := hH.outs.at hjl
          have HO : Hid (Outs (putL x (os.getD j 0 : Nat) false) (os.take j ++ os.drop (j + 1))) := hH.outs.drop hjl
          generalize hdd : os.getD j 0 = d at *
          have hdl := getD_lt HA
          have H1 : Hid (hasB x d = true) := by show _ = _; rw [hasB_nat]; exact HA
          have H2 : Hid (hasB (putL x d false) d = false) := has_put false hdl
          have H3 : Hid (putL (putL x d false) d false = putL x d false) := put_put x d false
          have HDD : Hid _ := hdd
          clear hdd HA
          have hj1 : (j : Int) < (os.length : Int) := by omega
          go_wp2_with fail
          refine (drop_any _ _ hH.set).mono ?_
          rw [H1.out]
          rintro e w2 ⟨rfl, s2, g2⟩
          have r2 := row_kept hH.row g2 hH.lo
          have bel2 := hH.set.step hH.bel hH.bel.size g2
          obtain ⟨_, he, hc2, hf2, _⟩ := row_at r2 hjl
          cases he
          rw [iv_at os j hjl, HDD.out] at hc2
          go_wp2_with fail
          refine (drop_any _ _ s2).mono ?_
          rw [H2.out, H3.out]
          rintro e w3 ⟨rfl, s3, g3⟩
          have r3 := row_kept r2 g3 hH.lo
          have bel3 := s2.step bel2 bel2.size g3
          have hi3 : B ≤ w3.heap.size := Nat.le_trans hH.hi (Nat.le_trans g2.size g3.size)
          clear s2 g2 r2 bel2 hc2 hf2 g3 hc6 hf6 hc
          go_wp2_with fail
          obtain ⟨hcap, hcm⟩ : os.length ≤ c6 ∧ c6 ≤ maxLen := row_cap r3
          unfold maxLen at hcm
          have hjc : j ≤ c6 := by omega
          have hj3 : 0 ≤ (j : Int) + 1 := by omega
          have hj4 : (j : Int) + 1 ≤ (os.length : Int) := by omega
          have hj2 : IntKind.i64.wrap ((j : Int) + 1) = ((j + 1 : Nat) : Int) := by rw [IntKind.wrap_i64]; omega
          have own0 : ((w3.alloc (.cells #[] 3)).drew).ownsRow B 3 1 (.slice (some ⟨w3.heap.size, 0, none⟩) 0 0) 0 [] := (World.ownsRow_made w3 #[] 0 hi3 (by unfold maxLen; omega) rfl).drew
          obtain ⟨A, hA, hAc⟩ := tail_at r3 hjl
          obtain ⟨gl3, gl3'⟩ : B ≤ g6 ∧ g6 < w3.heap.size := r3.lt g6 rfl
          have cells1 : ∀ i u, (iv (os.take j))[i]? = some u → ((w3.alloc (.cells #[] 3)).drew).cell? ((⟨g6, 0, none⟩ : Addr).add i) = some u := by
            intro i u hu
            have h1 := (head_at r3 hjl) i u hu
            rw [← h1, Addr.add_lit]
            exact World.cell?_of_block (Below.heap_alloc w3 _ g6 gl3')
          have ln1 : (iv (os.take j)).length = j * 1 := by simp [iv]; omega
          have ln2 : (iv (os.drop (j + 1))).length = (os.length - (j + 1)) * 1 := by simp [iv]
          have OWN0 : Hid _ := own0
          have CELLS1 : Hid _ := cells1
          have LN1 : Hid _ := ln1
          have LN2 : Hid _ := ln2
          have HAC : Hid _ := hAc
          have one : ∀ l : List Nat, ∀ u ∈ iv l, u.oneCell' = true := by
            intro l u hu
            obtain ⟨_, _, rfl⟩ := List.mem_map.1 hu
            rfl
          have ONE : Hid _ := one
          have E1 : Hid (j + (os.length - (j + 1)) ≤ maxLen) := by show _ ≤ _; unfold maxLen; omega
          have E2 : Hid ((j + (os.length - (j + 1))) * 8 ≤ 140737488355328) := by show _ ≤ _; omega
          clear own0 cells1 ln1 ln2 hAc one
          go_region_law (first
            | (refine step_append_own rfl (.tmp 60) (.tmp 63) 24 rfl B 3 i0 (.int .i64 0) 1 8 Try.underlying24 hi hz0 hz1 hz2 rfl (by decide) _ 0 [] (by simp [Act.eval]) OWN0.out ⟨g6, 0, none⟩ j c6 (iv (os.take j)) (by simp [Act.eval]) LN1.out CELLS1.out (ONE.out _) (by unfold maxLen; omega) (by omega) (by simp; omega) ?_; intro v4 w4 hown4 hgr4 hn4; simp only [Nat.zero_add, List.nil_append] at hown4; obtain ⟨hi4, hc4⟩ := after4 hi3 hgr4)
            | (refine step_append_own rfl (.tmp 64) (.tmp 68) 24 rfl B 3 i0 (.int .i64 0) 1 8 Try.underlying24 hi hz0 hz1 hz2 rfl (by decide) _ j (iv (os.take j)) (by simp [Act.eval]) hown4 A (os.length - (j + 1)) (c6 - (j + 1)) (iv (os.drop (j + 1))) (by simp [Act.eval]) LN2.out (fun i u hu => hc4 _ _ (HAC.out i u hu)) (ONE.out _) E1.out E2.out hi4 ?_; intro v5 w5 hown5 hgr5 hn5))
          have hH5 : Held w w5 B b g m v5 (os.take j ++ os.drop (j + 1)) (putL x d false) := by
            have hk4 : ∀ i, i < B → w5.heap[i]? = w3.heap[i]? := by
              intro i hi'
              rw [hgr5.block i (by omega) (by intro e; have := hown4.lt i e.symm; omega), hgr4.block i (by simp; omega) (by simp [Value.ownBlock]; omega)]
              exact Below.heap_alloc w3 _ i (by omega)
            have sz : w3.heap.size ≤ w5.heap.size := by
              have h4 := hgr4.size
              have h5 := hgr5.size
              simp at h4
              omega
            refine ⟨s3.keep hH.lob hH.lo hk4, ?_, bel3.trans ⟨hgr5.os.trans hgr4.os, hgr5.tape.trans hgr4.tape, hgr5.output.trans hgr4.output, sz, fun i hi' => hk4 i (by have := hH.wB; omega)⟩, by omega, hH.lo, hH.lob, hH.wB, HO.out, by rw [len_putL]; exact hH.len⟩
            have e1 : (os.take j ++ os.drop (j + 1)).length = j + (os.length - (j + 1)) := by simp; omega
            have e2 : iv (os.take j ++ os.drop (j + 1)) = iv (os.take j) ++ iv (os.drop (j + 1)) := by simp [iv]
            rw [e1, e2]
            exact hown5
          have HH5 : Hid _ := hH5
          clear hH5 hown5 hgr5 hown4 hgr4 hn4 hn5 s3 r3 hc4
          go_wp2
          go_roundw
          case rel => exact ⟨k + 1, _, _, by omega, by go_num, HH5.out⟩
          case measure => simp [intOf]; omega
        · by_cases hd1 : q % 3 = 0
          · have ho : os.length = 0 := by omega
            have hd3 : ((q : Int) % 3 == 0) = true := by simp; omega
            have hd4 : ¬ (0 : Int) < (os.length : Int) := by omega
            have hd5 : decide ((0 : Int) < (os.length : Int)) = false := decide_eq_false hd4
            have HO0 : Hid _ := ho
            clear hd hd1 ho
            have hfb := hH.outs.first
            by_cases hfull : os.length < x.length
            · have HB : Hid (frstB x = true) := by show _ = _; rw [hfb]; exact decide_eq_true hfull
              obtain ⟨hf1, hf2⟩ := frstN_yes HB.out
              have HF1 : Hid _ := hf1
              obtain ⟨hO, hnot⟩ := hH.outs.take hf2
              obtain ⟨f, hf⟩ : ∃ f, frst x = f := ⟨_, rfl⟩
              rw [hf] at HF1 hf2 hO hnot
              have HF : Hid _ := hf
              have HO : Hid _ := hO
              have HNOT : Hid _ := hnot
              have HP1 : Hid (hasB (putL x f true) f = true) := has_put true hf2
              have HP2 : Hid ((mayB (putL x f true) f && !hasB (putL x f true) f) = false) := by show _ = _; rw [has_put true hf2]; simp
              have HP3 : Hid (putL (putL x f true) f true = putL x f true) := put_put x f true
              have hfm : (f : Int) < (m : Int) := by omega
              have hom : (os.length : Int) < (m : Int) := by omega
              have E1 : Hid (os.length + 1 ≤ maxLen) := by show _ ≤ _; unfold maxLen; omega
              have E2 : Hid ((os.length + 1) * 8 ≤ 140737488355328) := by show _ ≤ _; omega
              clear hfb hf1 hf hO hnot
              go_wp2_with fail
              refine (take_any _ hH.set).mono ?_
              rw [HB.out, HF1.out, HF.out]
              rintro e w2 ⟨rfl, s2, g2⟩
              have r2 := row_kept hH.row g2 hH.lo
              have bel2 := hH.set.step hH.bel hH.bel.size g2
              have hi2 : B ≤ w2.heap.size := Nat.le_trans hH.hi g2.size
              clear g2 hc
              have R2 : Hid (w2.ownsRow B 3 1 (.slice a6 os.length c6) os.length (iv os)) := r2
              clear r2
              go_wp2_with fail
              go_loop [11] (fun t => ∃ i : Nat, i ≤ os.length ∧ t = .int .i64 i) (fun t => os.length - (intOf t).toNat)
              case atStart => exact ⟨0, Nat.zero_le _, rfl⟩
              case round =>
                obtain ⟨i, hil, rfl⟩ := hrel
                by_cases hilt : i < os.length
                · obtain ⟨g6, rfl, hc6, _⟩ := row_at R2.out hilt
                  rw [iv_at os i hilt] at hc6
                  have hne : os.getD i 0 ≠ f := by
                    intro e
                    apply HNOT.out
                    rw [← e]
                    simp [List.getD, hilt]
                  generalize os.getD i 0 = d at *
                  have hne2 : ((d : Int) == (f : Int)) = false := by simp; omega
                  clear hne
                  go_wp2
                  go_round
                  case rel => exact ⟨i + 1, by omega, by go_num⟩
                  case measure => simp [intOf]; omega
                · have e : i = os.length := by omega
                  subst e
                  go_wp2_with (first | (go_at_call 9; refine (has_is _ _ s2 HP1.out).mono ?_; rintro e w' ⟨rfl, m3, rfl⟩) | (go_at_call 7; refine (put_any _ _ (s2.drewN m3)).mono ?_; rw [HP2.out, HP3.out]; rintro e w4 ⟨rfl, s4, g4⟩; obtain ⟨r4, hi4, bel4⟩ := after_put R2.out g4 hH.lo hi2 bel2 s2) | (at_builtin; refine wpList_append_own _ rfl _ _ 24 rfl B 3 i0 (.int .i64 0) 1 8 Try.underlying24 hi hz0 hz1 hz2 rfl (by decide) _ _ _ rfl (r4.alloc _) ⟨w4.heap.size, 0, none⟩ 1 1 [.int .i64 (f : Int)] rfl rfl (one_new w4 _) (one_one _) E1.out E2.out (hi_alloc hi4 _) ?_))
                  intro v5 w5 hown5 hgr5 _
                  have hH5 : Held w w5 B b g m v5 (os ++ [f]) (putL x f true) := by
                    have hk5 : ∀ i, i < B → w5.heap[i]? = w4.heap[i]? := by
                      intro i hi'
                      rw [hgr5.block i (by simp; omega) (by intro e; have := r4.lt i e.symm; omega)]
                      exact Below.heap_alloc w4 _ i (by omega)
                    have sz : w4.heap.size ≤ w5.heap.size := by
                      have h5 := hgr5.size
                      simp at h5
                      omega
                    refine ⟨s4.keep hH.lob hH.lo hk5, ?_, bel4.trans ⟨hgr5.os, hgr5.tape, hgr5.output, sz, fun i hi' => hk5 i (by have := hH.wB; omega)⟩, by omega, hH.lo, hH.lob, hH.wB, HO.out, by rw [len_putL]; exact hH.len⟩
                    rw [List.length_append]
                    have e2 : iv (os ++ [f]) = iv os ++ [.int .i64 (f : Int)] := by simp [iv]
                    rw [e2]
                    exact hown5
                  have HH5 : Hid _ := hH5
                  clear hH5 hown5 hgr5 s4 g4 r4
                  go_wp2
                  go_roundw
                  case rel => exact ⟨k + 1, _, _, by omega, by go_num, HH5.out⟩
                  case measure => simp [intOf]; omega
            · have HB : Hid (frstB x = false) := by show _ = _; rw [hfb]; exact decide_eq_false hfull
              have HP2 : Hid (putL x (frst x) true = x) := takeL_no HB.out
              have HZ1 : Hid (frstN x = 0) := frstN_no HB.out
              have hge : (m : Int) ≤ (os.length : Int) := by omega
              clear hfb
              go_wp2_with fail
              refine (take_any _ hH.set).mono ?_
              rw [HB.out, HZ1.out, HP2.out]
              rintro e w2 ⟨rfl, s2, g2⟩
              have hH2 : Held w w2 B b g m (.slice a6 os.length c6) os x := ⟨s2, row_kept hH.row g2 hH.lo, hH.set.step hH.bel hH.bel.size g2, Nat.le_trans hH.hi g2.size, hH.lo, hH.lob, hH.wB, hH.outs, hH.len⟩
              have HH2 : Hid _ := hH2
              clear hH2 s2 g2
              go_wp2
              go_roundw
              case rel => exact ⟨k + 1, _, _, by omega, by go_num, HH2.out⟩
              case measure => simp [intOf]; omega
          · have hd3 : ((q : Int) % 3 == 0) = false := by simp; omega
            clear hd hd1
            have hfb := hH.outs.first
            by_cases hfull : os.length < x.length
            · have HB : Hid (frstB x = true) := by show _ = _; rw [hfb]; exact decide_eq_true hfull
              obtain ⟨hf1, hf2⟩ := frstN_yes HB.out
              have HF1 : Hid _ := hf1
              obtain ⟨hO, hnot⟩ := hH.outs.take hf2
              obtain ⟨f, hf⟩ : ∃ f, frst x = f := ⟨_, rfl⟩
              rw [hf] at HF1 hf2 hO hnot
              have HF : Hid _ := hf
              have HO : Hid _ := hO
              have HNOT : Hid _ := hnot
              have HP1 : Hid (hasB (putL x f true) f = true) := has_put true hf2
              have HP2 : Hid ((mayB (putL x f true) f && !hasB (putL x f true) f) = false) := by show _ = _; rw [has_put true hf2]; simp
              have HP3 : Hid (putL (putL x f true) f true = putL x f true) := put_put x f true
              have hfm : (f : Int) < (m : Int) := by omega
              have hom : (os.length : Int) < (m : Int) := by omega
              have E1 : Hid (os.length + 1 ≤ maxLen) := by show _ ≤ _; unfold maxLen; omega
              have E2 : Hid ((os.length + 1) * 8 ≤ 140737488355328) := by show _ ≤ _; omega
              clear hfb hf1 hf hO hnot
              go_wp2_with fail
              refine (take_any _ hH.set).mono ?_
              rw [HB.out, HF1.out, HF.out]
              rintro e w2 ⟨rfl, s2, g2⟩
              have r2 := row_kept hH.row g2 hH.lo
              have bel2 := hH.set.step hH.bel hH.bel.size g2
              have hi2 : B ≤ w2.heap.size := Nat.le_trans hH.hi g2.size
              clear g2 hc
              have R2 : Hid (w2.ownsRow B 3 1 (.slice a6 os.length c6) os.length (iv os)) := r2
              clear r2
              go_wp2_with fail
              go_loop [11] (fun t => ∃ i : Nat, i ≤ os.length ∧ t = .int .i64 i) (fun t => os.length - (intOf t).toNat)
              case atStart => exact ⟨0, Nat.zero_le _, rfl⟩
              case round =>
                obtain ⟨i, hil, rfl⟩ := hrel
                by_cases hilt : i < os.length
                · obtain ⟨g6, rfl, hc6, _⟩ := row_at R2.out hilt
                  rw [iv_at os i hilt] at hc6
                  have hne : os.getD i 0 ≠ f := by
                    intro e
                    apply HNOT.out
                    rw [← e]
                    simp [List.getD, hilt]
                  generalize os.getD i 0 = d at *
                  have hne2 : ((d : Int) == (f : Int)) = false := by simp; omega
                  clear hne
                  go_wp2
                  go_round
                  case rel => exact ⟨i + 1, by omega, by go_num⟩
                  case measure => simp [intOf]; omega
                · have e : i = os.length := by omega
                  subst e
                  go_wp2_with (first | (go_at_call 9; refine (has_is _ _ s2 HP1.out).mono ?_; rintro e w' ⟨rfl, m3, rfl⟩) | (go_at_call 7; refine (put_any _ _ (s2.drewN m3)).mono ?_; rw [HP2.out, HP3.out]; rintro e w4 ⟨rfl, s4, g4⟩; obtain ⟨r4, hi4, bel4⟩ := after_put R2.out g4 hH.lo hi2 bel2 s2) | (at_builtin; refine wpList_append_own _ rfl _ _ 24 rfl B 3 i0 (.int .i64 0) 1 8 Try.underlying24 hi hz0 hz1 hz2 rfl (by decide) _ _ _ rfl (r4.alloc _) ⟨w4.heap.size, 0, none⟩ 1 1 [.int .i64 (f : Int)] rfl rfl (one_new w4 _) (one_one _) E1.out E2.out (hi_alloc hi4 _) ?_))
                  intro v5 w5 hown5 hgr5 _
                  have hH5 : Held w w5 B b g m v5 (os ++ [f]) (putL x f true) := by
                    have hk5 : ∀ i, i < B → w5.heap[i]? = w4.heap[i]? := by
                      intro i hi'
                      rw [hgr5.block i (by simp; omega) (by intro e; have := r4.lt i e.symm; omega)]
                      exact Below.heap_alloc w4 _ i (by omega)
                    have sz : w4.heap.size ≤ w5.heap.size := by
                      have h5 := hgr5.size
                      simp at h5
                      omega
                    refine ⟨s4.keep hH.lob hH.lo hk5, ?_, bel4.trans ⟨hgr5.os, hgr5.tape, hgr5.output, sz, fun i hi' => hk5 i (by have := hH.wB; omega)⟩, by omega, hH.lo, hH.lob, hH.wB, HO.out, by rw [len_putL]; exact hH.len⟩
                    rw [List.length_append]
                    have e2 : iv (os ++ [f]) = iv os ++ [.int .i64 (f : Int)] := by simp [iv]
                    rw [e2]
                    exact hown5
                  have HH5 : Hid _ := hH5
                  clear hH5 hown5 hgr5 s4 g4 r4
                  go_wp2
                  go_roundw
                  case rel => exact ⟨k + 1, _, _, by omega, by go_num, HH5.out⟩
                  case measure => simp [intOf]; omega
            · have HB : Hid (frstB x = false) := by show _ = _; rw [hfb]; exact decide_eq_false hfull
              have HP2 : Hid (putL x (frst x) true = x) := takeL_no HB.out
              have HZ1 : Hid (frstN x = 0) := frstN_no HB.out
              have hge : (m : Int) ≤ (os.length : Int) := by omega
              clear hfb
              go_wp2_with fail
              refine (take_any _ hH.set).mono ?_
              rw [HB.out, HZ1.out, HP2.out]
              rintro e w2 ⟨rfl, s2, g2⟩
              have hH2 : Held w w2 B b g m (.slice a6 os.length c6) os x := ⟨s2, row_kept hH.row g2 hH.lo, hH.set.step hH.bel hH.bel.size g2, Nat.le_trans hH.hi g2.size, hH.lo, hH.lob, hH.wB, hH.outs, hH.len⟩
              have HH2 : Hid _ := hH2
              clear hH2 s2 g2
              go_wp2
              go_roundw
              case rel => exact ⟨k + 1, _, _, by omega, by go_num, HH2.out⟩
              case measure => simp [intOf]; omega
      · have e : k = L := by omega
        subst e
        have HC : Hid ((allL x).length = os.length) := by show _ = _; rw [allL_count, hH.outs.len]
        go_wp2_with (first | (go_at_call 11; refine (len_is _ hH.set HC.out).mono ?_; rintro e w' ⟨rfl, rfl⟩) | (go_at_call 12; refine (lives_any _).mono ?_; rintro e w5 ⟨rfl, b5⟩))
        go_ret
        exact ⟨rfl, hH.bel.trans (b5.mono hH.bel.size)⟩

theorem walk {H : Type} {enc : TypeId × Value → H} {w : World} {base : Nat} {v0 v1 : Value} {d0 d1 : DataW H} {p0 p1 : List MemPlace}
    (o0 : Value.okWide Try.prog w .any base 5 v0) (o1 : Value.okWide Try.prog w .any base 43 v1)
    (h0 : DataW.Trod enc Try.prog w 0 (fun _ => true) true 5 v0 d0 p0) (h1 : DataW.Trod enc Try.prog w 0 (fun _ => true) true 43 v1 d1 p1) :
    Calls Try.prog 5 #[v0, v1] w fun e w' => e = .returned (.bool true) ∧ Below w.heap.size w w' := by
  obtain ⟨z, rfl, hz⟩ := openOne Try.underlying5 o0 h0
  have hb := bounds_u8 hz
  obtain ⟨m, rfl⟩ := Int.eq_ofNat_of_zero_le hb.1
  obtain ⟨a, L, c, zs, rfl, hzl, hL, hzs, h8⟩ := openList Try.underlying43 Try.underlying5 (by kernel_rfl) o1 h1
  exact run m a L c zs w (by omega) hzl hL hzs (fun y hy => by have := bounds_u8 (h8 y hy); omega)

set_option maxRecDepth 100000 in
theorem lifted (os : Os) (started : os.Started) (H : Type) (enc : TypeId × Value → H) :
    ReturnsInHanded {} Try.checked os 5 .any (Rows.bitsTakesSpec.pre6 enc Try.prog Try.f5 Rows.bitsTakesRow.domain false) (Rows.bitsTakesSpec.post enc Try.prog Try.f5 false true false false) := by
  refine returnsInHanded_of_change (C := Try.checked) own started (by kernel_rfl) Try.func5
    (ChangeSpec.witness6 (enc := enc) (C := Try.checked) false ⟨#[], #[.int .u8 0, .slice none 0 0], []⟩ 8 (by kernel_rfl) (by kernel_rfl) (by kernel_rfl) (by kernel_rfl)) ?_
  intro W base args ds gs before hval0 hW hcnd _
  have hval : ∀ (j : Nat) t v, Try.f5.params[j]? = some t → args[j]? = some v → Value.okWide Try.prog W .any base t v := hval0
  have hW' := hW
  obtain ⟨p, q, hA0, hV, rfl, hfz, hnd⟩ := hW
  have hA : DataW.TrodAll enc Try.prog W 0 (fun _ => true) true Try.f5.params.toList args.toList ds p := hA0
  rw [Try.params5] at hA hval
  obtain ⟨v0, vs0, d0, ds0, p0, q0, hargs, rfl, rfl, h0, r0⟩ := trodAll_cons hA
  obtain ⟨v1, vs1, d1, ds1, p1, q1, rfl, rfl, rfl, h1, r1⟩ := trodAll_cons r0
  obtain ⟨rfl, rfl, rfl⟩ := trodAll_nil r1
  obtain rfl : args = #[v0, v1] := by cases args; simp_all
  obtain ⟨rfl, rfl⟩ := trodVars_none hV
  have o0 := hval 0 5 v0 rfl rfl
  have lt0 : ∀ x ∈ p0, x.block < W.heap.size := by obtain ⟨m, hm⟩ := h0; exact DataW.trod_lt m _ _ _ hm
  have o1 := hval 1 43 v1 rfl rfl
  have lt1 : ∀ x ∈ p1, x.block < W.heap.size := by obtain ⟨m, hm⟩ := h1; exact DataW.trod_lt m _ _ _ hm
  clear hA0 hval0
  refine (walk o0 o1 h0 h1).mono fun e W' ⟨he, bel⟩ => ?_
  subst he
  exact ⟨_, rfl, _, _, _, [], _, [], hW', trodAll_mk1 (shut_bool Try.underlying4 _), (trodAll_cons_mk (Below.trod laidOut (by kernel_rfl) (of_decide_eq_true (by kernel_rfl)) h0 bel lt0) (trodAll_cons_mk (Below.trod laidOut (by kernel_rfl) (of_decide_eq_true (by kernel_rfl)) h1 bel lt1) trodAll_mk0)), rfl, bel.frame _, fun h => by cases h⟩

theorem over : Rows.bitsTakesRow.holds Try.pinned (OpenSpec.ofChange Rows.bitsTakesSpec) :=
  OpenClaim.holds_of_wide 5 Try.f5 rfl rfl rfl rfl rfl rfl rfl ⟨rfl, rfl, rfl, rfl, rfl⟩ rfl rfl rfl rfl rfl (by kernel_rfl) Try.func5 (by kernel_rfl)
    (of_decide_eq_true (by kernel_rfl)) (by unfold Func.isWrapper; first | (rw [if_pos (by decide +kernel)]; kernel_rfl) | (rw [if_neg (by decide +kernel)]; exact ⟨rfl, rfl⟩))
    (fun os started H enc _ => lifted os started H enc)
end Go.Proofs.Ytnihgibgfnhbiaa.BitsTakes
namespace Go.Proofs.Ytnihgibgfnhbiaa
/-- The statement. -/
theorem bitsTakes_holds : Rows.BitsTakesSaid := BitsTakes.over
#print axioms bitsTakes_holds
end Go.Proofs.Ytnihgibgfnhbiaa
