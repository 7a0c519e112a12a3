/- Proved: gunnylaw05.FramesCount returns true for all lists of deeds and all lists of ints: however often, and in whatever order, owners are told, each frame is counted once. No conditions. -/
import Derived.Test.YtngehhpaegljcaaFLives
import Derived.Test.YtngehhpaegljcaaFCount
import Derived.Test.YtngehhpaegljcaaBDeeds
import Derived.Deep.LoopGhost
namespace Go.Proofs.Ytngehhpaegljcaa.FramesCount
open Go.ChangeShapes Go.WideShapes Go.ChangeAt Go.RowKit
set_option linter.unusedVariables false
theorem own : ownKnob Try.prog.godebug = none := by kernel_rfl
theorem laidOut : laidOutB Try.prog = true := by kernel_rfl
/-- The first rounds' state. -/
structure Held (w wr : World) (E : Nat) (p : Option Addr) (k t : Nat) (O : List Int) (S : List Nat) : Prop where
  fr : FramesP w.heap.size E wr p 16 t O S
  bel : Below w.heap.size w wr
  tk : t ≤ k
theorem Held.turn {w wr w2 : World} {E k t : Nat} {p : Option Addr} {O O' : List Int} {S S' : List Nat} {b : Bool} (h : Held w wr E p k t O S) (h2 : FramesP w.heap.size E w2 p 16 (up t b) O' S') (ht : Turns w.heap.size E wr w2) : Held w w2 E p (k + 1) (up t b) O' S' :=
  ⟨h2, h.bel.trans (ht.below h.bel.size), by have := h.tk; unfold up; split <;> omega⟩
theorem later_at {k : IntKind} {w w' : World} {a : Option Addr} {zs : List Int} (h : IntsAt k w a zs) (hb : Below w.heap.size w w') {i : Nat} (hi : i < zs.length) :
    ∃ b off, a = some ⟨b, off, none⟩ ∧ b < w.heap.size ∧ w'.cell? ⟨b, off + i, none⟩ = some (.int k (zs.getD i 0)) := by
  rcases h with rfl | ⟨b, off, rfl, hlt, hc⟩
  · simp at hi
  · exact ⟨b, off, rfl, hlt, by rw [hb.cell (p := ⟨b, off + i, none⟩) hlt]; exact hc i hi⟩
theorem ints_below {k : IntKind} {w w' : World} {a : Option Addr} {zs : List Int} (h : IntsAt k w a zs) (hb : Below w.heap.size w w') : IntsAt k w' a zs := by
  rcases h with rfl | ⟨b, off, rfl, hlt, hc⟩
  · exact .inl rfl
  · exact .inr ⟨b, off, rfl, Nat.lt_of_lt_of_le hlt hb.size, fun i hi => by rw [hb.cell (p := ⟨b, off + i, none⟩) hlt]; exact hc i hi⟩
/-- The later rounds' state. -/
def Seen (w wr : World) (E : Nat) (p : Option Addr) (t : Nat) (O : List Int) (S : List Nat) : Prop := FramesP w.heap.size E wr p 16 t O S ∧ Below w.heap.size w wr
theorem Seen.drewN {w wr : World} {E t : Nat} {p : Option Addr} {O : List Int} {S : List Nat} (h : Seen w wr E p t O S) (n : Nat) : Seen w (wr.drewN n) E p t O S := ⟨h.1.drewN n, h.2.trans (drewN_below _ _ _)⟩
/-- Is q among the first i of zs? -/
def amg (zs : List Int) (q : Int) (i : Nat) : Bool := decide (q ∈ zs.take i)
theorem amg_next {zs : List Int} {q : Int} {i : Nat} (hi : i < zs.length) : amg zs q (i + 1) = (amg zs q i || (q == zs.getD i 0)) := by
  unfold amg
  rw [take_next hi]
  by_cases h1 : q ∈ zs.take i
  · simp [h1]
  · simp only [List.mem_append, h1, false_or, List.mem_singleton, decide_false, Bool.false_or]
    by_cases h2 : q = zs.getD i 0
    · rw [decide_eq_true h2, h2, beq_self_eq_true]
    · rw [decide_eq_false h2]; exact (beq_eq_false_iff_ne.2 h2).symm
theorem amg_all {zs : List Int} {q : Int} : amg zs q zs.length = decide (q ∈ zs) := by unfold amg; rw [List.take_length]

set_option maxRecDepth 100000 in
set_option maxHeartbeats 4000000 in
theorem run (a : Option Addr) (L c : Nat) (K N : Nat → Int) (a2 : Option Addr) (L2 c2 : Nat) (zs : List Int) (w : World) (hL : L ≤ maxLen) (hL2 : L2 ≤ maxLen) (hd : PairsAt w a L K N) (hzl : zs.length = L2) (hz : IntsAt .i64 w a2 zs) :
    Calls Try.prog 5 #[.slice a L c, .slice a2 L2 c2] w fun e w' => e = .returned (.bool true) ∧ Below w.heap.size w w' := by
  unfold maxLen at hL hL2
  by_cases hlong : 200 < L
  · go_enter Try.func5, Try.ntmps5
    go_wp2_with fail
    refine (lives_any _).mono ?_
    rintro e w1 ⟨rfl, hb⟩
    go_wp2
    go_ret
    exact ⟨rfl, hb⟩
  by_cases hlong2 : 50 < L2
  · go_enter Try.func5, Try.ntmps5
    go_wp2_with fail
    refine (lives_any _).mono ?_
    rintro e w1 ⟨rfl, hb⟩
    go_wp2
    go_ret
    exact ⟨rfl, hb⟩
  have HD : Hid (PairsAt w a L K N) := hd
  have HZ : Hid (IntsAt .i64 w a2 zs) := hz
  have HZL : Hid (zs.length = L2) := hzl
  clear hd hz hzl
  go_enter Try.func5, Try.ntmps5
  go_wp2_with fail
  refine (new_any 16 (by omega) (by omega) _).mono ?_
  rintro e w1 ⟨p, rfl, h1, b1⟩
  have HH : Hid (Held w w1 w1.heap.size p 0 0 _ _) := ⟨h1, b1, Nat.le_refl _⟩
  clear h1 b1
  generalize w1.heap.size = E at *
  go_wp2_with fail
  go_loopw [7] (fun i wr => ∃ (k t : Nat) (O : List Int) (S : List Nat), k ≤ L ∧ i = .int .i64 k ∧ Held w wr E p k t O S) (fun i _ => L - (intOf i).toNat)
  case atStart => exact ⟨0, 0, _, _, Nat.zero_le _, rfl, HH.out⟩
  case round =>
    obtain ⟨k, t, O, S, hk, rfl, hH⟩ := hrel
    by_cases hlt : k < L
    · obtain ⟨bz, off, rfl, hbz, hcK, hcN⟩ := HD.out.later hH.bel hlt
      generalize K k = n at *
      generalize N k = o at *
      have htk := hH.tk
      by_cases hn : 0 ≤ n
      · go_wp2_with fail
        refine (give_any n _ hH.fr (by omega)).mono ?_
        rintro e w2 ⟨rfl, h2, t2⟩
        have H2 : Hid _ := hH.turn h2 t2
        clear h2 t2 hcK hcN
        go_wp2
        go_roundw
        case rel => exact ⟨k + 1, _, _, _, by omega, by go_num, H2.out⟩
        case measure => simp [intOf]; omega
      · have hn2 : n < 0 := by omega
        go_wp2_with fail
        refine (take_any o _ hH.fr (by omega)).mono ?_
        rintro e w2 ⟨rfl, h2, t2⟩
        have H2 : Hid _ := hH.turn h2 t2
        clear h2 t2 hcK hcN
        go_wp2
        go_roundw
        case rel => exact ⟨k + 1, _, _, _, by omega, by go_num, H2.out⟩
        case measure => simp [intOf]; omega
    · have e : k = L := by omega
      subst e
      have HF : Hid (FramesP w.heap.size E wr p 16 t O S) := hH.fr
      have HBL : Hid (Below w.heap.size w wr) := hH.bel
      have HOL : Hid (O.length = 16) := hH.fr.good.len
      clear hH HH
      go_wp2_with fail
      go_loopg [8, 9, 10, 11] 16 (fun gk x i _ _ wq => ∃ n : Nat, n ≤ 16 ∧ gk = 16 - n ∧ x = .int .i64 (cntTo O zs n : Nat) ∧ i = .int .i64 n ∧ Seen w wq E p t O S)
      case atStart => exact ⟨0, by omega, rfl, rfl, rfl, ⟨HF.out, HBL.out⟩⟩
      case round =>
        obtain ⟨n, hn, rfl, rfl, rfl, hso⟩ := hrel
        have HSO : Hid (Seen w wr E p t O S) := hso
        clear hso
        have hcl := cntTo_le O zs n
        by_cases hlt : n < 16
        · obtain ⟨q, hq⟩ : ∃ q, O.getD n 0 = q := ⟨_, rfl⟩
          have HQ : Hid (ownI O (n : Int) = q) := by show _ = _; rw [ownI_nat]; exact hq
          have HQ2 : Hid (O.getD n 0 = q) := hq
          clear hq
          generalize hC : cntTo O zs n = C at *
          have HC : Hid _ := hC
          clear hC
          go_wp2_with fail
          go_loopg [10, 11] L2 (fun gk b i wq => ∃ j : Nat, j ≤ L2 ∧ gk = L2 - j ∧ b = .bool (amg zs q j) ∧ i = .int .i64 j ∧ Seen w wq E p t O S)
          case atStart => exact ⟨0, Nat.zero_le _, rfl, rfl, rfl, HSO.out⟩
          case round =>
            obtain ⟨j, hj, rfl, rfl, rfl, hsi⟩ := hrel
            have HSI : Hid (Seen w wr E p t O S) := hsi
            clear hsi
            by_cases hj2 : j < L2
            · obtain ⟨bz, off, rfl, hbz, cz⟩ := later_at HZ.out HSI.out.2 (i := j) (by have := HZL.out; omega)
              have hnx := amg_next (zs := zs) (q := q) (i := j) (by rw [HZL.out]; exact hj2)
              have HNX : Hid _ := hnx
              generalize zs.getD j 0 = z at *
              have i1 : (j : Int) < (L2 : Int) := by omega
              cases hA : amg zs q j with
              | true =>
                have HNY : Hid (amg zs q (j + 1) = true) := by show _ = _; rw [HNX.out, hA]; rfl
                clear hA hnx cz
                go_wp2_with fail
                go_quiet ((go_at_call 8; exact quietSame (owner_is _ _ (HSI.out.1.drewN _) HQ.out)))
                go_wp2
                go_roundg (L2 - (j + 1))
                case measure => omega
                case rel => exact ⟨j + 1, by omega, rfl, by rw [HNY.out], by go_num, HSI.out.drewN _⟩
              | false =>
                have HNY : Hid (amg zs q (j + 1) = (q == z)) := by show _ = _; rw [HNX.out, hA]; rfl
                clear hA hnx
                go_wp2_with fail
                go_quiet ((go_at_call 8; exact quietSame (owner_is _ _ (HSI.out.1.drewN _) HQ.out)))
                go_wp2
                go_roundg (L2 - (j + 1))
                case measure => omega
                case rel => exact ⟨j + 1, by omega, rfl, by rw [HNY.out], by go_num, HSI.out.drewN _⟩
            · have e : j = L2 := by omega
              subst e
              have hfin : amg zs q j = decide (q ∈ zs) := by rw [← HZL.out]; exact amg_all
              by_cases hin : q ∈ zs
              · rw [hfin, decide_eq_true hin]
                have HT : Hid (cntTo O zs (n + 1) = C + 1) := by show _ = _; rw [cntTo_yes (by rw [HQ2.out]; exact hin), HC.out]
                clear hfin hin
                go_wp2
                go_roundg (16 - (n + 1))
                case measure => omega
                case rel => exact ⟨n + 1, by omega, rfl, by rw [HT.out]; go_num, by go_num, HSI.out⟩
              · rw [hfin, decide_eq_false hin]
                have HT : Hid (cntTo O zs (n + 1) = C) := by show _ = _; rw [cntTo_no (by rw [HQ2.out]; exact hin), HC.out]
                clear hfin hin
                go_wp2
                go_roundg (16 - (n + 1))
                case measure => omega
                case rel => exact ⟨n + 1, by omega, rfl, by rw [HT.out], by go_num, HSI.out⟩
        · have e : n = 16 := by omega
          subst e
          have hb2 : Below w.heap.size w wr := HSO.out.2
          have HCN : Hid (cnt O zs = cntTo O zs 16) := by show _ = _; rw [cnt, HOL.out]
          have HF2 : Hid (FramesP w.heap.size E wr p 16 t O S) := HSO.out.1
          have HI : Hid (IntsAt .i64 wr a2 zs) := ints_below HZ.out hb2
          generalize cntTo O zs 16 = C at *
          have hCC : ((C : Int) == (C : Int)) = true := beq_self_eq_true _
          go_wp2_with fail
          refine (count_is _ HF2.out HI.out HZL.out (by omega) HCN.out).mono ?_
          rintro e w6 ⟨rfl, b6⟩
          go_wp2_with fail
          refine (lives_any _).mono ?_
          rintro e w7 ⟨rfl, b7⟩
          go_wp2
          go_ret
          exact ⟨rfl, hb2.trans ((b6.mono hb2.size).trans (b7.mono (Nat.le_trans hb2.size b6.size)))⟩

theorem walk {H : Type} {enc : TypeId × Value → H} {w : World} {base : Nat} {v0 v1 : Value} {d0 d1 : DataW H} {p0 p1 : List MemPlace}
    (o0 : Value.okWide Try.prog w .any base 22 v0) (o1 : Value.okWide Try.prog w .any base 29 v1)
    (h0 : DataW.Trod enc Try.prog w 0 (fun _ => true) true 22 v0 d0 p0) (h1 : DataW.Trod enc Try.prog w 0 (fun _ => true) true 29 v1 d1 p1) :
    Calls Try.prog 5 #[v0, v1] w fun e w' => e = .returned (.bool true) ∧ Below w.heap.size w w' := by
  obtain ⟨a, L, c, K, N, rfl, hL, hd⟩ := openPairs Try.underlying22 Try.underlying41 (by kernel_rfl) rfl rfl (by kernel_rfl) (by kernel_rfl) Try.underlying3 Try.underlying3 o0 h0
  obtain ⟨a2, L2, c2, zs, rfl, hzl, hL2, hz, _⟩ := openList Try.underlying29 Try.underlying3 (by kernel_rfl) o1 h1
  exact run a L c K N a2 L2 c2 zs w hL hL2 hd hzl hz

set_option maxRecDepth 100000 in
theorem lifted (os : Os) (started : os.Started) (H : Type) (enc : TypeId × Value → H) :
    ReturnsInHanded {} Try.checked os 5 .any (Rows.framesCountSpec.pre6 enc Try.prog Try.f5 Rows.framesCountRow.domain false) (Rows.framesCountSpec.post enc Try.prog Try.f5 false true false false) := by
  refine returnsInHanded_of_change (C := Try.checked) own started (by kernel_rfl) Try.func5
    (ChangeSpec.witness6 (enc := enc) (C := Try.checked) false ⟨#[], #[.slice none 0 0, .slice none 0 0], []⟩ 8 (by kernel_rfl) (by kernel_rfl) (by kernel_rfl) (by kernel_rfl)) ?_
  intro W base args ds gs before hval0 hW hcnd _
  have hval : ∀ (j : Nat) t v, Try.f5.params[j]? = some t → args[j]? = some v → Value.okWide Try.prog W .any base t v := hval0
  have hW' := hW
  obtain ⟨p, q, hA0, hV, rfl, hfz, hnd⟩ := hW
  have hA : DataW.TrodAll enc Try.prog W 0 (fun _ => true) true Try.f5.params.toList args.toList ds p := hA0
  rw [Try.params5] at hA hval
  obtain ⟨v0, vs0, d0, ds0, p0, q0, hargs, rfl, rfl, h0, r0⟩ := trodAll_cons hA
  obtain ⟨v1, vs1, d1, ds1, p1, q1, rfl, rfl, rfl, h1, r1⟩ := trodAll_cons r0
  obtain ⟨rfl, rfl, rfl⟩ := trodAll_nil r1
  obtain rfl : args = #[v0, v1] := by cases args; simp_all
  obtain ⟨rfl, rfl⟩ := trodVars_none hV
  have o0 := hval 0 22 v0 rfl rfl
  have lt0 : ∀ x ∈ p0, x.block < W.heap.size := by obtain ⟨m, hm⟩ := h0; exact DataW.trod_lt m _ _ _ hm
  have o1 := hval 1 29 v1 rfl rfl
  have lt1 : ∀ x ∈ p1, x.block < W.heap.size := by obtain ⟨m, hm⟩ := h1; exact DataW.trod_lt m _ _ _ hm
  clear hA0 hval0
  refine (walk o0 o1 h0 h1).mono fun e W' ⟨he, bel⟩ => ?_
  subst he
  exact ⟨_, rfl, _, _, _, [], _, [], hW', trodAll_mk1 (shut_bool Try.underlying4 _), (trodAll_cons_mk (Below.trod laidOut (by kernel_rfl) (of_decide_eq_true (by kernel_rfl)) h0 bel lt0) (trodAll_cons_mk (Below.trod laidOut (by kernel_rfl) (of_decide_eq_true (by kernel_rfl)) h1 bel lt1) trodAll_mk0)), rfl, bel.frame _, fun h => by cases h⟩

theorem over : Rows.framesCountRow.holds Try.pinned (OpenSpec.ofChange Rows.framesCountSpec) :=
  OpenClaim.holds_of_wide 5 Try.f5 rfl rfl rfl rfl rfl rfl rfl ⟨rfl, rfl, rfl, rfl, rfl⟩ rfl rfl rfl rfl rfl (by kernel_rfl) Try.func5 (by kernel_rfl)
    (of_decide_eq_true (by kernel_rfl)) (by unfold Func.isWrapper; first | (rw [if_pos (by decide +kernel)]; kernel_rfl) | (rw [if_neg (by decide +kernel)]; exact ⟨rfl, rfl⟩))
    (fun os started H enc _ => lifted os started H enc)
end Go.Proofs.Ytngehhpaegljcaa.FramesCount
namespace Go.Proofs.Ytngehhpaegljcaa
/-- The statement. -/
theorem framesCount_holds : Rows.FramesCountSaid := FramesCount.over
#print axioms framesCount_holds
end Go.Proofs.Ytngehhpaegljcaa
