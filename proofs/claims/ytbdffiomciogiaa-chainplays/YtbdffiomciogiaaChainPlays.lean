/- Proved: gunnylaw03.ChainPlays returns true for all sizes and all lists of ints: what any calls of a chain answer, and its order behind each, is the document's; a chain that isn't there has nothing. No conditions. -/
import Derived.Test.YtbdffiomciogiaaCSame
import Derived.Test.YtbdffiomciogiaaCLives
import Derived.Test.YtbdffiomciogiaaBOpen
namespace Go.Proofs.Ytbdffiomciogiaa.ChainPlays
open Go.ChangeShapes Go.WideShapes Go.ChangeAt Go.RowKit
set_option linter.unusedVariables false
theorem own : ownKnob Try.prog.godebug = none := by kernel_rfl
theorem laidOut : laidOutB Try.prog = true := by kernel_rfl
theorem later_at {k : IntKind} {w w' : World} {a : Option Addr} {zs : List Int} (h : IntsAt k w a zs) (hb : Below w.heap.size w w') {i : Nat} (hi : i < zs.length) :
    ∃ b off, a = some ⟨b, off, none⟩ ∧ b < w.heap.size ∧ w'.cell? ⟨b, off + i, none⟩ = some (.int k (zs.getD i 0)) := by
  rcases h with rfl | ⟨b, off, rfl, hlt, hc⟩
  · simp at hi
  · exact ⟨b, off, rfl, hlt, by rw [hb.cell (p := ⟨b, off + i, none⟩) hlt]; exact hc i hi⟩

set_option maxRecDepth 100000 in
set_option maxHeartbeats 1000000 in
theorem run_far (size : Int) (a : Option Addr) (L c : Nat) (w : World) (hL : L ≤ maxLen) (hlong : 100 < L) :
    Calls Try.prog 3 #[.int .i64 size, .slice a L c] w fun e w' => e = .returned (.bool true) ∧ Below w.heap.size w w' := by
  unfold maxLen at hL
  have hnil : ∀ w', ChainP w.heap.size w.heap.size w' none 0 [] := fun _ => .inl ⟨rfl, rfl, rfl⟩
  have HNIL : Hid _ := hnil
  have P0 : Hid (mayC 0 0 = false) := rfl
  have D0 : Hid (decide ((0 : Nat) ∈ ([] : List Nat)) = false) := rfl
  clear hnil
  go_enter Try.func3, Try.ntmps3
  go_wp2_with fail
  refine (all_any (-1) _ (HNIL.out w)).mono ?_
  rw [upTo_neg]
  rintro e w0 ⟨v0, rfl, r0, b0⟩
  obtain ⟨a0, c0, rfl⟩ := row_slice r0
  have B0 : Hid (Below w.heap.size w w0) := b0
  clear r0 b0
  go_wp2_with fail
  refine (push_any 0 _ (HNIL.out w0)).mono ?_
  rw [P0.out]
  rintro e w1 ⟨rfl, _, t1⟩
  go_wp2_with fail
  refine (drop_any 0 _ (HNIL.out w1)).mono ?_
  rw [D0.out]
  rintro e w2 ⟨rfl, _, t2⟩
  go_wp2_with fail
  refine (has_is 0 _ (HNIL.out w2) D0.out).mono ?_
  rintro e w' ⟨rfl, rfl⟩
  go_wp2_with fail
  refine (len_any _ (HNIL.out w2)).mono ?_
  rintro e w' ⟨rfl, rfl⟩
  have b2 : Below w.heap.size w w2 := (B0.out.trans t1.below).trans t2.below
  clear t1 t2
  go_wp2_with fail
  refine (lives_any _).mono ?_
  rintro e w5 ⟨rfl, b5⟩
  go_wp2
  go_ret
  exact ⟨rfl, b2.trans (b5.mono b2.size)⟩

/-- The round's state: the chain and the document's list. -/
structure Both (w wr : World) (B E m : Nat) (p : Option Addr) (v : Value) (x : List Nat) : Prop where
  chain : ChainP B E wr p m x
  row : wr.ownsRow E 3 1 v x.length (iv x)
  bel : Below w.heap.size w wr
  hi : E ≤ wr.heap.size
  wB : w.heap.size ≤ B
theorem Both.on {w wr w2 : World} {B E m : Nat} {p : Option Addr} {v : Value} {x : List Nat} (h : Both w wr B E m p v x) (hb : Below wr.heap.size wr w2) : Both w w2 B E m p v x :=
  ⟨h.chain.below hb, row_below h.row hb, h.bel.trans (hb.mono h.bel.size), Nat.le_trans h.hi hb.size, h.wB⟩
theorem Both.turn {w wr w2 w3 : World} {B E m : Nat} {p : Option Addr} {v v' : Value} {x y : List Nat} (h : Both w wr B E m p v x) (h2 : ChainP B E w2 p m y) (t : Turns B E wr w2) (hb : Below w2.heap.size w2 w3) (hr : w3.ownsRow E 3 1 v' y.length (iv y)) : Both w w3 B E m p v' y :=
  have b2 := h.bel.trans (t.below.mono h.wB)
  ⟨h2.below hb, hr, b2.trans (hb.mono b2.size), Nat.le_trans h.hi (Nat.le_trans (Nat.le_of_eq t.size.symm) hb.size), h.wB⟩
theorem same_at {w wr : World} {B E m : Nat} {p : Option Addr} {v v' : Value} {x : List Nat} (hB : Both w wr B E m p v x) {n : Nat} (hv : v = v') :
    Calls Try.prog 16 #[.pointer p, v', .int .i64 n] wr fun e w' => e = .returned (.bool true) ∧ Below wr.heap.size wr w' := by
  subst hv
  exact same_any n wr hB.chain hB.row

set_option maxRecDepth 100000 in
set_option maxHeartbeats 1000000 in
theorem run_near (size : Int) (a : Option Addr) (L c : Nat) (zs : List Int) (w : World) (hL : L ≤ 100) (hzl : zs.length = L) (hz : IntsAt .i64 w a zs) (hzb : ∀ z ∈ zs, -9223372036854775808 ≤ z ∧ z ≤ 9223372036854775807) :
    Calls Try.prog 3 #[.int .i64 size, .slice a L c] w fun e w' => e = .returned (.bool true) ∧ Below w.heap.size w w' := by
  have HZ : Hid (IntsAt .i64 w a zs) := hz
  have HZL : Hid _ := hzl
  have HZB : Hid _ := hzb
  clear hz hzl hzb
  have hnil : ∀ w', ChainP w.heap.size w.heap.size w' none 0 [] := fun _ => .inl ⟨rfl, rfl, rfl⟩
  have HNIL : Hid _ := hnil
  have P0 : Hid (mayC 0 0 = false) := rfl
  have D0 : Hid (decide ((0 : Nat) ∈ ([] : List Nat)) = false) := rfl
  clear hnil
  go_enter Try.func3, Try.ntmps3
  go_wp2_with fail
  refine (all_any (-1) _ (HNIL.out w)).mono ?_
  rw [upTo_neg]
  rintro e w0 ⟨v0, rfl, r0, b0⟩
  obtain ⟨a0, c0, rfl⟩ := row_slice r0
  have B0 : Hid (Below w.heap.size w w0) := b0
  clear r0 b0
  go_wp2_with fail
  refine (push_any 0 _ (HNIL.out w0)).mono ?_
  rw [P0.out]
  rintro e w1 ⟨rfl, _, t1⟩
  go_wp2_with fail
  refine (drop_any 0 _ (HNIL.out w1)).mono ?_
  rw [D0.out]
  rintro e w2 ⟨rfl, _, t2⟩
  go_wp2_with fail
  refine (has_is 0 _ (HNIL.out w2) D0.out).mono ?_
  rintro e w' ⟨rfl, rfl⟩
  go_wp2_with fail
  refine (len_any _ (HNIL.out w2)).mono ?_
  rintro e w' ⟨rfl, rfl⟩
  have b2 : Below w.heap.size w w2 := (B0.out.trans t1.below).trans t2.below
  clear t1 t2
  go_wp2_with fail
  refine (new_any size _).mono ?_
  rintro e w3 ⟨p, rfl, h3, b3⟩
  have hm := szN_le size
  have hB : Both w w3 w2.heap.size w3.heap.size (szN size) p (.slice none 0 0) [] := ⟨h3, World.ownsRow_nil _ _ _ _, b2.trans (b3.mono b2.size), Nat.le_refl _, b2.size⟩
  have HB : Hid _ := hB
  have hsz := fun w => refSize_any size w
  have HSZ : Hid _ := hsz
  clear hB h3 b3 b2 hsz
  generalize w2.heap.size = B at *
  generalize w3.heap.size = E at *
  generalize szN size = m at *
  go_wp2_with fail
  go_loopw [9, 10, 11, 12, 13] (fun v i _ _ _ wr => ∃ (k : Nat) (x : List Nat), k ≤ L ∧ i = .int .i64 k ∧ Both w wr B E m p v x) (fun _ i _ _ _ _ => L - (intOf i).toNat)
  case atStart => exact ⟨0, _, Nat.zero_le _, rfl, HB.out⟩
  case round =>
    obtain ⟨k, x, hk, rfl, hB⟩ := hrel
    have hlen := hB.chain.len
    have hx4 : x.length ≤ 4096 := by omega
    obtain ⟨a9, c9, rfl⟩ := row_slice hB.row
    by_cases hlt : k < L
    · obtain ⟨bz, off, rfl, hbz, hc⟩ := later_at HZ.out hB.bel (i := k) (by have := HZL.out; omega)
      have hzb := HZB.out (zs.getD k 0) (by
        have : k < zs.length := by have := HZL.out; omega
        simp [List.getD, this])
      generalize zs.getD k 0 = z at *
      by_cases hz0 : z < 0
      · obtain ⟨q, hq⟩ : ∃ q : Nat, -(z + 1) = (q : Int) := ⟨(-(z + 1)).toNat, by omega⟩
        have HQ : Hid _ := hq
        obtain ⟨d, hd⟩ : ∃ d, decide (q ∈ x) = d := ⟨_, rfl⟩
        have HD : Hid _ := hd
        have hdd : (d != d) = false := by cases d <;> rfl
        clear hq hd
        go_wp2_with fail
        rw [HQ.out]
        refine (drop_any q _ hB.chain).mono ?_
        rw [HD.out]
        rintro e w2 ⟨rfl, h2, t2⟩
        have x2 := t2.row hB.row (Nat.le_refl _)
        have hi2 : E ≤ w2.heap.size := by rw [t2.size]; exact hB.hi
        go_wp2_with fail
        refine (refDrop_any q _ x2 hx4 hi2).mono ?_
        rw [HD.out]
        rintro e w3 ⟨v3, rfl, r3, b3⟩
        clear x2 hi2
        have hB3 := hB.turn h2 t2 b3 r3
        obtain ⟨a3, c3, rfl⟩ := row_slice r3
        have HB3 : Hid (Both w w3 B E m p (.slice a3 _ c3) _) := hB3
        clear h2 t2 b3 r3 hB3
        go_wp2_with fail
        refine (same_at (n := q) HB3.out rfl).mono ?_
        rintro e w4 ⟨rfl, b4⟩
        have HB4 : Hid _ := HB3.out.on b4
        go_wp2_with fail
        refine (same_at (n := k) HB4.out rfl).mono ?_
        rintro e w5 ⟨rfl, b5⟩
        have HB5 : Hid _ := HB4.out.on b5
        clear b4 b5
        go_wp2
        go_roundw
        case rel => exact ⟨k + 1, _, by omega, by go_num, HB5.out⟩
        case measure => simp [intOf]; omega
      · obtain ⟨q, rfl⟩ := Int.eq_ofNat_of_zero_le (show 0 ≤ z by omega)
        obtain ⟨d, hd⟩ : ∃ d, mayC m q = d := ⟨_, rfl⟩
        have HD : Hid _ := hd
        have hdd : (d != d) = false := by cases d <;> rfl
        clear hd
        go_wp2_with fail
        refine (push_any q _ hB.chain).mono ?_
        rw [HD.out]
        rintro e w2 ⟨rfl, h2, t2⟩
        have x2 := t2.row hB.row (Nat.le_refl _)
        have hi2 : E ≤ w2.heap.size := by rw [t2.size]; exact hB.hi
        go_wp2_with fail
        refine (HSZ.out _).mono ?_
        rintro e w' ⟨rfl, rfl⟩
        go_wp2_with fail
        refine (refPush_any m q _ x2 hx4 hi2).mono ?_
        rw [HD.out]
        rintro e w3 ⟨v3, rfl, r3, b3⟩
        clear x2 hi2
        have hB3 := hB.turn h2 t2 b3 r3
        obtain ⟨a3, c3, rfl⟩ := row_slice r3
        have HB3 : Hid (Both w w3 B E m p (.slice a3 _ c3) _) := hB3
        clear h2 t2 b3 r3 hB3
        go_wp2_with fail
        refine (same_at (n := q) HB3.out rfl).mono ?_
        rintro e w4 ⟨rfl, b4⟩
        have HB4 : Hid _ := HB3.out.on b4
        go_wp2_with fail
        refine (same_at (n := k) HB4.out rfl).mono ?_
        rintro e w5 ⟨rfl, b5⟩
        have HB5 : Hid _ := HB4.out.on b5
        clear b4 b5
        go_wp2
        go_roundw
        case rel => exact ⟨k + 1, _, by omega, by go_num, HB5.out⟩
        case measure => simp [intOf]; omega
    · have e : k = L := by omega
      subst e
      go_wp2_with fail
      refine (lives_any _).mono ?_
      rintro e w5 ⟨rfl, b5⟩
      go_wp2
      go_ret
      exact ⟨rfl, hB.bel.trans (b5.mono hB.bel.size)⟩

theorem walk {H : Type} {enc : TypeId × Value → H} {w : World} {base : Nat} {v0 v1 : Value} {d0 d1 : DataW H} {p0 p1 : List MemPlace}
    (o0 : Value.okWide Try.prog w .any base 3 v0) (o1 : Value.okWide Try.prog w .any base 22 v1)
    (h0 : DataW.Trod enc Try.prog w 0 (fun _ => true) true 3 v0 d0 p0) (h1 : DataW.Trod enc Try.prog w 0 (fun _ => true) true 22 v1 d1 p1) :
    Calls Try.prog 3 #[v0, v1] w fun e w' => e = .returned (.bool true) ∧ Below w.heap.size w w' := by
  obtain ⟨size, rfl, _⟩ := openOne Try.underlying3 o0 h0
  obtain ⟨a, L, c, zs, rfl, hzl, hL, hz, h8⟩ := openList Try.underlying22 Try.underlying3 (by kernel_rfl) o1 h1
  by_cases hlong : 100 < L
  · exact run_far size a L c w hL hlong
  · exact run_near size a L c zs w (by omega) hzl hz (fun z hz => bounds_i64 (h8 z hz))

set_option maxRecDepth 100000 in
theorem lifted (os : Os) (started : os.Started) (H : Type) (enc : TypeId × Value → H) :
    ReturnsInHanded {} Try.checked os 3 .any (Rows.chainPlaysSpec.pre6 enc Try.prog Try.f3 Rows.chainPlaysRow.domain false) (Rows.chainPlaysSpec.post enc Try.prog Try.f3 false true false false) := by
  refine returnsInHanded_of_change (C := Try.checked) own started (by kernel_rfl) Try.func3
    (ChangeSpec.witness6 (enc := enc) (C := Try.checked) false ⟨#[], #[.int .i64 0, .slice none 0 0], []⟩ 8 (by kernel_rfl) (by kernel_rfl) (by kernel_rfl) (by kernel_rfl)) ?_
  intro W base args ds gs before hval0 hW hcnd _
  have hval : ∀ (j : Nat) t v, Try.f3.params[j]? = some t → args[j]? = some v → Value.okWide Try.prog W .any base t v := hval0
  have hW' := hW
  obtain ⟨p, q, hA0, hV, rfl, hfz, hnd⟩ := hW
  have hA : DataW.TrodAll enc Try.prog W 0 (fun _ => true) true Try.f3.params.toList args.toList ds p := hA0
  rw [Try.params3] at hA hval
  obtain ⟨v0, vs0, d0, ds0, p0, q0, hargs, rfl, rfl, h0, r0⟩ := trodAll_cons hA
  obtain ⟨v1, vs1, d1, ds1, p1, q1, rfl, rfl, rfl, h1, r1⟩ := trodAll_cons r0
  obtain ⟨rfl, rfl, rfl⟩ := trodAll_nil r1
  obtain rfl : args = #[v0, v1] := by cases args; simp_all
  obtain ⟨rfl, rfl⟩ := trodVars_none hV
  have o0 := hval 0 3 v0 rfl rfl
  have lt0 : ∀ x ∈ p0, x.block < W.heap.size := by obtain ⟨m, hm⟩ := h0; exact DataW.trod_lt m _ _ _ hm
  have o1 := hval 1 22 v1 rfl rfl
  have lt1 : ∀ x ∈ p1, x.block < W.heap.size := by obtain ⟨m, hm⟩ := h1; exact DataW.trod_lt m _ _ _ hm
  clear hA0 hval0
  refine (walk o0 o1 h0 h1).mono fun e W' ⟨he, bel⟩ => ?_
  subst he
  exact ⟨_, rfl, _, _, _, [], _, [], hW', trodAll_mk1 (shut_bool Try.underlying4 _), (trodAll_cons_mk (Below.trod laidOut (by kernel_rfl) (of_decide_eq_true (by kernel_rfl)) h0 bel lt0) (trodAll_cons_mk (Below.trod laidOut (by kernel_rfl) (of_decide_eq_true (by kernel_rfl)) h1 bel lt1) trodAll_mk0)), rfl, bel.frame _, fun h => by cases h⟩

theorem over : Rows.chainPlaysRow.holds Try.pinned (OpenSpec.ofChange Rows.chainPlaysSpec) :=
  OpenClaim.holds_of_wide 3 Try.f3 rfl rfl rfl rfl rfl rfl rfl ⟨rfl, rfl, rfl, rfl, rfl⟩ rfl rfl rfl rfl rfl (by kernel_rfl) Try.func3 (by kernel_rfl)
    (of_decide_eq_true (by kernel_rfl)) (by unfold Func.isWrapper; first | (rw [if_pos (by decide +kernel)]; kernel_rfl) | (rw [if_neg (by decide +kernel)]; exact ⟨rfl, rfl⟩))
    (fun os started H enc _ => lifted os started H enc)
end Go.Proofs.Ytbdffiomciogiaa.ChainPlays
namespace Go.Proofs.Ytbdffiomciogiaa
/-- The statement. -/
theorem chainPlays_holds : Rows.ChainPlaysSaid := ChainPlays.over
#print axioms chainPlays_holds
end Go.Proofs.Ytbdffiomciogiaa
