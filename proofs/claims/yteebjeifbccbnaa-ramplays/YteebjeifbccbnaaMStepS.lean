/- A step of RamPlays: words. -/
import Derived.Test.YteebjeifbccbnaaMStepR
namespace Go.Proofs.Yteebjeifbccbnaa
open Go.RowKit
theorem th01 {O : List Int} {n i : Int} (h0 : 0 ≤ i) (h1 : i < 512) : thB O n 0 1 = wdB O n i := by
  apply decide_eq_decide.2
  constructor
  · intro h; exact ⟨h.1, h0, h1⟩
  · intro h; exact ⟨h.1, by omega, by omega, by omega⟩
theorem ramWord_is {B E r m t x : Nat} {O : List Int} {S P : List Nat} (n i : Int) (w : World) (h : RamAt B E w r m t x O S P) (hx : x < 1000000) {b : Bool} {v : Nat} (hb : wdB O n i = b) (hv : wdN O P n i = v) :
    Calls Try.prog 7 #[.pointer (some ⟨r, 0, none⟩), .int .i64 n, .int .i64 i] w fun e w' => e = .returned (.tuple #[.int .u64 (v : Nat), .bool b]) ∧
      RamAt B E w' r m t (up x b) O S P ∧ Turns B E w w' := by
  rw [← hb, ← hv]; exact ramWord_any n i w h hx
theorem ramSetWord_is {B E r m t x : Nat} {O : List Int} {S P : List Nat} (n i : Int) (v : Nat) (w : World) (h : RamAt B E w r m t x O S P) (hx : x < 1000000) {b : Bool} (hb : wdB O n i = b) :
    Calls Try.prog 10 #[.pointer (some ⟨r, 0, none⟩), .int .i64 n, .int .i64 i, .int .u64 (v : Nat)] w fun e w' => e = .returned (.bool b) ∧
      RamAt B E w' r m t (up x b) O S (wdP O P n i v) ∧ Turns B E w w' := by
  rw [← hb]; exact ramSetWord_any n i v w h hx
theorem nums_row {w : World} {base n c : Nat} {p : Option Addr} {l : List Nat} (h : w.ownsRow base 5 1 (.slice p n c) n (bv l)) : NumsAt .u8 w p l := by
  have hl : l.length = n := by have := h.1; simpa using this
  by_cases h0 : l = []
  · exact .inl h0
  · have hp : 0 < n := by rw [← hl]; exact Nat.pos_of_ne_zero (fun h => h0 (List.eq_nil_of_length_eq_zero h))
    obtain ⟨g, rfl, _, _, _, hg⟩ := row_at h hp
    refine .inr ⟨g, 0, rfl, hg, fun i hi => ?_⟩
    obtain ⟨g', e, hc, _⟩ := row_at h (i := i) (by omega)
    simp only [Option.some.injEq, Addr.mk.injEq, and_true] at e
    subst e
    rw [Nat.zero_add, hc, bv_at _ _ hi]
/-- What a word is, by the log. -/
theorem word_log {m : Nat} {P : List Nat} {L : List Wt} {O : List Int} {nd i : Nat} (h : AsLog m P L) (hl : P.length = m * 4096) (hn : nd < m) (hi : i < 512) (hw : wdB O nd i = true) : wdN O P nd i = getTo (rpL L nd (8 * i) 8) 0 8 := by
  rw [wdN_yes hw, ← h.read hl hn (by omega), seg_getTo, Nat.mul_comm i 8]
theorem wd_wr {O : List Int} {P : List Nat} {nd i v : Nat} (hw : wdB O nd i = true) (ho : thB O nd (8 * i : Nat) (putN 8 v).length = true) : wdP O P nd i v = wrP O P nd (8 * i : Nat) (putN 8 v) := by
  rw [wdP_yes hw, wr_yes ho, Nat.mul_comm i 8]
theorem th_word {O : List Int} {nd i v : Nat} (hw : wdB O nd i = true) : thB O nd (8 * i : Nat) (putN 8 v).length = true := by
  obtain ⟨h1, h2, h3⟩ := of_decide_eq_true hw
  rw [length_putN]
  exact decide_eq_true ⟨h1, by omega, by omega, by omega⟩

set_option maxRecDepth 100000 in
set_option maxHeartbeats 4000000 in
theorem step_word {B E C r now m t x : Nat} {vO vW vL : Value} {O W : List Int} {S P : List Nat} {L : List Wt} (d : Dd) (w : World) (h : Both B E C w r vO vW vL now m t x O S P W L) (hK : ¬ (d.K = 0 ∨ d.K = 1 ∨ d.K = 2 ∨ d.K = 3 ∨ d.K = 4)) (hx : x < 1000000) (hL : L.length ≤ 1000) :
    Calls Try.prog 16 #[.pointer (some ⟨r, 0, none⟩), .agg #[vO, vW, .int .i64 (now : Int), vL], .agg #[.int .i64 d.K, .int .i64 d.N, .int .i64 d.A, .int .i64 d.Z, .int .u64 (d.V : Int), .slice d.p d.l d.c]] w (Stepped B E C w r m t x now L.length) := by
  have e0 : (d.K == 0) = false := by rw [beq_eq_false_iff_ne]; omega
  have e1 : (d.K == 1) = false := by rw [beq_eq_false_iff_ne]; omega
  have e2 : (d.K == 2) = false := by rw [beq_eq_false_iff_ne]; omega
  have e3 : (d.K == 3) = false := by rw [beq_eq_false_iff_ne]; omega
  have e4 : (d.K == 4) = false := by rw [beq_eq_false_iff_ne]; omega
  clear hK
  obtain ⟨aO, cO, rfl⟩ := row_slice h.doc.rO
  obtain ⟨aW, cW, rfl⟩ := row_slice h.doc.rW
  obtain ⟨aL, cL, rfl⟩ := row_slice h.log.row
  have hE : E ≤ w.heap.size := h.ram.hi.1
  have hb := Bxd.made (B := B) (E := E) w hE (.slice aO m cO) (.slice aW m cW) (.int .i64 (now : Int)) (.slice aL L.length cL) d
  have hbe : Below w.heap.size w (((w.alloc (.cells #[.slice aO m cO, .slice aW m cW, .int .i64 (now : Int), .slice aL L.length cL] 45)).alloc (.cells #[.int .i64 d.K, .int .i64 d.N, .int .i64 d.A, .int .i64 d.Z, .int .u64 (d.V : Int), .slice d.p d.l d.c] 50)).alloc (.cells #[.slice none 0 0, .slice none 0 0, .int .i64 0, .slice none 0 0] 45)) := (((Below.refl _ w).alloc (Nat.le_refl _) _).alloc (by simp) _).alloc (by simp; omega) _
  have HB0 : Hid (Both B E C w r (.slice aO m cO) (.slice aW m cW) (.slice aL L.length cL) now m t x O S P W L) := h
  have HB1 : Hid (Both B E C _ r (.slice aO m cO) (.slice aW m cW) (.slice aL L.length cL) now m t x O S P W L) := h.below hbe
  have HX1 : Hid (Bxd B E w _ w.heap.size (w.heap.size + 1) (w.heap.size + 1 + 1) #[.slice aO m cO, .slice aW m cW, .int .i64 (now : Int), .slice aL L.length cL] d) := hb
  have HBE : Hid (Below w.heap.size w _) := hbe
  clear h hE hb hbe
  go_enter Try.func16, Try.ntmps16
  go_upto_region 1 with (fail)
  generalize (((w.alloc (.cells #[.slice aO m cO, .slice aW m cW, .int .i64 (now : Int), .slice aL L.length cL] 45)).alloc (.cells #[.int .i64 d.K, .int .i64 d.N, .int .i64 d.A, .int .i64 d.Z, .int .u64 (d.V : Int), .slice d.p d.l d.c] 50)).alloc (.cells #[.slice none 0 0, .slice none 0 0, .int .i64 0, .slice none 0 0] 45)) = w1 at *
  obtain ⟨rb, hrb⟩ : ∃ rb, w.heap.size + 1 + 1 = rb := ⟨_, rfl⟩
  rw [hrb] at HX1
  rw [hrb]
  obtain ⟨db, hdb⟩ : ∃ db, w.heap.size + 1 = db := ⟨_, rfl⟩
  rw [hdb] at HX1
  rw [hdb]
  obtain ⟨xb, hxb⟩ : ∃ xb, w.heap.size = xb := ⟨_, rfl⟩
  have HX2 : Hid (Bxd B E w w1 xb db rb #[.slice aO m cO, .slice aW m cW, .int .i64 (now : Int), .slice aL L.length cL] d) := by rw [← hxb]; exact HX1.out
  rw [hxb]
  clear hrb hdb hxb HX1
  have k0 := HX2.out.k0
  have k1 := HX2.out.k1
  have k2 := HX2.out.k2
  have k3 := HX2.out.k3
  have k4 := HX2.out.k4
  have k5 := HX2.out.k5
  have x0 : w1.cell? ⟨xb, 0, none⟩ = some (.slice aO m cO) := HX2.out.xc 0
  have x1 : w1.cell? ⟨xb, 1, none⟩ = some (.slice aW m cW) := HX2.out.xc 1
  have x2 : w1.cell? ⟨xb, 2, none⟩ = some (.int .i64 (now : Int)) := HX2.out.xc 2
  have x3 : w1.cell? ⟨xb, 3, none⟩ = some (.slice aL L.length cL) := HX2.out.xc 3
  go_upto_region 22 with (fail)
  obtain ⟨may, hmay⟩ : ∃ may, wdB O d.N d.A = may := ⟨_, rfl⟩
  have HMY : Hid (wdB O d.N d.A = may) := hmay
  clear hmay
  go_cut [21] (fun c wz => c = .bool may ∧ Below w1.heap.size w1 wz)
  case first =>
    by_cases h0 : 0 ≤ d.A
    · by_cases h1 : d.A < 512
      · have HTT : Hid (thB O d.N 0 1 = may) := by show _ = _; rw [th01 h0 h1]; exact HMY.out
        go_wp2_with fail
        refine (refThere6_any d.N 0 1 w1 HB1.out.doc).mono ?_
        rintro e w2 ⟨rfl, b2⟩
        rw [HTT.out]
        go_wp2
        go_meet
        exact ⟨rfl, b2⟩
      · have hm0 : may = false := by rw [← HMY.out]; exact decide_eq_false (by omega)
        subst hm0
        go_wp2
        go_meet
        exact ⟨rfl, Below.refl _ _⟩
    · have hm0 : may = false := by rw [← HMY.out]; exact decide_eq_false (by omega)
      subst hm0
      go_wp2
      go_meet
      exact ⟨rfl, Below.refl _ _⟩
  case rest =>
    obtain ⟨rfl, b2⟩ := hcut
    generalize wc = w2 at *
    have HX3 : Hid (Bxd B E w w2 xb db rb #[.slice aO m cO, .slice aW m cW, .int .i64 (now : Int), .slice aL L.length cL] d) := HX2.out.below b2
    have HB3 : Hid (Both B E C w2 r (.slice aO m cO) (.slice aW m cW) (.slice aL L.length cL) now m t x O S P W L) := HB1.out.below b2
    clear b2 x0 x1 x2 x3 k0 k1 k2 k3 k4 k5
    cases may with
    | false =>
      have k0 := HX3.out.k0
      have k1 := HX3.out.k1
      have k2 := HX3.out.k2
      have HWN : Hid (wdN O P d.N d.A = 0) := wdN_no HMY.out
      go_wp2_with fail
      refine (ramWord_is d.N d.A _ HB3.out.ram hx HMY.out HWN.out).mono ?_
      rintro e w5 ⟨rfl, h5, t5⟩
      have HX9 : Hid (Bxd B E w w5 xb db rb #[.slice aO m cO, .slice aW m cW, .int .i64 (now : Int), .slice aL L.length cL] d) := HX3.out.turns t5
      have HBF : Hid (Both B E C w5 r (.slice aO m cO) (.slice aW m cW) (.slice aL L.length cL) now m t (up x false) O S P W L) := HB3.out.turn h5 t5 HB3.out.doc HB3.out.log HB3.out.dat HB3.out.asl
      have x0 : w5.cell? ⟨xb, 0, none⟩ = some (.slice aO m cO) := HX9.out.xc 0
      have x1 : w5.cell? ⟨xb, 1, none⟩ = some (.slice aW m cW) := HX9.out.xc 1
      have x2 : w5.cell? ⟨xb, 2, none⟩ = some (.int .i64 (now : Int)) := HX9.out.xc 2
      have x3 : w5.cell? ⟨xb, 3, none⟩ = some (.slice aL L.length cL) := HX9.out.xc 3
      have r0 := HX9.out.r0
      have r1 := HX9.out.r1
      have r2 := HX9.out.r2
      have r3 := HX9.out.r3
      have f0 := HX9.out.fr 0
      have f1 := HX9.out.fr 1
      have f2 := HX9.out.fr 2
      have f3 := HX9.out.fr 3
      clear h5 t5 k0 k1 k2
      go_wp2
      refine bodyPost_ret (results_cell_tmp2 Try.results16 _ _ rb _ _ _ _ rfl (res4_kept HX9.out.r) Try.underlying45 rfl Try.sizeR) rfl
        ⟨_, _, _, _, _, _, _, _, _, _, false, ?_, HBF.out.fin HX9.out _ _ _ _, HX9.out.fin _ _ _ _, by omega, by omega, by omega⟩
      rfl
    | true =>
      obtain ⟨nd, i, hnd, hi, hnl, h0, hi5⟩ := wd_of' HMY.out
      rw [HB3.out.ram.good.len] at hnl
      have HND : Hid (d.N = (nd : Int)) := hnd
      have HNL : Hid (nd < m) := hnl
      obtain ⟨q, hq⟩ : ∃ q, getTo (rpL L nd (8 * i) 8) 0 8 = q := ⟨_, rfl⟩
      have HQ : Hid (getTo (rpL L nd (8 * i) 8) 0 8 = q) := hq
      have HWN : Hid (wdN O P d.N d.A = q) := by
        show _ = _
        rw [hnd, hi, ← hq]
        exact word_log HB3.out.asl HB3.out.ram.len hnl hi5 (by have := HMY.out; rw [hnd, hi] at this; exact this)
      have k0 := HX3.out.k0
      have k1 := HX3.out.k1
      have k2 := HX3.out.k2
      rw [hi] at k2
      have HI : Hid (d.A = (i : Int)) := hi
      have x0 : w2.cell? ⟨xb, 0, none⟩ = some (.slice aO m cO) := HX3.out.xc 0
      have x1 : w2.cell? ⟨xb, 1, none⟩ = some (.slice aW m cW) := HX3.out.xc 1
      have x2 : w2.cell? ⟨xb, 2, none⟩ = some (.int .i64 (now : Int)) := HX3.out.xc 2
      have x3 : w2.cell? ⟨xb, 3, none⟩ = some (.slice aL L.length cL) := HX3.out.xc 3
      clear hnd hi hnl h0 hq
      go_wp2_with fail
      refine (refRead6_is (n := nd) (a := 8 * i) (s := 8) w2 HND.out (by omega) rfl HB3.out.log hL (by have := HNL.out; have := HB3.out.ram.small; omega) (by omega) (by omega)).mono ?_
      rintro e w4 ⟨v4, rfl, own4, b4⟩
      obtain ⟨p4, c4, rfl⟩ := row_slice own4
      have HX4 : Hid (Bxd B E w w4 xb db rb #[.slice aO m cO, .slice aW m cW, .int .i64 (now : Int), .slice aL L.length cL] d) := HX3.out.below b4
      have HB4 : Hid (Both B E C w4 r (.slice aO m cO) (.slice aW m cW) (.slice aL L.length cL) now m t x O S P W L) := HB3.out.below b4
      have HNU : Hid (NumsAt .u8 w4 p4 (rpL L nd (8 * i) 8)) := nums_row own4
      have HB8 : Hid (∀ x ∈ rpL L nd (8 * i) 8, x < 256) := by
        have := seg_byte (o := nd * 4096 + 8 * i) (s := 8) HB3.out.ram.byte
        rw [HB3.out.asl.read HB3.out.ram.len HNL.out (by omega)] at this
        exact this
      clear own4 b4 k0 k1 k2 x0 x1 x2 x3
      go_wp2_with fail
      refine (refGet_any p4 8 c4 0 8 0 8 rfl rfl (rpL L nd (8 * i) 8) w4 (by unfold maxLen; omega) (rpL_len _ _ _ _) HNU.out HB8.out (by omega) (by omega)).mono ?_
      rintro e w' ⟨rfl, rfl⟩
      rw [HQ.out]
      have k1 := HX4.out.k1
      have k2 := HX4.out.k2
      go_wp2_with fail
      refine (ramWord_is d.N d.A _ HB4.out.ram hx HMY.out HWN.out).mono ?_
      rintro e w5 ⟨rfl, h5, t5⟩
      have HX9 : Hid (Bxd B E w w5 xb db rb #[.slice aO m cO, .slice aW m cW, .int .i64 (now : Int), .slice aL L.length cL] d) := HX4.out.turns t5
      have HBF : Hid (Both B E C w5 r (.slice aO m cO) (.slice aW m cW) (.slice aL L.length cL) now m t (up x true) O S P W L) := HB4.out.turn h5 t5 HB4.out.doc HB4.out.log HB4.out.dat HB4.out.asl
      have x0 : w5.cell? ⟨xb, 0, none⟩ = some (.slice aO m cO) := HX9.out.xc 0
      have x1 : w5.cell? ⟨xb, 1, none⟩ = some (.slice aW m cW) := HX9.out.xc 1
      have x2 : w5.cell? ⟨xb, 2, none⟩ = some (.int .i64 (now : Int)) := HX9.out.xc 2
      have x3 : w5.cell? ⟨xb, 3, none⟩ = some (.slice aL L.length cL) := HX9.out.xc 3
      have hqq : ((q : Int) == (q : Int)) = true := beq_self_eq_true _
      have r0 := HX9.out.r0
      have r1 := HX9.out.r1
      have r2 := HX9.out.r2
      have r3 := HX9.out.r3
      have f0 := HX9.out.fr 0
      have f1 := HX9.out.fr 1
      have f2 := HX9.out.fr 2
      have f3 := HX9.out.fr 3
      clear h5 t5 k1 k2
      go_wp2
      refine bodyPost_ret (results_cell_tmp2 Try.results16 _ _ rb _ _ _ _ rfl (res4_kept HX9.out.r) Try.underlying45 rfl Try.sizeR) rfl
        ⟨_, _, _, _, _, _, _, _, _, _, true, ?_, HBF.out.fin HX9.out _ _ _ _, HX9.out.fin _ _ _ _, by omega, by omega, by omega⟩
      rfl
end Go.Proofs.Yteebjeifbccbnaa
