/- A step of SlotsPlays: a Put. -/
import Derived.Test.YtacggabopdoijaaSBoth
namespace Go.Proofs.Ytacggabopdoijaa
open Go.RowKit
theorem deed_page {w : World} {d : Dd} (h : DeedOk w d) (hl : d.l = 4096) : ∃ b off, d.p = some ⟨b, off, none⟩ ∧ PageAt w b off d.c d.b := by
  have hbl := src_len h.src
  have hcap := h.cap
  rcases h.src with ⟨h1, h2, _⟩ | ⟨ad, c, h1, h2, h3⟩
  · omega
  · simp only [Value.slice.injEq] at h1
    obtain ⟨e1, _, e3⟩ := h1
    obtain ⟨b, off, spot⟩ := ad
    have h0 := (h3 0 _ (bv_at d.b 0 (by omega))).2
    have hspot : spot = none := by simpa [Addr.add] using World.cell?_spot h0
    subst hspot
    refine ⟨b, off, e1, by omega, hcap.2, ?_, by omega, h.byte, fun j hj => ?_⟩
    · have := World.block_lt_of_cell? w _ h0
      simpa [Addr.add] using this
    · have := (h3 j _ (bv_at d.b j (by omega))).2
      rwa [add_lit'] at this
/-- What a Put wants of the bytes that it is handed. -/
def PutOk (Q E : Nat) (w : World) (a : Option Addr) (q c : Nat) (bb : List Nat) : Prop := q = 4096 → ∃ b off, a = some ⟨b, off, none⟩ ∧ PageAt w b off c bb ∧ (b < Q ∨ E ≤ b)
set_option maxRecDepth 100000 in
set_option maxHeartbeats 4000000 in
theorem step_fill {Q E C r m k L0 c0 : Nat} {a0 : Option Addr} {zs x : List Bool} {pg : Nat → List Nat} {vL : Value} {L : List Pt} {w0 w : World} (d : Dd) (h : Both Q E C w0 w r m zs k x pg vL L) (hd : DeedOk w0 d) (hz : BoolsAt w0 a0 L0 c0 zs) (hk : k < 100000) (hL : L.length ≤ 100) (hK : d.K = 0 ∨ d.K = 1) :
    Calls Try.prog 17 #[.pointer (some ⟨r, 0, none⟩), .agg #[.int .i64 (m : Int), .slice a0 L0 c0, .int .i64 (k : Int), vL], .agg #[.int .i64 d.K, .int .i64 d.N, .int .u8 (d.V : Int), .slice d.p d.l d.c]] w (Stepped Q E C w0 w r m zs k L.length (.slice a0 L0 c0)) := by
  have HK : Hid (d.K = 0 ∨ d.K = 1) := hK
  clear hK
  obtain ⟨aL, cL, hvL⟩ := row_slice h.log.row
  subst hvL
  have HOK : Hid (DeedOk w0 d) := hd
  have HZ : Hid (BoolsAt w0 a0 L0 c0 zs) := hz
  have hE := h.slots.hi
  have hbx := Bxd.made (Q := Q) (E := E) w hE.1 (.int .i64 (m : Int)) (.slice a0 L0 c0) (.int .i64 (k : Int)) (.slice aL L.length cL) d
  have HX1 : Hid (Bxd Q E w _ w.heap.size (w.heap.size + 1) (w.heap.size + 1 + 1) #[.int .i64 (m : Int), .slice a0 L0 c0, .int .i64 (k : Int), .slice aL L.length cL] d) := hbx
  have HB1 : Hid (Both Q E C w0 _ r m zs k x pg (.slice aL L.length cL) L) := h.below ((((Below.refl _ w).alloc (Nat.le_refl _) (.cells #[.int .i64 (m : Int), .slice a0 L0 c0, .int .i64 (k : Int), .slice aL L.length cL] 42)).alloc (by simp) (.cells #[.int .i64 d.K, .int .i64 d.N, .int .u8 (d.V : Int), .slice d.p d.l d.c] 46)).alloc (by simp; omega) (.cells #[.int .i64 0, .slice none 0 0, .int .i64 0, .slice none 0 0] 42))
  have HLW : Hid (E ≤ w.heap.size ∧ w0.heap.size ≤ w.heap.size ∧ L.length ≤ 100 ∧ Q ≤ E) := ⟨hE.1, h.bel.size, hL, hE.2.2.2⟩
  clear h hbx hd hz hE
  go_enter Try.func17, Try.ntmps17
  go_upto_region 1 with (fail)
  generalize ((w.alloc (.cells #[.int .i64 (m : Int), .slice a0 L0 c0, .int .i64 (k : Int), .slice aL L.length cL] 42)).alloc (.cells #[.int .i64 d.K, .int .i64 d.N, .int .u8 (d.V : Int), .slice d.p d.l d.c] 46)).alloc (.cells #[.int .i64 0, .slice none 0 0, .int .i64 0, .slice none 0 0] 42) = w1 at *
  generalize hrb : w.heap.size + 1 + 1 = rb at *
  generalize hdb : w.heap.size + 1 = db at *
  generalize hxb : w.heap.size = xb at *
  have HXB : Hid (w.heap.size = xb) := hxb
  clear hrb hdb hxb
  have k0 := HX1.out.k0
  rcases HK.out with h0 | h0
  · rw [h0] at k0
    clear h0
    have k2 := HX1.out.k2
    have k3 := HX1.out.k3
    go_wp2_with fail
    refine (filled_is d.V _).mono ?_
    rintro e w2 ⟨g2, rfl, own2, b2⟩
    have HX2 : Hid (Bxd Q E w w2 xb db rb #[.int .i64 (m : Int), .slice a0 L0 c0, .int .i64 (k : Int), .slice aL L.length cL] d) := HX1.out.below b2
    have HB2 : Hid (Both Q E C w0 w2 r m zs k x pg (.slice aL L.length cL) L) := HB1.out.below b2
    have HSB : Hid (SrcAt w2 (.slice (some ⟨g2, 0, none⟩) 4096 4096) 4096 1 (bv (fillP d.V))) := src_row own2
    have HQM : Hid (4096 ≤ maxLen) := by show _ ≤ _; unfold maxLen; omega
    have HPA : Hid (∀ {w4 : World}, Below w2.heap.size w2 w4 → PutOk Q E w4 (some ⟨g2, 0, none⟩) 4096 4096 (fillP d.V)) := by
      intro w4 hb _
      have hp := page_row own2 (fillP_byte d.V)
      have hg := (own2.lt g2 rfl).1
      have he := HB1.out.slots.hi.1
      exact ⟨g2, 0, rfl, hp.below hb, .inr (by omega)⟩
    generalize fillP d.V = bb at *
    clear own2 b2 k0 k2 k3 HX1 HB1
    have HXW := HX2
    have x0 : w2.cell? ⟨xb, 0, none⟩ = some (.int .i64 (m : Int)) := (HXW.out.xc 0).trans rfl
    have x1 : w2.cell? ⟨xb, 1, none⟩ = some (.slice a0 L0 c0) := (HXW.out.xc 1).trans rfl
    have x2 : w2.cell? ⟨xb, 2, none⟩ = some (.int .i64 (k : Int)) := (HXW.out.xc 2).trans rfl
    have x3 : w2.cell? ⟨xb, 3, none⟩ = some (.slice aL L.length cL) := (HXW.out.xc 3).trans rfl
    clear HXW
    go_wp2_with fail
    refine (refPut_any w2 HB2.out.log (by have := HLW.out.2.2.1; omega) (HZ.out.below HB2.out.bel) (by omega) HB2.out.cw HB2.out.same HB2.out.slots.len HB2.out.slots.small HSB.out HQM.out).mono ?_
    rintro e w3 ⟨vL', L', rfl, hl3, hs3, hll, b3⟩
    obtain ⟨aY, cY, hvy⟩ := row_slice hl3.row
    subst hvy
    have HX3 : Hid (Bxd Q E w w3 xb db rb #[.int .i64 (m : Int), .slice a0 L0 c0, .int .i64 (k : Int), .slice aL L.length cL] d) := HX2.out.below b3
    have HB3 : Hid (Both Q E C w0 w3 r m zs k x pg (.slice aL L.length cL) L) := HB2.out.below b3
    have HL3 : Hid (LogAt C w3 (.slice aY L'.length cY) L') := hl3
    have HS3 : Hid (Same (puX 4096 zs k x) (puG 4096 zs k x pg bb) L') := hs3
    have HB23 : Hid (Below w2.heap.size w2 w3) := b3
    have hkl := puK_le 4096 zs k x
    clear b3 x0 x1 x2 x3 hl3 hs3
    go_upto_region 9 with (fail)
    have ba : Below w3.heap.size w3 (w3.alloc (.cells #[.int .i64 (m : Int), .slice a0 L0 c0, .int .i64 (puK 4096 zs k x : Nat), .slice aY L'.length cY] 42)) := (Below.refl _ w3).alloc (Nat.le_refl _) _
    have HX4 : Hid (Bxd Q E w _ xb db rb #[.int .i64 (m : Int), .slice a0 L0 c0, .int .i64 (k : Int), .slice aL L.length cL] d) := HX3.out.below ba
    have HB4 : Hid (Both Q E C w0 _ r m zs k x pg (.slice aL L.length cL) L) := HB3.out.below ba
    have HL4 : Hid (LogAt C _ (.slice aY L'.length cY) L') := HL3.out.below ba
    have HY4 : Hid (Yat _ w3.heap.size #[.int .i64 (m : Int), .slice a0 L0 c0, .int .i64 (puK 4096 zs k x : Nat), .slice aY L'.length cY]) := heap_alloc_new w3 _
    have HB24 : Hid (Below w2.heap.size w2 _) := HB23.out.trans (ba.mono HB23.out.size)
    have HEY : Hid (E ≤ w3.heap.size) := HB3.out.slots.hi.1
    clear ba HX3 HB3 HL3 HB23
    generalize w3.alloc (.cells #[.int .i64 (m : Int), .slice a0 L0 c0, .int .i64 (puK 4096 zs k x : Nat), .slice aY L'.length cY] 42) = w4 at *
    generalize w3.heap.size = yb at *
    go_wp2_with fail
    refine (slPut w4 HB4.out.slots (by omega) HQM.out (HPA.out HB24.out)).mono ?_
    rintro e w5 ⟨rfl, h5, t5⟩
    have HX5 : Hid (Bxd Q E w w5 xb db rb #[.int .i64 (m : Int), .slice a0 L0 c0, .int .i64 (k : Int), .slice aL L.length cL] d) := HX4.out.turns t5
    have HY5 : Hid (Yat w5 yb #[.int .i64 (m : Int), .slice a0 L0 c0, .int .i64 (puK 4096 zs k x : Nat), .slice aY L'.length cY]) := HY4.out.turns t5 HEY.out
    have HB5 : Hid (Both Q E C w0 w5 r m zs (puK 4096 zs k x) (puX 4096 zs k x) (puG 4096 zs k x pg bb) (.slice aY L'.length cY) L') := HB4.out.turn h5 t5 (HL4.out.turns t5 HB4.out.ec) HS3.out
    have HXW := HX5
    have r0 := HXW.out.r0
    have r1 := HXW.out.r1
    have r2 := HXW.out.r2
    have r3 := HXW.out.r3
    have f0 := HXW.out.fr 0
    have f1 := HXW.out.fr 1
    have f2 := HXW.out.fr 2
    have f3 := HXW.out.fr 3
    clear HXW
    have y0 : w5.cell? ⟨yb, 0, none⟩ = some (.int .i64 (m : Int)) := (HY5.out.c 0).trans rfl
    have y1 : w5.cell? ⟨yb, 1, none⟩ = some (.slice a0 L0 c0) := (HY5.out.c 1).trans rfl
    have y2 : w5.cell? ⟨yb, 2, none⟩ = some (.int .i64 (puK 4096 zs k x : Nat)) := (HY5.out.c 2).trans rfl
    have y3 : w5.cell? ⟨yb, 3, none⟩ = some (.slice aY L'.length cY) := (HY5.out.c 3).trans rfl
    clear h5 t5 HX4 HB4 HL4 HY4
    generalize puK 4096 zs k x = kk at *
    generalize puN 4096 zs k x = nn at *
    generalize puE 4096 zs k x = ee at *
    have e1 : ((nn : Int) == (nn : Int)) = true := beq_self_eq_true _
    have e2 : ((ee : Int) == (ee : Int)) = true := beq_self_eq_true _
    go_wp2
    refine bodyPost_ret (results_cell_tmp Try.results17 _ _ rb _ _ _ _ rfl (res4_kept HX5.out.r) Try.underlying42 rfl Try.sizeD) rfl ⟨kk, _, _, _, L', ?_, HB5.out.fin HX5.out.r ?_ ?_ _ _ _ _, hkl, hll, HX5.out.fin _ _ _ _⟩
    · rfl
    · have := HX5.out.lo; omega
    · have := HX5.out.lo; have := HLW.out.2.1; have := HXB.out; omega
  · rw [h0] at k0
    clear h0
    have k2 := HX1.out.k2
    have k3 := HX1.out.k3
    go_wp2_with fail
    refine (filled_is d.V _).mono ?_
    rintro e w2 ⟨g2, rfl, own2, b2⟩
    have HX2 : Hid (Bxd Q E w w2 xb db rb #[.int .i64 (m : Int), .slice a0 L0 c0, .int .i64 (k : Int), .slice aL L.length cL] d) := HX1.out.below b2
    have HB2 : Hid (Both Q E C w0 w2 r m zs k x pg (.slice aL L.length cL) L) := HB1.out.below b2
    have HSB : Hid (SrcAt w2 (.slice (some ⟨g2, 0, none⟩) 4096 4096) 4096 1 (bv (fillP d.V))) := src_row own2
    have HQM : Hid (4096 ≤ maxLen) := by show _ ≤ _; unfold maxLen; omega
    have HPA : Hid (∀ {w4 : World}, Below w2.heap.size w2 w4 → PutOk Q E w4 (some ⟨g2, 0, none⟩) 4096 4096 (fillP d.V)) := by
      intro w4 hb _
      have hp := page_row own2 (fillP_byte d.V)
      have hg := (own2.lt g2 rfl).1
      have he := HB1.out.slots.hi.1
      exact ⟨g2, 0, rfl, hp.below hb, .inr (by omega)⟩
    generalize fillP d.V = bb at *
    clear own2 b2 k0 k2 k3 HX1 HB1
    have HXW := HX2
    have x0 : w2.cell? ⟨xb, 0, none⟩ = some (.int .i64 (m : Int)) := (HXW.out.xc 0).trans rfl
    have x1 : w2.cell? ⟨xb, 1, none⟩ = some (.slice a0 L0 c0) := (HXW.out.xc 1).trans rfl
    have x2 : w2.cell? ⟨xb, 2, none⟩ = some (.int .i64 (k : Int)) := (HXW.out.xc 2).trans rfl
    have x3 : w2.cell? ⟨xb, 3, none⟩ = some (.slice aL L.length cL) := (HXW.out.xc 3).trans rfl
    clear HXW
    go_wp2_with fail
    refine (refPut_any w2 HB2.out.log (by have := HLW.out.2.2.1; omega) (HZ.out.below HB2.out.bel) (by omega) HB2.out.cw HB2.out.same HB2.out.slots.len HB2.out.slots.small HSB.out HQM.out).mono ?_
    rintro e w3 ⟨vL', L', rfl, hl3, hs3, hll, b3⟩
    obtain ⟨aY, cY, hvy⟩ := row_slice hl3.row
    subst hvy
    have HX3 : Hid (Bxd Q E w w3 xb db rb #[.int .i64 (m : Int), .slice a0 L0 c0, .int .i64 (k : Int), .slice aL L.length cL] d) := HX2.out.below b3
    have HB3 : Hid (Both Q E C w0 w3 r m zs k x pg (.slice aL L.length cL) L) := HB2.out.below b3
    have HL3 : Hid (LogAt C w3 (.slice aY L'.length cY) L') := hl3
    have HS3 : Hid (Same (puX 4096 zs k x) (puG 4096 zs k x pg bb) L') := hs3
    have HB23 : Hid (Below w2.heap.size w2 w3) := b3
    have hkl := puK_le 4096 zs k x
    clear b3 x0 x1 x2 x3 hl3 hs3
    go_upto_region 9 with (fail)
    have ba : Below w3.heap.size w3 (w3.alloc (.cells #[.int .i64 (m : Int), .slice a0 L0 c0, .int .i64 (puK 4096 zs k x : Nat), .slice aY L'.length cY] 42)) := (Below.refl _ w3).alloc (Nat.le_refl _) _
    have HX4 : Hid (Bxd Q E w _ xb db rb #[.int .i64 (m : Int), .slice a0 L0 c0, .int .i64 (k : Int), .slice aL L.length cL] d) := HX3.out.below ba
    have HB4 : Hid (Both Q E C w0 _ r m zs k x pg (.slice aL L.length cL) L) := HB3.out.below ba
    have HL4 : Hid (LogAt C _ (.slice aY L'.length cY) L') := HL3.out.below ba
    have HY4 : Hid (Yat _ w3.heap.size #[.int .i64 (m : Int), .slice a0 L0 c0, .int .i64 (puK 4096 zs k x : Nat), .slice aY L'.length cY]) := heap_alloc_new w3 _
    have HB24 : Hid (Below w2.heap.size w2 _) := HB23.out.trans (ba.mono HB23.out.size)
    have HEY : Hid (E ≤ w3.heap.size) := HB3.out.slots.hi.1
    clear ba HX3 HB3 HL3 HB23
    generalize w3.alloc (.cells #[.int .i64 (m : Int), .slice a0 L0 c0, .int .i64 (puK 4096 zs k x : Nat), .slice aY L'.length cY] 42) = w4 at *
    generalize w3.heap.size = yb at *
    go_wp2_with fail
    refine (slPut w4 HB4.out.slots (by omega) HQM.out (HPA.out HB24.out)).mono ?_
    rintro e w5 ⟨rfl, h5, t5⟩
    have HX5 : Hid (Bxd Q E w w5 xb db rb #[.int .i64 (m : Int), .slice a0 L0 c0, .int .i64 (k : Int), .slice aL L.length cL] d) := HX4.out.turns t5
    have HY5 : Hid (Yat w5 yb #[.int .i64 (m : Int), .slice a0 L0 c0, .int .i64 (puK 4096 zs k x : Nat), .slice aY L'.length cY]) := HY4.out.turns t5 HEY.out
    have HB5 : Hid (Both Q E C w0 w5 r m zs (puK 4096 zs k x) (puX 4096 zs k x) (puG 4096 zs k x pg bb) (.slice aY L'.length cY) L') := HB4.out.turn h5 t5 (HL4.out.turns t5 HB4.out.ec) HS3.out
    have HXW := HX5
    have r0 := HXW.out.r0
    have r1 := HXW.out.r1
    have r2 := HXW.out.r2
    have r3 := HXW.out.r3
    have f0 := HXW.out.fr 0
    have f1 := HXW.out.fr 1
    have f2 := HXW.out.fr 2
    have f3 := HXW.out.fr 3
    clear HXW
    have y0 : w5.cell? ⟨yb, 0, none⟩ = some (.int .i64 (m : Int)) := (HY5.out.c 0).trans rfl
    have y1 : w5.cell? ⟨yb, 1, none⟩ = some (.slice a0 L0 c0) := (HY5.out.c 1).trans rfl
    have y2 : w5.cell? ⟨yb, 2, none⟩ = some (.int .i64 (puK 4096 zs k x : Nat)) := (HY5.out.c 2).trans rfl
    have y3 : w5.cell? ⟨yb, 3, none⟩ = some (.slice aY L'.length cY) := (HY5.out.c 3).trans rfl
    clear h5 t5 HX4 HB4 HL4 HY4
    generalize puK 4096 zs k x = kk at *
    generalize puN 4096 zs k x = nn at *
    generalize puE 4096 zs k x = ee at *
    have e1 : ((nn : Int) == (nn : Int)) = true := beq_self_eq_true _
    have e2 : ((ee : Int) == (ee : Int)) = true := beq_self_eq_true _
    go_wp2
    refine bodyPost_ret (results_cell_tmp Try.results17 _ _ rb _ _ _ _ rfl (res4_kept HX5.out.r) Try.underlying42 rfl Try.sizeD) rfl ⟨kk, _, _, _, L', ?_, HB5.out.fin HX5.out.r ?_ ?_ _ _ _ _, hkl, hll, HX5.out.fin _ _ _ _⟩
    · rfl
    · have := HX5.out.lo; omega
    · have := HX5.out.lo; have := HLW.out.2.1; have := HXB.out; omega
set_option maxRecDepth 100000 in
set_option maxHeartbeats 4000000 in
theorem step_put {Q E C r m k L0 c0 : Nat} {a0 : Option Addr} {zs x : List Bool} {pg : Nat → List Nat} {vL : Value} {L : List Pt} {w0 w : World} (d : Dd) (h : Both Q E C w0 w r m zs k x pg vL L) (hd : DeedOk w0 d) (hz : BoolsAt w0 a0 L0 c0 zs) (hk : k < 100000) (hL : L.length ≤ 100) (hK : d.K = 2) :
    Calls Try.prog 17 #[.pointer (some ⟨r, 0, none⟩), .agg #[.int .i64 (m : Int), .slice a0 L0 c0, .int .i64 (k : Int), vL], .agg #[.int .i64 d.K, .int .i64 d.N, .int .u8 (d.V : Int), .slice d.p d.l d.c]] w (Stepped Q E C w0 w r m zs k L.length (.slice a0 L0 c0)) := by
  have HK : Hid (d.K = 2) := hK
  clear hK
  obtain ⟨aL, cL, hvL⟩ := row_slice h.log.row
  subst hvL
  have HOK : Hid (DeedOk w0 d) := hd
  have HZ : Hid (BoolsAt w0 a0 L0 c0 zs) := hz
  have hE := h.slots.hi
  have hbx := Bxd.made (Q := Q) (E := E) w hE.1 (.int .i64 (m : Int)) (.slice a0 L0 c0) (.int .i64 (k : Int)) (.slice aL L.length cL) d
  have HX1 : Hid (Bxd Q E w _ w.heap.size (w.heap.size + 1) (w.heap.size + 1 + 1) #[.int .i64 (m : Int), .slice a0 L0 c0, .int .i64 (k : Int), .slice aL L.length cL] d) := hbx
  have HB1 : Hid (Both Q E C w0 _ r m zs k x pg (.slice aL L.length cL) L) := h.below ((((Below.refl _ w).alloc (Nat.le_refl _) (.cells #[.int .i64 (m : Int), .slice a0 L0 c0, .int .i64 (k : Int), .slice aL L.length cL] 42)).alloc (by simp) (.cells #[.int .i64 d.K, .int .i64 d.N, .int .u8 (d.V : Int), .slice d.p d.l d.c] 46)).alloc (by simp; omega) (.cells #[.int .i64 0, .slice none 0 0, .int .i64 0, .slice none 0 0] 42))
  have HLW : Hid (E ≤ w.heap.size ∧ w0.heap.size ≤ w.heap.size ∧ L.length ≤ 100 ∧ Q ≤ E) := ⟨hE.1, h.bel.size, hL, hE.2.2.2⟩
  clear h hbx hd hz hE
  go_enter Try.func17, Try.ntmps17
  go_upto_region 1 with (fail)
  generalize ((w.alloc (.cells #[.int .i64 (m : Int), .slice a0 L0 c0, .int .i64 (k : Int), .slice aL L.length cL] 42)).alloc (.cells #[.int .i64 d.K, .int .i64 d.N, .int .u8 (d.V : Int), .slice d.p d.l d.c] 46)).alloc (.cells #[.int .i64 0, .slice none 0 0, .int .i64 0, .slice none 0 0] 42) = w1 at *
  generalize hrb : w.heap.size + 1 + 1 = rb at *
  generalize hdb : w.heap.size + 1 = db at *
  generalize hxb : w.heap.size = xb at *
  have HXB : Hid (w.heap.size = xb) := hxb
  clear hrb hdb hxb
  have k0 := HX1.out.k0
  rw [HK.out] at k0
  have k3 := HX1.out.k3
  obtain ⟨w2, hw2⟩ : ∃ w2, w2 = w1 := ⟨_, rfl⟩
  subst hw2
  have HX2 : Hid (Bxd Q E w w2 xb db rb #[.int .i64 (m : Int), .slice a0 L0 c0, .int .i64 (k : Int), .slice aL L.length cL] d) := HX1.out
  have HB2 : Hid (Both Q E C w0 w2 r m zs k x pg (.slice aL L.length cL) L) := HB1.out
  have HSB : Hid (SrcAt w2 (.slice d.p d.l d.c) d.l 1 (bv d.b)) := HOK.out.src.later HB1.out.bel
  have HQM : Hid (d.l ≤ maxLen) := HOK.out.l
  have HPA : Hid (∀ {w4 : World}, Below w2.heap.size w2 w4 → PutOk Q E w4 d.p d.l d.c d.b) := by
    intro w4 hb hl
    obtain ⟨b, off, e, hp⟩ := deed_page HOK.out hl
    have hq := HB1.out.qs
    have := hp.lt
    exact ⟨b, off, e, (hp.below HB1.out.bel).below hb, .inl (by omega)⟩
  clear HX1 HB1 HOK
  generalize d.p = pp at *
  generalize d.l = ll at *
  generalize d.c = cc at *
  generalize d.b = bb at *
  have HXW := HX2
  have x0 : w2.cell? ⟨xb, 0, none⟩ = some (.int .i64 (m : Int)) := (HXW.out.xc 0).trans rfl
  have x1 : w2.cell? ⟨xb, 1, none⟩ = some (.slice a0 L0 c0) := (HXW.out.xc 1).trans rfl
  have x2 : w2.cell? ⟨xb, 2, none⟩ = some (.int .i64 (k : Int)) := (HXW.out.xc 2).trans rfl
  have x3 : w2.cell? ⟨xb, 3, none⟩ = some (.slice aL L.length cL) := (HXW.out.xc 3).trans rfl
  clear HXW
  go_wp2_with fail
  refine (refPut_any w2 HB2.out.log (by have := HLW.out.2.2.1; omega) (HZ.out.below HB2.out.bel) (by omega) HB2.out.cw HB2.out.same HB2.out.slots.len HB2.out.slots.small HSB.out HQM.out).mono ?_
  rintro e w3 ⟨vL', L', rfl, hl3, hs3, hll, b3⟩
  obtain ⟨aY, cY, hvy⟩ := row_slice hl3.row
  subst hvy
  have HX3 : Hid (Bxd Q E w w3 xb db rb #[.int .i64 (m : Int), .slice a0 L0 c0, .int .i64 (k : Int), .slice aL L.length cL] d) := HX2.out.below b3
  have HB3 : Hid (Both Q E C w0 w3 r m zs k x pg (.slice aL L.length cL) L) := HB2.out.below b3
  have HL3 : Hid (LogAt C w3 (.slice aY L'.length cY) L') := hl3
  have HS3 : Hid (Same (puX ll zs k x) (puG ll zs k x pg bb) L') := hs3
  have HB23 : Hid (Below w2.heap.size w2 w3) := b3
  have hkl := puK_le ll zs k x
  clear b3 x0 x1 x2 x3 hl3 hs3
  go_upto_region 9 with (fail)
  have ba : Below w3.heap.size w3 (w3.alloc (.cells #[.int .i64 (m : Int), .slice a0 L0 c0, .int .i64 (puK ll zs k x : Nat), .slice aY L'.length cY] 42)) := (Below.refl _ w3).alloc (Nat.le_refl _) _
  have HX4 : Hid (Bxd Q E w _ xb db rb #[.int .i64 (m : Int), .slice a0 L0 c0, .int .i64 (k : Int), .slice aL L.length cL] d) := HX3.out.below ba
  have HB4 : Hid (Both Q E C w0 _ r m zs k x pg (.slice aL L.length cL) L) := HB3.out.below ba
  have HL4 : Hid (LogAt C _ (.slice aY L'.length cY) L') := HL3.out.below ba
  have HY4 : Hid (Yat _ w3.heap.size #[.int .i64 (m : Int), .slice a0 L0 c0, .int .i64 (puK ll zs k x : Nat), .slice aY L'.length cY]) := heap_alloc_new w3 _
  have HB24 : Hid (Below w2.heap.size w2 _) := HB23.out.trans (ba.mono HB23.out.size)
  have HEY : Hid (E ≤ w3.heap.size) := HB3.out.slots.hi.1
  clear ba HX3 HB3 HL3 HB23
  generalize w3.alloc (.cells #[.int .i64 (m : Int), .slice a0 L0 c0, .int .i64 (puK ll zs k x : Nat), .slice aY L'.length cY] 42) = w4 at *
  generalize w3.heap.size = yb at *
  go_wp2_with fail
  refine (slPut w4 HB4.out.slots (by omega) HQM.out (HPA.out HB24.out)).mono ?_
  rintro e w5 ⟨rfl, h5, t5⟩
  have HX5 : Hid (Bxd Q E w w5 xb db rb #[.int .i64 (m : Int), .slice a0 L0 c0, .int .i64 (k : Int), .slice aL L.length cL] d) := HX4.out.turns t5
  have HY5 : Hid (Yat w5 yb #[.int .i64 (m : Int), .slice a0 L0 c0, .int .i64 (puK ll zs k x : Nat), .slice aY L'.length cY]) := HY4.out.turns t5 HEY.out
  have HB5 : Hid (Both Q E C w0 w5 r m zs (puK ll zs k x) (puX ll zs k x) (puG ll zs k x pg bb) (.slice aY L'.length cY) L') := HB4.out.turn h5 t5 (HL4.out.turns t5 HB4.out.ec) HS3.out
  have HXW := HX5
  have r0 := HXW.out.r0
  have r1 := HXW.out.r1
  have r2 := HXW.out.r2
  have r3 := HXW.out.r3
  have f0 := HXW.out.fr 0
  have f1 := HXW.out.fr 1
  have f2 := HXW.out.fr 2
  have f3 := HXW.out.fr 3
  clear HXW
  have y0 : w5.cell? ⟨yb, 0, none⟩ = some (.int .i64 (m : Int)) := (HY5.out.c 0).trans rfl
  have y1 : w5.cell? ⟨yb, 1, none⟩ = some (.slice a0 L0 c0) := (HY5.out.c 1).trans rfl
  have y2 : w5.cell? ⟨yb, 2, none⟩ = some (.int .i64 (puK ll zs k x : Nat)) := (HY5.out.c 2).trans rfl
  have y3 : w5.cell? ⟨yb, 3, none⟩ = some (.slice aY L'.length cY) := (HY5.out.c 3).trans rfl
  clear h5 t5 HX4 HB4 HL4 HY4
  generalize puK ll zs k x = kk at *
  generalize puN ll zs k x = nn at *
  generalize puE ll zs k x = ee at *
  have e1 : ((nn : Int) == (nn : Int)) = true := beq_self_eq_true _
  have e2 : ((ee : Int) == (ee : Int)) = true := beq_self_eq_true _
  go_wp2
  refine bodyPost_ret (results_cell_tmp Try.results17 _ _ rb _ _ _ _ rfl (res4_kept HX5.out.r) Try.underlying42 rfl Try.sizeD) rfl ⟨kk, _, _, _, L', ?_, HB5.out.fin HX5.out.r ?_ ?_ _ _ _ _, hkl, hll, HX5.out.fin _ _ _ _⟩
  · rfl
  · have := HX5.out.lo; omega
  · have := HX5.out.lo; have := HLW.out.2.1; have := HXB.out; omega
end Go.Proofs.Ytacggabopdoijaa
