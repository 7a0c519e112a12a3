/- Texts of this seat, joined: GRound, ZAre, ZRead, GCut, ZWrite: each opens with what it holds. -/
import Derived.Test.YtjgkhckcoknnfaaZ2
import Derived.BigQuiet
import Derived.Deep.QuietTactic
import Derived.Deep.RegionHeld3
/- A region that draws its order, within a round of a loop over a function: it is walked as one outside of a round: general. -/
namespace Go.Proofs.Ytjgkhckcoknnfaa
open Go.RowKit

section
variable {P : Program} {ops : Array Oper} {Q : Exit → Act → World → Prop} {l n : Nat}
theorem upon_round {o : Oper} {a : Act} {next next' : Act → World → Prop} (hn : ∀ a w, next a w → next' a w) : ∀ {r : Result Next}, o.upon P a next Q r → o.uponIn (Fence.wide.inRound l) n P a next' Q r
  | .ok (.value v) w', h => hn _ _ h
  | .ok .skip w', h => hn _ _ h
  | .ok (.defer d) w', h => hn _ _ h
  | .ok (.enter f args) w', h => by
    refine ⟨fun h => (by cases h), CallsIn.inRound l (callsIn_wide.2 (Calls.mono h ?_))⟩
    intro e w2 h2
    cases e with
    | returned v => exact hn _ _ h2
    | panicked chain => exact h2
    | outgrown => exact h2
  | .ok (.row row args) w', h => by
    refine ⟨fun h => (by cases h), fun c cs _ => ?_⟩
    obtain ⟨v, w2, h2, h3⟩ := h c cs
    exact ⟨v, w2, hn _ _ h2, stepsIn_wide.2 h3⟩
  | .halt (.panic v) w', h => h
theorem ops_round (hd : ∀ (i : Nat) (o : Oper), ops[i]? = some o → ∀ c, o.op ≠ .defer c) (hno : ¬ LetsOut Q) : ∀ (is : List Nat) (a : Act) (w : World), wpOps P ops Q is a w → wpOpsIn (Fence.wide.inRound l) n P ops Q is a w
  | [], a, w, h => h
  | i :: rest, a, w, h => by
    unfold wpOps at h
    unfold wpOpsIn
    cases ho : ops[i]? with
    | none =>
      simp only [ho] at h ⊢
      exact ops_round hd hno rest a w h
    | some o =>
      simp only [ho] at h ⊢
      by_cases hw : Region.wanted o (yielded ops a.tmps) = true
      · rw [if_pos hw] at h ⊢
        rcases h with h | ⟨_, h⟩
        · refine ⟨fun _ _ => trivial, ?_⟩
          rw [Oper.semAt_eq _ _ _ (hd i o ho)]
          exact upon_round (fun a w h => ops_round hd hno rest a w h) h
        · exact absurd h hno
      · rw [if_neg hw] at h ⊢
        exact ⟨fun _ _ => trivial, ops_round hd hno rest _ _ h⟩
/-- No operation defers. -/
def calm (ops : Array Oper) : Bool := ops.all fun o => match o.op with | .defer _ => false | _ => true
theorem calm_of (h : calm ops = true) : ∀ (i : Nat) (o : Oper), ops[i]? = some o → ∀ c, o.op ≠ .defer c := by
  intro i o ho c hc
  have := Array.all_eq_true_iff_forall_mem.1 h o (Array.mem_of_getElem? ho)
  rw [hc] at this
  cases this
theorem region_round {id : Nat} {a : Act} {w : World} (hd : calm ops = true) (hno : ¬ LetsOut Q) (hm : P.follows .mixedOrders = true)
    (h : wpAny P .any ops Q ops.size (Array.replicate ops.size false) a w.drew) : (Code.region id ops true).wpIn (Fence.wide.inRound l) n P Q a w :=
  wpIn_region_draw fun t => by
    simp only [Region.schedule, hm, Bool.true_or, if_true]
    exact ops_round (calm_of hd) hno _ _ _ (wpAny_sound ops.size t _ a _ h)
/-- It reads alone: one walk in the text's order. -/
theorem region_round_quiet {id : Nat} {a : Act} {w : World} {ls : List Oper} (hd : calm ls.toArray = true) (hno : ¬ LetsOut Q) (hm : P.follows .mixedOrders = true) (hB : Region.lexB .any ls.toArray = true)
    (h : wpQuiet P ls.toArray (fun w' => ∃ n, w' = w.drewN n) (fun a' => ∀ w', (∃ n, w' = w.drewN n) → Q .normal a' w') ls a) : (Code.region id ls.toArray true).wpIn (Fence.wide.inRound l) n P Q a w := by
  simp only [Region.lexB, Bool.and_eq_true] at hB
  refine region_round hd hno hm (wpAny_of_quiet (C := fun w' => ∃ n, w' = w.drewN n) (Q := fun a' => ∀ w', (∃ n, w' = w.drewN n) → Q .normal a' w') (fun _ w' hw' h => h w' hw') _ _ _ _ ⟨1, rfl⟩ ?_)
  have := wpAnyQ_lex (C := fun w' => ∃ n, w' = w.drewN n) (md := .any) hB.1 ls.toArray.toList 0 (Array.replicate ls.toArray.size false) a (by simp) (by simpa using hB.2) (by simpa using h)
  simpa using this
/-- It is held: what S says stands behind each operation. -/
theorem region_round_held {id : Nat} {a : Act} {w : World} {S : World → Prop} (hd : calm ops = true) (hno : ¬ LetsOut Q) (hm : P.follows .mixedOrders = true) (hS : S w.drew)
    (h : S w.drew → wpAnyH P .any ops Q S ops.size (Array.replicate ops.size false) a w.drew) : (Code.region id ops true).wpIn (Fence.wide.inRound l) n P Q a w :=
  region_round hd hno hm (wpAny_of_held _ _ _ _ (h hS))
/-- A round's end lets nothing out. -/
theorem round_lets {σ : Type} {K0 : Nat → Prop} {I Ix : σ → (Nat → Prop) → World → Prop} {s : σ} {M : Nat → Prop} {W : World} : ¬ LetsOut (roundEnd K0 I Ix s M W) := fun ⟨_, _, h⟩ => h
theorem then_lets {K : Act → World → Prop} (h : ¬ LetsOut Q) : ¬ LetsOut (Exit.then K Q) := fun ⟨a, w, h1⟩ => h ⟨a, w, h1⟩
theorem block_lets {k : Nat} (h : ¬ LetsOut Q) : ¬ LetsOut (Exit.inBlock k Q) := fun ⟨a, w, h1⟩ => h ⟨a, w, h1⟩
end
end Go.Proofs.Ytjgkhckcoknnfaa
/- The walk of zspage.areThere: may all bytes be read and written? -/
namespace Go.Proofs.Ytjgkhckcoknnfaa
open Go.RowKit
attribute [local go_sem] Oper.semAt_some

theorem loadVar_one {P : Program} (w : World) (g : Nat) (ty : TypeId) (v : Value) (d : TypeDesc) (hc : w.cell? ⟨g, 0, none⟩ = some v) (hu : P.underlying ty = some d) (hd : (match d with | .struct _ | .array _ _ => true | _ => false) = false) :
    (loadVar ty ⟨g, 0, none⟩).run P w = .ok v w := by
  have hagg : (isAgg ty).run P w = .ok false w := by
    unfold isAgg
    rw [Sem.run_bind, run_underlying hu w]
    cases d <;> simp_all
  simp [loadVar, Sem.run_bind, hagg, hc, go_sem]
theorem results_cell_one {P : Program} {fn : Func} {p1 : Tmp} {t1 : TypeId} (h : fn.results = #[.cell p1 t1]) (tmps : Array Value) (w : World) (g1 : Nat) (v1 : Value) (d1 : TypeDesc)
    (h1 : tmps.getD p1 undef = .pointer (some ⟨g1, 0, none⟩)) (c1 : w.cell? ⟨g1, 0, none⟩ = some v1) (u1 : P.underlying t1 = some d1) (e1 : (match d1 with | .struct _ | .array _ _ => true | _ => false) = false) :
    (results fn tmps).run P w = .ok v1 w := by
  have h1' : tmps[p1]?.getD undef = .pointer (some ⟨g1, 0, none⟩) := by simpa using h1
  simp [results, h, h1', asAddr, loadVar_one w g1 t1 v1 d1 c1 u1 e1]

/-- Pieces asked for, up to s: all are there. -/
structure SeeZ (W0 : World) (q : Nat) (R : RS) (L : List Int) (M : Int) (a e s : Nat) (Ms : Nat → Prop) (W : World) : Prop where
  k : Keeps (fun i => i < W0.heap.size ∧ i ≠ q + 3) W0 W
  lf : W.heap[q + 3]? = some (.cells #[.int .i64 (M - ((s : Int) - (a : Int)))] 3 (0, 0))
  out : ∀ i, Ms i → W0.heap.size ≤ i
  fit : fitZ R L (pcsZ a s) = true
  lo : a ≤ s
  hi : s ≤ e
  st : s = a ∨ s % 4096 = 0 ∨ s = e
/-- One isn't. -/
structure NoZ (W0 : World) (q : Nat) (R : RS) (L : List Int) (a e : Nat) (Ms : Nat → Prop) (W : World) : Prop where
  k : Keeps (fun i => i < W0.heap.size ∧ i ≠ q + 2 ∧ i ≠ q + 3) W0 W
  rs : W.heap[q + 2]? = some (.cells #[.bool false] 4 (0, 0))
  out : ∀ i, Ms i → W0.heap.size ≤ i
  no : fitZ R L (pcsZ a e) = false
section
variable {W0 W W' : World} {q a e s : Nat} {R : RS} {L : List Int} {M : Int} {Ms Ms' : Nat → Prop}
theorem SeeZ.kept (hq : q + 8 ≤ W0.heap.size) (h : SeeZ W0 q R L M a e s Ms W) (hk : Keeps (fun k => ¬ Ms k) W W') (hM : ∀ k, Ms' k → Ms k ∨ (W.heap.size ≤ k ∧ k < W'.heap.size)) : SeeZ W0 q R L M a e s Ms' W' := by
  have hs := h.k.size
  refine ⟨h.k.trans (hk.mono fun i _ h1 h2 => by have := h.out i h2; omega), hk.at h.lf fun h2 => by have := h.out _ h2; omega, fun i h1 => ?_, h.fit, h.lo, h.hi, h.st⟩
  rcases hM i h1 with h2 | h2
  · exact h.out i h2
  · omega
theorem NoZ.kept (hq : q + 8 ≤ W0.heap.size) (h : NoZ W0 q R L a e Ms W) (hk : Keeps (fun k => ¬ Ms k) W W') (hM : ∀ k, Ms' k → Ms k ∨ (W.heap.size ≤ k ∧ k < W'.heap.size)) : NoZ W0 q R L a e Ms' W' := by
  have hs := h.k.size
  refine ⟨h.k.trans (hk.mono fun i _ h1 h2 => by have := h.out i h2; omega), hk.at h.rs fun h2 => by have := h.out _ h2; omega, fun i h1 => ?_, h.no⟩
  rcases hM i h1 with h2 | h2
  · exact h.out i h2
  · omega
end
/-- A piece that isn't there is one of all. -/
theorem fit_not {R : RS} {L : List Int} {a s e : Nat} (he : e ≤ a + 4096) (h1 : a ≤ s) (h2 : s < e) (h3 : s = a ∨ s % 4096 = 0) (h : isZ R L (pzAt s e) = false) : fitZ R L (pcsZ a e) = false := by
  cases hf : fitZ R L (pcsZ a e) with
  | false => rfl
  | true => rw [fit_told hf he h1 h2 h3] at h; cases h

/-- A round's end where a piece isn't there. -/
theorem noZ_end {W0 W2 : World} {q a e x s : Nat} {R : RS} {L : List Int} {M : Int} {Ms : Nat → Prop} (nq : Nat) (h : SeeZ W0 q R L M a e x Ms W2) (hb : W2.heap[q + 2]? = some (.cells #[.bool false] 4 (0, 0))) (hno : fitZ R L (pcsZ a e) = false) (hq : q + 8 ≤ W0.heap.size) :
    Hid (roundEnd (fun i => q + 4 ≤ i ∧ i < q + 8) (SeeZ W0 q R L M a e) (fun _ => NoZ W0 q R L a e) s Ms W2 .ret { tmps := #[], defers := [] } ((W2.drewN nq).setCell ⟨q + 2, 0, none⟩ (.bool false))) := by
  have k1 : Keeps (fun _ => True) W2 (W2.drewN nq) := keeps_below (drewN_below W2.heap.size W2 nq) fun _ h _ => h
  have k2 : Keeps (fun i => i ≠ q + 2) (W2.drewN nq) ((W2.drewN nq).setCell ⟨q + 2, 0, none⟩ (.bool false)) := ⟨rfl, rfl, rfl, by simp, fun i _ h5 => Below.heap_setCell _ _ _ _ h5⟩
  have k3 : Keeps (fun i => i ≠ q + 2) W2 ((W2.drewN nq).setCell ⟨q + 2, 0, none⟩ (.bool false)) := (k1.mono fun _ _ _ => trivial).trans k2
  refine ⟨k3.mono fun i _ h1 => ?_, ⟨(h.k.mono fun i _ h1 => ⟨h1.1, by omega⟩).trans (k3.mono fun i _ h1 => by omega), one_setCell (k1.at hb trivial), h.out, hno⟩⟩
  rcases h1 with h1 | h1
  · omega
  · have := h.out i h1
    omega
set_option maxRecDepth 100000 in
set_option maxHeartbeats 1000000 in
theorem are_any {B E r : Nat} {R : RS} {L : List Int} {ar : Option Addr} {cr : Nat} {S N F M : Int} {a e : Nat} (w : World) (h : RamAt B E w r R) (hr : RowAt w B E ar L)
    (hF : F < 9223372036854775808) (hae : Zae S N F M a e) :
    Calls Try.prog 82 #[.pointer (some ⟨r, 0, none⟩), .slice ar L.length cr, .int .i64 S, .int .i64 N, .int .i64 F, .int .i64 M] w fun e' w' => e' = .returned (.bool (areZ R L M a e)) ∧ Below w.heap.size w w' := by
  have hle := hae.le
  refine (callsIn_wide (n := 3)).1 ?_
  refine callsIn_of_wp_marks Try.func82 rfl trivial ?_ rfl
  simp only [Try.ntmps82, List.size_toArray, List.length_cons, List.length_nil, Nat.reduceAdd, Nat.reduceSub, Array.replicate_succ, Array.replicate_zero, List.push_toArray, List.append_toArray, List.nil_append, List.cons_append]
  gi_wp2_with fail
  simp only [Nat.add_assoc, Nat.reduceAdd]
  obtain ⟨W4, hW4⟩ : ∃ W4, W4 = (((w.alloc (.cells #[.pointer (some ⟨r, 0, none⟩)] 23)).alloc (.cells #[.slice ar L.length cr] 30)).alloc (.cells #[.bool false] 4)).alloc (.cells #[.int .i64 M] 3) := ⟨_, rfl⟩
  obtain ⟨hb4, hs4, x0, x1, x2, x3⟩ := four_new w _ _ _ _ hW4
  rw [← hW4]
  clear hW4
  refine ⟨trivial, CallsIn.mono (callsIn_wide.2 (pieces_any S N F M W4)) ?_⟩
  rintro e' W0 ⟨rfl, hc, hb0⟩
  have hs0 := hc.lt
  obtain ⟨q, hq⟩ : ∃ q, w.heap.size = q := ⟨_, rfl⟩
  rw [hq] at hs4 x0 x1 x2 x3
  have hEq : E ≤ q := by rw [← hq]; exact h.hi.1
  have hbw : Below q w W0 := by rw [← hq]; exact hb4.trans (hb0.mono (by omega))
  have y0 := (hb0.block _ (by omega)).trans x0
  have y1 := (hb0.block _ (by omega)).trans x1
  have y2 := (hb0.block _ (by omega)).trans x2
  have y3 := (hb0.block _ (by omega)).trans x3
  rw [hq]
  rw [hs4] at hs0 hc ⊢
  clear hb4 hs4 x0 x1 x2 x3 hb0
  gi_wp2_with fail
  have hq8 : q + 8 ≤ W0.heap.size := by omega
  refine range_wp (gf := 85) (lb := zLb (q + 4)) rfl (enters_of Try.func85 (by kernel_rfl) rfl)
    (pieces_iter (K0 := fun i => q + 4 ≤ i ∧ i < q + 8) W0 hc hF hae) (fun i hi => by omega) (fun _ => rfl) (SeeZ W0 q R L M a e) (fun _ => NoZ W0 q R L a e)
    (fun _ _ _ _ _ h1 h2 h3 => SeeZ.kept hq8 h1 h2 h3) (fun _ _ _ _ _ h1 h2 h3 => NoZ.kept hq8 h1 h2 h3)
    ⟨Keeps.refl _ _, by rw [y3]; simp, fun _ h => h.elim, by rw [pcs_none (Nat.le_refl _)]; rfl, Nat.le_refl _, hle.1, .inl rfl⟩
    (fun x W a1 W1 => W1 = W.alloc (.cells (pzC (pzAt x e)).toArray 120) ∧ a1 = { tmps := #[.pointer (some ⟨r, 0, none⟩), .slice ar L.length cr, .int .i64 S, .int .i64 N, .int .i64 F, .int .i64 M, .pointer (some ⟨q, 0, none⟩), .pointer (some ⟨q + 1, 0, none⟩), undef, undef, undef, undef, .pointer (some ⟨q + 2, 0, none⟩), .pointer (some ⟨q + 3, 0, none⟩), .pointer (some ⟨W.heap.size, 0, none⟩), .int .i64 M, .int .i64 S, .int .i64 N, .int .i64 F, .int .i64 M, .func (.func 85) #[] (zLb (q + 4)), .agg (pzC (pzAt x e)).toArray, undef, undef, undef, undef, undef, undef, undef, undef, undef, undef, undef, undef, undef, undef, undef, undef, undef, undef, undef, undef, undef], defers := [] }) ?assign ?body ?done ?stop
  case assign =>
    intro m l x W K hK
    obtain ⟨x0, x1, x2, hx⟩ : ∃ x0 x1 x2 : Int, pzC (pzAt x e) = [.int .i64 x0, .int .i64 x1, .int .i64 x2] := ⟨_, _, _, rfl⟩
    unfold pcV
    rw [hx] at hK ⊢
    clear hx
    gi_wp2
    exact hK _ _ ((Below.refl _ W).alloc (Nat.le_refl _) _) ⟨rfl, rfl⟩
  case body =>
    rintro m l s Ms x W a1 W1 W2 hv ⟨rfl, hse⟩ hMl hl hM hbW ⟨rfl, rfl⟩ hlp hk hsz
    have hv2 := (hv.kept hq8 (keeps_all hbW) (fun _ h => .inl h)).kept hq8 (hk.mono fun k _ h1 h2 => h1 (h2 ▸ hMl)) (fun _ h => .inl h)
    obtain ⟨f, hf⟩ : ∃ f, x / 4096 = f := ⟨_, rfl⟩
    obtain ⟨z, hz⟩ : ∃ z, x % 4096 = z := ⟨_, rfl⟩
    obtain ⟨n, hn⟩ : ∃ n, pzL x e = n := ⟨_, rfl⟩
    have hlW := hM l hMl
    have hxc := hk.at (heap_alloc_new W (.cells (pzC (pzAt x e)).toArray 120)) (by omega : W.heap.size ≠ l)
    have hx : pzC (pzAt x e) = [.int .i64 (f : Int), .int .i64 (z : Int), .int .i64 (n : Int)] := by
      unfold pzAt
      rw [hf, hz, hn]
      rfl
    have hpf : (pzAt x e).f = f := hf
    have hst : x = a ∨ x % 4096 = 0 := by
      rcases hv.st with h | h | h
      · exact .inl h
      · exact .inr h
      · omega
    have hl2 := pzL_pos hse
    rw [hn] at hl2
    rw [hx] at hxc hsz ⊢
    obtain ⟨d0, d1, d2⟩ := cells_three hxc
    have kq : Keeps (fun i => i < q) w W2 := (keeps_below hbw fun _ _ h => h).trans (hv2.k.mono fun i _ h1 => by omega)
    have hram : RamAt B E W2 r R := h.keeps kq fun i _ h1 => by omega
    have hrow : RowAt W2 B E ar L := hr.kept kq fun i h1 _ => by omega
    have b0 := cell_of_one (hv2.k.at y0 ⟨by omega, by omega⟩)
    have b1 := cell_of_one (hv2.k.at y1 ⟨by omega, by omega⟩)
    have b2 := cell_of_one (hv2.k.at y2 ⟨by omega, by omega⟩)
    have g2 := free_of_one (hv2.k.at y2 ⟨by omega, by omega⟩)
    have b3 := cell_of_one hv2.lf
    have g3 := free_of_one hv2.lf
    have HV : Hid (SeeZ W0 q R L M a e x Ms W2) := hv2
    have HB2 : Hid (W2.heap[q + 2]? = some (.cells #[.bool false] 4 (0, 0))) := hv2.k.at y2 ⟨by omega, by omega⟩
    have HME : Hid (M = (e : Int) - (a : Int)) := by
      show _ = _
      rcases hae with ⟨_, h1, h2⟩ | ⟨_, h1, h2⟩ <;> omega
    have hlo := hv.lo
    have hFL : f < 256 := by omega
    clear hv hv2 hxc hk hbW hlp hx hsz
    by_cases hfl : f < L.length
    · obtain ⟨gr, o, rfl, hg1, hg2, hcell⟩ := hrow.at hfl
      have i1 : ¬ (L.length : Int) ≤ (f : Int) := by omega
      have i2 : decide (L.length ≤ f) = false := decide_eq_false (by omega)
      have i3 : (f : Int) < (L.length : Int) := by omega
      have HW : Hid (∀ k, Calls Try.prog 64 #[.pointer (some ⟨r, 0, none⟩), .int .i64 (L.getD f 0)] (W2.drewN k) fun e w' => e = .returned (.int .i64 (R.own (L.getD f 0))) ∧ ∃ m, w' = W2.drewN m) :=
        fun k => (wOwner_at (L.getD f 0) (W2.drewN k) (hram.below (drewN_below _ _ _))).mono fun _ _ h => ⟨h.1, k, h.2.symm⟩
      obtain ⟨y, hy⟩ : ∃ y, R.own (L.getD f 0) = y := ⟨_, rfl⟩
      rw [hy] at HW
      by_cases ho : y = 0
      · have HNO : Hid (fitZ R L (pcsZ a e) = false) := fit_not hle.2.1 hlo hse hst (by unfold isZ; rw [hpf, decide_eq_true hfl, Bool.true_and, hy, ho]; rfl)
        subst ho
        generalize L.getD f 0 = u at *
        dsimp only
        gi_wp2_with fail
        refine region_round_quiet (by kernel_rfl) (by repeat (first | exact round_lets | refine then_lets ?_ | refine block_lets ?_)) (by kernel_rfl) (by kernel_rfl) ?_
        repeat (go_big_quiet_step ((go_at_call 64; exact HW.out _)))
        refine wpQuiet_nil ?_
        rintro _ ⟨nq, rfl⟩
        have HE := noZ_end (s := x + pzL x e) nq HV.out HB2.out HNO.out hq8
        gi_wp2
        exact HE.out
      · have i4 : (y == 0) = false := by rw [beq_eq_false_iff_ne]; exact ho
        have i5 : (y : Int) ≠ 0 := ho
        have HIS : Hid (isZ R L (pzAt x e) = true) := by
          show _ = _
          unfold isZ
          rw [hpf, decide_eq_true hfl, Bool.true_and, hy, decide_eq_true ho]
        generalize L.getD f 0 = u at *
        dsimp only
        gi_wp2_with fail
        refine region_round_quiet (by kernel_rfl) (by repeat (first | exact round_lets | refine then_lets ?_ | refine block_lets ?_)) (by kernel_rfl) (by kernel_rfl) ?_
        repeat (go_big_quiet_step ((go_at_call 64; exact HW.out _)))
        refine wpQuiet_nil ?_
        rintro _ ⟨nq, rfl⟩
        have HE : Hid (roundEnd (fun i => q + 4 ≤ i ∧ i < q + 8) (SeeZ W0 q R L M a e) (fun _ => NoZ W0 q R L a e) (x + pzL x e) Ms W2 .normal { tmps := #[], defers := [] } ((W2.drewN nq).setCell ⟨q + 3, 0, none⟩ (.int .i64 (M - ((x : Int) - (a : Int)) - (n : Int))))) := by
          have k1 : Keeps (fun _ => True) W2 (W2.drewN nq) := keeps_below (drewN_below W2.heap.size W2 nq) fun _ h _ => h
          have k2 : Keeps (fun i => i ≠ q + 3) (W2.drewN nq) ((W2.drewN nq).setCell ⟨q + 3, 0, none⟩ (.int .i64 (M - ((x : Int) - (a : Int)) - (n : Int)))) := ⟨rfl, rfl, rfl, by simp, fun i _ h5 => Below.heap_setCell _ _ _ _ h5⟩
          have k3 : Keeps (fun i => i ≠ q + 3) W2 ((W2.drewN nq).setCell ⟨q + 3, 0, none⟩ (.int .i64 (M - ((x : Int) - (a : Int)) - (n : Int)))) := (k1.mono fun _ _ _ => trivial).trans k2
          have hv := HV.out
          refine ⟨k3.mono fun i _ h1 => ?_, ⟨hv.k.trans (k3.mono fun i _ h1 => h1.2), ?_, hv.out, ?_, by omega, by omega, by omega⟩⟩
          · rcases h1 with h1 | h1
            · omega
            · have := hv.out i h1
              omega
          · rw [hn, show M - (((x + n : Nat) : Int) - (a : Int)) = M - ((x : Int) - (a : Int)) - (n : Int) by omega]
            exact one_setCell (k1.at hv.lf trivial)
          · rw [pcs_told hle.2.1 hlo hse hst, fit_snoc, hv.fit, HIS.out]
            rfl
        have hw1 : 0 ≤ M - ((x : Int) - (a : Int)) - (n : Int) ∧ M - ((x : Int) - (a : Int)) - (n : Int) ≤ 4096 := by
          have := HME.out
          omega
        gi_wp2
        exact HE.out
    · have i1 : (L.length : Int) ≤ (f : Int) := by omega
      have i2 : decide (L.length ≤ f) = true := decide_eq_true (by omega)
      have HNO : Hid (fitZ R L (pcsZ a e) = false) := fit_not hle.2.1 hlo hse hst (by unfold isZ; rw [hpf, decide_eq_false hfl]; rfl)
      have HW : Hid True := trivial
      dsimp only
      gi_wp2_with fail
      refine region_round_quiet (by kernel_rfl) (by repeat (first | exact round_lets | refine then_lets ?_ | refine block_lets ?_)) (by kernel_rfl) (by kernel_rfl) ?_
      repeat (go_big_quiet_step ((go_at_call 64; exact HW.out _)))
      refine wpQuiet_nil ?_
      rintro _ ⟨nq, rfl⟩
      have HE := noZ_end (s := x + pzL x e) nq HV.out HB2.out HNO.out hq8
      gi_wp2
      exact HE.out
  case done =>
    rintro D s Ms W hD hdone hMD hv hK
    have hd : s = e := Nat.le_antisymm hv.hi hdone
    subst hd
    have b2 := cell_of_one (hv.k.at y2 ⟨by omega, by omega⟩)
    have g2 := free_of_one (hv.k.at y2 ⟨by omega, by omega⟩)
    have b3 := cell_of_one hv.lf
    have HB2 : Hid (W.heap[q + 2]? = some (.cells #[.bool false] 4 (0, 0))) := hv.k.at y2 ⟨by omega, by omega⟩
    have HA : Hid (areZ R L M a s = (M - ((s : Int) - (a : Int)) == 0)) := by
      show _ = _
      unfold areZ
      rw [hv.fit, Bool.true_and]
      by_cases h0 : M = (s : Int) - (a : Int)
      · rw [decide_eq_true h0, beq_iff_eq.2 (by omega)]
      · rw [decide_eq_false h0, beq_eq_false_iff_ne.2 (by omega)]
    have HKD : Hid (W.heap[D]? = some (.deferred (some []))) := hK
    have HWB : Hid (Below w.heap.size w W) := by
      show Below _ _ _
      rw [hq]
      exact hbw.trans (hv.k.below (fun i h1 => by omega) (by omega))
    clear hv hK
    gi_wp2
    rw [← HA.out]
    have k2 : Keeps (fun i => i ≠ q + 2) W (W.setCell ⟨q + 2, 0, none⟩ (.bool (areZ R L M a s))) := ⟨rfl, rfl, rfl, by simp, fun i _ h5 => Below.heap_setCell _ _ _ _ h5⟩
    have hKD := k2.at HKD.out (by omega)
    have hsw := HWB.out.size
    refine ⟨by simp, .inl ⟨D, _, rfl, run_takeDeferred hKD, ?_⟩⟩
    have hp := keeps_put (W.setCell ⟨q + 2, 0, none⟩ (.bool (areZ R L M a s))) D (.deferred none)
    exact ⟨_, results_cell_one Try.results82 _ _ (q + 2) (.bool (areZ R L M a s)) _ rfl (cell_of_one (hp.at (one_setCell HB2.out) (by omega))) Try.underlying4 rfl, rfl, HWB.out.trans ((k2.below (fun i h1 => by omega) hsw).trans (hp.below (fun i h1 => by omega) (by simpa using hsw)))⟩
  case stop =>
    rintro D s Ms W hD _ hMD hv hK
    have HNO : Hid (areZ R L M a e = false) := by
      show _ = _
      unfold areZ
      rw [hv.no]
      rfl
    gi_wp2
    refine ⟨by simp, .inl ⟨D, _, rfl, run_takeDeferred hK, ?_⟩⟩
    have hp := keeps_put W D (.deferred none)
    rw [HNO.out]
    exact ⟨_, results_cell_one Try.results82 _ _ (q + 2) (.bool false) _ rfl (cell_of_one (hp.at hv.rs (by omega))) Try.underlying4 rfl, rfl, hq ▸ hbw.trans ((hv.k.below (fun i h1 => by omega) (by omega)).trans (hp.below (fun i h1 => by omega) (by have := hv.k.size; omega)))⟩
end Go.Proofs.Ytjgkhckcoknnfaa
/- The walk of zspage.Read over a RAM that is there. -/
namespace Go.Proofs.Ytjgkhckcoknnfaa
open Go.RowKit
attribute [local go_sem] Oper.semAt_some

/-- What a Read answers, and leaves. -/
def redZ (R : RS) (L : List Int) (M : Int) (a e : Nat) : List Nat := if areZ R L M a e then gotZ R L (pcsZ a e) else []
def touZ (R : RS) (L : List Int) (M : Int) (a e : Nat) : RS := if areZ R L M a e then toucZ R (pcsZ a e).length else R
/-- Bytes read, up to s. -/
structure GotZ (W0 : World) (B E r vb base : Nat) (R : RS) (L : List Int) (a e s : Nat) (Ms : Nat → Prop) (W : World) (v : Value) : Prop where
  k : Keeps (fun i => i < base ∧ (i < B ∨ E ≤ i)) W0 W
  vx : W.heap[vb]? = some (.cells #[v] 49 (0, 0))
  own : W.ownsRow base 5 1 v (gotZ R L (pcsZ a s)).length (bv (gotZ R L (pcsZ a s)))
  ne : ∀ i, vb ≤ i → i < W0.heap.size → v.ownBlock ≠ some i
  ram : RamAt B E W r (toucZ R (pcsZ a s).length)
  out : ∀ i, Ms i → W0.heap.size ≤ i ∧ v.ownBlock ≠ some i
  lo : a ≤ s
  hi : s ≤ e
  st : s = a ∨ s % 4096 = 0 ∨ s = e
  ln : (gotZ R L (pcsZ a s)).length = s - a
def GotZI (W0 : World) (B E r vb base : Nat) (R : RS) (L : List Int) (a e s : Nat) (Ms : Nat → Prop) (W : World) : Prop := ∃ v, GotZ W0 B E r vb base R L a e s Ms W v
theorem GotZ.kept {W0 W W' : World} {B E r vb base a e s : Nat} {R : RS} {L : List Int} {Ms Ms' : Nat → Prop} {v : Value} (hb : base ≤ vb ∧ vb < W0.heap.size ∧ E ≤ base) (h : GotZ W0 B E r vb base R L a e s Ms W v)
    (hk : Keeps (fun k => ¬ Ms k) W W') (hM : ∀ k, Ms' k → Ms k ∨ (W.heap.size ≤ k ∧ k < W'.heap.size)) : GotZ W0 B E r vb base R L a e s Ms' W' v := by
  have no : ∀ k, k < W0.heap.size → ¬ Ms k := fun k h1 h2 => by have := (h.out k h2).1; omega
  have hs := h.k.size
  refine ⟨h.k.trans (hk.mono fun i _ h1 => no i (by omega)), hk.at h.vx (no _ hb.2.1), hk.row h.own fun g hg h1 => (h.out g h1).2 hg, h.ne, h.ram.keeps hk fun i _ h1 => no i (by omega), fun i h1 => ?_, h.lo, h.hi, h.st, h.ln⟩
  rcases hM i h1 with h2 | h2
  · exact h.out i h2
  · refine ⟨by omega, fun h3 => ?_⟩
    have := h.own.lt i h3
    omega
theorem bv_ones (b : List Nat) : ∀ u ∈ bv b, u.oneCell' = true := by
  intro u hu
  obtain ⟨y, _, rfl⟩ := List.mem_map.1 hu
  rfl

set_option maxRecDepth 100000 in
set_option maxHeartbeats 1000000 in
theorem zRead_any {B E r : Nat} {R : RS} {L : List Int} {ar : Option Addr} {cr : Nat} {S N F M : Int} {a e : Nat} (w : World) (h : RamAt B E w r R) (hr : RowAt w B E ar L)
    (hF : F < 9223372036854775808) (hae : Zae S N F M a e) :
    Calls Try.prog 80 #[.pointer (some ⟨r, 0, none⟩), .slice ar L.length cr, .int .i64 S, .int .i64 N, .int .i64 F, .int .i64 M] w fun e' w' => ∃ v, e' = .returned (.tuple #[v, .bool (areZ R L M a e)]) ∧
      w'.ownsRow w.heap.size 5 1 v (redZ R L M a e).length (bv (redZ R L M a e)) ∧ RamAt B E w' r (touZ R L M a e) ∧ Turns B E w w' := by
  obtain ⟨i0, hi, hz0, hz1, hz2⟩ := info_parts Try.info5
  have hle := hae.le
  obtain ⟨W2, hW2⟩ : ∃ W2, W2 = (w.alloc (.cells #[.pointer (some ⟨r, 0, none⟩)] 23)).alloc (.cells #[.slice ar L.length cr] 30) := ⟨_, rfl⟩
  obtain ⟨q, hq⟩ : ∃ q, w.heap.size = q := ⟨_, rfl⟩
  have hb2 : Below q w W2 := by rw [hW2, ← hq]; exact ((Below.refl _ w).alloc (Nat.le_refl _) _).alloc (by simp) _
  have hs2 : W2.heap.size = q + 2 := by rw [hW2, ← hq]; simp
  have y0 : W2.heap[q]? = some (.cells #[.pointer (some ⟨r, 0, none⟩)] 23 (0, 0)) := by
    rw [hW2, ← hq, Below.heap_alloc _ _ _ (by simp)]
    exact heap_alloc_new w _
  have y1 : W2.heap[q + 1]? = some (.cells #[.slice ar L.length cr] 30 (0, 0)) := by
    have := heap_alloc_new (w.alloc (.cells #[.pointer (some ⟨r, 0, none⟩)] 23)) (.cells #[.slice ar L.length cr] 30)
    rw [hW2, ← hq]
    simpa using this
  have hEq : E ≤ q := by rw [← hq]; exact h.hi.1
  have x0 := cell_of_one y0
  have x1 := cell_of_one y1
  have hram2 : RamAt B E W2 r R := h.below (hq ▸ hb2)
  have HA : Hid _ := are_any (cr := cr) W2 hram2 (hr.later (Turns.of_below (hq ▸ hb2))) hF hae
  refine (callsIn_wide (n := 3)).1 ?_
  refine callsIn_of_wp_marks Try.func80 rfl trivial ?_ rfl
  simp only [Try.ntmps80, List.size_toArray, List.length_cons, List.length_nil, Nat.reduceAdd, Nat.reduceSub, Array.replicate_succ, Array.replicate_zero, List.push_toArray, List.append_toArray, List.nil_append, List.cons_append]
  gi_wp2_with fail
  rw [← hW2]
  clear hW2
  refine ⟨trivial, CallsIn.mono (callsIn_wide.2 HA.out) ?_⟩
  rintro e' W3 ⟨rfl, hb3⟩
  have hs3 := hb3.size
  rw [hs2] at hs3
  have hT3 : Turns B E w W3 := Turns.of_below (hq ▸ (hb2.trans (hb3.mono (by omega))))
  cases hare : areZ R L M a e with
  | false =>
    have HR : Hid (redZ R L M a e = [] ∧ touZ R L M a e = R) := by
      unfold redZ touZ
      rw [hare]
      exact ⟨rfl, rfl⟩
    have HT : Hid (Turns B E w W3) := hT3
    have HM : Hid (RamAt B E W3 r R) := hram2.below hb3
    clear hT3 hram2 hb3 hb2
    gi_wp2_with fail
    rw [hare, HR.out.1, HR.out.2]
    exact ⟨_, results_tmp2 Try.results80 _ _ _, _, rfl, World.ownsRow_nil _ _ _ _, HM.out, HT.out⟩
  | true =>
    obtain ⟨hfit, hM⟩ : fitZ R L (pcsZ a e) = true ∧ M = (e : Int) - (a : Int) := by
      unfold areZ at hare
      rw [Bool.and_eq_true, decide_eq_true_eq] at hare
      exact hare
    obtain ⟨k, hk⟩ : ∃ k, e - a = k := ⟨_, rfl⟩
    obtain rfl : M = (k : Int) := by omega
    have hk4 : k ≤ 4096 := by omega
    have y03 := (hb3.block _ (by omega)).trans y0
    have y13 := (hb3.block _ (by omega)).trans y1
    have HARE : Hid (areZ R L (k : Int) a e = true) := hare
    clear hM hare
    gi_wp2_with (gi_at_make; refine wpListIn_make_own _ rfl _ _ 49 rfl W3.heap.size 5 i0 (.int .u8 0) 1 Try.underlying49 hi hz0 hz1 .i64 .i64 _ k rfl rfl rfl (by rw [hz2]; omega) (by unfold maxLen; omega) (Nat.le_refl _) ?_)
    intro W4 own4 gr4
    gi_wp2_with fail
    obtain ⟨g0, hg0⟩ : ∃ g0, W3.heap.size = g0 := ⟨_, rfl⟩
    obtain ⟨vb, hvb⟩ : ∃ vb, W4.heap.size = vb := ⟨_, rfl⟩
    have hgv := (own4.lt g0 (by rw [hg0]; rfl)).2
    have hx5 := heap_alloc_new W4 (.cells #[.slice (some ⟨g0, 0, none⟩) 0 k] 49)
    have ow5 := (own4.alloc (.cells #[.slice (some ⟨g0, 0, none⟩) 0 k] 49))
    have b34 : Below W3.heap.size W3 W4 := (Below.refl _ W3).grown gr4 (Nat.le_refl _) (fun i hi => by cases hi)
    have hs5 : (W4.alloc (.cells #[.slice (some ⟨g0, 0, none⟩) 0 k] 49)).heap.size = vb + 1 := by simp [hvb]
    have b35 : Below W3.heap.size W3 (W4.alloc (.cells #[.slice (some ⟨g0, 0, none⟩) 0 k] 49)) := b34.alloc b34.size _
    rw [hg0] at b35 own4 ow5 hs3 ⊢
    rw [hvb] at hx5 hgv ⊢
    generalize W4.alloc (.cells #[.slice (some ⟨g0, 0, none⟩) 0 k] 49) = W5 at *
    refine ⟨trivial, CallsIn.mono (callsIn_wide.2 (pieces_any S N F (k : Int) W5)) ?_⟩
    rintro e' W0 ⟨rfl, hc, hb0⟩
    have hs0 := hc.lt
    rw [hs5] at hc hs0 hb0 ⊢
    have b30 : Below g0 W3 W0 := b35.trans (hb0.mono (by omega))
    have hram0 : RamAt B E W0 r R := (hram2.below hb3).below (hg0 ▸ b30)
    have bw0 : Below q w W0 := hb2.trans ((hb3.mono (by omega)).trans (b30.mono (by omega)))
    have y00 := (b30.block _ (by omega)).trans y03
    have y10 := (b30.block _ (by omega)).trans y13
    have hx0 := (hb0.block _ (by omega)).trans hx5
    have hv0 : GotZ W0 B E r vb g0 R L a e a (fun _ => False) W0 (.slice (some ⟨g0, 0, none⟩) 0 k) := by
      refine ⟨Keeps.refl _ _, hx0, ?_, ?_, ?_, fun _ h => h.elim, Nat.le_refl _, hle.1, .inl rfl, by rw [pcs_none (Nat.le_refl _), Nat.sub_self]; rfl⟩
      · rw [pcs_none (Nat.le_refl _)]
        exact row_below ow5 (hs5 ▸ hb0)
      · intro i hi1 _ h1
        have h2 : g0 = i := by simpa [Value.ownBlock] using h1
        omega
      · rw [pcs_none (Nat.le_refl _)]
        exact hram0
    have hbb : g0 ≤ vb ∧ vb < W0.heap.size ∧ E ≤ g0 := by omega
    clear hram2 hb3 hT3 hb2 own4 gr4 ow5 b34 b35 hb0 hx5 y03 y13 y0 y1 x0 x1 hx0 hram0 HA
    gi_wp2_with fail
    refine range_wp (gf := 85) (lb := zLb (vb + 1)) rfl (enters_of Try.func85 (by kernel_rfl) rfl)
      (pieces_iter (K0 := fun i => vb + 1 ≤ i ∧ i < vb + 5) W0 hc hF hae) (fun i hi => by omega) (fun _ => rfl) (GotZI W0 B E r vb g0 R L a e) (fun _ _ _ => False)
      (fun _ _ _ _ _ ⟨v, h1⟩ h2 h3 => ⟨v, GotZ.kept hbb h1 h2 h3⟩) (fun _ _ _ _ _ h _ _ => h) ⟨_, hv0⟩
      (fun x W a1 W1 => W1 = W.alloc (.cells (pzC (pzAt x e)).toArray 120) ∧ a1 = { tmps := #[.pointer (some ⟨r, 0, none⟩), .slice ar L.length cr, .int .i64 S, .int .i64 N, .int .i64 F, .int .i64 (k : Int), .pointer (some ⟨q, 0, none⟩), .pointer (some ⟨q + 1, 0, none⟩), undef, undef, undef, undef, .slice none 0 0, .bool false, .pointer (some ⟨vb, 0, none⟩), .pointer (some ⟨W.heap.size, 0, none⟩), undef, undef, .pointer (some ⟨r, 0, none⟩), .slice ar L.length cr, .int .i64 S, .int .i64 N, .int .i64 F, .int .i64 (k : Int), .bool true, .bool false, .int .i64 (k : Int), .slice (some ⟨g0, 0, none⟩) 0 k, .int .i64 S, .int .i64 N, .int .i64 F, .int .i64 (k : Int), .func (.func 85) #[] (zLb (vb + 1)), .agg (pzC (pzAt x e)).toArray, undef, undef, undef, undef, undef, undef, undef, undef, undef, undef, undef, undef, undef, undef, undef, undef, undef, undef], defers := [] }) ?assign ?body ?done ?stop
    case assign =>
      intro m l x W K hK
      obtain ⟨x0, x1, x2, hx⟩ : ∃ x0 x1 x2 : Int, pzC (pzAt x e) = [.int .i64 x0, .int .i64 x1, .int .i64 x2] := ⟨_, _, _, rfl⟩
      unfold pcV
      rw [hx] at hK ⊢
      clear hx
      gi_wp2
      exact hK _ _ ((Below.refl _ W).alloc (Nat.le_refl _) _) ⟨rfl, rfl⟩
    case body =>
      rintro m l s Ms x W a1 W1 Wr ⟨v, hv⟩ ⟨rfl, hse⟩ hMl hl hM hbW ⟨rfl, rfl⟩ hlp hk hsz
      have hv2 := (hv.kept hbb (keeps_all hbW) (fun _ h => .inl h)).kept hbb (hk.mono fun k _ h1 h2 => h1 (h2 ▸ hMl)) (fun _ h => .inl h)
      obtain ⟨f, hf⟩ : ∃ f, x / 4096 = f := ⟨_, rfl⟩
      obtain ⟨z, hz⟩ : ∃ z, x % 4096 = z := ⟨_, rfl⟩
      obtain ⟨n, hn⟩ : ∃ n, pzL x e = n := ⟨_, rfl⟩
      have hlW := hM l hMl
      have hxc := hk.at (heap_alloc_new W (.cells (pzC (pzAt x e)).toArray 120)) (by omega : W.heap.size ≠ l)
      have hx : pzC (pzAt x e) = [.int .i64 (f : Int), .int .i64 (z : Int), .int .i64 (n : Int)] := by
        unfold pzAt
        rw [hf, hz, hn]
        rfl
      have hpz : pzAt x e = ⟨f, z, n⟩ := by unfold pzAt; rw [hf, hz, hn]
      have hst : x = a ∨ x % 4096 = 0 := by
        rcases hv.st with h | h | h
        · exact .inl h
        · exact .inr h
        · omega
      have hl2 := pzL_pos hse
      rw [hn] at hl2
      rw [hx] at hxc hsz ⊢
      obtain ⟨pb, hpb⟩ : ∃ pb, W.heap.size = pb := ⟨_, rfl⟩
      have hpW : W0.heap.size ≤ pb := by have := hv.k.size; omega
      have hpr : pb < Wr.heap.size := by rw [hsz]; simp [hpb]
      rw [hpb] at hxc ⊢
      obtain ⟨d0, d1, d2⟩ := cells_three hxc
      have kq : Keeps (fun i => i < q ∧ (i < B ∨ E ≤ i)) w Wr := (keeps_below bw0 fun _ _ h => h.1).trans (hv2.k.mono fun i _ h1 => ⟨by omega, h1.2⟩)
      have hrow : RowAt Wr B E ar L := hr.kept kq fun i h1 h2 => ⟨by omega, h2⟩
      have b0 := cell_of_one (hv2.k.at y00 ⟨by omega, by omega⟩)
      have b1 := cell_of_one (hv2.k.at y10 ⟨by omega, by omega⟩)
      have his : isZ R L ⟨f, z, n⟩ = true := hpz ▸ fit_told hfit hle.2.1 hv.lo hse hst
      have hfl : f < L.length := by
        unfold isZ at his
        rw [Bool.and_eq_true, decide_eq_true_eq] at his
        exact his.1
      obtain ⟨gr, o, rfl, hg1, hg2, hcell⟩ := hrow.at hfl
      have i3 : (f : Int) < (L.length : Int) := by omega
      have HTK : Hid (pcsZ a (x + pzL x e) = pcsZ a x ++ [⟨f, z, n⟩]) := hpz ▸ pcs_told hle.2.1 hv.lo hse hst
      obtain ⟨Rk, hRk⟩ : ∃ Rk, toucZ R (pcsZ a x).length = Rk := ⟨_, rfl⟩
      have hmay : Rk.may (L.getD f 0) (z : Int) (n : Int) = true := by rw [← hRk, touc_may]; exact is_may his (by simp only; omega)
      have hramX : RamAt B E Wr.drew r Rk := hRk ▸ hv2.ram.below (drew_below _ _)
      have hkX : Keeps (fun _ => True) Wr Wr.drew := keeps_below (drew_below Wr.heap.size Wr) fun _ h _ => h
      have hsX : Wr.drew.heap.size = Wr.heap.size := rfl
      obtain ⟨u, hu⟩ : ∃ u, L.getD f 0 = u := ⟨_, rfl⟩
      rw [hu] at hcell hmay
      have HV : Hid (GotZ W0 B E r vb g0 R L a e x Ms Wr v) := hv2
      have HM : Hid (∀ i, Ms i → i < Wr.heap.size) := fun i h1 => by have := hM i h1; omega
      have q0 : Wr.drew.cell? ⟨q, 0, none⟩ = some (.pointer (some ⟨r, 0, none⟩)) ∧ Wr.drew.cell? ⟨q + 1, 0, none⟩ = some (.slice (some ⟨gr, o, none⟩) L.length cr) ∧ Wr.drew.cell? ⟨pb, 0, none⟩ = some (.int .i64 (f : Int)) ∧ Wr.drew.cell? ⟨pb, 1, none⟩ = some (.int .i64 (z : Int)) ∧ Wr.drew.cell? ⟨pb, 2, none⟩ = some (.int .i64 (n : Int)) ∧ Wr.drew.cell? ⟨gr, o + f, none⟩ = some (.int .i64 u) := ⟨b0, b1, d0, d1, d2, hcell⟩
      have HRK : Hid (toucZ R (pcsZ a x).length = Rk) := hRk
      have hlo := hv.lo
      have hqr : q + 2 ≤ Wr.heap.size := by omega
      clear hv hv2 hxc hk hbW hlp hx hsz hpz his hRk kq hrow b0 b1 d0 d1 d2 hcell hM hlW hpb
      dsimp only
      gi_wp2_with fail
      refine region_round_held (S := fun w' => w'.cell? ⟨q, 0, none⟩ = some (.pointer (some ⟨r, 0, none⟩)) ∧ w'.cell? ⟨q + 1, 0, none⟩ = some (.slice (some ⟨gr, o, none⟩) L.length cr) ∧ w'.cell? ⟨pb, 0, none⟩ = some (.int .i64 (f : Int)) ∧ w'.cell? ⟨pb, 1, none⟩ = some (.int .i64 (z : Int)) ∧ w'.cell? ⟨pb, 2, none⟩ = some (.int .i64 (n : Int)) ∧ w'.cell? ⟨gr, o + f, none⟩ = some (.int .i64 u))
        (by kernel_rfl) (by repeat (first | exact round_lets | refine then_lets ?_ | refine block_lets ?_)) (by kernel_rfl) q0 (fun hHeld => ?_)
      generalize Wr.drew = X at *
      clear q0
      refine wpAnyH_take (i := 0) (oi := { dst := some 35, op := Op.load 23 (Operand.tmp 6), type := 23, pos := "zspage.go:39", after := #[], guard := none }) (v := ?v0) rfl (by kernel_rfl) (by kernel_rfl) (by kernel_rfl) (fun _ _ _ h => h) (Or.inl ⟨by rfl, ?hy0⟩) (by assumption) ?rest0
      case hy0 =>
        intro w hSw
        try dsimp only at hSw
        go_simp
        try with_reducible rfl
      try simp only [Act.put, List.setIfInBounds_toArray, List.set_cons_zero, List.set_cons_succ]
      refine wpAnyH_take (i := 1) (oi := { dst := some 36, op := Op.load 30 (Operand.tmp 7), type := 30, pos := "zspage.go:39", after := #[], guard := none }) (v := ?v1) rfl (by kernel_rfl) (by kernel_rfl) (by kernel_rfl) (fun _ _ _ h => h) (Or.inl ⟨by rfl, ?hy1⟩) (by assumption) ?rest1
      case hy1 =>
        intro w hSw
        try dsimp only at hSw
        go_simp
        try with_reducible rfl
      try simp only [Act.put, List.setIfInBounds_toArray, List.set_cons_zero, List.set_cons_succ]
      refine wpAnyH_take (i := 2) (oi := { dst := some 37, op := Op.fieldAddr 120 (Operand.tmp 15) 0, type := 0, pos := "zspage.go:39", after := #[], guard := none }) (v := ?v2) rfl (by kernel_rfl) (by kernel_rfl) (by kernel_rfl) (fun _ _ _ h => h) (Or.inl ⟨by rfl, ?hy2⟩) (by assumption) ?rest2
      case hy2 =>
        intro w hSw
        try dsimp only at hSw
        go_simp
        try with_reducible rfl
      try simp only [Act.put, List.setIfInBounds_toArray, List.set_cons_zero, List.set_cons_succ]
      refine wpAnyH_take (i := 3) (oi := { dst := some 38, op := Op.load 3 (Operand.tmp 37), type := 3, pos := "zspage.go:39", after := #[{ on := 2, ground := Ground.data }], guard := none }) (v := ?v3) rfl (by kernel_rfl) (by kernel_rfl) (by kernel_rfl) (fun _ _ _ h => h) (Or.inl ⟨by rfl, ?hy3⟩) (by assumption) ?rest3
      case hy3 =>
        intro w hSw
        try dsimp only at hSw
        go_simp
        try with_reducible rfl
      try simp only [Act.put, List.setIfInBounds_toArray, List.set_cons_zero, List.set_cons_succ]
      refine wpAnyH_take (i := 4) (oi := { dst := some 39, op := Op.indexAddr 30 (Operand.tmp 36) (Operand.tmp 38), type := 0, pos := "zspage.go:39", after := #[{ on := 1, ground := Ground.data }, { on := 3, ground := Ground.data }], guard := none }) (v := ?v4) rfl (by kernel_rfl) (by kernel_rfl) (by kernel_rfl) (fun _ _ _ h => h) (Or.inl ⟨by rfl, ?hy4⟩) (by assumption) ?rest4
      case hy4 =>
        intro w hSw
        try dsimp only at hSw
        go_simp
        try with_reducible rfl
      try simp only [Act.put, List.setIfInBounds_toArray, List.set_cons_zero, List.set_cons_succ]
      refine wpAnyH_take (i := 5) (oi := { dst := some 40, op := Op.load 3 (Operand.tmp 39), type := 3, pos := "zspage.go:39", after := #[{ on := 4, ground := Ground.data }], guard := none }) (v := ?v5) rfl (by kernel_rfl) (by kernel_rfl) (by kernel_rfl) (fun _ _ _ h => h) (Or.inl ⟨by rfl, ?hy5⟩) (by assumption) ?rest5
      case hy5 =>
        intro w hSw
        try dsimp only at hSw
        go_simp
        try with_reducible rfl
      try simp only [Act.put, List.setIfInBounds_toArray, List.set_cons_zero, List.set_cons_succ]
      refine wpAnyH_take (i := 6) (oi := { dst := some 41, op := Op.fieldAddr 120 (Operand.tmp 15) 1, type := 0, pos := "zspage.go:39", after := #[], guard := none }) (v := ?v6) rfl (by kernel_rfl) (by kernel_rfl) (by kernel_rfl) (fun _ _ _ h => h) (Or.inl ⟨by rfl, ?hy6⟩) (by assumption) ?rest6
      case hy6 =>
        intro w hSw
        try dsimp only at hSw
        go_simp
        try with_reducible rfl
      try simp only [Act.put, List.setIfInBounds_toArray, List.set_cons_zero, List.set_cons_succ]
      refine wpAnyH_take (i := 7) (oi := { dst := some 42, op := Op.load 3 (Operand.tmp 41), type := 3, pos := "zspage.go:39", after := #[{ on := 6, ground := Ground.data }], guard := none }) (v := ?v7) rfl (by kernel_rfl) (by kernel_rfl) (by kernel_rfl) (fun _ _ _ h => h) (Or.inl ⟨by rfl, ?hy7⟩) (by assumption) ?rest7
      case hy7 =>
        intro w hSw
        try dsimp only at hSw
        go_simp
        try with_reducible rfl
      try simp only [Act.put, List.setIfInBounds_toArray, List.set_cons_zero, List.set_cons_succ]
      refine wpAnyH_take (i := 8) (oi := { dst := some 43, op := Op.fieldAddr 120 (Operand.tmp 15) 2, type := 0, pos := "zspage.go:39", after := #[], guard := none }) (v := ?v8) rfl (by kernel_rfl) (by kernel_rfl) (by kernel_rfl) (fun _ _ _ h => h) (Or.inl ⟨by rfl, ?hy8⟩) (by assumption) ?rest8
      case hy8 =>
        intro w hSw
        try dsimp only at hSw
        go_simp
        try with_reducible rfl
      try simp only [Act.put, List.setIfInBounds_toArray, List.set_cons_zero, List.set_cons_succ]
      refine wpAnyH_take (i := 9) (oi := { dst := some 44, op := Op.load 3 (Operand.tmp 43), type := 3, pos := "zspage.go:39", after := #[{ on := 8, ground := Ground.data }], guard := none }) (v := ?v9) rfl (by kernel_rfl) (by kernel_rfl) (by kernel_rfl) (fun _ _ _ h => h) (Or.inl ⟨by rfl, ?hy9⟩) (by assumption) ?rest9
      case hy9 =>
        intro w hSw
        try dsimp only at hSw
        go_simp
        try with_reducible rfl
      try simp only [Act.put, List.setIfInBounds_toArray, List.set_cons_zero, List.set_cons_succ]
      refine wpAnyH_ready (rs := [10]) (by kernel_rfl) (by simp) ?_
      refine AllReadyH.cons (o := { dst := some 45, op := Op.call { callee := Callee.value (Operand.func 84), args := #[Operand.tmp 35, Operand.tmp 40, Operand.tmp 42, Operand.tmp 44], argTypes := #[23, 3, 3, 3] }, type := 88, pos := "zspage.go:39", after := #[{ on := 0, ground := Ground.data }, { on := 5, ground := Ground.data }, { on := 7, ground := Ground.data }, { on := 9, ground := Ground.data }], guard := none }) rfl (fun KK9 hK9 => ?_) ?more
      case more => exact AllReadyH.nil
      go_simp
      refine (wRead u (z : Int) (n : Int) X (RamP.some hramX) (by omega) (by omega)).mono ?_
      rw [hmay]
      rintro e6 W6 ⟨v2, rfl, own6, ram6, turn6⟩
      go_simp
      refine hK9.out _ _ ?keep (fun hHeld => ?_)
      case keep =>
        obtain ⟨s0, s1, s2, s3, s4, s5⟩ := hHeld
        have kt := turns_keeps turn6
        exact ⟨(kt.cell (p := ⟨q, 0, none⟩) (by show q < _; omega) (by show q < B ∨ E ≤ q; omega)).trans s0, (kt.cell (p := ⟨q + 1, 0, none⟩) (by show q + 1 < _; omega) (by show q + 1 < B ∨ E ≤ q + 1; omega)).trans s1, (kt.cell (p := ⟨pb, 0, none⟩) (by show pb < _; omega) (by show pb < B ∨ E ≤ pb; omega)).trans s2,
          (kt.cell (p := ⟨pb, 1, none⟩) (by show pb < _; omega) (by show pb < B ∨ E ≤ pb; omega)).trans s3, (kt.cell (p := ⟨pb, 2, none⟩) (by show pb < _; omega) (by show pb < B ∨ E ≤ pb; omega)).trans s4, (kt.cell (p := ⟨gr, o + f, none⟩) (by show gr < _; omega) hg2).trans s5⟩
      clear hK9 KK9
      try simp only [Act.put, List.setIfInBounds_toArray, List.set_cons_zero, List.set_cons_succ]
      refine wpAnyH_take (i := 11) (oi := { dst := some 34, op := Op.move (Operand.tmp 45), type := 88, pos := "zspage.go:39", after := #[{ on := 10, ground := Ground.data }], guard := none }) (v := ?v11) rfl (by kernel_rfl) (by kernel_rfl) (by kernel_rfl) (fun _ _ _ h => h) (Or.inl ⟨by rfl, ?hy11⟩) (by assumption) ?rest11
      case hy11 =>
        intro w hSw
        try dsimp only at hSw
        go_simp
        try with_reducible rfl
      try simp only [Act.put, List.setIfInBounds_toArray, List.set_cons_zero, List.set_cons_succ]
      refine wpAnyH_take (i := 12) (oi := { dst := some 46, op := Op.extract (Operand.tmp 34) 0, type := 49, pos := "zspage.go:39", after := #[{ on := 11, ground := Ground.data }], guard := none }) (v := ?v12) rfl (by kernel_rfl) (by kernel_rfl) (by kernel_rfl) (fun _ _ _ h => h) (Or.inl ⟨by rfl, ?hy12⟩) (by assumption) ?rest12
      case hy12 =>
        intro w hSw
        try dsimp only at hSw
        go_simp
        try with_reducible rfl
      try simp only [Act.put, List.setIfInBounds_toArray, List.set_cons_zero, List.set_cons_succ]
      refine wpAnyH_take (i := 13) (oi := { dst := some 47, op := Op.extract (Operand.tmp 34) 1, type := 4, pos := "zspage.go:39", after := #[{ on := 11, ground := Ground.data }, { on := 14, ground := Ground.gcOnly Departure.lateStores }], guard := none }) (v := ?v13) rfl (by kernel_rfl) (by kernel_rfl) (by kernel_rfl) (fun _ _ _ h => h) (Or.inl ⟨by rfl, ?hy13⟩) (by assumption) ?rest13
      case hy13 =>
        intro w hSw
        try dsimp only at hSw
        go_simp
        try with_reducible rfl
      try simp only [Act.put, List.setIfInBounds_toArray, List.set_cons_zero, List.set_cons_succ]
      refine wpAnyH_take (i := 14) (oi := { dst := some 16, op := Op.assign (Operand.tmp 46), type := 49, pos := "zspage.go:39", after := #[{ on := 12, ground := Ground.data }, { on := 10, ground := Ground.chain }, { on := 0, ground := Ground.phase }, { on := 1, ground := Ground.phase }, { on := 2, ground := Ground.phase }, { on := 3, ground := Ground.phase }, { on := 4, ground := Ground.phase }, { on := 5, ground := Ground.phase }, { on := 6, ground := Ground.phase }, { on := 7, ground := Ground.phase }, { on := 8, ground := Ground.phase }, { on := 9, ground := Ground.phase }, { on := 10, ground := Ground.phase }, { on := 11, ground := Ground.phase }, { on := 12, ground := Ground.phase }, { on := 13, ground := Ground.textOnly Departure.lateStores }], guard := none }) (v := ?v14) rfl (by kernel_rfl) (by kernel_rfl) (by kernel_rfl) (fun _ _ _ h => h) (Or.inl ⟨by rfl, ?hy14⟩) (by assumption) ?rest14
      case hy14 =>
        intro w hSw
        try dsimp only at hSw
        go_simp
        try with_reducible rfl
      try simp only [Act.put, List.setIfInBounds_toArray, List.set_cons_zero, List.set_cons_succ]
      refine wpAnyH_take (i := 15) (oi := { dst := some 17, op := Op.assign (Operand.tmp 47), type := 4, pos := "zspage.go:39", after := #[{ on := 13, ground := Ground.data }, { on := 14, ground := Ground.chain }, { on := 0, ground := Ground.phase }, { on := 1, ground := Ground.phase }, { on := 2, ground := Ground.phase }, { on := 3, ground := Ground.phase }, { on := 4, ground := Ground.phase }, { on := 5, ground := Ground.phase }, { on := 6, ground := Ground.phase }, { on := 7, ground := Ground.phase }, { on := 8, ground := Ground.phase }, { on := 9, ground := Ground.phase }, { on := 10, ground := Ground.phase }, { on := 11, ground := Ground.phase }, { on := 12, ground := Ground.phase }, { on := 13, ground := Ground.phase }, { on := 14, ground := Ground.phase }], guard := none }) (v := ?v15) rfl (by kernel_rfl) (by kernel_rfl) (by kernel_rfl) (fun _ _ _ h => h) (Or.inl ⟨by rfl, ?hy15⟩) (by assumption) ?rest15
      case hy15 =>
        intro w hSw
        try dsimp only at hSw
        go_simp
        try with_reducible rfl
      try simp only [Act.put, List.setIfInBounds_toArray, List.set_cons_zero, List.set_cons_succ]
      refine wpAnyH_done (by kernel_rfl) ?_ _
      obtain ⟨kk, hkk⟩ : ∃ kk, (gotZ R L (pcsZ a x)).length = kk := ⟨_, rfl⟩
      have HKL : Hid (kk = x - a) := by show _ = _; rw [← hkk]; exact HV.out.ln
      have hkb : kk ≤ 4096 := by have := HKL.out; omega
      have hrl : (Rk.rd u (z : Int) (n : Int)).length = n := by rw [rd_len hramX.len hramX.good.len hmay]; rfl
      rw [hrl] at own6
      obtain ⟨av2, c2, rfl⟩ := row_slice own6
      obtain ⟨g2, rfl, _, _, hgl2, hgs2⟩ := row_at own6 (i := 0) (by omega)
      obtain ⟨av, cv, rfl⟩ := row_slice HV.out.own
      rw [hkk] at HV
      have HOW : Hid (Wr.ownsRow g0 5 1 (.slice av kk cv) kk (bv (gotZ R L (pcsZ a x)))) := by have := HV.out.own; rwa [hkk] at this
      have hvE : ∀ i, (Value.slice av kk cv).ownBlock = some i → g0 ≤ i := fun i h1 => (HOW.out.lt i h1).1
      have k2 := turns_keeps turn6
      have k12 : Keeps (fun i => i < B ∨ E ≤ i) Wr W6 := (hkX.mono fun _ _ _ => trivial).trans k2
      have how6 : W6.ownsRow g0 5 1 (.slice av kk cv) kk (bv (gotZ R L (pcsZ a x))) := k12.row HOW.out fun g h1 => by have := hvE g h1; omega
      have hvx6 := k12.at HV.out.vx (by omega)
      have c6 := cell_of_one hvx6
      have f6 := free_of_one hvx6
      have hram6 : RamAt B E W6 r (Rk.touch true) := by
        rcases ram6 with ⟨h1, _⟩ | ⟨r', h1, h2⟩
        · cases h1
        · cases h1
          exact h2
      have hs6 := turn6.size
      have HO6 : Hid (W6.ownsRow g0 5 1 (.slice av kk cv) kk (bv (gotZ R L (pcsZ a x)))) := how6
      have HN6 : Hid (W6.ownsRow X.heap.size 5 1 (.slice (some ⟨g2, 0, none⟩) n c2) n (bv (Rk.rd u (z : Int) (n : Int)))) := own6
      have HNL : Hid ((bv (Rk.rd u (z : Int) (n : Int))).length = n) := by show _ = _; simp [bv, hrl]
      have HKK : Hid ((gotZ R L (pcsZ a x)).length = kk) := hkk
      have HRL : Hid ((Rk.rd u (z : Int) (n : Int)).length = n) := hrl
      clear own6 ram6 how6 hramX hkk hrl
      gi_wp2_with (gi_at_builtin; go_loud (refine wpListIn_append_lies _ rfl _ _ 49 rfl g0 5 i0 (.int .u8 0) 1 1 Try.underlying49 hi hz0 hz1 hz2 rfl (by decide) _ kk (bv (gotZ R L (pcsZ a x))) rfl HO6.out ⟨g2, 0, none⟩ n c2 (bv (Rk.rd u (z : Int) (n : Int))) rfl ?c0 ?c1 (bv_ones _) (by omega) ?c3 ?c4 ?c5 ?_))
      case c0 => rw [HNL.out]; omega
      case c1 =>
        intro j uu hj
        have hjl := (List.getElem?_eq_some_iff.1 hj).1
        rw [add_lit', Nat.zero_add, HN6.out.cellAt j (by rw [← HNL.out]; omega)]
        exact hj
      case c3 => unfold maxLen; omega
      case c4 => omega
      case c5 => omega
      intro g3 cap3 W7 own7 gr7 hat7
      have k3 : Keeps (fun i => (Value.slice av kk cv).ownBlock ≠ some i) W6 W7 := keeps_grown gr7 fun i h5 h6 => h6 h5
      have hvx7 := k3.at hvx6 (HV.out.ne vb (Nat.le_refl _) (by omega))
      have c7 := cell_of_one hvx7
      have f7 := free_of_one hvx7
      have k4 : Keeps (fun i => i ≠ vb) W7 (W7.setCell ⟨vb, 0, none⟩ (.slice (some ⟨g3, 0, none⟩) (kk + n) cap3)) := ⟨rfl, rfl, rfl, by simp, fun i _ h5 => Below.heap_setCell _ _ _ _ h5⟩
      have hs7 := gr7.size
      have HE : Hid (roundEnd (fun i => vb + 1 ≤ i ∧ i < vb + 5) (GotZI W0 B E r vb g0 R L a e) (fun _ _ _ => False) (x + pzL x e) Ms Wr .normal { tmps := #[], defers := [] } (W7.setCell ⟨vb, 0, none⟩ (.slice (some ⟨g3, 0, none⟩) (kk + n) cap3))) := by
        have hv := HV.out
        have KK : Keeps (fun i => (i < B ∨ E ≤ i) ∧ (Value.slice av kk cv).ownBlock ≠ some i ∧ i ≠ vb) Wr (W7.setCell ⟨vb, 0, none⟩ (.slice (some ⟨g3, 0, none⟩) (kk + n) cap3)) := ((k12.mono fun _ _ h1 => h1.1).trans (k3.mono fun _ _ h1 => h1.2.1)).trans (k4.mono fun _ _ h1 => h1.2.2)
        have hg3 : ∀ i, i < Wr.heap.size → (Value.slice av kk cv).ownBlock ≠ some i → g3 ≠ i := by
          intro i h1 h2 h3
          rcases hat7 with h4 | h4
          · exact h2 (h3 ▸ h4)
          · omega
        have hgot : gotZ R L (pcsZ a (x + pzL x e)) = gotZ R L (pcsZ a x) ++ Rk.rd u (z : Int) (n : Int) := by rw [HTK.out, got_snoc, ← HRK.out, touc_rd, ← hu]
        have hwr := HV.out.k.size
        refine ⟨KK.mono fun i _ h1 => ?_, .slice (some ⟨g3, 0, none⟩) (kk + n) cap3, hv.k.trans (KK.mono fun i _ h1 => ⟨h1.2, fun h2 => ?_, by omega⟩), one_setCell hvx7, ?_, fun i h1 h2 h3 => ?_, ?_, fun i h1 => ⟨(hv.out i h1).1, fun h3 => ?_⟩, by omega, by omega, by omega, ?_⟩
        · rcases h1 with h1 | h1
          · exact ⟨by omega, hv.ne i (by omega) (by omega), by omega⟩
          · have := hv.out i h1
            exact ⟨by omega, this.2, by omega⟩
        · have := hvE i h2
          omega
        · rw [hgot, List.length_append, HKK.out, HRL.out, show bv (gotZ R L (pcsZ a x) ++ Rk.rd u (z : Int) (n : Int)) = bv (gotZ R L (pcsZ a x)) ++ bv (Rk.rd u (z : Int) (n : Int)) by simp [bv]]
          exact k4.row own7 fun gg h1 => by
            have h2 : g3 = gg := by simpa [Value.ownBlock] using h1
            rw [← h2]
            exact hg3 vb (by omega) (hv.ne vb (Nat.le_refl _) (by omega))
        · have h4 : g3 = i := by simpa [Value.ownBlock] using h3
          exact hg3 i (by omega) (hv.ne i h1 h2) h4
        · rw [HTK.out, List.length_append]
          show RamAt B E _ r ((toucZ R (pcsZ a x).length).touch true)
          rw [HRK.out]
          exact (hram6.keeps k3 fun i h1 h2 h3 => by have := hvE i h3; omega).keeps k4 fun i h1 h2 => by omega
        · have h4 : g3 = i := by simpa [Value.ownBlock] using h3
          exact hg3 i (HM.out i h1) (hv.out i h1).2 h4
        · rw [hgot, List.length_append, HKK.out, HRL.out]
          have := HKL.out
          omega
      clear own7 gr7 hat7 k3 k4
      gi_wp2
      exact HE.out
    case done =>
      rintro D s Ms W hD hdone hMD ⟨v, hv⟩ hK
      have hd : s = e := Nat.le_antisymm hv.hi hdone
      subst hd
      have bv0 := cell_of_one hv.vx
      have HV : Hid (GotZ W0 B E r vb g0 R L a s s Ms W v) := hv
      have HKD : Hid (W.heap[D]? = some (.deferred (some []))) := hK
      obtain ⟨av, cv, rfl⟩ := row_slice hv.own
      clear hv hK
      gi_wp2
      refine ⟨by simp, .inl ⟨D, _, rfl, run_takeDeferred HKD.out, ?_⟩⟩
      have hp := keeps_put W D (.deferred none)
      have hv := HV.out
      have hDv := hv.out D hMD
      refine ⟨_, results_tmp2 Try.results80 _ _ _, _, by rw [HARE.out]; rfl, ?_, ?_, ?_⟩
      · unfold redZ
        rw [if_pos HARE.out]
        exact rowMono (hp.row hv.own fun g h1 h2 => hDv.2 (h2 ▸ h1)) (by omega)
      · unfold touZ
        rw [if_pos HARE.out]
        exact hv.ram.keeps hp fun i _ h1 => by omega
      · have kT : Keeps (fun i => i < q ∧ (i < B ∨ E ≤ i)) w (W.putObj D (.deferred none)) := (keeps_below bw0 fun _ _ h => h.1).trans ((hv.k.mono fun i _ h1 => ⟨by omega, h1.2⟩).trans (hp.mono fun i _ h1 => by omega))
        exact ⟨kT.os, kT.tape, kT.output, kT.size, fun i h1 h2 => kT.block i h1 ⟨by omega, h2⟩⟩
    case stop =>
      rintro D k M W _ _ _ h _
      exact h.elim
end Go.Proofs.Ytjgkhckcoknnfaa
/- Cuts of bytes: b[l:], b[l:h], b[l:h:h]: general. -/
namespace Go.Proofs.Ytjgkhckcoknnfaa
open Go.RowKit

section
variable {g o L c l h : Nat} {A H M : Int}
theorem size_byte (w : World) : (sizeOf (Try.prog.elem 49)).run Try.prog w = .ok 1 w := by
  obtain ⟨i0, h0, hz0, hz1, hz2⟩ := info_parts Try.info5
  have he : Try.prog.elem 49 = 5 := by kernel_rfl
  rw [he]
  simp [sizeOf, typeInfo, h0, hz1, go_sem]
theorem und_byte : Try.prog.underlying 49 = some (.slice (Try.prog.elem 49)) := by
  have he : Try.prog.elem 49 = 5 := by kernel_rfl
  rw [he]; exact Try.underlying49
/-- b[l:], b[l:h], b[l:h:h]. -/
theorem run_cut_from (hA : A = l) (hl : l ≤ L) (hc : l < c) (w : World) :
    (Instr.slice 49 (.slice (some ⟨g, o, none⟩) L c) (some (.int .i64 A)) none none).run Try.prog w = .ok (.slice (some ⟨g, o + l, none⟩) (L - l) (c - l)) w := by
  subst hA
  rw [run_slice_l (P := Try.prog) w 49 _ _ _ und_byte .i64 _ (by omega) (by omega), size_byte]
  simp only [Result.andThen, sliced, Option.map_some, Nat.mul_one, Int.toNat_natCast, add_lit']
  rw [if_neg (by omega)]
theorem run_cut (hA : A = l) (hH : H = h) (h1 : l ≤ h) (h2 : h ≤ c) (h3 : l < c) (w : World) :
    (Instr.slice 49 (.slice (some ⟨g, o, none⟩) L c) (some (.int .i64 A)) (some (.int .i64 H)) none).run Try.prog w = .ok (.slice (some ⟨g, o + l, none⟩) (h - l) (c - l)) w := by
  subst hA hH
  rw [run_slice_lh (P := Try.prog) w 49 _ _ _ und_byte .i64 .i64 _ _ (by omega) (by omega) (by omega), size_byte]
  simp only [Result.andThen, sliced, Option.map_some, Nat.mul_one, Int.toNat_natCast, add_lit']
  rw [if_neg (by omega)]
theorem run_cut3 (hA : A = l) (hH : H = h) (h1 : l < h) (h2 : h ≤ c) (w : World) :
    (Instr.slice 49 (.slice (some ⟨g, o, none⟩) L c) (some (.int .i64 A)) (some (.int .i64 H)) (some (.int .i64 H))).run Try.prog w = .ok (.slice (some ⟨g, o + l, none⟩) (h - l) (h - l)) w := by
  subst hA hH
  rw [run_slice_lhm (P := Try.prog) w 49 _ _ _ und_byte .i64 .i64 .i64 _ _ _ (by omega) (by omega) (by omega) (by omega), size_byte]
  simp only [Result.andThen, sliced, Option.map_some, Nat.mul_one, Int.toNat_natCast, add_lit']
  rw [if_neg (by omega)]
/-- b[l:], to the very end of what there is room for too. -/
theorem run_cut_rest (hA : A = l) (hl : l ≤ L) (hc : L ≤ c) : ∃ p, (l < c → p = some ⟨g, o + l, none⟩) ∧ ∀ w : World, (Instr.slice 49 (.slice (some ⟨g, o, none⟩) L c) (some (.int .i64 A)) none none).run Try.prog w = .ok (.slice p (L - l) (c - l)) w := by
  by_cases h : l < c
  · exact ⟨_, fun _ => rfl, run_cut_from hA hl h⟩
  · obtain rfl : l = c := by omega
    subst hA
    refine ⟨some ⟨g, o, none⟩, fun h1 => absurd h1 h, fun w => ?_⟩
    rw [run_slice_l (P := Try.prog) w 49 _ _ _ und_byte .i64 _ (by omega) (by omega), size_byte]
    simp only [Result.andThen, sliced, Option.map_some, Nat.mul_one, Int.toNat_natCast, add_lit']
    simp
end
end Go.Proofs.Ytjgkhckcoknnfaa
/- The walk of zspage.Write over a RAM that is there. -/
namespace Go.Proofs.Ytjgkhckcoknnfaa
open Go.RowKit
attribute [local go_sem] Oper.semAt_some

/-- What a Write leaves. -/
def wriZ (R : RS) (L : List Int) (M : Int) (a e : Nat) (b : List Nat) : RS := if areZ R L M a e then putZ L R (pcsZ a e) b else R
def sumZ (T : List Pz) : Nat := (T.map Pz.l).sum
theorem pcs_sum {a s : Nat} (h : a ≤ s) : sumZ (pcsZ a s) = s - a := by
  have hm : pzM a = (a / 4096 + 1) * 4096 := rfl
  unfold sumZ pcsZ
  split
  · simp; omega
  · split
    · simp
    · simp; omega
theorem put_snoc (L : List Int) (p : Pz) (b2 : List Nat) (h2 : b2.length = p.l) : ∀ (T : List Pz) (R : RS) (b1 : List Nat), b1.length = sumZ T → putZ L R (T ++ [p]) (b1 ++ b2) = (putZ L R T b1).wr (L.getD p.f 0) p.a b2
  | [], R, b1, h => by
    obtain rfl : b1 = [] := List.eq_nil_of_length_eq_zero (by simpa [sumZ] using h)
    show R.wr (L.getD p.f 0) p.a (b2.take p.l) = _
    rw [List.take_of_length_le (by omega)]
    rfl
  | x :: T, R, b1, h => by
    have hx : x.l + sumZ T = b1.length := by rw [h]; simp [sumZ]
    show putZ L (R.wr (L.getD x.f 0) x.a ((b1 ++ b2).take x.l)) (T ++ [p]) ((b1 ++ b2).drop x.l) = _
    rw [List.take_append_of_le_length (by omega), List.drop_append_of_le_length (by omega), put_snoc L p b2 h2 T _ (b1.drop x.l) (by rw [List.length_drop]; omega)]
    rfl
theorem put_O (L : List Int) : ∀ (T : List Pz) (R : RS) (b : List Nat), (putZ L R T b).O = R.O ∧ (putZ L R T b).m = R.m ∧ (putZ L R T b).S = R.S
  | [], _, _ => ⟨rfl, rfl, rfl⟩
  | x :: T, R, b => put_O L T (R.wr (L.getD x.f 0) x.a (b.take x.l)) (b.drop x.l)
theorem put_may (L : List Int) (T : List Pz) (R : RS) (b : List Nat) (n a s : Int) : (putZ L R T b).may n a s = R.may n a s := by
  unfold RS.may
  rw [(put_O L T R b).1]

/-- Bytes written, up to s. -/
structure LaidZ (W0 : World) (B E r q : Nat) (pb : Option Addr) (cb : Nat) (R : RS) (L : List Int) (b : List Nat) (a e s : Nat) (Ms : Nat → Prop) (W : World) (p' : Option Addr) (c' : Nat) : Prop where
  k : Keeps (fun i => i < W0.heap.size ∧ (i < B ∨ E ≤ i) ∧ i ≠ q + 2) W0 W
  bx : W.heap[q + 2]? = some (.cells #[.slice p' (e - s) c'] 49 (0, 0))
  src : s < e → ∃ g o, pb = some ⟨g, o, none⟩ ∧ p' = some ⟨g, o + (s - a), none⟩ ∧ c' = cb - (s - a)
  ram : RamAt B E W r (putZ L R (pcsZ a s) (b.take (s - a)))
  out : ∀ i, Ms i → W0.heap.size ≤ i
  lo : a ≤ s
  hi : s ≤ e
  st : s = a ∨ s % 4096 = 0 ∨ s = e
def LaidZI (W0 : World) (B E r q : Nat) (pb : Option Addr) (cb : Nat) (R : RS) (L : List Int) (b : List Nat) (a e s : Nat) (Ms : Nat → Prop) (W : World) : Prop := ∃ p' c', LaidZ W0 B E r q pb cb R L b a e s Ms W p' c'
theorem LaidZ.kept {W0 W W' : World} {B E r q cb a e s c' : Nat} {pb p' : Option Addr} {R : RS} {L : List Int} {b : List Nat} {Ms Ms' : Nat → Prop} (hb : q + 7 ≤ W0.heap.size ∧ E ≤ q) (h : LaidZ W0 B E r q pb cb R L b a e s Ms W p' c')
    (hk : Keeps (fun k => ¬ Ms k) W W') (hM : ∀ k, Ms' k → Ms k ∨ (W.heap.size ≤ k ∧ k < W'.heap.size)) : LaidZ W0 B E r q pb cb R L b a e s Ms' W' p' c' := by
  have no : ∀ k, k < W0.heap.size → ¬ Ms k := fun k h1 h2 => by have := h.out k h2; omega
  have hs := h.k.size
  refine ⟨h.k.trans (hk.mono fun i _ h1 => no i h1.1), hk.at h.bx (no _ (by omega)), h.src, h.ram.keeps hk fun i _ h1 => no i (by omega), fun i h1 => ?_, h.lo, h.hi, h.st⟩
  rcases hM i h1 with h2 | h2
  · exact h.out i h2
  · omega
/-- Three blocks newly laid. -/
theorem blocks_three (w : World) (o0 o1 o2 : Obj) {W : World} (hW : W = ((w.alloc o0).alloc o1).alloc o2) :
    Below w.heap.size w W ∧ W.heap.size = w.heap.size + 3 ∧ W.heap[w.heap.size]? = some o0 ∧ W.heap[w.heap.size + 1]? = some o1 ∧ W.heap[w.heap.size + 2]? = some o2 := by
  subst hW
  refine ⟨((Below.refl _ w).alloc (Nat.le_refl _) _).alloc (by simp) _ |>.alloc (by simp; omega) _, by simp, ?_⟩
  show (((w.heap.push o0).push o1).push o2)[w.heap.size]? = some o0 ∧ (((w.heap.push o0).push o1).push o2)[w.heap.size + 1]? = some o1 ∧ (((w.heap.push o0).push o1).push o2)[w.heap.size + 2]? = some o2
  simp only [Array.getElem?_push, Array.size_push]
  refine ⟨?_, ?_, ?_⟩
  all_goals repeat (first | rfl | rw [if_neg (by omega)] | rw [if_pos (by omega)])

set_option maxRecDepth 100000 in
set_option maxHeartbeats 1000000 in
theorem zWrite_any {B E r : Nat} {R : RS} {L : List Int} {ar : Option Addr} {cr : Nat} {S N F : Int} {a e : Nat} {pb : Option Addr} {Lb cb : Nat} {b : List Nat} (w : World) (h : RamAt B E w r R) (hr : RowAt w B E ar L)
    (hs : ByAt w pb Lb cb b) (ap : Apart B E (.slice pb Lb cb) b) (hF : F < 9223372036854775808) (hae : Zae S N F (Lb : Int) a e) :
    Calls Try.prog 76 #[.pointer (some ⟨r, 0, none⟩), .slice ar L.length cr, .int .i64 S, .int .i64 N, .int .i64 F, .slice pb Lb cb] w fun e' w' => e' = .returned (.bool (areZ R L (Lb : Int) a e)) ∧
      RamAt B E w' r (wriZ R L (Lb : Int) a e b) ∧ Turns B E w w' := by
  have hle := hae.le
  have hLb := hs.short
  unfold maxLen at hLb
  have hbl := hs.len
  have hcb := hs.cap
  obtain ⟨W2, hW2⟩ : ∃ W2, W2 = ((w.alloc (.cells #[.pointer (some ⟨r, 0, none⟩)] 23)).alloc (.cells #[.slice ar L.length cr] 30)).alloc (.cells #[.slice pb Lb cb] 49) := ⟨_, rfl⟩
  obtain ⟨hb2, hs2, y0, y1, y2⟩ := blocks_three w _ _ _ hW2
  obtain ⟨q, hq⟩ : ∃ q, w.heap.size = q := ⟨_, rfl⟩
  have hEq : E ≤ q := by rw [← hq]; exact h.hi.1
  have hram2 : RamAt B E W2 r R := h.below hb2
  have HA : Hid _ := are_any (cr := cr) W2 hram2 (hr.later (Turns.of_below hb2)) hF hae
  rw [hq] at hb2 hs2 y0 y1 y2
  have x0 := cell_of_one y0
  have x1 := cell_of_one y1
  have x2 := cell_of_one y2
  refine (callsIn_wide (n := 3)).1 ?_
  refine callsIn_of_wp_marks Try.func76 rfl trivial ?_ rfl
  simp only [Try.ntmps76, List.size_toArray, List.length_cons, List.length_nil, Nat.reduceAdd, Nat.reduceSub, Array.replicate_succ, Array.replicate_zero, List.push_toArray, List.append_toArray, List.nil_append, List.cons_append]
  gi_wp2_with fail
  rw [← hW2]
  clear hW2
  refine ⟨trivial, CallsIn.mono (callsIn_wide.2 HA.out) ?_⟩
  rintro e' W3 ⟨rfl, hb3⟩
  have hs3 := hb3.size
  rw [hs2] at hs3
  have hT3 : Turns B E w W3 := Turns.of_below (hq ▸ (hb2.trans (hb3.mono (by omega))))
  cases hare : areZ R L (Lb : Int) a e with
  | false =>
    have HR : Hid (wriZ R L (Lb : Int) a e b = R) := by
      unfold wriZ
      rw [hare]
      rfl
    have HT : Hid (Turns B E w W3) := hT3
    have HM : Hid (RamAt B E W3 r R) := hram2.below hb3
    clear hT3 hram2 hb3 hb2
    gi_wp2_with fail
    rw [hare, HR.out]
    exact ⟨_, results_tmp Try.results76 _ _ _, rfl, HM.out, HT.out⟩
  | true =>
    obtain ⟨hfit, hM⟩ : fitZ R L (pcsZ a e) = true ∧ (Lb : Int) = (e : Int) - (a : Int) := by
      unfold areZ at hare
      rw [Bool.and_eq_true, decide_eq_true_eq] at hare
      exact hare
    have HLE : Hid (Lb = e - a ∧ a + Lb = e) := by show _ ∧ _; omega
    have y03 := (hb3.block _ (by omega)).trans y0
    have y13 := (hb3.block _ (by omega)).trans y1
    have y23 := (hb3.block _ (by omega)).trans y2
    have x23 := cell_of_one y23
    have HARE : Hid (areZ R L (Lb : Int) a e = true) := hare
    clear hM hare
    gi_wp2_with fail
    refine ⟨trivial, CallsIn.mono (callsIn_wide.2 (pieces_any S N F (Lb : Int) W3)) ?_⟩
    rintro e' W0 ⟨rfl, hc, hb0⟩
    have hs0 := hc.lt
    obtain ⟨g0, hg0⟩ : ∃ g0, W3.heap.size = g0 := ⟨_, rfl⟩
    rw [hg0] at hc hs0 hb0 hs3 ⊢
    have hram0 : RamAt B E W0 r R := (hram2.below hb3).below (hg0 ▸ hb0)
    have bw0 : Below q w W0 := hb2.trans ((hb3.mono (by omega)).trans (hb0.mono (by omega)))
    have y00 := (hb0.block _ (by omega)).trans y03
    have y10 := (hb0.block _ (by omega)).trans y13
    have y20 := (hb0.block _ (by omega)).trans y23
    have hv0 : LaidZ W0 B E r q pb cb R L b a e a (fun _ => False) W0 pb cb := by
      refine ⟨Keeps.refl _ _, by rw [← HLE.out.1]; exact y20, fun h1 => ?_, ?_, fun _ h => h.elim, Nat.le_refl _, hle.1, .inl rfl⟩
      · obtain ⟨g, o, h2, _, _⟩ := hs.at (by have := HLE.out.1; omega)
        exact ⟨g, o, h2, by rw [Nat.sub_self]; exact h2, by omega⟩
      · rw [pcs_none (Nat.le_refl _)]
        exact hram0
    have hbb : q + 7 ≤ W0.heap.size ∧ E ≤ q := by omega
    clear hram2 hb3 hT3 hb2 hb0 y03 y13 y23 y0 y1 y2 x0 x1 x2 x23 hram0 HA
    gi_wp2_with fail
    refine range_wp (gf := 85) (lb := zLb g0) rfl (enters_of Try.func85 (by kernel_rfl) rfl)
      (pieces_iter (K0 := fun i => g0 ≤ i ∧ i < g0 + 4) W0 hc hF hae) (fun i hi => by omega) (fun _ => rfl) (LaidZI W0 B E r q pb cb R L b a e) (fun _ _ _ => False)
      (fun _ _ _ _ _ ⟨p', c', h1⟩ h2 h3 => ⟨p', c', LaidZ.kept hbb h1 h2 h3⟩) (fun _ _ _ _ _ h _ _ => h) ⟨_, _, hv0⟩
      (fun x W a1 W1 => W1 = W.alloc (.cells (pzC (pzAt x e)).toArray 120) ∧ a1 = { tmps := #[.pointer (some ⟨r, 0, none⟩), .slice ar L.length cr, .int .i64 S, .int .i64 N, .int .i64 F, .slice pb Lb cb, .pointer (some ⟨q, 0, none⟩), .pointer (some ⟨q + 1, 0, none⟩), undef, undef, undef, .pointer (some ⟨q + 2, 0, none⟩), .bool false, .pointer (some ⟨W.heap.size, 0, none⟩), .pointer (some ⟨r, 0, none⟩), .slice ar L.length cr, .int .i64 S, .int .i64 N, .int .i64 F, .slice pb Lb cb, .int .i64 (Lb : Int), .bool true, .bool false, .int .i64 S, .int .i64 N, .int .i64 F, .slice pb Lb cb, .int .i64 (Lb : Int), .func (.func 85) #[] (zLb g0), .agg (pzC (pzAt x e)).toArray, undef, undef, undef, undef, undef, undef, undef, undef, undef, undef, undef, undef, undef, undef, undef, undef, undef], defers := [] }) ?assign ?body ?done ?stop
    case assign =>
      intro m l x W K hK
      obtain ⟨x0, x1, x2, hx⟩ : ∃ x0 x1 x2 : Int, pzC (pzAt x e) = [.int .i64 x0, .int .i64 x1, .int .i64 x2] := ⟨_, _, _, rfl⟩
      unfold pcV
      rw [hx] at hK ⊢
      clear hx
      gi_wp2
      exact hK _ _ ((Below.refl _ W).alloc (Nat.le_refl _) _) ⟨rfl, rfl⟩
    case body =>
      rintro m l s Ms x W a1 W1 Wr ⟨p', c', hv⟩ ⟨rfl, hse⟩ hMl hl hM hbW ⟨rfl, rfl⟩ hlp hk hsz
      have hv2 := (hv.kept hbb (keeps_all hbW) (fun _ h => .inl h)).kept hbb (hk.mono fun k _ h1 h2 => h1 (h2 ▸ hMl)) (fun _ h => .inl h)
      obtain ⟨f, hf⟩ : ∃ f, x / 4096 = f := ⟨_, rfl⟩
      obtain ⟨z, hz⟩ : ∃ z, x % 4096 = z := ⟨_, rfl⟩
      obtain ⟨n, hn⟩ : ∃ n, pzL x e = n := ⟨_, rfl⟩
      have hlW := hM l hMl
      have hxc := hk.at (heap_alloc_new W (.cells (pzC (pzAt x e)).toArray 120)) (by omega : W.heap.size ≠ l)
      have hx : pzC (pzAt x e) = [.int .i64 (f : Int), .int .i64 (z : Int), .int .i64 (n : Int)] := by
        unfold pzAt
        rw [hf, hz, hn]
        rfl
      have hpz : pzAt x e = ⟨f, z, n⟩ := by unfold pzAt; rw [hf, hz, hn]
      have hst : x = a ∨ x % 4096 = 0 := by
        rcases hv.st with h | h | h
        · exact .inl h
        · exact .inr h
        · omega
      have hl2 := pzL_pos hse
      rw [hn] at hl2
      rw [hx] at hxc hsz ⊢
      obtain ⟨qb, hqb⟩ : ∃ qb, W.heap.size = qb := ⟨_, rfl⟩
      have hpW : W0.heap.size ≤ qb := by have := hv.k.size; omega
      have hpr : qb < Wr.heap.size := by rw [hsz]; simp [hqb]
      rw [hqb] at hxc ⊢
      obtain ⟨d0, d1, d2⟩ := cells_three hxc
      have kq : Keeps (fun i => i < q ∧ (i < B ∨ E ≤ i)) w Wr := (keeps_below bw0 fun _ _ h => h.1).trans (hv2.k.mono fun i _ h1 => ⟨by omega, h1.2, by omega⟩)
      have hrow : RowAt Wr B E ar L := hr.kept kq fun i h1 h2 => ⟨by omega, h2⟩
      have b0 := cell_of_one (hv2.k.at y00 ⟨by omega, by omega, by omega⟩)
      have b1 := cell_of_one (hv2.k.at y10 ⟨by omega, by omega, by omega⟩)
      have b2 := cell_of_one hv2.bx
      have his : isZ R L ⟨f, z, n⟩ = true := hpz ▸ fit_told hfit hle.2.1 hv.lo hse hst
      have hfl : f < L.length := by
        unfold isZ at his
        rw [Bool.and_eq_true, decide_eq_true_eq] at his
        exact his.1
      obtain ⟨gr, o, rfl, hg1, hg2, hcell⟩ := hrow.at hfl
      have i3 : (f : Int) < (L.length : Int) := by omega
      have HTK : Hid (pcsZ a (x + pzL x e) = pcsZ a x ++ [⟨f, z, n⟩]) := hpz ▸ pcs_told hle.2.1 hv.lo hse hst
      obtain ⟨gb, ob, hpb1, rfl, rfl⟩ := hv2.src hse
      subst hpb1
      have hlo := hv.lo
      have hby : ByAt Wr (some ⟨gb, ob + (x - a), none⟩) n (cb - (x - a)) (seg b (x - a) n) := by
        have h1 : ByAt Wr (some ⟨gb, ob, none⟩) Lb cb b := kq.by hs fun g o' e1 h0 => by
          cases e1
          have h2 := ap ⟨gb, ob, none⟩ Lb cb rfl (fun h3 => by rw [h3] at hbl; simp at hbl; omega)
          obtain ⟨g', o', e2, h4, _⟩ := hs.at h0
          cases e2
          exact ⟨by omega, h2⟩
        exact h1.part (by have := HLE.out; omega) (by omega)
      have hapb : gb < B ∨ E ≤ gb := ap ⟨gb, ob, none⟩ Lb cb rfl (fun h3 => by rw [h3] at hbl; simp at hbl; have := HLE.out; omega)
      obtain ⟨cc, hcc⟩ : ∃ cc, cb - (x - a) = cc := ⟨_, rfl⟩
      obtain ⟨oo, hoo⟩ : ∃ oo, ob + (x - a) = oo := ⟨_, rfl⟩
      obtain ⟨ee, hee⟩ : ∃ ee, e - x = ee := ⟨_, rfl⟩
      have hec : ee ≤ cc := by have := HLE.out; omega
      have hne : n ≤ ee := by omega
      have HEE : Hid (e - x = ee) := hee
      rw [hcc, hoo] at hby hv2 b2
      rw [hee] at b2
      have hhead : ∀ w : World, (Instr.slice 49 (.slice (some ⟨gb, oo, none⟩) ee cc) none (some (.int .i64 (n : Int))) none).run Try.prog w = .ok (.slice (some ⟨gb, oo, none⟩) n cc) w := run_head rfl (by omega)
      obtain ⟨pt, hpt, hrest⟩ := run_cut_rest (g := gb) (o := oo) (L := ee) (c := cc) (l := n) (A := (n : Int)) rfl hne hec
      obtain ⟨Rk, hRk⟩ : ∃ Rk, putZ L R (pcsZ a x) (b.take (x - a)) = Rk := ⟨_, rfl⟩
      have hramX : RamAt B E Wr.drew r Rk := hRk ▸ hv2.ram.below (drew_below _ _)
      have hbyX : ByAt Wr.drew (some ⟨gb, oo, none⟩) n cc (seg b (x - a) n) := hby.later (drew_below _ _)
      have hkX : Keeps (fun _ => True) Wr Wr.drew := keeps_below (drew_below Wr.heap.size Wr) fun _ h _ => h
      have hsX : Wr.drew.heap.size = Wr.heap.size := rfl
      obtain ⟨u, hu⟩ : ∃ u, L.getD f 0 = u := ⟨_, rfl⟩
      rw [hu] at hcell
      have HV : Hid (LaidZ W0 B E r q (some ⟨gb, ob, none⟩) cb R L b a e x Ms Wr (some ⟨gb, oo, none⟩) cc) := hv2
      have HM : Hid (∀ i, Ms i → i < Wr.heap.size) := fun i h1 => by have := hM i h1; omega
      have q0 : Wr.drew.cell? ⟨q, 0, none⟩ = some (.pointer (some ⟨r, 0, none⟩)) ∧ Wr.drew.cell? ⟨q + 1, 0, none⟩ = some (.slice (some ⟨gr, o, none⟩) L.length cr) ∧ Wr.drew.cell? ⟨qb, 0, none⟩ = some (.int .i64 (f : Int)) ∧ Wr.drew.cell? ⟨qb, 1, none⟩ = some (.int .i64 (z : Int)) ∧ Wr.drew.cell? ⟨qb, 2, none⟩ = some (.int .i64 (n : Int)) ∧ Wr.drew.cell? ⟨gr, o + f, none⟩ = some (.int .i64 u) ∧ Wr.drew.cell? ⟨q + 2, 0, none⟩ = some (.slice (some ⟨gb, oo, none⟩) ee cc) := ⟨b0, b1, d0, d1, d2, hcell, b2⟩
      have HRK : Hid (putZ L R (pcsZ a x) (b.take (x - a)) = Rk) := hRk
      have HBX : Hid (ByAt Wr.drew (some ⟨gb, oo, none⟩) n cc (seg b (x - a) n)) := hbyX
      have HCC : Hid (cb - (x - a) = cc ∧ ob + (x - a) = oo) := ⟨hcc, hoo⟩
      have hqr : q + 3 ≤ Wr.heap.size := by omega
      clear hv hv2 hxc hk hbW hlp hx hsz hpz his hRk kq hrow b0 b1 b2 d0 d1 d2 hcell hM hlW hqb hby hbyX hcc hoo hee
      dsimp only
      gi_wp2_with fail
      refine region_round_held (S := fun w' => w'.cell? ⟨q, 0, none⟩ = some (.pointer (some ⟨r, 0, none⟩)) ∧ w'.cell? ⟨q + 1, 0, none⟩ = some (.slice (some ⟨gr, o, none⟩) L.length cr) ∧ w'.cell? ⟨qb, 0, none⟩ = some (.int .i64 (f : Int)) ∧ w'.cell? ⟨qb, 1, none⟩ = some (.int .i64 (z : Int)) ∧ w'.cell? ⟨qb, 2, none⟩ = some (.int .i64 (n : Int)) ∧ w'.cell? ⟨gr, o + f, none⟩ = some (.int .i64 u) ∧ w'.cell? ⟨q + 2, 0, none⟩ = some (.slice (some ⟨gb, oo, none⟩) ee cc))
        (by kernel_rfl) (by repeat (first | exact round_lets | refine then_lets ?_ | refine block_lets ?_)) (by kernel_rfl) q0 (fun hHeld => ?_)
      generalize Wr.drew = X at *
      clear q0
      refine wpAnyH_take (i := 0) (oi := { dst := some 30, op := Op.load 23 (Operand.tmp 6), type := 23, pos := "zspage.go:52", after := #[], guard := none }) (v := ?v0) rfl (by kernel_rfl) (by kernel_rfl) (by kernel_rfl) (fun _ _ _ h => h) (Or.inl ⟨by rfl, ?hy0⟩) (by assumption) ?rest0
      case hy0 =>
        intro w hSw
        try dsimp only at hSw
        go_simp
        try with_reducible rfl
      try simp only [Act.put, List.setIfInBounds_toArray, List.set_cons_zero, List.set_cons_succ]
      refine wpAnyH_take (i := 1) (oi := { dst := some 31, op := Op.load 30 (Operand.tmp 7), type := 30, pos := "zspage.go:52", after := #[], guard := none }) (v := ?v1) rfl (by kernel_rfl) (by kernel_rfl) (by kernel_rfl) (fun _ _ _ h => h) (Or.inl ⟨by rfl, ?hy1⟩) (by assumption) ?rest1
      case hy1 =>
        intro w hSw
        try dsimp only at hSw
        go_simp
        try with_reducible rfl
      try simp only [Act.put, List.setIfInBounds_toArray, List.set_cons_zero, List.set_cons_succ]
      refine wpAnyH_take (i := 2) (oi := { dst := some 32, op := Op.fieldAddr 120 (Operand.tmp 13) 0, type := 0, pos := "zspage.go:52", after := #[], guard := none }) (v := ?v2) rfl (by kernel_rfl) (by kernel_rfl) (by kernel_rfl) (fun _ _ _ h => h) (Or.inl ⟨by rfl, ?hy2⟩) (by assumption) ?rest2
      case hy2 =>
        intro w hSw
        try dsimp only at hSw
        go_simp
        try with_reducible rfl
      try simp only [Act.put, List.setIfInBounds_toArray, List.set_cons_zero, List.set_cons_succ]
      refine wpAnyH_take (i := 3) (oi := { dst := some 33, op := Op.load 3 (Operand.tmp 32), type := 3, pos := "zspage.go:52", after := #[{ on := 2, ground := Ground.data }], guard := none }) (v := ?v3) rfl (by kernel_rfl) (by kernel_rfl) (by kernel_rfl) (fun _ _ _ h => h) (Or.inl ⟨by rfl, ?hy3⟩) (by assumption) ?rest3
      case hy3 =>
        intro w hSw
        try dsimp only at hSw
        go_simp
        try with_reducible rfl
      try simp only [Act.put, List.setIfInBounds_toArray, List.set_cons_zero, List.set_cons_succ]
      refine wpAnyH_take (i := 4) (oi := { dst := some 34, op := Op.indexAddr 30 (Operand.tmp 31) (Operand.tmp 33), type := 0, pos := "zspage.go:52", after := #[{ on := 1, ground := Ground.data }, { on := 3, ground := Ground.data }], guard := none }) (v := ?v4) rfl (by kernel_rfl) (by kernel_rfl) (by kernel_rfl) (fun _ _ _ h => h) (Or.inl ⟨by rfl, ?hy4⟩) (by assumption) ?rest4
      case hy4 =>
        intro w hSw
        try dsimp only at hSw
        go_simp
        try with_reducible rfl
      try simp only [Act.put, List.setIfInBounds_toArray, List.set_cons_zero, List.set_cons_succ]
      refine wpAnyH_take (i := 5) (oi := { dst := some 35, op := Op.load 3 (Operand.tmp 34), type := 3, pos := "zspage.go:52", after := #[{ on := 4, ground := Ground.data }], guard := none }) (v := ?v5) rfl (by kernel_rfl) (by kernel_rfl) (by kernel_rfl) (fun _ _ _ h => h) (Or.inl ⟨by rfl, ?hy5⟩) (by assumption) ?rest5
      case hy5 =>
        intro w hSw
        try dsimp only at hSw
        go_simp
        try with_reducible rfl
      try simp only [Act.put, List.setIfInBounds_toArray, List.set_cons_zero, List.set_cons_succ]
      refine wpAnyH_take (i := 6) (oi := { dst := some 36, op := Op.fieldAddr 120 (Operand.tmp 13) 1, type := 0, pos := "zspage.go:52", after := #[], guard := none }) (v := ?v6) rfl (by kernel_rfl) (by kernel_rfl) (by kernel_rfl) (fun _ _ _ h => h) (Or.inl ⟨by rfl, ?hy6⟩) (by assumption) ?rest6
      case hy6 =>
        intro w hSw
        try dsimp only at hSw
        go_simp
        try with_reducible rfl
      try simp only [Act.put, List.setIfInBounds_toArray, List.set_cons_zero, List.set_cons_succ]
      refine wpAnyH_take (i := 7) (oi := { dst := some 37, op := Op.load 3 (Operand.tmp 36), type := 3, pos := "zspage.go:52", after := #[{ on := 6, ground := Ground.data }], guard := none }) (v := ?v7) rfl (by kernel_rfl) (by kernel_rfl) (by kernel_rfl) (fun _ _ _ h => h) (Or.inl ⟨by rfl, ?hy7⟩) (by assumption) ?rest7
      case hy7 =>
        intro w hSw
        try dsimp only at hSw
        go_simp
        try with_reducible rfl
      try simp only [Act.put, List.setIfInBounds_toArray, List.set_cons_zero, List.set_cons_succ]
      refine wpAnyH_take (i := 8) (oi := { dst := some 38, op := Op.load 49 (Operand.tmp 11), type := 49, pos := "zspage.go:52", after := #[], guard := none }) (v := ?v8) rfl (by kernel_rfl) (by kernel_rfl) (by kernel_rfl) (fun _ _ _ h => h) (Or.inl ⟨by rfl, ?hy8⟩) (by assumption) ?rest8
      case hy8 =>
        intro w hSw
        try dsimp only at hSw
        go_simp
        try with_reducible rfl
      try simp only [Act.put, List.setIfInBounds_toArray, List.set_cons_zero, List.set_cons_succ]
      refine wpAnyH_take (i := 9) (oi := { dst := some 39, op := Op.fieldAddr 120 (Operand.tmp 13) 2, type := 0, pos := "zspage.go:52", after := #[], guard := none }) (v := ?v9) rfl (by kernel_rfl) (by kernel_rfl) (by kernel_rfl) (fun _ _ _ h => h) (Or.inl ⟨by rfl, ?hy9⟩) (by assumption) ?rest9
      case hy9 =>
        intro w hSw
        try dsimp only at hSw
        go_simp
        try with_reducible rfl
      try simp only [Act.put, List.setIfInBounds_toArray, List.set_cons_zero, List.set_cons_succ]
      refine wpAnyH_take (i := 10) (oi := { dst := some 40, op := Op.load 3 (Operand.tmp 39), type := 3, pos := "zspage.go:52", after := #[{ on := 9, ground := Ground.data }], guard := none }) (v := ?v10) rfl (by kernel_rfl) (by kernel_rfl) (by kernel_rfl) (fun _ _ _ h => h) (Or.inl ⟨by rfl, ?hy10⟩) (by assumption) ?rest10
      case hy10 =>
        intro w hSw
        try dsimp only at hSw
        go_simp
        try with_reducible rfl
      try simp only [Act.put, List.setIfInBounds_toArray, List.set_cons_zero, List.set_cons_succ]
      refine wpAnyH_take (i := 11) (oi := { dst := some 41, op := Op.slice 49 (Operand.tmp 38) none (some (Operand.tmp 40)) none, type := 49, pos := "zspage.go:52", after := #[{ on := 8, ground := Ground.data }, { on := 10, ground := Ground.data }], guard := none }) (v := ?v11) rfl (by kernel_rfl) (by kernel_rfl) (by kernel_rfl) (fun _ _ _ h => h) (Or.inl ⟨by rfl, ?hy11⟩) (by assumption) ?rest11
      case hy11 =>
        intro w hSw
        try dsimp only at hSw
        go_simp
        try with_reducible rfl
      try simp only [Act.put, List.setIfInBounds_toArray, List.set_cons_zero, List.set_cons_succ]
      refine wpAnyH_ready (rs := [12]) (by kernel_rfl) (by simp) ?_
      refine AllReadyH.cons (o := { dst := some 42, op := Op.call { callee := Callee.value (Operand.func 25), args := #[Operand.tmp 30, Operand.tmp 35, Operand.tmp 37, Operand.tmp 41], argTypes := #[23, 3, 3, 49] }, type := 4, pos := "zspage.go:52", after := #[{ on := 0, ground := Ground.data }, { on := 5, ground := Ground.data }, { on := 7, ground := Ground.data }, { on := 11, ground := Ground.data }], guard := none }) rfl (fun KK9 hK9 => ?_) ?more
      case more => exact AllReadyH.nil
      go_simp
      refine (wWrite u (z : Int) X (RamP.some hramX) HBX.out (fun ad _ _ e1 _ => by cases e1; exact hapb)).mono ?_
      rintro e6 W6 ⟨rfl, ram6, turn6⟩
      go_simp
      refine hK9.out _ _ ?keep (fun hHeld => ?_)
      case keep =>
        obtain ⟨s0, s1, s2, s3, s4, s5, s6⟩ := hHeld
        have kt := turns_keeps turn6
        exact ⟨(kt.cell (p := ⟨q, 0, none⟩) (by show q < _; omega) (by show q < B ∨ E ≤ q; omega)).trans s0, (kt.cell (p := ⟨q + 1, 0, none⟩) (by show q + 1 < _; omega) (by show q + 1 < B ∨ E ≤ q + 1; omega)).trans s1, (kt.cell (p := ⟨qb, 0, none⟩) (by show qb < _; omega) (by show qb < B ∨ E ≤ qb; omega)).trans s2,
          (kt.cell (p := ⟨qb, 1, none⟩) (by show qb < _; omega) (by show qb < B ∨ E ≤ qb; omega)).trans s3, (kt.cell (p := ⟨qb, 2, none⟩) (by show qb < _; omega) (by show qb < B ∨ E ≤ qb; omega)).trans s4, (kt.cell (p := ⟨gr, o + f, none⟩) (by show gr < _; omega) hg2).trans s5,
          (kt.cell (p := ⟨q + 2, 0, none⟩) (by show q + 2 < _; omega) (by show q + 2 < B ∨ E ≤ q + 2; omega)).trans s6⟩
      clear hK9 KK9
      try simp only [Act.put, List.setIfInBounds_toArray, List.set_cons_zero, List.set_cons_succ]
      refine wpAnyH_done (by kernel_rfl) ?_ _
      obtain ⟨_, _, _, _, e2, _, e6⟩ := hHeld
      have k12 : Keeps (fun i => i < B ∨ E ≤ i) Wr W6 := (hkX.mono fun _ _ _ => trivial).trans (turns_keeps turn6)
      have hbx6 := k12.at HV.out.bx (by omega)
      rw [HEE.out] at hbx6
      have f6 := free_of_one hbx6
      have hram6 : RamAt B E W6 r (Rk.wr u (z : Int) (seg b (x - a) n)) := by
        rcases ram6 with ⟨h1, _⟩ | ⟨r', h1, h2⟩
        · cases h1
        · cases h1
          exact h2
      have hs6 := turn6.size
      have k4 : Keeps (fun i => i ≠ q + 2) W6 (W6.setCell ⟨q + 2, 0, none⟩ (.slice pt (ee - n) (cc - n))) := ⟨rfl, rfl, rfl, by simp, fun i _ h5 => Below.heap_setCell _ _ _ _ h5⟩
      have HE : Hid (roundEnd (fun i => g0 ≤ i ∧ i < g0 + 4) (LaidZI W0 B E r q (some ⟨gb, ob, none⟩) cb R L b a e) (fun _ _ _ => False) (x + pzL x e) Ms Wr .normal { tmps := #[], defers := [] } (W6.setCell ⟨q + 2, 0, none⟩ (.slice pt (ee - n) (cc - n)))) := by
        have hv := HV.out
        have hee := HEE.out
        obtain ⟨hcc, hoo⟩ := HCC.out
        have hwr := hv.k.size
        have KK : Keeps (fun i => (i < B ∨ E ≤ i) ∧ i ≠ q + 2) Wr (W6.setCell ⟨q + 2, 0, none⟩ (.slice pt (ee - n) (cc - n))) := (k12.mono fun _ _ h1 => h1.1).trans (k4.mono fun _ _ h1 => h1.2)
        refine ⟨KK.mono fun i _ h1 => ?_, pt, cc - n, hv.k.trans (KK.mono fun i _ h1 => h1.2), ?_, fun h1 => ?_, ?_, hv.out, by omega, by omega, by omega⟩
        · rcases h1 with h1 | h1
          · omega
          · have := hv.out i h1
            omega
        · rw [show e - (x + pzL x e) = ee - n by omega]
          exact one_setCell hbx6
        · exact ⟨gb, ob, rfl, by rw [hpt (by omega), ← hoo, show x + pzL x e - a = x - a + n by omega]; simp [Nat.add_assoc], by omega⟩
        · have hsplit : b.take (x + pzL x e - a) = b.take (x - a) ++ seg b (x - a) n := by
            rw [show x + pzL x e - a = x - a + n by omega, List.take_add]
            rfl
          have hl1 : (b.take (x - a)).length = sumZ (pcsZ a x) := by
            rw [pcs_sum hlo, List.length_take, hbl]
            have := HLE.out
            omega
          rw [HTK.out, hsplit, put_snoc L ⟨f, z, n⟩ (seg b (x - a) n) (length_seg (by rw [hbl]; have := HLE.out; omega)) _ _ _ hl1, HRK.out]
          show RamAt B E _ r (Rk.wr (L.getD f 0) (z : Int) (seg b (x - a) n))
          rw [hu]
          exact hram6.keeps k4 fun i h1 h2 => by omega
      clear k4 ram6 hram6
      gi_wp2
      exact HE.out
    case done =>
      rintro D s Ms W hD hdone hMD ⟨p', c', hv⟩ hK
      have hd : s = e := Nat.le_antisymm hv.hi hdone
      subst hd
      have HV : Hid (LaidZ W0 B E r q pb cb R L b a s s Ms W p' c') := hv
      have HKD : Hid (W.heap[D]? = some (.deferred (some []))) := hK
      clear hv hK
      gi_wp2
      refine ⟨by simp, .inl ⟨D, _, rfl, run_takeDeferred HKD.out, ?_⟩⟩
      have hp := keeps_put W D (.deferred none)
      have hv := HV.out
      have hDv := hv.out D hMD
      refine ⟨_, results_tmp Try.results76 _ _ _, by rw [HARE.out]; rfl, ?_, ?_⟩
      · unfold wriZ
        rw [if_pos HARE.out]
        have h1 := hv.ram
        rw [List.take_of_length_le (by have := HLE.out; omega)] at h1
        exact h1.keeps hp fun i _ h1 => by omega
      · have kT : Keeps (fun i => i < q ∧ (i < B ∨ E ≤ i)) w (W.putObj D (.deferred none)) := (keeps_below bw0 fun _ _ h => h.1).trans ((hv.k.mono fun i _ h1 => ⟨by omega, h1.2, by omega⟩).trans (hp.mono fun i _ h1 => by omega))
        exact ⟨kT.os, kT.tape, kT.output, kT.size, fun i h1 h2 => kT.block i h1 ⟨by omega, h2⟩⟩
    case stop =>
      rintro D k M W _ _ _ h _
      exact h.elim
end Go.Proofs.Ytjgkhckcoknnfaa
