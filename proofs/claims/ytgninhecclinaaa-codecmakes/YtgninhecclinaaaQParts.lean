/- The walk of the function that squeeze.parts tells tokens by. -/
import Derived.Test.YtgninhecclinaaaQNext
import Derived.Test.YtgninhecclinaaaQBound
import Derived.Test.YtgninhecclinaaaQChunk
import Derived.BigGuardIn
namespace Go.Proofs.Ytgninhecclinaaa
open Go.RowKit
attribute [local go_sem] Oper.semAt_some

abbrev fChunk : FuncId := 48
/-- The mark of a loop over a function. -/
def mark (D : Nat) : Deferred := { target := .collected D, args := #[] }
theorem leaves_marks {P : Program} {n : Nat} {fn : Func} {tmps : Array Value} {R : Ending → World → Prop} {v : Value} (hres : ∀ W', (results fn tmps).run P W' = .ok v W') :
    ∀ (Ds : List Nat) (W : World), (∀ D ∈ Ds, W.heap[D]? = some (.deferred (some []))) → Ds.Nodup → (∀ W', Keeps (fun k => k ∉ Ds) W W' → R (.returned v) W') → LeavesInM Fence.wide n P fn tmps R (Ds.map mark) .returning W
  | [], W, _, _, hR => ⟨v, hres W, hR W (Keeps.refl _ _)⟩
  | D :: Ds, W, hd, hn, hR => by
    have hp := keeps_put W D (.deferred none)
    obtain ⟨hn1, hn2⟩ := List.nodup_cons.1 hn
    refine ⟨by simp, .inl ⟨D, _, rfl, run_takeDeferred (hd D (by simp)), ?_⟩⟩
    refine leaves_marks hres Ds _ (fun D' h' => ?_) hn2 fun W' hk => hR W' ((hp.mono fun k _ h1 h2 => h1 (by simp [h2])).trans (hk.mono fun k _ h1 h2 => h1 (by simp [h2])))
    exact hp.at (hd D' (by simp [h'])) fun e => hn1 (e ▸ h')

/-- What a token is told by. -/
def tokV (g o : Nat) (x : Tz) : Array Value := #[.agg #[if x.n = 0 then .slice (some ⟨g, o + x.o, none⟩) x.l x.l else .slice none 0 0, .int .i64 (x.n : Nat), .int .i64 (x.d : Nat)]]
/-- The k-th token of a page. -/
def partT (b : List Nat) (k : Nat) (x : Tz) (_ : World) : Prop := (packL b)[k]? = some x

/-- What parts has between two tokens: blocks of its own (A), beside those that are the caller's no more (Mj). -/
structure Parts (J : Nat → (Nat → Prop) → World → Prop) (K0 : Nat → Prop) (W0 wf : World) (yb B E l : Nat) (A Mj : Nat → Prop) (Ds : List Nat) (k : Nat) (W : World) : Prop where
  j : J k Mj W
  sub : ∀ i, A i → Mj i
  lt : ∀ i, Mj i → i < W.heap.size
  k0 : Keeps K0 W0 W
  yc : W.heap[yb]? = some (.cells #[.func (.yield l) #[] #[]] 62 (0, 0))
  my : A yb
  fin : Keeps (fun i => B ≤ i ∧ i < E) wf W
  mf : ∀ i, B ≤ i → i < E → A i
  ds : ∀ D ∈ Ds, W.heap[D]? = some (.deferred (some [])) ∧ A D
  nd : Ds.Nodup
section
variable {J J' : Nat → (Nat → Prop) → World → Prop} {K0 A A' Mj Mj' : Nat → Prop} {W0 wf W W' : World} {yb B E l k k' : Nat} {Ds : List Nat}
/-- Another caller's world, where its own blocks lie as they lay. -/
theorem Parts.kept (h : Parts J K0 W0 wf yb B E l A Mj Ds k W) (hk : Keeps (fun i => K0 i ∨ A i) W W') (hj : J' k' Mj' W') (hs : ∀ i, A i → A' i) (hm : ∀ i, A' i → Mj' i) (hlt : ∀ i, Mj' i → i < W'.heap.size) : Parts J' K0 W0 wf yb B E l A' Mj' Ds k' W' :=
  ⟨hj, hm, hlt, h.k0.trans (hk.mono fun _ _ h1 => .inl h1), hk.at h.yc (.inr h.my), hs _ h.my, h.fin.trans (hk.mono fun i _ h1 => .inr (h.mf i h1.1 h1.2)), fun i h1 h2 => hs _ (h.mf i h1 h2), fun D hD => ⟨hk.at (h.ds D hD).1 (.inr (h.ds D hD).2), hs _ (h.ds D hD).2⟩, h.nd⟩
/-- Blocks of its own newly laid. -/
theorem Parts.grow (hJ : Abides J) (h : Parts J K0 W0 wf yb B E l A A Ds k W) (hb : Below W.heap.size W W') : Parts J K0 W0 wf yb B E l (fun i => A i ∨ (W.heap.size ≤ i ∧ i < W'.heap.size)) (fun i => A i ∨ (W.heap.size ≤ i ∧ i < W'.heap.size)) Ds k W' := by
  refine h.kept (keeps_all hb) (hJ _ _ _ _ _ h.j (keeps_all hb) fun _ h1 => h1) (fun _ h1 => .inl h1) (fun _ h1 => h1) fun i h1 => ?_
  rcases h1 with h1 | h1
  · exact Nat.lt_of_lt_of_le (h.lt i h1) hb.size
  · exact h1.2
end
/-- What it has within a loop over chunks, i bytes of which were told. -/
structure Within (J : Nat → (Nat → Prop) → World → Prop) (K0 : Nat → Prop) (W0 wf w3 : World) (yb B E l : Nat) (A : Nat → Prop) (Ds : List Nat) (k L : Nat) (i : Nat) (Mi : Nat → Prop) (W : World) : Prop where
  p : Parts J K0 W0 wf yb B E l A (fun x => A x ∨ Mi x) Ds (k + i / 128) W
  own : Keeps A w3 W
  new : ∀ x, Mi x → w3.heap.size ≤ x
  div : i % 128 = 0
  le : i < L + 128
theorem within_abides {J : Nat → (Nat → Prop) → World → Prop} {K0 A : Nat → Prop} {W0 wf w3 : World} {yb B E l k L : Nat} {Ds : List Nat} (hJ : Abides J) (hK0 : ∀ i, K0 i → i < w3.heap.size) (hA : ∀ i, A i → i < w3.heap.size) : Abides (Within J K0 W0 wf w3 yb B E l A Ds k L) := by
  rintro i M M' W W' h hk hM
  have h3 := h.own.size
  have no : ∀ x, (K0 x ∨ A x) → ¬ M x := fun x h1 h2 => by
    have := h.new x h2
    rcases h1 with h1 | h1
    · have := hK0 x h1; omega
    · have := hA x h1; omega
  refine ⟨h.p.kept (hk.mono fun x _ h1 => no x h1) (hJ _ _ _ _ _ h.p.j (hk.mono fun x _ h1 h2 => h1 (.inr h2)) fun x h1 => ?_) (fun _ h1 => h1) (fun _ h1 => .inl h1) (fun x h1 => ?_), h.own.trans (hk.mono fun x _ h1 => no x (.inr h1)), fun x h1 => ?_, h.div, h.le⟩
  · rcases h1 with h1 | h1
    · exact .inl (.inl h1)
    · rcases hM x h1 with h2 | h2
      · exact .inl (.inr h2)
      · exact .inr h2
  · rcases h1 with h1 | h1
    · exact Nat.lt_of_lt_of_le (h.p.lt x (.inl h1)) hk.size
    · rcases hM x h1 with h2 | h2
      · exact Nat.lt_of_lt_of_le (h.p.lt x (.inr h2)) hk.size
      · exact h2.2
  · rcases hM x h1 with h2 | h2
    · exact h.new x h2
    · omega

/-- What it has where the next token begins at s. -/
def PartsI (J : Nat → (Nat → Prop) → World → Prop) (K0 : Nat → Prop) (W0 wf : World) (yb B E l : Nat) (b : List Nat) (s : Nat) (Ds : List Nat) (W : World) : Prop :=
  ∃ k f A pre, packL b = pre ++ packF b f s ∧ pre.length = k ∧ b.length ≤ f + s ∧ s ≤ b.length ∧ Parts J K0 W0 wf yb B E l A A Ds k W
theorem RoundIn.inRound {F : Fence} {n : Nat} {P : Program} {l : Nat} {f : FuncId} {tmps : Array Value} {assign body : Code} {w : World} {R : Ending → World → Prop} (l' : Nat) (h : RoundIn F n P l f tmps assign body w R) : RoundIn (F.inRound l') n P l f tmps assign body w R := h
theorem pack_nil {b : List Nat} {s : Nat} (h : ¬ s < b.length) : ∀ {f : Nat}, packF b f s = []
  | 0 => rfl
  | f + 1 => by rw [packF, if_neg h]
set_option maxRecDepth 100000 in
set_option maxHeartbeats 1000000 in
theorem parts_iter {g o c bp : Nat} {b : List Nat} {K0 : Nat → Prop} (w : World) (hs : w.cell? ⟨bp, 0, none⟩ = some (.slice (some ⟨g, o, none⟩) 4096 c)) (hb : ByAt w (some ⟨g, o, none⟩) 4096 c b) (h1 : K0 bp) (h2 : bp < w.heap.size) (hK0 : ∀ k, K0 k → k < w.heap.size) :
    Iterates Try.prog 31 #[.pointer (some ⟨bp, 0, none⟩)] (tokV g o) K0 (partT b) (fun k _ => k + 1) 0 (fun k => k = (packL b).length) (fun _ => True) w := by
  intro l J Jx hJ hJx hR W hW h0
  have hs0 := (hW.cell (p := ⟨bp, 0, none⟩) h2).trans hs
  have hb0 := hb.later hW
  have hlen := hb.len
  have hszW := hW.size
  have HR : Hid (Rounds Try.prog l (tokV g o) K0 (partT b) (fun k _ => k + 1) J Jx) := hR
  have HJ : Hid (Abides J) := hJ
  have HJX : Hid (Abides Jx) := hJx
  have HB0 : Hid (ByAt W (some ⟨g, o, none⟩) 4096 c b) := hb0
  have HK0 : Hid (∀ k, K0 k → k < W.heap.size) := fun k h => Nat.lt_of_lt_of_le (hK0 k h) hszW
  clear hR hJ hJx hW hs hb hb0 hK0 hszW
  refine (callsIn_wide (n := 3)).1 ?_
  refine callsIn_of_wp_marks Try.func31 rfl trivial ?_ rfl
  simp only [List.append_toArray, List.cons_append, List.nil_append]
  simp only [Try.ntmps31, List.size_toArray, List.length_cons, List.length_nil, Nat.reduceAdd, Nat.reduceSub, Array.replicate_succ, Array.replicate_zero, List.push_toArray, List.append_toArray, List.nil_append, List.cons_append]
  have hbW : Below W.heap.size W (W.alloc (.cells #[.func (.yield l) #[] #[]] 62)) := (Below.refl _ _).alloc (Nat.le_refl _) _
  have hs1 := (hbW.cell (p := ⟨bp, 0, none⟩) (HK0.out _ h1)).trans hs0
  have HY : Hid ((W.alloc (.cells #[.func (.yield l) #[] #[]] 62)).heap[W.heap.size]? = some (.cells #[.func (.yield l) #[] #[]] 62 (0, 0))) := heap_alloc_new _ _
  have HB1 : Hid (ByAt (W.alloc (.cells #[.func (.yield l) #[] #[]] 62)) (some ⟨g, o, none⟩) 4096 c b) := HB0.out.later hbW
  have HBW : Hid _ := hbW
  clear hbW
  gi_wp2_with fail
  refine ⟨trivial, CallsIn.mono (callsIn_wide.2 (new_any _ HB1.out)) ?_⟩
  rintro e wf ⟨v, rfl, hf, b1⟩
  rw [List.take_of_length_le (by omega)] at hf
  have hW1 : (W.alloc (.cells #[.func (.yield l) #[] #[]] 62)).heap.size = W.heap.size + 1 := by simp
  rw [hW1] at b1 hf
  have hszf := b1.size
  rw [hW1] at hszf
  have HBF : Hid (Below W.heap.size W wf) := HBW.out.trans (b1.mono (by omega))
  have HF : Hid (FinO (W.heap.size + 1) wf v b) := hf
  obtain ⟨E, hE⟩ : ∃ E, wf.heap.size = E := ⟨_, rfl⟩
  have HE : Hid (wf.heap.size = E) := hE
  have HP : Hid (Parts J K0 W wf W.heap.size (W.heap.size + 1) E l (fun i => W.heap.size ≤ i ∧ i < E) (fun i => W.heap.size ≤ i ∧ i < E) [] 0 wf) := by
    refine ⟨HJ.out _ _ _ _ _ h0 (keeps_all HBF.out) (fun i h => .inr (by rw [hE]; exact h)), fun _ h => h, fun i h => by rw [hE]; exact h.2, keeps_all HBF.out, (b1.block _ (by omega)).trans HY.out, ⟨Nat.le_refl _, by omega⟩, Keeps.refl _ _, fun i h5 h6 => ⟨by omega, h6⟩, by simp, List.nodup_nil⟩
  have hsf := HBF.out.cell (p := ⟨bp, 0, none⟩) (HK0.out _ h1)
  generalize hYB : W.heap.size = yb at *
  clear hf b1 hs1 HY HB1 HBW hW1 h0 hsf
  gi_wp2_with fail
  refine wpIn_loop (fun a' w' => ∃ (s : Nat) (Ds : List Nat) (u5 u6 u7 u10 u11 u12 u13 u14 u15 u16 u17 u18 u19 u20 u21 u22 u23 u24 u25 u26 u27 u28 u29 u30 u31 u32 u33 u34 u35 u36 u37 u38 u39 u40 u41 u42 u43 u44 : Value), a' = { tmps := #[.func (.yield l) #[] #[], .pointer (some ⟨bp, 0, none⟩), .pointer (some ⟨yb, 0, none⟩), v, .int .i64 (s : Int), u5, u6, u7, .slice (some ⟨g, o, none⟩) 4096 c, v, u10, u11, u12, u13, u14, u15, u16, u17, u18, u19, u20, u21, u22, u23, u24, u25, u26, u27, u28, u29, u30, u31, u32, u33, u34, u35, u36, u37, u38, u39, u40, u41, u42, u43, u44], defers := Ds.map mark } ∧ PartsI J K0 W wf yb (yb + 1) E l b s Ds w') (fun a' _ => 4096 - (intOf (a'.tmps.getD 4 undef)).toNat) ?start ?round
  case start =>
    refine ⟨0, [], ?_⟩
    repeat apply Exists.intro
    exact ⟨rfl, 0, b.length, _, [], rfl, rfl, by omega, by omega, HP.out⟩
  case round =>
    rintro _ wr ⟨s, Ds, hinv⟩
    obtain ⟨u5, hinv⟩ := hinv
    obtain ⟨u6, hinv⟩ := hinv
    obtain ⟨u7, hinv⟩ := hinv
    obtain ⟨u10, hinv⟩ := hinv
    obtain ⟨u11, hinv⟩ := hinv
    obtain ⟨u12, hinv⟩ := hinv
    obtain ⟨u13, hinv⟩ := hinv
    obtain ⟨u14, hinv⟩ := hinv
    obtain ⟨u15, hinv⟩ := hinv
    obtain ⟨u16, hinv⟩ := hinv
    obtain ⟨u17, hinv⟩ := hinv
    obtain ⟨u18, hinv⟩ := hinv
    obtain ⟨u19, hinv⟩ := hinv
    obtain ⟨u20, hinv⟩ := hinv
    obtain ⟨u21, hinv⟩ := hinv
    obtain ⟨u22, hinv⟩ := hinv
    obtain ⟨u23, hinv⟩ := hinv
    obtain ⟨u24, hinv⟩ := hinv
    obtain ⟨u25, hinv⟩ := hinv
    obtain ⟨u26, hinv⟩ := hinv
    obtain ⟨u27, hinv⟩ := hinv
    obtain ⟨u28, hinv⟩ := hinv
    obtain ⟨u29, hinv⟩ := hinv
    obtain ⟨u30, hinv⟩ := hinv
    obtain ⟨u31, hinv⟩ := hinv
    obtain ⟨u32, hinv⟩ := hinv
    obtain ⟨u33, hinv⟩ := hinv
    obtain ⟨u34, hinv⟩ := hinv
    obtain ⟨u35, hinv⟩ := hinv
    obtain ⟨u36, hinv⟩ := hinv
    obtain ⟨u37, hinv⟩ := hinv
    obtain ⟨u38, hinv⟩ := hinv
    obtain ⟨u39, hinv⟩ := hinv
    obtain ⟨u40, hinv⟩ := hinv
    obtain ⟨u41, hinv⟩ := hinv
    obtain ⟨u42, hinv⟩ := hinv
    obtain ⟨u43, hinv⟩ := hinv
    obtain ⟨u44, hinv⟩ := hinv
    obtain ⟨rfl, k, f, A, pre, hpk, hpl, hf, hs4, hP⟩ := hinv
    have HP1 : Hid (Parts J K0 W wf yb (yb + 1) E l A A Ds k wr) := hP
    have HPK : Hid (packL b = pre ++ packF b f s ∧ pre.length = k ∧ b.length ≤ f + s ∧ s ≤ b.length) := ⟨hpk, hpl, hf, hs4⟩
    have hbpw : bp < W.heap.size := by rw [hYB]; exact HK0.out _ h1
    have hsr : wr.cell? ⟨bp, 0, none⟩ = some (.slice (some ⟨g, o, none⟩) 4096 c) := (hP.k0.cell (p := ⟨bp, 0, none⟩) hbpw h1).trans hs0
    clear hP hpk hpl HP
    by_cases hlt : s < 4096
    · have i1 : (s : Int) < 4096 := by omega
      have HFP : Hid (FinP wr v b) := (HF.out.kept fun i h5 h6 => HP1.out.fin.block i h6 ⟨h5, by rw [← HE.out]; exact h6⟩).fin
      have hn := nextC_spec hs4
      obtain ⟨⟨a, L, d⟩, hac⟩ : ∃ R, nextC b s = R := ⟨_, rfl⟩
      rw [hac] at hn
      have hn : Next b s a L d := hn
      have HN : Hid (Next b s a L d) := hn
      have HAC : Hid (nextC b s = (a, L, d)) := hac
      have hlo := hn.lo
      have hhi := hn.hi
      have hst := hn.step (by omega : s < b.length)
      have hcap := HB0.out.cap
      clear hn hac
      gi_wp2_with fail
      refine ⟨trivial, CallsIn.mono (callsIn_wide.2 (next_is wr HFP.out hs4 HAC.out)) ?_⟩
      rintro e w2 ⟨rfl, b2⟩
      obtain ⟨X, hX⟩ : ∃ X : Obj, X = .cells #[.slice none 0 0, .int .i64 (L : Int), .int .i64 (d : Int)] 48 := ⟨_, rfl⟩
      have HX : Hid (X = .cells #[.slice none 0 0, .int .i64 (L : Int), .int .i64 (d : Int)] 48) := hX
      have B2 : Hid (Below wr.heap.size wr w2) := b2
      have hs2 : (w2.alloc (.cells #[.slice none 0 0, .int .i64 (L : Int), .int .i64 (d : Int)] 48)).cell? ⟨bp, 0, none⟩ = some (.slice (some ⟨g, o, none⟩) 4096 c) := by
        have hbpr : bp < wr.heap.size := Nat.lt_of_lt_of_le hbpw HP1.out.k0.size
        rw [((B2.out.alloc B2.out.size _)).cell (p := ⟨bp, 0, none⟩) hbpr]
        exact hsr
      have hcut := run_cut (g := g) (o := o) (L := 4096) (c := c) (l := s) (h := a) (A := (s : Int)) (H := (a : Int)) rfl rfl hlo (by omega) (by omega)
      obtain ⟨m, hm⟩ : ∃ m, a - s = m := ⟨_, rfl⟩
      rw [hm] at hcut
      have HM : Hid (a - s = m) := hm
      obtain ⟨c2, hc2⟩ : ∃ c2, c - s = c2 := ⟨_, rfl⟩
      rw [hc2] at hcut
      have hmc : m ≤ c2 ∧ m ≤ 4096 := by omega
      clear b2 hX hsr hm hc2
      gi_wp2_with fail
      refine ⟨trivial, CallsIn.mono (callsIn_wide.2 (chunk_any _)) ?_⟩
      rintro e w3 ⟨rfl, rfl⟩
      obtain ⟨W3, hW3⟩ : ∃ W3, W3 = ((w2.alloc (.cells #[.slice none 0 0, .int .i64 (L : Int), .int .i64 (d : Int)] 48)).alloc (.cells #[.slice (some ⟨g, o + s, none⟩) m c2] 23)).alloc (.cells #[.int .i64 128] 3) := ⟨_, rfl⟩
      obtain ⟨xb, hxb⟩ : ∃ xb, w2.heap.size = xb := ⟨_, rfl⟩
      have hx0 : W3.heap[xb]? = some (.cells #[.slice none 0 0, .int .i64 (L : Int), .int .i64 (d : Int)] 48 (0, 0)) := by
        rw [hW3, ← hxb, Below.heap_alloc _ _ _ (by simp; omega), Below.heap_alloc _ _ _ (by simp)]
        exact heap_alloc_new _ _
      have hx1 : W3.heap[xb + 1]? = some (.cells #[.slice (some ⟨g, o + s, none⟩) m c2] 23 (0, 0)) := by
        rw [hW3, Below.heap_alloc _ _ _ (by simp [hxb])]
        have := heap_alloc_new (w2.alloc (.cells #[.slice none 0 0, .int .i64 (L : Int), .int .i64 (d : Int)] 48)) (.cells #[.slice (some ⟨g, o + s, none⟩) m c2] 23)
        rwa [World.size_alloc, hxb] at this
      have hx2 : W3.heap[xb + 2]? = some (.cells #[.int .i64 128] 3 (0, 0)) := by
        have := heap_alloc_new ((w2.alloc (.cells #[.slice none 0 0, .int .i64 (L : Int), .int .i64 (d : Int)] 48)).alloc (.cells #[.slice (some ⟨g, o + s, none⟩) m c2] 23)) (.cells #[.int .i64 128] 3)
        rw [World.size_alloc, World.size_alloc, hxb, ← hW3] at this
        exact this
      have hsz3 : W3.heap.size = xb + 3 := by rw [hW3]; simp [hxb]
      have hb3 : Below wr.heap.size wr W3 := by
        rw [hW3]
        exact ((B2.out.alloc B2.out.size _).alloc (by have := B2.out.size; simp; omega) _).alloc (by have := B2.out.size; simp; omega) _
      have hszr := B2.out.size
      rw [hxb] at hszr
      gi_wp2_with fail
      rw [← hW3]
      simp only [show xb + 1 + 1 = xb + 2 from rfl]
      obtain ⟨A3, hA3⟩ : ∃ A3 : Nat → Prop, A3 = fun i => A i ∨ (wr.heap.size ≤ i ∧ i < W3.heap.size) := ⟨_, rfl⟩
      have hP3 : Parts J K0 W wf yb (yb + 1) E l A3 A3 Ds k W3 := by
        rw [hA3]
        exact HP1.out.grow HJ.out hb3
      have hA3x : A3 xb ∧ A3 (xb + 1) ∧ A3 (xb + 2) := by
        rw [hA3]
        exact ⟨.inr (by omega), .inr (by omega), .inr (by omega)⟩
      have HP3 : Hid (Parts J K0 W wf yb (yb + 1) E l A3 A3 Ds k W3) := hP3
      have HX0 : Hid (W3.heap[xb]? = some (.cells #[.slice none 0 0, .int .i64 (L : Int), .int .i64 (d : Int)] 48 (0, 0))) := hx0
      have hK03 : ∀ i, K0 i → i < W3.heap.size := fun i h5 => by
        have h6 := HK0.out i h5
        have h7 := hP3.k0.size
        omega
      have hDs : ∀ D ∈ Ds, D < W3.heap.size := fun D hD => hP3.lt D ((hP3.ds D hD).2)
      clear hW3 hA3 hP3 hx0 hb3 hszr
      refine range_wp (gf := 48) (lb := #[.pointer (some ⟨xb + 1, 0, none⟩), .pointer (some ⟨xb + 2, 0, none⟩)]) rfl (enters_of Try.func48 (by kernel_rfl) rfl)
        (chunk_iter (K0 := fun i => i = xb + 1 ∨ i = xb + 2) W3 (cell_of_one hx1) (cell_of_one hx2) hmc.1 (by omega) (.inl rfl) (.inr rfl) (by omega) (by omega))
        (fun i hi => by omega) (fun _ => rfl) (Within J K0 W wf W3 yb (yb + 1) E l A3 Ds k m) (Within Jx K0 W wf W3 yb (yb + 1) E l A3 Ds k m) (within_abides HJ.out hK03 (fun i hi => HP3.out.lt i hi)) (within_abides HJX.out hK03 (fun i hi => HP3.out.lt i hi))
        ⟨HP3.out.kept (Keeps.refl _ _) (HJ.out _ _ _ _ _ HP3.out.j (Keeps.refl _ _) (fun i hi => .inl (hi.resolve_right id))) (fun _ h => h) (fun _ h => .inl h) (fun i hi => HP3.out.lt i (hi.resolve_right id)), Keeps.refl _ _, fun _ h => h.elim, rfl, by omega⟩
        (fun x W a1 W1 => W1 = W ∧ a1 = { tmps := #[.func (.yield l) #[] #[], .pointer (some ⟨bp, 0, none⟩), .pointer (some ⟨yb, 0, none⟩), v, .int .i64 (s : Int), .int .i64 (a : Int), .pointer (some ⟨xb, 0, none⟩), .slice (some ⟨g, o + s + x, none⟩) (min 128 (m - x)) (min 128 (m - x)), .slice (some ⟨g, o, none⟩) 4096 c, v, .int .i64 (s : Int), .slice (some ⟨g, o, none⟩) 4096 c, .int .i64 4096, .bool true, .tuple #[.int .i64 (a : Int), .agg #[.slice none 0 0, .int .i64 (L : Int), .int .i64 (d : Int)]], v, .int .i64 (s : Int), .tuple #[.int .i64 (a : Int), .agg #[.slice none 0 0, .int .i64 (L : Int), .int .i64 (d : Int)]], .int .i64 (a : Int), .agg #[.slice none 0 0, .int .i64 (L : Int), .int .i64 (d : Int)], .slice (some ⟨g, o, none⟩) 4096 c, .int .i64 (s : Int), .int .i64 (a : Int), .slice (some ⟨g, o + s, none⟩) m c2, .func (.func fChunk) #[] #[.pointer (some ⟨xb + 1, 0, none⟩), .pointer (some ⟨xb + 2, 0, none⟩)], .slice (some ⟨g, o + s + x, none⟩) (min 128 (m - x)) (min 128 (m - x)), u26, u27, u28, u29, u30, u31, u32, u33, u34, u35, u36, u37, u38, u39, u40, u41, u42, u43, u44], defers := [] }) ?assign ?body ?done ?stop
      case assign =>
        intro n l' x W K hK
        unfold chunkV
        gi_wp2
        exact hK _ _ (Below.refl _ _) ⟨rfl, rfl⟩
      case body =>
        rintro n l' i Mi x W4 a1 W5 W6 hI ⟨rfl, hiL⟩ hMl hll hMlt hbW ⟨rfl, rfl⟩ hlp hk hsz
        have hI6 := within_abides HJ.out hK03 (fun i hi => HP3.out.lt i hi) x Mi Mi _ W6 hI (hk.mono fun y _ h5 h6 => h5 (h6 ▸ hMl)) (fun _ h => .inl h)
        have y0 := cell_of_one hI6.p.yc
        have HI6 : Hid (Within J K0 W wf W3 yb (yb + 1) E l A3 Ds k m x Mi W6) := hI6
        have hT : partT b (k + x / 128) (chunkZ s m (x / 128)) W6 := by
          show (packL b)[k + x / 128]? = some _
          obtain ⟨q1, q2, q3, q4⟩ := HPK.out
          obtain ⟨f', rfl⟩ : ∃ f', f = f' + 1 := ⟨f - 1, by omega⟩
          rw [q1, List.getElem?_append_right (by omega), q2, Nat.add_sub_cancel_left, packF, if_pos (by omega), HAC.out, HM.out]
          rw [List.getElem?_append_left (by rw [lits_len]; omega)]
          exact lits_at (by omega)
        obtain ⟨fn, tmps, assign, body, hy, hRd⟩ := HR.out (n - 1) (k + x / 128) _ (chunkZ s m (x / 128)) W6 hI6.p.j hT hI6.p.lt
        have hx128 : 128 * (x / 128) = x := by have := hI6.div; omega
        have e : tokV g o (chunkZ s m (x / 128)) = #[.agg #[.slice (some ⟨g, o + s + x, none⟩) (min 128 (m - x)) (min 128 (m - x)), .int .i64 0, .int .i64 0]] := by
          unfold tokV chunkZ
          rw [hx128, if_pos rfl, ← Nat.add_assoc]
          rfl
        rw [e] at hy
        have HRd : Hid _ := hRd
        clear hRd e hT hI hI6 hk hlp hbW hMlt hx128
        generalize min 128 (m - x) = ml at *
        gi_wp2
        refine ⟨fun h => (by cases h), RoundIn.mono (RoundIn.inRound l' HRd.out) ?_⟩
        have hkk : k + x / 128 + 1 = k + (x + 128) / 128 := by omega
        rintro e W7 ⟨hk7, ⟨rfl, hJ7⟩ | ⟨rfl, hJx7⟩⟩
        · have HE : Hid (roundEnd (fun i => i = xb + 1 ∨ i = xb + 2) (Within J K0 W wf W3 yb (yb + 1) E l A3 Ds k m) (Within Jx K0 W wf W3 yb (yb + 1) E l A3 Ds k m) (x + 128) Mi W6 .normal { tmps := #[], defers := [] } W7) := by
            rw [hkk] at hJ7
            refine ⟨hk7.mono fun j _ h5 => ?_, HI6.out.p.kept (hk7.mono fun j _ h5 => ?_) hJ7 (fun _ h5 => h5) (fun _ h5 => .inl h5) (fun j h5 => Nat.lt_of_lt_of_le (HI6.out.p.lt j h5) hk7.size), HI6.out.own.trans (hk7.mono fun j _ h5 => .inr (.inl h5)), HI6.out.new, by have := HI6.out.div; omega, by omega⟩
            · rcases h5 with (rfl | rfl) | h5
              · exact .inr (.inl hA3x.2.1)
              · exact .inr (.inl hA3x.2.2)
              · exact .inr (.inr h5)
            · rcases h5 with h5 | h5
              · exact .inl h5
              · exact .inr (.inl h5)
          clear hJ7 hk7 hkk
          gi_wp2
          exact HE.out
        · have HE : Hid (roundEnd (fun i => i = xb + 1 ∨ i = xb + 2) (Within J K0 W wf W3 yb (yb + 1) E l A3 Ds k m) (Within Jx K0 W wf W3 yb (yb + 1) E l A3 Ds k m) (x + 128) Mi W6 .ret { tmps := #[], defers := [] } W7) := by
            rw [hkk] at hJx7
            refine ⟨hk7.mono fun j _ h5 => ?_, HI6.out.p.kept (hk7.mono fun j _ h5 => ?_) hJx7 (fun _ h5 => h5) (fun _ h5 => .inl h5) (fun j h5 => Nat.lt_of_lt_of_le (HI6.out.p.lt j h5) hk7.size), HI6.out.own.trans (hk7.mono fun j _ h5 => .inr (.inl h5)), HI6.out.new, by have := HI6.out.div; omega, by omega⟩
            · rcases h5 with (rfl | rfl) | h5
              · exact .inr (.inl hA3x.2.1)
              · exact .inr (.inl hA3x.2.2)
              · exact .inr (.inr h5)
            · rcases h5 with h5 | h5
              · exact .inl h5
              · exact .inr (.inl h5)
          clear hJx7 hk7 hkk
          gi_wp2
          exact HE.out
      case done =>
        rintro D i Mi W8 hD hdone hMD hI hK
        have hnl : i / 128 = (m + 127) / 128 := by have := hI.div; have := hI.le; omega
        obtain ⟨nl, hnle⟩ : ∃ nl, (m + 127) / 128 = nl := ⟨_, rfl⟩
        rw [hnle] at hnl
        have hDn : D ∉ Ds := fun h5 => by have := hDs D h5; omega
        have hP8 : Parts J K0 W wf yb (yb + 1) E l (fun x => A3 x ∨ Mi x) (fun x => A3 x ∨ Mi x) (D :: Ds) (k + nl) W8 := by
          have hp := hI.p
          rw [hnl] at hp
          refine ⟨hp.j, fun _ h => h, hp.lt, hp.k0, hp.yc, .inl hp.my, hp.fin, fun j h5 h6 => .inl (hp.mf j h5 h6), fun D' hD' => ?_, List.nodup_cons.2 ⟨hDn, hp.nd⟩⟩
          rcases List.mem_cons.1 hD' with rfl | h5
          · exact ⟨hK, .inr hMD⟩
          · exact ⟨(hp.ds D' h5).1, .inl (hp.ds D' h5).2⟩
        have hx8 := hI.own.at HX0.out hA3x.1
        have y0 := cell_of_one hP8.yc
        have hs8 : W8.cell? ⟨bp, 0, none⟩ = some (.slice (some ⟨g, o, none⟩) 4096 c) := (hP8.k0.cell (p := ⟨bp, 0, none⟩) hbpw h1).trans hs0
        obtain ⟨d0, d1, d2⟩ := three_cells hx8
        have HP8 : Hid (Parts J K0 W wf yb (yb + 1) E l (fun x => A3 x ∨ Mi x) (fun x => A3 x ∨ Mi x) (D :: Ds) (k + nl) W8) := hP8
        have HX8 : Hid _ := hx8
        have HXA : Hid ((fun x => A3 x ∨ Mi x) xb) := .inl hA3x.1
        have HNL : Hid ((litsL s m).length = nl) := by show _ = _; rw [lits_len, hnle]
        obtain ⟨f', hf'⟩ : ∃ f', f = f' + 1 := ⟨f - 1, by omega⟩
        have HPK8 : Hid (packL b = pre ++ (litsL s m ++ (dupL b a L d ++ packF b f' (a + L)))) := by
          show _ = _
          obtain ⟨q1, q2, q3, q4⟩ := HPK.out
          rw [q1, hf', packF, if_pos (by omega), HAC.out, HM.out]
        have hff : b.length ≤ f' + (a + L) := by omega
        clear hP8 hx8 hI hK hnl hnle hf' hDn
        generalize (fun x => A3 x ∨ Mi x) = A8 at *
        by_cases ha : a < 4096
        · have i2 : (a : Int) < 4096 := by omega
          have hL3 : 3 ≤ L ∧ L ≤ 130 := by
            have := next_cap HN.out (by omega)
            rcases HN.out.is with ⟨h5, _⟩ | ⟨_, _, h5, _⟩
            · omega
            · omega
          have HDL : Hid (dupL b a L d = [⟨0, 0, L, d⟩]) := if_pos (by omega)
          have hT : partT b (k + nl) ⟨0, 0, L, d⟩ W8 := by
            show (packL b)[k + nl]? = some _
            rw [HPK8.out, HDL.out, List.getElem?_append_right (by have := HPK.out.2.1; omega), HPK.out.2.1, Nat.add_sub_cancel_left, List.getElem?_append_right (by have := HNL.out; omega), HNL.out, Nat.sub_self]
            rfl
          obtain ⟨fn, tmps, assign, body, hy, hRd⟩ := HR.out 2 (k + nl) _ ⟨0, 0, L, d⟩ W8 HP8.out.j hT HP8.out.lt
          have e : tokV g o ⟨0, 0, L, d⟩ = #[.agg #[.slice none 0 0, .int .i64 (L : Int), .int .i64 (d : Int)]] := by
            unfold tokV
            rw [if_neg (by show ¬ L = 0; omega)]
          rw [e] at hy
          have HRd : Hid _ := hRd
          clear hRd e hT
          gi_wp2
          refine RoundIn.mono HRd.out ?_
          rintro e W9 ⟨hk9, ⟨rfl, hJ9⟩ | ⟨rfl, hJx9⟩⟩
          · have HP9 : Hid (Parts J K0 W wf yb (yb + 1) E l A8 A8 (D :: Ds) (k + nl + 1) W9) := HP8.out.kept hk9 hJ9 (fun _ h5 => h5) (fun _ h5 => h5) (fun j h5 => Nat.lt_of_lt_of_le (HP8.out.lt j h5) hk9.size)
            have hx9 := hk9.at HX8.out (.inr HXA.out)
            obtain ⟨z0, z1, z2⟩ := three_cells hx9
            clear hJ9 hk9 d0 d1 d2 y0 hs8 hx9 hy HRd
            gi_wp2
            refine ⟨⟨a + L, D :: Ds, ?_⟩, ?_⟩
            · have hpk9 : packL b = (pre ++ (litsL s m ++ dupL b a L d)) ++ packF b f' (a + L) := by rw [HPK8.out]; simp
              have hpl9 : (pre ++ (litsL s m ++ dupL b a L d)).length = k + nl + 1 := by
                rw [HDL.out]
                have := HPK.out.2.1
                have := HNL.out
                simp
                omega
              have hc : ((a : Int) + (L : Int)) = ((a + L : Nat) : Int) := by simp
              rw [hc]
              repeat apply Exists.intro
              exact ⟨rfl, k + nl + 1, f', A8, _, hpk9, hpl9, hff, hst.2, HP9.out⟩
            · simp [intOf]
              omega
          · clear d0 d1 d2 y0 hs8
            have hjx := hJx9
            have hds : ∀ D' ∈ D :: Ds, W9.heap[D']? = some (.deferred (some [])) := fun D' hD' => hk9.at (HP8.out.ds D' hD').1 (.inr (HP8.out.ds D' hD').2)
            clear hJx9 hk9 HRd hy
            gi_wp2
            refine leaves_marks (fun W' => results_none rfl _ _ _) (D :: Ds) W9 hds HP8.out.nd fun W' hk => ⟨⟨_, rfl⟩, .inr ⟨_, _, trivial, HJX.out _ _ _ _ _ hjx (hk.mono fun y _ h5 h6 => h5 ((HP8.out.ds y h6).2)) (fun _ h5 => .inl h5)⟩⟩
        · have i2 : ¬ (a : Int) < 4096 := by omega
          obtain rfl : a = 4096 := by omega
          have hL0 : L = 0 ∧ d = 0 := by
            rcases HN.out.is with ⟨_, h5⟩ | ⟨h5, _⟩
            · exact h5
            · omega
          obtain ⟨rfl, rfl⟩ := hL0
          gi_wp2
          refine ⟨fun _ h => (by cases h), ?_⟩
          gi_wp2
          refine ⟨⟨4096, D :: Ds, ?_⟩, ?_⟩
          · have hpk9 : packL b = (pre ++ litsL s m) ++ packF b f' (4096 + 0) := by rw [HPK8.out, dupL, if_neg (by omega)]; simp
            have hpl9 : (pre ++ litsL s m).length = k + nl := by
              have := HPK.out.2.1
              have := HNL.out
              simp
              omega
            repeat apply Exists.intro
            exact ⟨rfl, k + nl, f', A8, _, hpk9, hpl9, hff, by omega, HP8.out⟩
          · simp [intOf]
            omega
      case stop =>
        rintro D i Mi W8 hD _ hMD hI hK
        have hDn : D ∉ Ds := fun h5 => by have := hDs D h5; omega
        gi_wp2
        refine leaves_marks (fun W' => results_none rfl _ _ _) (D :: Ds) W8 (fun D' hD' => ?_) (List.nodup_cons.2 ⟨hDn, hI.p.nd⟩) fun W' hk => ⟨⟨_, rfl⟩, .inr ⟨_, _, trivial, HJX.out _ _ _ _ _ hI.p.j (hk.mono fun y _ h5 h6 => h5 ?_) (fun _ h5 => .inl h5)⟩⟩
        · rcases List.mem_cons.1 hD' with rfl | h5
          · exact hK
          · exact (hI.p.ds D' h5).1
        · rcases List.mem_cons.1 h6 with rfl | h7
          · exact .inr hMD
          · exact .inl (hI.p.ds y h7).2
    · have i1 : ¬ (s : Int) < 4096 := by omega
      have HL : Hid (k = (packL b).length) := by
        obtain ⟨q1, q2, _, _⟩ := HPK.out
        show _ = _
        rw [q1, pack_nil (by omega), List.append_nil, q2]
      gi_wp2
      refine leaves_marks (fun W' => results_none rfl _ _ _) Ds wr (fun D' hD' => (HP1.out.ds D' hD').1) HP1.out.nd fun W' hk => ⟨⟨_, rfl⟩, .inl ⟨k, A, HL.out, HJ.out _ _ _ _ _ HP1.out.j (hk.mono fun y _ h5 h6 => h5 ((HP1.out.ds y h6).2)) (fun _ h5 => .inl h5)⟩⟩
end Go.Proofs.Ytgninhecclinaaa
