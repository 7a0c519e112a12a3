/- Loops over a function: what a round keeps, what is told to it, and one law for the statement: general. -/
import Derived.RangeFuncNested
import Derived.RangeFuncBound
import Derived.RangeFuncCalls
import Derived.RangeFuncLeaves
import Derived.Test.YtlnkelhhemgibaaGKit
namespace Go.Proofs.Ytlnkelhhemgibaa
open Go.RowKit

/-- The blocks of K lie as they lay; no block has gone. -/
structure Keeps (K : Nat → Prop) (w w' : World) : Prop where
  os : w'.os = w.os
  tape : w'.tape = w.tape
  output : w'.output = w.output
  size : w.heap.size ≤ w'.heap.size
  block : ∀ k, k < w.heap.size → K k → w'.heap[k]? = w.heap[k]?
section
variable {K K' : Nat → Prop} {a b c : World}
theorem Keeps.refl (K : Nat → Prop) (w : World) : Keeps K w w := ⟨rfl, rfl, rfl, Nat.le_refl _, fun _ _ _ => rfl⟩
theorem Keeps.trans (h : Keeps K a b) (k : Keeps K b c) : Keeps K a c :=
  ⟨k.os.trans h.os, k.tape.trans h.tape, k.output.trans h.output, Nat.le_trans h.size k.size, fun i hi hk => (k.block i (Nat.lt_of_lt_of_le hi h.size) hk).trans (h.block i hi hk)⟩
theorem Keeps.mono (h : Keeps K a b) (hk : ∀ k, k < a.heap.size → K' k → K k) : Keeps K' a b := ⟨h.os, h.tape, h.output, h.size, fun k h1 h2 => h.block k h1 (hk k h1 h2)⟩
theorem keeps_below {B : Nat} (h : Below B a b) (hk : ∀ k, k < a.heap.size → K k → k < B) : Keeps K a b := ⟨h.os, h.tape, h.output, h.size, fun k h1 h2 => h.block k (hk k h1 h2)⟩
theorem keeps_all (h : Below a.heap.size a b) : Keeps K a b := keeps_below h fun _ h1 _ => h1
theorem keeps_grown {row : Option Nat} (hg : a.grownBy b row) (hk : ∀ k, row = some k → ¬ K k) : Keeps K a b :=
  ⟨hg.os, hg.tape, hg.output, hg.size, fun k h1 h2 => hg.block k h1 fun e => hk k e.symm h2⟩
theorem Keeps.below {B : Nat} (h : Keeps K a b) (hB : ∀ k, k < B → K k) (hs : B ≤ a.heap.size) : Below B a b :=
  ⟨h.os, h.tape, h.output, h.size, fun k hk => h.block k (by omega) (hB k hk)⟩
theorem Keeps.cell (h : Keeps K a b) {p : Addr} (hp : p.block < a.heap.size) (hk : K p.block) : b.cell? p = a.cell? p := World.cell?_of_block (h.block _ hp hk)
theorem Keeps.frozen (h : Keeps K a b) {p : Addr} (hp : p.block < a.heap.size) (hk : K p.block) : b.frozen? p = a.frozen? p := World.frozen?_of_block (h.block _ hp hk)
theorem Keeps.at (h : Keeps K a b) {k : Nat} {o : Obj} (ho : a.heap[k]? = some o) (hk : K k) : b.heap[k]? = some o := (h.block k (Array.getElem?_eq_some_iff.1 ho).1 hk).trans ho
theorem Keeps.row (h : Keeps K a b) {base size n : Nat} {e : TypeId} {v : Value} {xs : List Value} (hr : a.ownsRow base e size v n xs) (hk : ∀ g, v.ownBlock = some g → K g) : b.ownsRow base e size v n xs := by
  obtain ⟨h1, h2 | ⟨g, cap, cur, rfl, h3, h4, h5⟩⟩ := hr
  · exact ⟨h1, .inl h2⟩
  · exact ⟨h1, .inr ⟨g, cap, cur, rfl, h3, h.at h4 (hk g rfl), h5⟩⟩
end

/-- It abides whatever turns in M, and what is new. -/
def Abides {σ : Type} (J : σ → (Nat → Prop) → World → Prop) : Prop :=
  ∀ s M M' W W', J s M W → Keeps (fun k => ¬ M k) W W' → (∀ k, M' k → M k ∨ (W.heap.size ≤ k ∧ k < W'.heap.size)) → J s M' W'
/-- A round, wherever J holds, for all that may be told there: it goes on, or says no more; what the iterator reads stays. -/
def Rounds {σ α : Type} (P : Program) (l : Nat) (encs : α → Array Value) (K0 : Nat → Prop) (Tell : σ → α → World → Prop) (next : σ → α → σ) (J Jx : σ → (Nat → Prop) → World → Prop) : Prop :=
  ∀ (m : Nat) (s : σ) (M : Nat → Prop) (x : α) (W : World), J s M W → Tell s x W → (∀ k, M k → k < W.heap.size) → YieldAt Fence.wide m P l (encs x) W fun e W' =>
    Keeps (fun k => K0 k ∨ M k) W W' ∧ ((e = .returned (.bool true) ∧ J (next s x) M W') ∨ (e = .returned (.bool false) ∧ Jx (next s x) M W'))
/-- All was told, or a round said no more. -/
def Over {σ : Type} (Done Stop : σ → Prop) (J Jx : σ → (Nat → Prop) → World → Prop) (W' : World) : Prop := (∃ s M, Done s ∧ J s M W') ∨ (∃ s M, Stop s ∧ Jx s M W')
/-- What a function tells to a round, from w on. -/
def Iterates {σ α : Type} (P : Program) (gf : FuncId) (lb : Array Value) (encs : α → Array Value) (K0 : Nat → Prop) (Tell : σ → α → World → Prop) (next : σ → α → σ) (s0 : σ) (Done Stop : σ → Prop) (w : World) : Prop :=
  ∀ (l : Nat) (J Jx : σ → (Nat → Prop) → World → Prop), Abides J → Abides Jx → Rounds P l encs K0 Tell next J Jx → ∀ W, Below w.heap.size w W → J s0 (fun _ => False) W →
    Calls P gf (#[.func (.yield l) #[] #[]] ++ lb) W fun e W' => (∃ v, e = .returned v) ∧ Over Done Stop J Jx W'
/-- How a round's body may end. -/
def roundEnd {σ : Type} (K0 : Nat → Prop) (I Ix : σ → (Nat → Prop) → World → Prop) (s : σ) (M : Nat → Prop) (W : World) : Exit → Act → World → Prop
  | .normal, _, W' => Keeps (fun k => K0 k ∨ M k) W W' ∧ I s M W'
  | .ret, _, W' => Keeps (fun k => K0 k ∨ M k) W W' ∧ Ix s M W'
  | _, _, _ => False
theorem keeps_put (W : World) (l : Nat) (o : Obj) : Keeps (fun k => k ≠ l) W (W.putObj l o) := keeps_grown (grownBy_putObj' W l o) fun k e => by cases e; simp

theorem range_wp {σ α : Type} {P : Program} {n : Nat} {g : Operand} {ps : Array Tmp} {assign body : Code} {Q : Exit → Act → World → Prop} {a : Act} {w : World}
    {gf : FuncId} {lb : Array Value} (hg : a.eval g = .func (.func gf) #[] lb) (eg : ∀ args w, (callFunc gf args).run P w = .ok (.enter gf args) w)
    {encs : α → Array Value} {K0 : Nat → Prop} {Tell : σ → α → World → Prop} {next : σ → α → σ} {s0 : σ} {Done Stop : σ → Prop} (hseq : Iterates P gf lb encs K0 Tell next s0 Done Stop w)
    (hK0 : ∀ k, K0 k → k < w.heap.size) (hps : ∀ x, (encs x).size = ps.size) (I Ix : σ → (Nat → Prop) → World → Prop) (hI : Abides I) (hIx : Abides Ix) (h0 : I s0 (fun _ => False) w)
    (Ax : α → World → Act → World → Prop)
    (hassign : ∀ (m l : Nat) (x : α) (W : World) (K : Act → World → Prop), (∀ a1 W1, Below W.heap.size W W1 → Ax x W a1 W1 → K a1 W1) →
      assign.wpIn (Fence.wide.inRound l) m P (Exit.then K (fun _ _ _ => False)) { tmps := (ps.zip (encs x)).foldl (fun t (p, v) => t.setIfInBounds p v) a.tmps, defers := [] } W)
    (hbody : ∀ (m l : Nat) (s : σ) (M : Nat → Prop) (x : α) (W : World) (a1 : Act) (W1 W2 : World), I s M W → Tell s x W → M l → w.heap.size ≤ l → (∀ k, M k → k < W.heap.size) → Below W.heap.size W W1 → Ax x W a1 W1 → (∃ r : Loop, W1.heap[l]? = some (.loop r)) →
      Keeps (fun k => k ≠ l) W1 W2 → W2.heap.size = W1.heap.size → body.wpIn (Fence.wide.inRound l) m P (roundEnd K0 I Ix (next s x) M W2) a1 W2)
    (hdone : ∀ (D : Nat) (s : σ) (M : Nat → Prop) (W : World), w.heap.size ≤ D → Done s → M D → I s M W → W.heap[D]? = some (.deferred (some [])) → Q .normal { a with defers := { target := .collected D, args := #[] } :: a.defers } W)
    (hstop : ∀ (D : Nat) (s : σ) (M : Nat → Prop) (W : World), w.heap.size ≤ D → Stop s → M D → Ix s M W → W.heap[D]? = some (.deferred (some [])) → Code.ret.wpIn Fence.wide n P Q { a with defers := { target := .collected D, args := #[] } :: a.defers } W) :
    (Code.rangeFunc g ps assign body).wpIn Fence.wide n P Q a w := by
  refine wpIn_rangeFunc fun fn _ => ?_
  generalize hD : w.heap.size = D
  obtain ⟨rec, hrec⟩ : ∃ rec : LoopState → Option Code → Loop, rec = fun st pe => { state := st, pending := pe, fn, tmps := a.tmps, params := ps, assign, body, defers := D } := ⟨_, rfl⟩
  obtain ⟨W1, hW1⟩ : ∃ W1, (w.alloc (.deferred (some []))).alloc (.loop (rec .ready none)) = W1 := ⟨_, rfl⟩
  have hb1 : Below w.heap.size w W1 := by rw [← hW1]; exact ((Below.refl _ w).alloc (Nat.le_refl _) _).alloc (by simp) _
  have hs1 : W1.heap.size = D + 2 := by rw [← hW1]; simp [hD]
  have hl1 : W1.heap[D + 1]? = some (.loop (rec .ready none)) := by
    have := World.alloc_heap_new (w.alloc (.deferred (some []))) (.loop (rec .ready none))
    rw [World.size_alloc, hD] at this
    rw [← hW1]; exact this
  have hk1 : W1.heap[D]? = some (.deferred (some [])) := by
    rw [← hW1, ← hD]; exact (Below.heap_alloc _ _ _ (by simp)).trans (World.alloc_heap_new w _)
  obtain ⟨Mp, hMp⟩ : ∃ Mp : (Nat → Prop) → Nat → Prop, Mp = fun M k => M k ∨ k = D + 1 ∨ k = D := ⟨_, rfl⟩
  have hJA : ∀ (X : σ → (Nat → Prop) → World → Prop) (st : LoopState) (pe : Option Code), Abides X →
      Abides (fun s M W => X s (Mp M) W ∧ W.heap[D + 1]? = some (.loop (rec st pe)) ∧ W.heap[D]? = some (.deferred (some [])) ∧ ¬ M (D + 1) ∧ ¬ M D) := by
    rintro X st pe hX s M M' W W' ⟨h1, h2, h3, h4, h5⟩ hk hM
    have e1 := (Array.getElem?_eq_some_iff.1 h2).1
    refine ⟨hX s (Mp M) (Mp M') W W' h1 (hk.mono fun k _ h6 h7 => h6 (by rw [hMp]; exact .inl h7)) fun k h6 => ?_, hk.at h2 h4, hk.at h3 h5, fun h6 => ?_, fun h6 => ?_⟩
    · rw [hMp] at h6 ⊢
      rcases h6 with h6 | h6
      · rcases hM k h6 with h7 | h7
        · exact .inl (.inl h7)
        · exact .inr h7
      · exact .inl (.inr h6)
    · rcases hM _ h6 with h7 | h7
      · exact h4 h7
      · omega
    · rcases hM _ h6 with h7 | h7
      · exact h5 h7
      · omega
  refine ⟨D + 1, [{ target := .collected D, args := #[] }], W1, { target := .fn (.func gf) lb, args := #[.func (.yield (D + 1)) #[] #[]] }, W1, gf, #[.func (.yield (D + 1)) #[] #[]] ++ lb, W1, ?_, ?_, ?_, ?_, fun h => (by cases h), ?_⟩
  · subst hD
    rw [← hW1, hrec]; exact run_enterLoop_outer _ _ _ _ _
  · simp only [resolve, hg]
    simp [go_sem]
  · intro f' _; trivial
  · simp [invoke, go_sem, eg]
  · refine callsIn_wide.2 ((hseq (D + 1)
      (fun s M W => I s (Mp M) W ∧ W.heap[D + 1]? = some (.loop (rec .ready none)) ∧ W.heap[D]? = some (.deferred (some [])) ∧ ¬ M (D + 1) ∧ ¬ M D)
      (fun s M W => Ix s (Mp M) W ∧ W.heap[D + 1]? = some (.loop (rec .done (some .ret))) ∧ W.heap[D]? = some (.deferred (some [])) ∧ ¬ M (D + 1) ∧ ¬ M D)
      (hJA I _ _ hI) (hJA Ix _ _ hIx) ?_ W1 hb1 ⟨?_, hl1, hk1, id, id⟩).mono ?_)
    · rintro m s M x W ⟨hi, hl, hk, n1, n2⟩ ht hM
      have hlt := (Array.getElem?_eq_some_iff.1 hl).1
      have hy := run_yield (P := P) (args := encs x) hl (by rw [hrec]; exact hps x)
      rw [hrec] at hy
      refine ⟨fn, _, assign, body, hy, roundIn_of_wpIn trivial (hassign m (D + 1) x W _ fun a1 W2 hb2 hax => ?_)⟩
      have hl2 : W2.heap[D + 1]? = some (.loop (rec .ready none)) := (hb2.block _ hlt).trans hl
      have hlt2 := (Array.getElem?_eq_some_iff.1 hl2).1
      refine ⟨_, run_beginRound hl2 (by rw [hrec]), ?_⟩
      have hl3 : (W2.putObj (D + 1) (.loop { rec .ready none with state := .busy })).heap[D + 1]? = some (.loop { rec .ready none with state := .busy }) := World.putObj_heap_same hlt2
      have hk3 : (W2.putObj (D + 1) (.loop { rec .ready none with state := .busy })).heap[D]? = some (.deferred (some [])) := (World.putObj_heap_other (by omega)).trans ((hb2.block _ (by omega)).trans hk)
      have hp3 := keeps_put W2 (D + 1) (.loop { rec .ready none with state := .busy })
      have hs3 : (W2.putObj (D + 1) (.loop { rec .ready none with state := .busy })).heap.size = W2.heap.size := World.putObj_size
      generalize W2.putObj (D + 1) (.loop { rec .ready none with state := .busy }) = W3 at *
      have hMl : Mp M (D + 1) := by rw [hMp]; exact .inr (.inl rfl)
      have hMd : Mp M D := by rw [hMp]; exact .inr (.inr rfl)
      have hMlt : ∀ k, Mp M k → k < W.heap.size := by
        intro k hk4
        rw [hMp] at hk4
        rcases hk4 with h1 | h1 | h1
        · exact hM k h1
        · omega
        · omega
      refine wpIn_mono (hbody m (D + 1) s (Mp M) x W a1 W2 W3 hi ht hMl (by omega) hMlt hb2 hax ⟨_, hl2⟩ hp3 hs3) ?_
      have fin : ∀ (X : σ → (Nat → Prop) → World → Prop) (jump : Option Code) (W4 : World), Abides X → Keeps (fun k => K0 k ∨ Mp M k) W3 W4 → X (next s x) (Mp M) W4 →
          ∃ W5, (Instr.endRound (D + 1) jump).run P W4 = .ok (.bool jump.isNone) W5 ∧ Keeps (fun k => K0 k ∨ M k) W W5 ∧ X (next s x) (Mp M) W5 ∧
            W5.heap[D + 1]? = some (.loop (rec (if jump.isNone then .ready else .done) jump)) ∧ W5.heap[D]? = some (.deferred (some [])) := by
        intro X jump W4 hX hk4 hx4
        have hl4 : W4.heap[D + 1]? = some (.loop { rec .ready none with state := .busy }) := hk4.at hl3 (.inr hMl)
        have hd4 : W4.heap[D]? = some (.deferred (some [])) := hk4.at hk3 (.inr hMd)
        have hend := run_endRound (P := P) jump hl4
        have hp4 := keeps_put W4 (D + 1) (.loop { ({ rec .ready none with state := .busy } : Loop) with state := if jump.isNone then .ready else .done, pending := jump })
        refine ⟨_, hend, ?_, hX _ _ _ _ _ hx4 (hp4.mono fun k _ h1 h2 => h1 (h2 ▸ hMl)) (fun k h1 => .inl h1), ?_, (World.putObj_heap_other (by omega)).trans hd4⟩
        · have hne : ∀ k, K0 k ∨ M k → k ≠ D + 1 := by
            rintro k (h1 | h1) rfl
            · have := hK0 _ h1; omega
            · exact n1 h1
          refine (keeps_all hb2).trans ((hp3.mono fun k _ => hne k).trans ((hk4.mono fun k _ h1 => ?_).trans (hp4.mono fun k _ => hne k)))
          rcases h1 with h1 | h1
          · exact .inl h1
          · exact .inr (by rw [hMp]; exact .inl h1)
        · rw [World.putObj_heap_same (Array.getElem?_eq_some_iff.1 hl4).1, hrec]
      rintro e a3 W4 hp
      cases e with
      | normal =>
        obtain ⟨hk4, hi4⟩ := hp
        obtain ⟨W5, h1, h2, h3, h4, h5⟩ := fin I none W4 hI hk4 hi4
        exact ⟨_, W5, h1, h2, .inl ⟨rfl, h3, h4, h5, n1, n2⟩⟩
      | ret =>
        obtain ⟨hk4, hi4⟩ := hp
        obtain ⟨W5, h1, h2, h3, h4, h5⟩ := fin Ix (some .ret) W4 hIx hk4 hi4
        exact ⟨_, W5, h1, h2, .inr ⟨rfl, h3, h4, h5, n1, n2⟩⟩
      | exit id => exact hp.elim
      | goto t => exact hp.elim
      | panic ch => exact hp.elim
      | outgrown => exact hp.elim
    · refine hI s0 _ _ w W1 h0 (keeps_all hb1) fun k hk => ?_
      rw [hMp] at hk
      rcases hk with h1 | h1 | h1
      · exact h1.elim
      · exact .inr (by omega)
      · exact .inr (by omega)
    · have fin : ∀ (X : σ → (Nat → Prop) → World → Prop) (st : LoopState) (pe : Option Code) (s : σ) (M : Nat → Prop) (W : World), Abides X → X s (Mp M) W → W.heap[D + 1]? = some (.loop (rec st pe)) → st ≠ .busy → W.heap[D]? = some (.deferred (some [])) →
          ∃ W5, (Instr.endLoop (D + 1)).run P W = .ok pe W5 ∧ X s (Mp M) W5 ∧ W5.heap[D]? = some (.deferred (some [])) := by
        intro X st pe s M W hX hx hl hst hd
        have hend := run_endLoop (P := P) hl (by rw [hrec]; exact hst)
        have hpe : (rec st pe).pending = pe := by rw [hrec]
        rw [hpe] at hend
        refine ⟨_, hend, hX _ _ _ _ _ hx ((keeps_put _ _ _).mono fun k _ h1 h2 => h1 ?_) (fun k h1 => .inl h1), (World.putObj_heap_other (by omega)).trans hd⟩
        rw [hMp, h2]; exact .inr (.inl rfl)
      have hMd : ∀ M, Mp M D := fun M => by rw [hMp]; exact .inr (.inr rfl)
      rintro e W2 ⟨⟨v, rfl⟩, (⟨s, M, hS, hi, hl, hk, _, _⟩ | ⟨s, M, hS, hi, hl, hk, _, _⟩)⟩
      · obtain ⟨W5, h1, h2, h3⟩ := fin I _ _ s M W2 hI hi hl (by simp) hk
        exact ⟨none, W5, h1, hdone D s _ W5 (by omega) hS (hMd M) h2 h3⟩
      · obtain ⟨W5, h1, h2, h3⟩ := fin Ix _ _ s M W2 hIx hi hl (by simp) hk
        exact ⟨some .ret, W5, h1, hstop D s _ W5 (by omega) hS (hMd M) h2 h3⟩
theorem Abides.drew {σ : Type} {J : σ → (Nat → Prop) → World → Prop} (h : Abides J) {s : σ} {M : Nat → Prop} {W : World} (hs : J s M W) : J s M W.drew :=
  h s M M W W.drew hs ⟨rfl, rfl, rfl, Nat.le_refl _, fun _ _ _ => rfl⟩ fun _ h1 => .inl h1
theorem Abides.later {σ : Type} {J : σ → (Nat → Prop) → World → Prop} (h : Abides J) {s : σ} {M : Nat → Prop} {W W' : World} (hs : J s M W) (hb : Below W.heap.size W W') : J s M W' :=
  h s M M W W' hs (keeps_all hb) fun _ h1 => .inl h1
end Go.Proofs.Ytlnkelhhemgibaa
