/- The walk of the function that squeeze.takes tells tokens by. -/
import Derived.Test.YtgninhecclinaaaQChunk
import Derived.Test.YtgninhecclinaaaKTakeC
import Derived.Test.YtgninhecclinaaaQPlain
import Derived.BigGuardIn
namespace Go.Proofs.Ytgninhecclinaaa
open Go.RowKit
attribute [local go_sem] Oper.semAt_some

/-- A token that is told: where its bytes lie, and what is told of its place. -/
structure Gv where
  p : Option Addr
  l : Nat
  c : Nat
  A : An
/-- What a token is told by. -/
def takeV (x : Gv) : Array Value := #[.agg #[.slice x.p x.l x.c, .int .i64 (x.A.n : Nat), .int .i64 (x.A.d : Nat), .int .i64 (x.A.z : Nat)], .int .i64 (x.A.e : Nat)]
/-- The place, how many bytes were stood for, and whether no token failed. -/
structure Pl where
  a : Nat
  m : Nat
  ok : Bool
def Pl.next (s : Pl) (x : Gv) : Pl := if x.A.e = 0 then ⟨x.A.z, s.m + sizeT x.A.b.length (x.A.n : Nat) (x.A.d : Nat), true⟩ else ⟨s.a, s.m, false⟩
/-- What is told of a place of b. -/
def takeT (b : List Nat) (s : Pl) (x : Gv) (W : World) : Prop := s.ok = true ∧ s.m < 4096 ∧ x.A = takeA b (s.a : Int) ∧ ByAt W x.p x.l x.c x.A.b
def Pl.over (s : Pl) : Prop := s.ok = false ∨ 4096 ≤ s.m

set_option maxRecDepth 100000 in
set_option maxHeartbeats 1000000 in
theorem takes_iter {p : Option Addr} {L c bs : Nat} {b : List Nat} {K0 : Nat → Prop} (w : World) (hs : w.cell? ⟨bs, 0, none⟩ = some (.slice p L c)) (hb : ByAt w p L c b) (hL : L ≤ 100000) (h1 : K0 bs) (h2 : bs < w.heap.size) (h3 : ∀ g o, p = some ⟨g, o, none⟩ → 0 < L → K0 g) :
    Iterates Try.prog 53 #[.pointer (some ⟨bs, 0, none⟩)] takeV K0 (takeT b) Pl.next ⟨0, 0, true⟩ Pl.over (fun _ => True) w := by
  intro l J Jx hJ hJx hR W hW h0
  have hs0 := (hW.cell (p := ⟨bs, 0, none⟩) h2).trans hs
  have hb0 := hb.later hW
  have HSZ : Hid (∀ W' : World, W.heap.size ≤ W'.heap.size → bs < W'.heap.size) := fun W' h => by have := hW.size; omega
  have HR : Hid (Rounds Try.prog l takeV K0 (takeT b) Pl.next J Jx) := hR
  have HJ : Hid (Abides J) := hJ
  have HJX : Hid (Abides Jx) := hJx
  have HB0 : Hid (ByAt W p L c b) := hb0
  have H3 : Hid (∀ g o, p = some ⟨g, o, none⟩ → 0 < L → K0 g) := h3
  clear hR hJ hJx hW hs hb hb0 h3
  refine (callsIn_wide (n := 3)).1 ?_
  refine callsIn_of_wp Try.func53 rfl trivial ?_ rfl
  simp only [List.append_toArray, List.cons_append, List.nil_append]
  simp only [Try.ntmps53, List.size_toArray, List.length_cons, List.length_nil, Nat.reduceAdd, Nat.reduceSub, Array.replicate_succ, Array.replicate_zero, List.push_toArray, List.append_toArray, List.nil_append, List.cons_append]
  gi_wp2
  gi_loopw [3, 4] (fun i j wr => ∃ (a m : Nat) (M : Nat → Prop), i = .int .i64 a ∧ j = .int .i64 m ∧ m ≤ 5000 ∧ a ≤ 100000 ∧ J ⟨a, m, true⟩ M wr ∧ wr.cell? ⟨bs, 0, none⟩ = some (.slice p L c) ∧ ByAt wr p L c b ∧ W.heap.size ≤ wr.heap.size ∧ ∀ k, M k → k < wr.heap.size) (fun _ j _ => 5000 - (intOf j).toNat)
  case atStart => exact ⟨0, 0, _, rfl, rfl, by omega, by omega, h0, hs0, HB0.out, Nat.le_refl _, fun _ h => h.elim⟩
  case round =>
    obtain ⟨a, m, M, rfl, rfl, hm, ha, hJ, hs, hby, hsz, hM⟩ := hrel
    have HJ1 : Hid (J ⟨a, m, true⟩ M wr) := hJ
    have HBY : Hid (ByAt wr p L c b) := hby
    have HM : Hid (∀ k, M k → k < wr.heap.size) := hM
    clear hJ h0 hs0 hby hM
    by_cases hlt : m < 4096
    · have i1 : (m : Int) < 4096 := by omega
      gi_wp2_with fail
      refine ⟨trivial, CallsIn.mono (callsIn_wide.2 (take_any (a : Int) wr HBY.out hL)) ?_⟩
      rintro e w1 ⟨p1, l1, c1, rfl, own1, h8, b1⟩
      obtain ⟨⟨ae, ab, an, ad, az⟩, hA⟩ : ∃ A, takeA b (a : Int) = A := ⟨_, rfl⟩
      rw [hA] at own1 h8
      have HA : Hid (takeA b (a : Int) = ⟨ae, ab, an, ad, az⟩) := hA
      have OWN1 : Hid (w1.ownsRow wr.heap.size 5 1 (.slice p1 l1 c1) l1 (bv ab)) := own1
      have H8 : Hid (∀ x ∈ ab, x < 256) := h8
      have B1 : Hid (Below wr.heap.size wr w1) := b1
      rw [hA]
      clear own1 h8 b1 hA
      have B2 : Hid (Below wr.heap.size wr (w1.alloc (.cells #[.slice p1 l1 c1, .int .i64 (an : Nat), .int .i64 (ad : Nat)] 48))) := B1.out.alloc B1.out.size _
      have BX : Hid ((w1.alloc (.cells #[.slice p1 l1 c1, .int .i64 (an : Nat), .int .i64 (ad : Nat)] 48)).heap[w1.heap.size]? = some (.cells #[.slice p1 l1 c1, .int .i64 (an : Nat), .int .i64 (ad : Nat)] 48 (0, 0))) := heap_alloc_new _ _
      have HBA : Hid (ByAt (w1.alloc (.cells #[.slice p1 l1 c1, .int .i64 (an : Nat), .int .i64 (ad : Nat)] 48)) p1 l1 c1 ab) := (by_own OWN1.out H8.out).later ((Below.refl _ _).alloc (Nat.le_refl _) _)
      have hszw := B1.out.size
      have hszx : w1.heap.size < (w1.alloc (.cells #[.slice p1 l1 c1, .int .i64 (an : Nat), .int .i64 (ad : Nat)] 48)).heap.size := by simp
      have HW2 : ∃ w2, w1.alloc (.cells #[.slice p1 l1 c1, .int .i64 (an : Nat), .int .i64 (ad : Nat)] 48) = w2 := ⟨_, rfl⟩
      have hjm := HJ.out _ M (fun k => M k ∨ (wr.heap.size ≤ k ∧ k < (w1.alloc (.cells #[.slice p1 l1 c1, .int .i64 (an : Nat), .int .i64 (ad : Nat)] 48)).heap.size)) wr _ HJ1.out (keeps_all B2.out) (fun _ h => h)
      obtain ⟨fn, tmps, assign, body, hy, hRd⟩ := HR.out 2 ⟨a, m, true⟩ _ ⟨p1, l1, c1, ⟨ae, ab, an, ad, az⟩⟩ _ hjm ⟨rfl, hlt, HA.out.symm, HBA.out⟩ (fun k h => by
        rcases h with h | h
        · have := HM.out k h
          have := B2.out.size
          omega
        · exact h.2)
      unfold takeV at hy
      have HRd : Hid _ := hRd
      clear hRd hjm HW2
      by_cases he : ae = 0
      · subst he
        have e0 : ((0 : Nat) : Int) = 0 := rfl
        simp only [e0] at hy
        gi_wp2
        refine RoundIn.mono HRd.out ?_
        rintro e W3 ⟨hk3, ⟨rfl, hJ3⟩ | ⟨rfl, hJx3⟩⟩
        · have hx3 := hk3.at BX.out (.inr (.inr ⟨hszw, hszx⟩))
          obtain ⟨d0, d1, d2⟩ := three_cells hx3
          have hsz2 := hk3.size
          have hb3 : wr.heap.size ≤ W3.heap.size := by omega
          have hs3 : W3.cell? ⟨bs, 0, none⟩ = some (.slice p L c) := by
            have hbs := HSZ.out wr hsz
            rw [hk3.cell (p := ⟨bs, 0, none⟩) (by show bs < _; omega) (.inl h1), B2.out.cell (p := ⟨bs, 0, none⟩) hbs]
            exact hs
          have hby3 : ByAt W3 p L c b := hk3.by (HBY.out.later B2.out) fun g o h4 h5 => .inl (H3.out g o h4 h5)
          obtain ⟨o1, o2, o3⟩ := take_ok HBY.out.byte HA.out rfl
          have hbl := HBY.out.len
          have hal : ab.length = l1 := HBA.out.len
          have hl1 := HBA.out.short
          have hsl := size_le l1 an ad
          obtain ⟨s, hse⟩ : ∃ s, sizeT l1 (an : Int) (ad : Int) = s := ⟨_, rfl⟩
          have hsp : 0 < s := by
            rw [← hse]
            have o4 : mayT l1 (an : Int) (ad : Int) = true := by rw [← hal]; exact o1
            rw [sizeT_yes o4]
            rcases may_ways o4 with ⟨h5, _⟩ | ⟨_, N, D, h6, h7, h8, _⟩
            · omega
            · omega
          rw [hse] at hsl
          have HSE : Hid (sizeT l1 (an : Int) (ad : Int) = s) := hse
          have HJ3 : Hid (J ⟨az, m + s, true⟩ (fun k => M k ∨ (wr.heap.size ≤ k ∧ k < (w1.alloc (.cells #[.slice p1 l1 c1, .int .i64 (an : Nat), .int .i64 (ad : Nat)] 48)).heap.size)) W3) := by
            have h5 := hJ3
            unfold Pl.next at h5
            simp only [if_true, hal, hse] at h5
            exact h5
          have HMM : Hid (∀ k, (M k ∨ (wr.heap.size ≤ k ∧ k < (w1.alloc (.cells #[.slice p1 l1 c1, .int .i64 (an : Nat), .int .i64 (ad : Nat)] 48)).heap.size)) → k < W3.heap.size) := by
            intro k h5
            rcases h5 with h5 | h5
            · have := HM.out k h5
              omega
            · omega
          have HBY3 : Hid (ByAt W3 p L c b) := hby3
          clear hJ3 hk3 hy HRd BX HBA hby3 hse o1 hx3
          gi_wp2_with fail
          refine ⟨trivial, CallsIn.mono (callsIn_wide.2 (size_is W3 hl1 HSE.out)) ?_⟩
          rintro e w4 ⟨rfl, b4⟩
          have B4 : Hid (Below W3.heap.size W3 w4) := b4
          have HJ4 : Hid (J ⟨az, m + s, true⟩ (fun k => M k ∨ (wr.heap.size ≤ k ∧ k < (w1.alloc (.cells #[.slice p1 l1 c1, .int .i64 (an : Nat), .int .i64 (ad : Nat)] 48)).heap.size)) w4) := HJ.out.later HJ3.out b4
          have hbs3 := HSZ.out W3 (by omega)
          have hs4 : w4.cell? ⟨bs, 0, none⟩ = some (.slice p L c) := by rw [b4.cell (p := ⟨bs, 0, none⟩) hbs3]; exact hs3
          have hb4 := b4.size
          have HBY4 : Hid (ByAt w4 p L c b) := HBY3.out.later b4
          clear b4
          gi_wp2
          go_roundw
          case rel => exact ⟨az, m + s, _, rfl, by go_num, by omega, by omega, HJ4.out, hs4, HBY4.out, by omega, fun k h5 => Nat.lt_of_lt_of_le (HMM.out k h5) hb4⟩
          case measure => simp [intOf]; omega
        · have HJx3 : Hid (Jx _ _ W3) := hJx3
          clear hJx3 hk3
          gi_wp2
          refine bodyPost_ret (results_none rfl _ _ _) rfl ?_
          exact ⟨⟨_, rfl⟩, .inr ⟨_, _, trivial, HJx3.out⟩⟩
      · have i2 : ((ae : Int) == 0) = false := by rw [beq_eq_false_iff_ne]; omega
        have i3 : ((ae : Int) != 0) = true := by rw [bne_iff_ne]; omega
        gi_wp2
        refine RoundIn.mono HRd.out ?_
        rintro e W3 ⟨hk3, ⟨rfl, hJ3⟩ | ⟨rfl, hJx3⟩⟩
        · have HJ3 : Hid (J _ _ W3) := hJ3
          clear hJ3 hk3
          gi_wp2
          refine bodyPost_ret (results_none rfl _ _ _) rfl ?_
          exact ⟨⟨_, rfl⟩, .inl ⟨_, _, .inl (by unfold Pl.next; rw [if_neg he]), HJ3.out⟩⟩
        · have HJx3 : Hid (Jx _ _ W3) := hJx3
          clear hJx3 hk3
          gi_wp2
          refine bodyPost_ret (results_none rfl _ _ _) rfl ?_
          exact ⟨⟨_, rfl⟩, .inr ⟨_, _, trivial, HJx3.out⟩⟩
    · have i1 : ¬ (m : Int) < 4096 := by omega
      gi_wp2
      go_end0
      exact ⟨⟨_, rfl⟩, .inl ⟨_, M, .inr (Nat.le_of_not_lt hlt), HJ1.out⟩⟩
end Go.Proofs.Ytgninhecclinaaa
