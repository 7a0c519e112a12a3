/- The walk of token.Put: the bytes of all tokens. -/
import Derived.Test.YtgninhecclinaaaKTk
import Derived.Deep.LoopGhost
import Derived.Deep.DeepCutAuto
namespace Go.Proofs.Ytgninhecclinaaa
open Go.RowKit

set_option maxHeartbeats 1000000 in
theorem puts_most {a : Option Addr} {L c : Nat} {D : Nat → Tk} (w : World) (h : TksAt w a L D) (hL : L ≤ 8192) (hcat : ∀ k, k ≤ L → (catT D k).length ≤ 99000) :
    Calls Try.prog 16 #[.slice a L c] w fun e w' => ∃ v, e = .returned (.tuple #[v, .bool (allT D L)]) ∧ w'.ownsRow w.heap.size 5 1 v (putT D L).length (bv (putT D L)) ∧ Below w.heap.size w w' := by
  have H : Hid (TksAt w a L D) := h
  have HC : Hid (∀ k, k ≤ L → (catT D k).length ≤ 99000) := hcat
  clear h hcat
  go_enter Try.func16, Try.ntmps16
  go_wp2
  go_loopw [4, 9] (fun v i wr => ∃ k : Nat, k ≤ L ∧ i = .int .i64 k ∧ allT D k = true ∧ wr.ownsRow w.heap.size 5 1 v (catT D k).length (bv (catT D k)) ∧ Below w.heap.size w wr) (fun _ i _ => L - (intOf i).toNat)
  case atStart => exact ⟨0, Nat.zero_le _, rfl, rfl, World.ownsRow_nil _ _ _ _, Below.refl _ _⟩
  case round =>
    obtain ⟨k, hk, rfl, hall, hown, hb⟩ := hrel
    have HA : Hid (allT D k = true) := hall
    obtain ⟨av, cv, rfl⟩ := row_slice hown
    have HO : Hid (wr.ownsRow w.heap.size 5 1 (.slice av (catT D k).length cv) (catT D k).length (bv (catT D k))) := hown
    have HB : Hid (Below w.heap.size w wr) := hb
    clear hall hown hb
    by_cases hlt : k < L
    · have i1 : (k : Int) < (L : Int) := by omega
      obtain ⟨g, off, rfl, hg, hc⟩ := H.out.at hlt
      obtain ⟨c0, c1, c2⟩ := hc wr HB.out
      have hok := H.out.ok hlt
      have hl := hok.by_.short
      have HK : Hid (ByAt w (D k).p (D k).l (D k).c (D k).b) := hok.by_
      have HCK : Hid ((catT D k).length ≤ 99000) := HC.out k hk
      clear hc hok
      cases hm : mayD (D k) with
      | true =>
        have HM : Hid (mayT (D k).l (D k).n (D k).d = true) := hm
        have HE : Hid (catT D (k + 1) = catT D k ++ tokB (D k).b (D k).n (D k).d) := catT_yes hm
        have HA2 : Hid (allT D (k + 1) = true) := allT_step HA.out hm
        clear hm
        generalize (D k).p = dp at *
        generalize (D k).l = dl at *
        generalize (D k).c = dc at *
        generalize (D k).b = db at *
        generalize (D k).n = dn at *
        generalize (D k).d = dd at *
        generalize catT D k = q at *
        go_wp2_with fail
        refine (may_is _ hl HM.out).mono ?_
        rintro e w2 ⟨rfl, b2⟩
        obtain ⟨hx, hb2⟩ := three_new b2
        obtain ⟨d0, d1, d2⟩ := three_cells hx
        have HB2 : Hid (Below w.heap.size w w2) := HB.out.trans (hb2.mono HB.out.size)
        have HO2 : Hid (w2.ownsRow w.heap.size 5 1 (.slice av q.length cv) q.length (bv q)) := row_below HO.out hb2
        clear hx hb2 b2 c0 c1 c2
        go_wp2_with fail
        refine (tput_any w2 HO2.out HB2.out.size (by have := HCK.out; omega) (fun w' hb' => HK.out.later (HB2.out.trans hb')) HM.out).mono ?_
        rintro e w3 ⟨v3, rfl, own3, b3⟩
        have HO3 : Hid (w3.ownsRow w.heap.size 5 1 v3 (catT D (k + 1)).length (bv (catT D (k + 1)))) := by rw [HE.out, List.length_append]; exact own3
        have HB3 : Hid (Below w.heap.size w w3) := HB2.out.trans b3
        clear own3 b3
        go_wp2
        go_roundw
        case rel => exact ⟨k + 1, by omega, by go_num, HA2.out, HO3.out, HB3.out⟩
        case measure => simp [intOf]; omega
      | false =>
        have HM : Hid (mayT (D k).l (D k).n (D k).d = false) := hm
        have HN : Hid (allT D L = false) := allT_no hlt hm
        have HN2 : Hid (putT D L = []) := by show _ = _; rw [putT, HN.out]; rfl
        clear hm
        generalize (D k).p = dp at *
        generalize (D k).l = dl at *
        generalize (D k).c = dc at *
        generalize (D k).b = db at *
        generalize (D k).n = dn at *
        generalize (D k).d = dd at *
        go_wp2_with fail
        refine (may_is _ hl HM.out).mono ?_
        rintro e w2 ⟨rfl, b2⟩
        have HB2 : Hid (Below w.heap.size w w2) := HB.out.trans ((three_new b2).2.mono HB.out.size)
        clear b2 c0 c1 c2
        go_wp2
        go_ret2
        rw [HN.out, HN2.out]
        exact ⟨_, rfl, World.ownsRow_nil _ _ _ _, HB2.out⟩
    · obtain rfl : k = L := by omega
      have HN2 : Hid (putT D k = catT D k) := by show _ = _; rw [putT, HA.out]; rfl
      go_wp2
      go_ret2
      rw [HA.out, HN2.out]
      exact ⟨_, rfl, HO.out, HB.out⟩
theorem puts_any {a : Option Addr} {L c : Nat} {D : Nat → Tk} (w : World) (h : TksAt w a L D) (hL : L ≤ 100) :
    Calls Try.prog 16 #[.slice a L c] w fun e w' => ∃ v, e = .returned (.tuple #[v, .bool (allT D L)]) ∧ w'.ownsRow w.heap.size 5 1 v (putT D L).length (bv (putT D L)) ∧ Below w.heap.size w w' :=
  puts_most w h (by omega) fun k hk => by
    have := catT_len (fun i hi => (h.ok hi).by_.len) k hk
    omega
end Go.Proofs.Ytgninhecclinaaa
