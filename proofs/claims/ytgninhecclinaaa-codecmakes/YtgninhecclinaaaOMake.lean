/- The walks of codec.Make and codec.Saves. -/
import Derived.Test.YtgninhecclinaaaOPlain
import Derived.Test.YtgninhecclinaaaEPage
import Derived.Test.YtgninhecclinaaaQPut
import Derived.Test.YtgninhecclinaaaGClone
namespace Go.Proofs.Ytgninhecclinaaa
open Go.RowKit

/-- squeeze.Pack of any bytes. -/
theorem packs_any {p : Option Addr} {L c : Nat} {b : List Nat} (w : World) (h : ByAt w p L c b) :
    Calls Try.prog 9 #[.slice p L c] w fun e w' => ∃ a cp, e = .returned (.tuple #[.slice a (pkL b).length cp, .bool (decide (L = 4096))]) ∧ w'.ownsRow w.heap.size 5 1 (.slice a (pkL b).length cp) (pkL b).length (bv (pkL b)) ∧ Below w.heap.size w w' := by
  have hl := h.len
  by_cases e4 : L = 4096
  · subst e4
    rw [pkL_page hl]
    refine (pack_any w h).mono ?_
    rintro e w' ⟨v, rfl, own, bel⟩
    obtain ⟨a, cp, rfl⟩ := row_slice own
    exact ⟨a, cp, rfl, own, bel⟩
  · rw [pkL_none (by omega)]
    refine (pack_no w e4).mono ?_
    rintro e w' ⟨rfl, rfl⟩
    rw [decide_eq_false e4]
    exact ⟨none, 0, rfl, World.ownsRow_nil _ _ _ _, Below.refl _ _⟩

theorem packs_is {p : Option Addr} {L c m : Nat} {b k : List Nat} (w : World) (h : ByAt w p L c b) (hk : pkL b = k) (hm : k.length = m) :
    Calls Try.prog 9 #[.slice p L c] w fun e w' => ∃ a cp, e = .returned (.tuple #[.slice a m cp, .bool (decide (L = 4096))]) ∧ w'.ownsRow w.heap.size 5 1 (.slice a m cp) m (bv k) ∧ Below w.heap.size w w' := by
  subst hk hm
  exact packs_any w h
set_option maxHeartbeats 1000000 in
theorem make_any {p : Option Addr} {L c f : Nat} {b k : List Nat} (w : World) (h : ByAt w p L c b) (hf : formN b = f) (hk : keptL b = k) :
    Calls Try.prog 10 #[.slice p L c] w fun e w' => ∃ a cp, e = .returned (.tuple #[.int .i64 (f : Nat), .slice a k.length cp]) ∧ w'.ownsRow w.heap.size 5 1 (.slice a k.length cp) k.length (bv k) ∧ Below w.heap.size w w' := by
  have hl := h.len
  by_cases hp : L = 4096
  · subst hp
    have HP : Hid (∀ w', Below w.heap.size w w' → ByAt w' p 4096 c b) := fun w' hw => h.later hw
    cases ho : oneB b with
    | true =>
      obtain ⟨h1, h2, _⟩ := form_one hl ho
      have HO : Hid (oneB b = true) := ho
      rw [h1] at hf
      rw [h2] at hk
      subst hf hk
      have HL : Hid ((putN 8 (ofN b)).length = 8) := length_putN _ _
      generalize hn : ofN b = n at *
      have HN : Hid (ofN b = n) := hn
      clear h h1 h2 hn ho hl
      go_enter Try.func10, Try.ntmps10
      go_wp2_with fail
      refine (of_is w (HP.out w (Below.refl _ _)) HN.out HO.out).mono ?_
      rintro e w' ⟨rfl, rfl⟩
      go_wp2_with fail
      refine (put_eight n w).mono ?_
      rintro e w1 ⟨rfl, own1, b1⟩
      have HO1 : Hid (w1.ownsRow w.heap.size 5 1 (.slice (some ⟨w.heap.size + 1, 0, none⟩) 8 8) 8 (bv (putN 8 n))) := rowMono own1 (by omega)
      have HB1 : Hid (Below w.heap.size w w1) := b1
      clear own1 b1
      go_wp2
      go_ret2
      rw [HL.out]
      exact ⟨_, _, rfl, HO1.out, HB1.out⟩
    | false =>
      have HO : Hid (oneB b = false) := ho
      have HN : Hid (ofN b = 0) := ofN_no ho
      by_cases hp : (pkL b).length ≤ 3072
      · obtain ⟨h1, h2, _⟩ := form_pack hl ho hp
        rw [h1] at hf
        rw [h2] at hk
        subst hf
        obtain ⟨m, hm⟩ : ∃ m, k.length = m := ⟨_, rfl⟩
        rw [hk, hm] at hp
        have HK : Hid (pkL b = k ∧ k.length = m) := ⟨hk, hm⟩
        have i1 : (m : Int) ≤ 3072 := by omega
        clear h h1 h2 ho hl hk hm
        go_enter Try.func10, Try.ntmps10
        go_wp2_with fail
        refine (of_is w (HP.out w (Below.refl _ _)) HN.out HO.out).mono ?_
        rintro e w' ⟨rfl, rfl⟩
        go_wp2_with fail
        refine (packs_is w (HP.out w (Below.refl _ _)) HK.out.1 HK.out.2).mono ?_
        rintro e w1 ⟨a1, c1, rfl, own1, b1⟩
        have HO1 : Hid (w1.ownsRow w.heap.size 5 1 (.slice a1 m c1) m (bv k)) := own1
        have HB1 : Hid (Below w.heap.size w w1) := b1
        clear own1 b1
        go_wp2
        go_ret2
        rw [HK.out.2]
        exact ⟨_, _, rfl, HO1.out, HB1.out⟩
      · obtain ⟨h1, h2, _⟩ := form_raw hl ho hp
        rw [h1] at hf
        rw [h2] at hk
        subst hf hk
        have HL : Hid (b.length = 4096) := hl
        obtain ⟨kk, hkk⟩ : ∃ kk, pkL b = kk := ⟨_, rfl⟩
        obtain ⟨m, hm⟩ : ∃ m, kk.length = m := ⟨_, rfl⟩
        rw [hkk, hm] at hp
        have HK : Hid (pkL b = kk ∧ kk.length = m) := ⟨hkk, hm⟩
        have i1 : ¬ (m : Int) ≤ 3072 := by omega
        clear h h1 h2 ho hl hkk hm
        go_enter Try.func10, Try.ntmps10
        go_wp2_with fail
        refine (of_is w (HP.out w (Below.refl _ _)) HN.out HO.out).mono ?_
        rintro e w' ⟨rfl, rfl⟩
        go_wp2_with fail
        refine (packs_is w (HP.out w (Below.refl _ _)) HK.out.1 HK.out.2).mono ?_
        rintro e w1 ⟨a1, c1, rfl, own1, b1⟩
        have HB1 : Hid (Below w.heap.size w w1) := b1
        have hsz1 := b1.size
        clear own1 b1
        go_wp2_with fail
        refine (bclone_any w1 (HP.out w1 HB1.out).src (by omega)).mono ?_
        rintro e w2 ⟨v2, rfl, own2, b2⟩
        obtain ⟨a2, c2, rfl⟩ := row_slice own2
        have HO2 : Hid (w2.ownsRow w.heap.size 5 1 (.slice a2 4096 c2) 4096 (bv b)) := rowMono own2 hsz1
        have HB2 : Hid (Below w.heap.size w w2) := HB1.out.trans (b2.mono hsz1)
        clear own2 b2
        go_wp2
        go_ret2
        rw [HL.out]
        exact ⟨_, _, rfl, HO2.out, HB2.out⟩
  · obtain ⟨h1, h2, _⟩ := form_none (b := b) (by omega)
    rw [h1] at hf
    rw [h2] at hk
    subst hf hk
    have h6 : ((L : Int) != 4096) = true := by rw [bne_iff_ne]; omega
    clear h hl h1 h2
    go_enter Try.func10, Try.ntmps10
    go_wp2
    go_ret2
    exact ⟨none, 0, rfl, World.ownsRow_nil _ _ _ _, Below.refl _ _⟩

set_option maxHeartbeats 1000000 in
theorem saves_any {p : Option Addr} {L c s : Nat} {b : List Nat} (w : World) (h : ByAt w p L c b) (hs : savesN b = s) :
    Calls Try.prog 12 #[.slice p L c] w fun e w' => e = .returned (.int .i64 (s : Nat)) ∧ Below w.heap.size w w' := by
  have hl := h.len
  have h8 := h.byte
  have hm : ∃ f k, formN b = f ∧ keptL b = k := ⟨_, _, rfl, rfl⟩
  obtain ⟨f, k, hf, hk⟩ := hm
  unfold savesN at hs
  rw [hf, hk] at hs
  have HC : Hid _ := make_any w h hf hk
  by_cases h0 : f = 0
  · subst h0
    rw [if_pos rfl] at hs
    subst hs
    clear h hf hk h8 hl
    go_enter Try.func12, Try.ntmps12
    go_wp2_with fail
    refine Calls.mono HC.out ?_
    rintro e w1 ⟨a1, c1, rfl, own1, b1⟩
    have HB1 : Hid (Below w.heap.size w w1) := b1
    clear own1 b1
    go_wp2
    go_ret
    exact ⟨rfl, HB1.out⟩
  · rw [if_neg h0] at hs
    have hkl : k.length ≤ 4096 := by
      by_cases e4 : b.length = 4096
      · rw [← hk]; exact (kept_len h8 e4).2
      · exact absurd (hf.symm.trans (form_none e4).1) h0
    generalize k.length = m at *
    have h6 : ((f : Int) == 0) = false := by rw [beq_eq_false_iff_ne]; omega
    have HS : Hid ((4096 : Int) - (m : Int) = (s : Int)) := by show _ = _; omega
    clear h hf hk h8 hl hs
    go_enter Try.func12, Try.ntmps12
    go_wp2_with fail
    refine Calls.mono HC.out ?_
    rintro e w1 ⟨a1, c1, rfl, own1, b1⟩
    have HB1 : Hid (Below w.heap.size w w1) := b1
    clear own1 b1
    go_wp2
    rw [HS.out]
    go_ret
    exact ⟨rfl, HB1.out⟩
end Go.Proofs.Ytgninhecclinaaa
