/- The walk of codec.Back. -/
import Derived.Test.YtgninhecclinaaaOPlain
import Derived.Test.YtgninhecclinaaaEPage
import Derived.Test.YtgninhecclinaaaQUnpack
import Derived.Test.YtgninhecclinaaaGClone
namespace Go.Proofs.Ytgninhecclinaaa
open Go.RowKit

set_option maxHeartbeats 1000000 in
theorem pageOf_any {p : Option Addr} {c : Nat} {b : List Nat} (w : World) (h : ByAt w p 8 c b) :
    Calls Try.prog 23 #[.slice p 8 c] w fun e w' => ∃ g, e = .returned (.slice (some ⟨g, 0, none⟩) 4096 4096) ∧ w'.ownsRow w.heap.size 5 1 (.slice (some ⟨g, 0, none⟩) 4096 4096) 4096 (bv (pageN (getTo b 0 8))) ∧ Below w.heap.size w w' := by
  have HC : Hid _ := get_yes p 8 c 0 8 (0 : Int) (8 : Int) rfl rfl b w h.short h.len (nums_src h.src) h.byte (by omega) (by omega)
  generalize getTo b 0 8 = n at *
  clear h
  go_enter Try.func23, Try.ntmps23
  go_wp2_with fail
  refine Calls.mono HC.out ?_
  rintro e w' ⟨rfl, rfl⟩
  go_wp2_with fail
  refine (page_any n _ rfl w).mono ?_
  rintro e w1 ⟨g, rfl, own1, b1⟩
  have HO1 : Hid (w1.ownsRow w.heap.size 5 1 (.slice (some ⟨g, 0, none⟩) 4096 4096) 4096 (bv (pageN n))) := own1
  have HB1 : Hid (Below w.heap.size w w1) := b1
  clear own1 b1
  go_wp2
  go_ret
  exact ⟨g, rfl, HO1.out, HB1.out⟩
theorem pageOf_no {p : Option Addr} {L c : Nat} (w : World) (h : L ≠ 8) :
    Calls Try.prog 23 #[.slice p L c] w fun e w' => e = .returned (.slice none 0 0) ∧ w = w' := by
  have h6 : ((L : Int) != 8) = true := by rw [bne_iff_ne]; omega
  go_enter Try.func23, Try.ntmps23
  go_wp2
  go_ret
  exact ⟨rfl, rfl⟩

set_option maxHeartbeats 1000000 in
theorem back_any {p : Option Addr} {L c x : Nat} {b q : List Nat} (f : Int) (w : World) (h : ByAt w p L c b) (hL : L ≤ 100000) (he : backE f b = x) (hq : backQ f b = q) :
    Calls Try.prog 14 #[.int .i64 f, .slice p L c] w fun e w' => ∃ a cp, e = .returned (.tuple #[.slice a q.length cp, .int .i64 (x : Nat)]) ∧ w'.ownsRow w.heap.size 5 1 (.slice a q.length cp) q.length (bv q) ∧ Below w.heap.size w w' := by
  have hl := h.len
  have HP : Hid (∀ w', Below w.heap.size w w' → ByAt w' p L c b) := fun w' hw => h.later hw
  by_cases f1 : f = 1
  · subst f1
    by_cases h8 : L = 8
    · subst h8
      obtain ⟨h1, h2⟩ := back_one hl
      rw [h1] at he
      rw [h2] at hq
      subst he hq
      have HL : Hid ((pageN (getTo b 0 8)).length = 4096) := pageN_len _
      have HC : Hid _ := pageOf_any w h
      have H8 : Hid (∀ x ∈ pageN (getTo b 0 8), x < 256) := pageN_byte _
      generalize pageN (getTo b 0 8) = q at *
      clear h h1 h2 hl
      go_enter Try.func14, Try.ntmps14
      go_wp2_with fail
      refine Calls.mono HC.out ?_
      rintro e w1 ⟨g, rfl, own1, b1⟩
      have HY1 : Hid (ByAt w1 (some ⟨g, 0, none⟩) 4096 4096 q) := by_row own1 H8.out
      have HB1 : Hid (Below w.heap.size w w1) := b1
      have hsz1 := b1.size
      clear own1 b1
      go_wp2_with fail
      refine (bclone_any w1 HY1.out.src (by omega)).mono ?_
      rintro e w2 ⟨v2, rfl, own2, b2⟩
      obtain ⟨a2, c2, rfl⟩ := row_slice own2
      have HO2 : Hid (w2.ownsRow w.heap.size 5 1 (.slice a2 4096 c2) 4096 (bv q)) := rowMono own2 hsz1
      have HB2 : Hid (Below w.heap.size w w2) := HB1.out.trans (b2.mono hsz1)
      clear own2 b2
      go_wp2
      go_ret2
      rw [HL.out]
      exact ⟨_, _, rfl, HO2.out, HB2.out⟩
    · obtain ⟨h1, h2⟩ := back_one_no (k := b) (by omega)
      rw [h1] at he
      rw [h2] at hq
      subst he hq
      clear h h1 h2 hl
      go_enter Try.func14, Try.ntmps14
      go_wp2_with fail
      refine (pageOf_no w h8).mono ?_
      rintro e w' ⟨rfl, rfl⟩
      go_wp2
      go_ret2
      exact ⟨none, 0, rfl, World.ownsRow_nil _ _ _ _, Below.refl _ _⟩
  by_cases f3 : f = 3
  · subst f3
    by_cases h4 : L = 4096
    · subst h4
      obtain ⟨h1, h2⟩ := back_raw hl
      rw [h1] at he
      rw [h2] at hq
      subst he hq
      have HL : Hid (b.length = 4096) := hl
      clear h h1 h2 hl f1
      go_enter Try.func14, Try.ntmps14
      go_wp2_with fail
      refine (bclone_any w (HP.out w (Below.refl _ _)).src (by omega)).mono ?_
      rintro e w2 ⟨v2, rfl, own2, b2⟩
      obtain ⟨a2, c2, rfl⟩ := row_slice own2
      have HO2 : Hid (w2.ownsRow w.heap.size 5 1 (.slice a2 4096 c2) 4096 (bv b)) := own2
      have HB2 : Hid (Below w.heap.size w w2) := b2
      clear own2 b2
      go_wp2
      go_ret2
      rw [HL.out]
      exact ⟨_, _, rfl, HO2.out, HB2.out⟩
    · obtain ⟨h1, h2⟩ := back_raw_no (k := b) (by omega)
      rw [h1] at he
      rw [h2] at hq
      subst he hq
      have h6 : ((L : Int) != 4096) = true := by rw [bne_iff_ne]; omega
      clear h h1 h2 hl f1
      go_enter Try.func14, Try.ntmps14
      go_wp2
      go_ret2
      exact ⟨none, 0, rfl, World.ownsRow_nil _ _ _ _, Below.refl _ _⟩
  by_cases f2 : f = 2
  · subst f2
    by_cases h4 : 3072 < L
    · obtain ⟨h1, h2⟩ := back_pack_no (k := b) (by omega)
      rw [h1] at he
      rw [h2] at hq
      subst he hq
      have i1 : (3072 : Int) < (L : Int) := by omega
      clear h h1 h2 hl f1 f3
      go_enter Try.func14, Try.ntmps14
      go_wp2
      go_ret2
      exact ⟨none, 0, rfl, World.ownsRow_nil _ _ _ _, Below.refl _ _⟩
    · obtain ⟨h1, h2⟩ := back_pack (k := b) (by omega)
      rw [h1] at he
      rw [h2] at hq
      obtain ⟨U, hU⟩ : ∃ U, unpA b = U := ⟨_, rfl⟩
      rw [hU] at he hq
      subst he hq
      have HU : Hid (unpA b = U) := hU
      have i1 : ¬ (3072 : Int) < (L : Int) := by omega
      clear h h1 h2 hl f1 f3 hU
      go_enter Try.func14, Try.ntmps14
      go_wp2_with fail
      refine (sunpack_any w (HP.out w (Below.refl _ _)) hL HU.out).mono ?_
      rintro e w1 ⟨a1, c1, rfl, own1, b1⟩
      have HO1 : Hid (w1.ownsRow w.heap.size 5 1 (.slice a1 U.q.length c1) U.q.length (bv U.q)) := own1
      have HB1 : Hid (Below w.heap.size w w1) := b1
      clear own1 b1
      go_wp2
      go_ret2
      exact ⟨_, _, rfl, HO1.out, HB1.out⟩
  obtain ⟨h1, h2⟩ := back_no (k := b) f1 f2 f3
  rw [h1] at he
  rw [h2] at hq
  subst he hq
  have g1 : (f == 1) = false := by rw [beq_eq_false_iff_ne]; exact f1
  have g2 : (f == 2) = false := by rw [beq_eq_false_iff_ne]; exact f2
  have g3 : (f == 3) = false := by rw [beq_eq_false_iff_ne]; exact f3
  clear h h1 h2 hl
  go_enter Try.func14, Try.ntmps14
  go_wp2
  go_ret2
  exact ⟨none, 0, rfl, World.ownsRow_nil _ _ _ _, Below.refl _ _⟩
end Go.Proofs.Ytgninhecclinaaa
