/- The walk of lives: the chapter's example, and a page of one word. -/
import Derived.Test.YtmpocmfnpipehaaQUnpack
import Derived.Test.YtmpocmfnpipehaaQPut
import Derived.Test.YtmpocmfnpipehaaQPlainB
import Derived.Test.YtmpocmfnpipehaaERef
namespace Go.Proofs.Ytmpocmfnpipehaa
open Go.RowKit

theorem page_again (n : Nat) : Again (pageN n) := by
  intro i hi
  rw [pageN_len] at hi
  rw [pageN_getD hi, pageN_getD (by omega), show (i + 8) % 8 = i % 8 by omega]
set_option maxRecDepth 100000 in
set_option maxHeartbeats 1000000 in
theorem lives_any (w : World) : Calls Try.prog 7 #[] w fun e w' => e = .returned (.bool true) ∧ Below w.heap.size w w' := by
  go_enter Try.func7, Try.ntmps7
  go_wp2_with fail
  refine (refPage_any 578437695752307201 _ rfl (by omega) w).mono ?_
  obtain ⟨b, hb⟩ : ∃ b, pageN 578437695752307201 = b := ⟨_, rfl⟩
  have hbl : b.length = 4096 := by rw [← hb]; exact pageN_len _
  have hb8 : ∀ x ∈ b, x < 256 := by rw [← hb]; exact pageN_byte _
  have hba : Again b := by rw [← hb]; exact page_again _
  rintro e w1 ⟨g, rfl, own1, b1⟩
  rw [hb] at own1
  have HPB : Hid (unpA (plainL b 4096) = ⟨0, b, 32⟩) := plain_back hbl hb8
  have HPC : Hid (0 < (catZ b (packL b)).length ∧ (catZ b (packL b)).length ≤ 200) := ⟨pack_some hbl hb8, pack_200 hbl hba⟩
  have hby1 : ByAt w1 (some ⟨g, 0, none⟩) 4096 4096 b := by_row own1 hb8
  have HP : Hid (∀ w', Below w1.heap.size w1 w' → ByAt w' (some ⟨g, 0, none⟩) 4096 4096 b) := fun w' hw => hby1.later hw
  have HB1 : Hid (Below w.heap.size w w1) := b1
  have hsz1 := b1.size
  have H8 : Hid (∀ x ∈ b, x < 256) := hb8
  have HPL : Hid ((plainL b 4096).length ≤ 100000) := Nat.le_trans (plain_len b 4096) (by omega)
  clear hb hbl hb8 hba own1 b1 hby1
  go_wp2_with fail
  refine (plain_any w1 (HP.out w1 (Below.refl _ _)) (by omega)).mono ?_
  rintro e w2 ⟨v2, rfl, own2, b2⟩
  obtain ⟨a2, c2, rfl⟩ := row_slice own2
  have HB2 : Hid (Below w1.heap.size w1 w2) := b2
  have HY2 : Hid (ByAt w2 a2 (plainL b 4096).length c2 (plainL b 4096)) := by_own own2 (plain_byte H8.out _)
  have hsz2 := b2.size
  clear own2 b2
  go_wp2_with fail
  refine (sunpack_any w2 HY2.out HPL.out HPB.out).mono ?_
  rintro e w3 ⟨a3, c3, rfl, own3, b3⟩
  have HB3 : Hid (Below w1.heap.size w1 w3) := HB2.out.trans (b3.mono hsz2)
  have HO3 : Hid (w3.ownsRow w2.heap.size 5 1 (.slice a3 b.length c3) b.length (bv b)) := own3
  have hsz3 := HB3.out.size
  clear own3 b3
  go_wp2_with fail
  refine (pack_any w3 (HP.out w3 HB3.out)).mono ?_
  rintro e w4 ⟨v4, rfl, own4, b4⟩
  obtain ⟨a4, c4, rfl⟩ := row_slice own4
  have HB4 : Hid (Below w1.heap.size w1 w4) := HB3.out.trans (b4.mono hsz3)
  have hk1 := (HP.out w4 HB4.out).conv
  have hk2 := (by_own (row_below HO3.out b4) H8.out).conv
  obtain ⟨m, hm⟩ : ∃ m, (catZ b (packL b)).length = m := ⟨_, rfl⟩
  have hm2 := HPC.out
  rw [hm] at hm2
  have i1 : (0 : Int) < (m : Int) := by omega
  have i2 : (m : Int) ≤ 200 := by omega
  rw [hm]
  have hsz4 := HB4.out.size
  clear own4 b4 hm
  go_wp2_with fail
  refine (plain_any w4 (HP.out w4 HB4.out) (by omega)).mono ?_
  rintro e w5 ⟨v5, rfl, own5, b5⟩
  obtain ⟨a5, c5, rfl⟩ := row_slice own5
  have HB5 : Hid (Below w1.heap.size w1 w5) := HB4.out.trans (b5.mono hsz4)
  have HY5 : Hid (ByAt w5 a5 (plainL b 4096).length c5 (plainL b 4096)) := by_own own5 (plain_byte H8.out _)
  have hsz5 := HB5.out.size
  clear own5 b5 hk1 hk2
  go_wp2_with fail
  refine (tokens_any w5 HY5.out HPL.out HPB.out).mono ?_
  rintro e w6 ⟨rfl, b6⟩
  have HB6 : Hid (Below w.heap.size w w6) := HB1.out.trans ((HB5.out.trans (b6.mono hsz5)).mono hsz1)
  clear b6
  go_wp2
  go_ret
  exact ⟨rfl, HB6.out⟩
end Go.Proofs.Ytmpocmfnpipehaa
