/- Proved: gunnylaw04.RadixPlays returns true for all lists of deeds l and all ints start: what any calls of a tree answer, what it has behind each, and how many nodes there are, is the document's; a tree that isn't there has nothing. No conditions. -/
import Derived.Test.YtkghedllkigecaaRBoth
import Derived.Test.YtkghedllkigecaaROpen
namespace Go.Proofs.Ytkghedllkigecaa.RadixPlays
open Go.ChangeShapes Go.WideShapes Go.ChangeAt Go.RowKit
set_option linter.unusedVariables false
theorem own : ownKnob Try.prog.godebug = none := by kernel_rfl
theorem laidOut : laidOutB Try.prog = true := by kernel_rfl
theorem frm_all {l : List KV} {z : Int} (hz : z ≤ 0) : frm l z = l := by
  apply List.filter_eq_self.2
  intro x _
  simp only [decide_eq_true_eq]; omega
set_option maxRecDepth 100000 in
set_option maxHeartbeats 4000000 in
theorem run (a : Option Addr) (L c : Nat) (K N V : Nat → Int) (start : Int) (w0 : World) (hL : L ≤ maxLen) (hz : DeedsAt w0 a L K N V) (hst : -9223372036854775808 ≤ start ∧ start ≤ 9223372036854775807) :
    Calls Try.prog 3 #[.slice a L c, .int .i64 start] w0 fun e w' => e = .returned (.bool true) ∧ Below w0.heap.size w0 w' := by
  unfold maxLen at hL
  have HZ : Hid (DeedsAt w0 a L K N V) := hz
  clear hz
  go_enter Try.func3, Try.ntmps3
  go_wp2_with fail
  refine (from_any (B := 0) (l := []) 0 (by omega) (-1) w0 (.inl ⟨rfl, rfl⟩)).mono ?_
  rw [show upTo (-1) (frm [] 0) = [] from rfl]
  rintro e w1 ⟨v1, rfl, r1, b1⟩
  obtain ⟨a1, c1, rfl⟩ := row_slice r1
  have B1 : Hid (Below w0.heap.size w0 w1) := b1
  clear r1 b1
  go_wp2_with fail
  refine (get_any (B := 0) (l := []) 3 w1 (.inl ⟨rfl, rfl⟩)).mono ?_
  rw [show got [] 3 = none from rfl]
  rintro e w2 ⟨rfl, b2⟩
  have B2 : Hid (Below w0.heap.size w0 w2) := B1.out.trans (b2.mono B1.out.size)
  clear b2
  go_wp2_with fail
  refine (set_none (B := 0) (l := []) 0 1 w2 (.inl ⟨rfl, rfl⟩) (.inl rfl)).mono ?_
  rintro e w3 ⟨rfl, b3⟩
  have B3 : Hid (Below w0.heap.size w0 w3) := B2.out.trans (b3.mono B2.out.size)
  clear b3
  go_wp2_with fail
  refine (len_any (B := 0) (l := []) w3 (.inl ⟨rfl, rfl⟩)).mono ?_
  rintro e w4 ⟨rfl, rfl⟩
  go_wp2_with fail
  refine (nodes_any (B := 0) (l := []) w3 (.inl ⟨rfl, rfl⟩)).mono ?_
  rintro e w4 ⟨rfl, rfl⟩
  rw [show ((nodesOf [] : Nat) : Int) = 0 from rfl]
  by_cases hlong : 100 < L
  · go_wp2_with fail
    refine (lives_any _).mono ?_
    rintro e w5 ⟨rfl, hb⟩
    go_wp2
    go_ret
    exact ⟨rfl, B3.out.trans (hb.mono B3.out.size)⟩
  · go_wp2_with fail
    refine (new_any w3).mono ?_
    rintro e w5 ⟨rfl, h1, b1⟩
    have H1 : Hid (Both w0 w5 w3.heap.size ⟨w3.heap.size, 0, none⟩ (.slice none 0 0) []) := ⟨h1, World.ownsRow_nil _ _ _ _, B3.out.trans (b1.mono B3.out.size), B3.out.size, b1.size⟩
    clear h1 b1
    generalize w3.heap.size = B at *
    go_wp2_with fail
    go_loopw [11, 12] (fun x i wr => ∃ (k : Nat) (l : List KV), k ≤ L ∧ i = .int .i64 k ∧ Both w0 wr B ⟨B, 0, none⟩ x l) (fun _ i _ => L - (intOf i).toNat)
    case atStart => exact ⟨0, [], Nat.zero_le _, rfl, H1.out⟩
    case round =>
      obtain ⟨k, l, hk, rfl, hb⟩ := hrel
      obtain ⟨ax, cx, rfl⟩ := row_slice hb.row
      by_cases hlt : k < L
      · obtain ⟨bz, off, rfl, hbz, d0, d1, d2⟩ := HZ.out.later hb.bel (i := k) hlt
        generalize K k = kd at *
        generalize N k = z at *
        generalize V k = v at *
        have hlt' : (k : Int) < (L : Int) := by omega
        have hbd := hb.below ((Below.refl _ wr).alloc (Nat.le_refl _) (.cells #[.int .i64 kd, .int .i64 z, .int .u64 v] 35))
        have hdb := heap_alloc_new wr (.cells #[.int .i64 kd, .int .i64 z, .int .u64 v] 35)
        have HBD : Hid (Both w0 (wr.alloc (.cells #[.int .i64 kd, .int .i64 z, .int .u64 v] 35)) B ⟨B, 0, none⟩ (.slice ax l.length cx) l) := hbd
        have HDB : Hid ((wr.alloc (.cells #[.int .i64 kd, .int .i64 z, .int .u64 v] 35)).heap[wr.heap.size]? = some (.cells #[.int .i64 kd, .int .i64 z, .int .u64 v] 35 (0, 0))) := hdb
        clear hb hbd hdb
        by_cases k0 : kd = 0 ∨ kd = 1
        · rcases k0 with rfl | rfl
          · go_wp2_with fail
            generalize wr.alloc (.cells #[.int .i64 0, .int .i64 z, .int .u64 v] 35) = w6 at *
            generalize wr.heap.size = db at *
            refine (refSet_any z v w6 HBD.out.row HBD.out.fine HBD.out.hi).mono ?_
            rintro e w7 ⟨x7, rfl, r7, b7⟩
            have e7 : w7.heap[db]? = some (.cells #[.int .i64 0, .int .i64 z, .int .u64 v] 35 (0, 0)) := by rw [b7.block db (Array.getElem?_eq_some_iff.1 HDB.out).1]; exact HDB.out
            have q1 : w7.cell? ⟨db, 1, none⟩ = some (.int .i64 z) := by rw [cell_of_row w7 db 1 _ _ _ e7]; rfl
            have q2 : w7.cell? ⟨db, 2, none⟩ = some (.int .u64 v) := by rw [cell_of_row w7 db 2 _ _ _ e7]; rfl
            have B7 : Hid (Below w6.heap.size w6 w7) := b7
            have R7 : Hid (w7.ownsRow B 47 2 x7 (setL l z v).length (kvv (setL l z v))) := r7
            clear r7 b7 e7
            go_wp2_with fail
            refine (set_any z v w7 (HBD.out.below B7.out).tree).mono ?_
            rintro e w9 ⟨rfl, h9, k9⟩
            obtain ⟨ax9, cx9, rfl⟩ := row_slice R7.out
            have HT : Hid (Both w0 w9 B ⟨B, 0, none⟩ (.slice ax9 (setL l z v).length cx9) (setL l z v)) := ⟨h9, k9.row R7.out (by decide) (by decide), (HBD.out.below B7.out).bel.trans ((k9.below (HBD.out.below B7.out).hi).mono HBD.out.wB), HBD.out.wB, Nat.le_trans (HBD.out.below B7.out).hi k9.size⟩
            clear h9 k9 q1 q2
            generalize isK z = kz at *
            go_wp2_with fail
            refine (len_any w9 HT.out.tree).mono ?_
            rintro e w8 ⟨rfl, rfl⟩
            go_wp2_with fail
            refine (nodes_any w9 HT.out.tree).mono ?_
            rintro e w8 ⟨rfl, rfl⟩
            go_wp2_with fail
            refine (refNodes_any w9 HT.out.row HT.out.fine).mono ?_
            rintro e w8 ⟨rfl, q8, rfl⟩
            have H8 := HT.out.drewN q8
            generalize w9.drewN q8 = w8 at *
            have H9 : Hid _ := H8
            clear H8
            go_wp2
            go_roundw
            case rel => exact ⟨k + 1, _, by omega, by go_num, H9.out⟩
            case measure => simp [intOf]; omega
          · go_wp2_with fail
            generalize wr.alloc (.cells #[.int .i64 1, .int .i64 z, .int .u64 v] 35) = w6 at *
            generalize wr.heap.size = db at *
            refine (refSet_any z v w6 HBD.out.row HBD.out.fine HBD.out.hi).mono ?_
            rintro e w7 ⟨x7, rfl, r7, b7⟩
            have e7 : w7.heap[db]? = some (.cells #[.int .i64 1, .int .i64 z, .int .u64 v] 35 (0, 0)) := by rw [b7.block db (Array.getElem?_eq_some_iff.1 HDB.out).1]; exact HDB.out
            have q1 : w7.cell? ⟨db, 1, none⟩ = some (.int .i64 z) := by rw [cell_of_row w7 db 1 _ _ _ e7]; rfl
            have q2 : w7.cell? ⟨db, 2, none⟩ = some (.int .u64 v) := by rw [cell_of_row w7 db 2 _ _ _ e7]; rfl
            have B7 : Hid (Below w6.heap.size w6 w7) := b7
            have R7 : Hid (w7.ownsRow B 47 2 x7 (setL l z v).length (kvv (setL l z v))) := r7
            clear r7 b7 e7
            go_wp2_with fail
            refine (set_any z v w7 (HBD.out.below B7.out).tree).mono ?_
            rintro e w9 ⟨rfl, h9, k9⟩
            obtain ⟨ax9, cx9, rfl⟩ := row_slice R7.out
            have HT : Hid (Both w0 w9 B ⟨B, 0, none⟩ (.slice ax9 (setL l z v).length cx9) (setL l z v)) := ⟨h9, k9.row R7.out (by decide) (by decide), (HBD.out.below B7.out).bel.trans ((k9.below (HBD.out.below B7.out).hi).mono HBD.out.wB), HBD.out.wB, Nat.le_trans (HBD.out.below B7.out).hi k9.size⟩
            clear h9 k9 q1 q2
            generalize isK z = kz at *
            go_wp2_with fail
            refine (len_any w9 HT.out.tree).mono ?_
            rintro e w8 ⟨rfl, rfl⟩
            go_wp2_with fail
            refine (nodes_any w9 HT.out.tree).mono ?_
            rintro e w8 ⟨rfl, rfl⟩
            go_wp2_with fail
            refine (refNodes_any w9 HT.out.row HT.out.fine).mono ?_
            rintro e w8 ⟨rfl, q8, rfl⟩
            have H8 := HT.out.drewN q8
            generalize w9.drewN q8 = w8 at *
            have H9 : Hid _ := H8
            clear H8
            go_wp2
            go_roundw
            case rel => exact ⟨k + 1, _, by omega, by go_num, H9.out⟩
            case measure => simp [intOf]; omega
        · have k1 : ¬ kd = 0 := fun h => k0 (.inl h)
          have k2 : ¬ kd = 1 := fun h => k0 (.inr h)
          by_cases k3 : kd = 2
          · subst k3
            go_wp2_with fail
            generalize wr.alloc (.cells #[.int .i64 2, .int .i64 z, .int .u64 v] 35) = w6 at *
            generalize wr.heap.size = db at *
            refine (refDrop_any z w6 HBD.out.row HBD.out.fine HBD.out.hi).mono ?_
            rintro e w7 ⟨x7, rfl, r7, b7⟩
            have e7 : w7.heap[db]? = some (.cells #[.int .i64 2, .int .i64 z, .int .u64 v] 35 (0, 0)) := by rw [b7.block db (Array.getElem?_eq_some_iff.1 HDB.out).1]; exact HDB.out
            have q1 : w7.cell? ⟨db, 1, none⟩ = some (.int .i64 z) := by rw [cell_of_row w7 db 1 _ _ _ e7]; rfl
            have B7 : Hid (Below w6.heap.size w6 w7) := b7
            have R7 : Hid (w7.ownsRow B 47 2 x7 (dropL l z).length (kvv (dropL l z))) := r7
            clear r7 b7 e7
            go_wp2_with fail
            refine (drop_any z w7 (HBD.out.below B7.out).tree).mono ?_
            rintro e w9 ⟨rfl, h9, k9⟩
            obtain ⟨ax9, cx9, rfl⟩ := row_slice R7.out
            have HT : Hid (Both w0 w9 B ⟨B, 0, none⟩ (.slice ax9 (dropL l z).length cx9) (dropL l z)) := ⟨h9, k9.row R7.out (by decide) (by decide), (HBD.out.below B7.out).bel.trans ((k9.below (HBD.out.below B7.out).hi).mono HBD.out.wB), HBD.out.wB, Nat.le_trans (HBD.out.below B7.out).hi k9.size⟩
            clear h9 k9 q1
            generalize (got l z).getD 0 = gv at *
            generalize (got l z).isSome = gb at *
            go_wp2_with fail
            refine (len_any w9 HT.out.tree).mono ?_
            rintro e w8 ⟨rfl, rfl⟩
            go_wp2_with fail
            refine (nodes_any w9 HT.out.tree).mono ?_
            rintro e w8 ⟨rfl, rfl⟩
            go_wp2_with fail
            refine (refNodes_any w9 HT.out.row HT.out.fine).mono ?_
            rintro e w8 ⟨rfl, q8, rfl⟩
            have H8 := HT.out.drewN q8
            generalize w9.drewN q8 = w8 at *
            have H9 : Hid _ := H8
            clear H8
            go_wp2
            go_roundw
            case rel => exact ⟨k + 1, _, by omega, by go_num, H9.out⟩
            case measure => simp [intOf]; omega
          · go_wp2_with fail
            generalize wr.alloc (.cells #[.int .i64 kd, .int .i64 z, .int .u64 v] 35) = w6 at *
            generalize wr.heap.size = db at *
            refine (refDrop_any z w6 HBD.out.row HBD.out.fine HBD.out.hi).mono ?_
            rintro e w7 ⟨x7, rfl, r7, b7⟩
            have e7 : w7.heap[db]? = some (.cells #[.int .i64 kd, .int .i64 z, .int .u64 v] 35 (0, 0)) := by rw [b7.block db (Array.getElem?_eq_some_iff.1 HDB.out).1]; exact HDB.out
            have q1 : w7.cell? ⟨db, 1, none⟩ = some (.int .i64 z) := by rw [cell_of_row w7 db 1 _ _ _ e7]; rfl
            have B7 : Hid (Below w6.heap.size w6 w7) := b7
            obtain ⟨ax9, cx9, rfl⟩ := row_slice r7
            clear r7 b7 e7
            go_wp2_with fail
            refine (get_any z w7 (HBD.out.below B7.out).tree).mono ?_
            rintro e w9 ⟨rfl, b9⟩
            have HT : Hid (Both w0 w9 B ⟨B, 0, none⟩ (.slice ax l.length cx) l) := (HBD.out.below B7.out).below b9
            clear b9 q1
            generalize (got l z).getD 0 = gv at *
            generalize (got l z).isSome = gb at *
            go_wp2_with fail
            refine (len_any w9 HT.out.tree).mono ?_
            rintro e w8 ⟨rfl, rfl⟩
            go_wp2_with fail
            refine (nodes_any w9 HT.out.tree).mono ?_
            rintro e w8 ⟨rfl, rfl⟩
            go_wp2_with fail
            refine (refNodes_any w9 HT.out.row HT.out.fine).mono ?_
            rintro e w8 ⟨rfl, q8, rfl⟩
            have H8 := HT.out.drewN q8
            generalize w9.drewN q8 = w8 at *
            have H9 : Hid _ := H8
            clear H8
            go_wp2
            go_roundw
            case rel => exact ⟨k + 1, _, by omega, by go_num, H9.out⟩
            case measure => simp [intOf]; omega
      · have e : k = L := by omega
        subst e
        have hfl := hb.fine
        have hlen := hfl.len
        obtain ⟨hs1, hs2⟩ := split_idx hfl start
        have hil := idx_le l start
        have HI : Hid (l.drop (idx l start) = frm l start) := hs2
        have HB : Hid (Both w0 wr B ⟨B, 0, none⟩ (.slice ax l.length cx) l) := hb
        have HF5 : Hid (frm l (-5) = l) := frm_all (by omega)
        clear hs1 hs2 hb
        go_wp2_with fail
        refine (refAt_any start wr HB.out.row hfl).mono ?_
        rintro e w6 ⟨rfl, q, rfl⟩
        have hb2 := HB.out.drewN q
        generalize wr.drewN q = w6 at *
        have hka := KAt.drop hb2.row hil
        rw [HI.out] at hka
        have HUL : Hid ((frm l start).length = l.length - idx l start) := by show _ = _; rw [← HI.out, List.length_drop]
        generalize hn : idx l start = n at *
        generalize foundB l start = fb at *
        have HV : Hid (upTo (-1) (frm l start) = frm l start) := rfl
        have HV5 : Hid (upTo (-1) (frm l (-5)) = l) := by show _ = _; rw [HF5.out]; rfl
        have HKX : Hid (KAt w6 ax l) := KAt.of_row hb2.row
        clear hn HI HB hfl
        have HB2 : Hid (Both w0 w6 B ⟨B, 0, none⟩ (.slice ax l.length cx) l) := hb2
        cases ax with
        | none =>
          have hl0 : l = [] := by
            rcases hb2.row.2 with ⟨_, h2⟩ | ⟨g, cap, cur, h2, _⟩
            · exact List.eq_nil_of_length_eq_zero h2
            · simp at h2
          subst hl0
          have hc0 : cx = 0 := by
            rcases hb2.row.2 with ⟨h2, _⟩ | ⟨g, cap, cur, h2, _⟩
            · simp at h2; exact h2
            · simp at h2
          subst hc0
          have hn0 : n = 0 := by simpa using hil
          subst hn0
          have HVL : Hid ((frm [] start).length = 0) := rfl
          have HKA : Hid (KAt w6 none (frm [] start)) := .inl rfl
          clear hka hb2
          go_wp2_with fail
          refine (from_any start hst.2 (-1) w6 HB2.out.tree).mono ?_
          rw [HV.out, HVL.out]
          rintro e w7 ⟨v7, rfl, r7, b7⟩
          obtain ⟨a7, c7, rfl⟩ := row_slice r7
          have HB7 : Hid (Both w0 w7 B ⟨B, 0, none⟩ _ []) := HB2.out.below b7
          have K7 : Hid (KAt w7 a7 (frm [] start)) := KAt.of_row (by rw [HVL.out]; exact r7)
          have K8 : Hid (KAt w7 none (frm [] start)) := HKA.out.below b7
          have K9 : Hid (KAt w7 _ []) := HKX.out.below b7
          clear r7 b7
          go_wp2_with fail
          refine (from_any (-5) (by omega) (-1) w7 HB7.out.tree).mono ?_
          rw [HV5.out]
          rintro e w8 ⟨v8, rfl, r8, b8⟩
          obtain ⟨a8, c8, rfl⟩ := row_slice r8
          have HB8 : Hid (Both w0 w8 B ⟨B, 0, none⟩ _ []) := HB7.out.below b8
          have J7 : Hid (KAt w8 a7 (frm [] start)) := K7.out.below b8
          have J8 : Hid (KAt w8 none (frm [] start)) := K8.out.below b8
          have J9 : Hid (KAt w8 _ []) := K9.out.below b8
          have J10 : Hid (KAt w8 a8 []) := KAt.of_row r8
          clear r8 b8
          go_wp2_with fail
          refine (keys_is w8 J7.out J8.out (by rw [HVL.out]; omega) HVL.out).mono ?_
          rintro e w9 ⟨rfl, q9, rfl⟩
          have HB9 : Hid (Both w0 (w8.drewN q9) B ⟨B, 0, none⟩ _ []) := HB8.out.drewN q9
          have I9 : Hid (KAt (w8.drewN q9) _ []) := J9.out.drewN q9
          have I10 : Hid (KAt (w8.drewN q9) a8 []) := J10.out.drewN q9
          generalize w8.drewN q9 = w9 at *
          go_wp2_with fail
          refine (keys_is w9 I10.out I9.out hlen rfl).mono ?_
          rintro e w10 ⟨rfl, q10, rfl⟩
          have HB10 : Hid (Below w0.heap.size w0 (w9.drewN q10)) := (HB9.out.drewN q10).bel
          generalize w9.drewN q10 = w10 at *
          go_wp2_with fail
          refine (lives_any w10).mono ?_
          rintro e w11 ⟨rfl, b11⟩
          go_wp2
          go_ret
          exact ⟨rfl, HB10.out.trans (b11.mono HB10.out.size)⟩
        | some ad =>
          obtain ⟨hcap, hcm⟩ := row_cap hb2.row
          unfold maxLen at hcm
          have hg : ∃ g, ad = ⟨g, 0, none⟩ := by
            rcases hb2.row.2 with ⟨h2, _⟩ | ⟨g, cap, cur, h2, _⟩
            · simp at h2
            · simp at h2; exact ⟨g, h2.1⟩
          obtain ⟨g, rfl⟩ := hg
          have hn1 : (n : Int) ≤ (l.length : Int) := by omega
          have ea : tailAddr (some ⟨g, 0, none⟩) cx n = if cx = n then some ⟨g, 0, none⟩ else some ⟨g, n * 2, none⟩ := by simp only [tailAddr, Addr.add_lit]; simp
          rw [ea] at hka
          obtain ⟨A, hA⟩ : ∃ A, (if cx = n then some (⟨g, 0, none⟩ : Addr) else some ⟨g, n * 2, none⟩) = some A := by split <;> exact ⟨_, rfl⟩
          rw [hA] at hka
          have HKA : Hid (KAt w6 (some A) (frm l start)) := hka
          clear hka hb2 ea
          obtain ⟨M, hMe⟩ : ∃ M, l.length - n = M := ⟨_, rfl⟩
          rw [hMe] at HUL
          obtain ⟨cM, hcMe⟩ : ∃ M, cx - n = M := ⟨_, rfl⟩
          have hM2 : M ≤ 65536 := by omega
          go_wp2_with fail
          refine (from_any start hst.2 (-1) w6 HB2.out.tree).mono ?_
          rw [HV.out, HUL.out]
          rintro e w7 ⟨v7, rfl, r7, b7⟩
          obtain ⟨a7, c7, rfl⟩ := row_slice r7
          have HB7 : Hid (Both w0 w7 B ⟨B, 0, none⟩ _ l) := HB2.out.below b7
          have K7 : Hid (KAt w7 a7 (frm l start)) := KAt.of_row (by rw [HUL.out]; exact r7)
          have K8 : Hid (KAt w7 (some A) (frm l start)) := HKA.out.below b7
          have K9 : Hid (KAt w7 _ l) := HKX.out.below b7
          clear r7 b7
          go_wp2_with fail
          refine (from_any (-5) (by omega) (-1) w7 HB7.out.tree).mono ?_
          rw [HV5.out]
          rintro e w8 ⟨v8, rfl, r8, b8⟩
          obtain ⟨a8, c8, rfl⟩ := row_slice r8
          have HB8 : Hid (Both w0 w8 B ⟨B, 0, none⟩ _ l) := HB7.out.below b8
          have J7 : Hid (KAt w8 a7 (frm l start)) := K7.out.below b8
          have J8 : Hid (KAt w8 (some A) (frm l start)) := K8.out.below b8
          have J9 : Hid (KAt w8 _ l) := K9.out.below b8
          have J10 : Hid (KAt w8 a8 l) := KAt.of_row r8
          clear r8 b8
          go_wp2_with fail
          refine (keys_is w8 J7.out J8.out (by rw [HUL.out]; omega) HUL.out).mono ?_
          rintro e w9 ⟨rfl, q9, rfl⟩
          have HB9 : Hid (Both w0 (w8.drewN q9) B ⟨B, 0, none⟩ _ l) := HB8.out.drewN q9
          have I9 : Hid (KAt (w8.drewN q9) _ l) := J9.out.drewN q9
          have I10 : Hid (KAt (w8.drewN q9) a8 l) := J10.out.drewN q9
          generalize w8.drewN q9 = w9 at *
          go_wp2_with fail
          refine (keys_is w9 I10.out I9.out hlen rfl).mono ?_
          rintro e w10 ⟨rfl, q10, rfl⟩
          have HB10 : Hid (Below w0.heap.size w0 (w9.drewN q10)) := (HB9.out.drewN q10).bel
          generalize w9.drewN q10 = w10 at *
          go_wp2_with fail
          refine (lives_any w10).mono ?_
          rintro e w11 ⟨rfl, b11⟩
          go_wp2
          go_ret
          exact ⟨rfl, HB10.out.trans (b11.mono HB10.out.size)⟩

theorem walk {H : Type} {enc : TypeId × Value → H} {w : World} {base : Nat} {v0 v1 : Value} {d0 d1 : DataW H} {p0 p1 : List MemPlace}
    (o0 : Value.okWide Try.prog w .any base 22 v0) (o1 : Value.okWide Try.prog w .any base 3 v1)
    (h0 : DataW.Trod enc Try.prog w 0 (fun _ => true) true 22 v0 d0 p0) (h1 : DataW.Trod enc Try.prog w 0 (fun _ => true) true 3 v1 d1 p1) :
    Calls Try.prog 3 #[v0, v1] w fun e w' => e = .returned (.bool true) ∧ Below w.heap.size w w' := by
  obtain ⟨a, L, c, K, N, V, rfl, hL, hz⟩ := openDeeds Try.underlying22 Try.underlying35 (by kernel_rfl) rfl rfl rfl (by kernel_rfl) (by kernel_rfl) (by kernel_rfl) Try.underlying3 Try.underlying3 Try.underlying27 o0 h0
  obtain ⟨start, rfl, hs⟩ := openOne Try.underlying3 o1 h1
  exact run a L c K N V start w hL hz (bounds_i64 hs)

set_option maxRecDepth 100000 in
theorem lifted (os : Os) (started : os.Started) (H : Type) (enc : TypeId × Value → H) :
    ReturnsInHanded {} Try.checked os 3 .any (Rows.radixPlaysSpec.pre6 enc Try.prog Try.f3 Rows.radixPlaysRow.domain false) (Rows.radixPlaysSpec.post enc Try.prog Try.f3 false true false false) := by
  refine returnsInHanded_of_change (C := Try.checked) own started (by kernel_rfl) Try.func3
    (ChangeSpec.witness6 (enc := enc) (C := Try.checked) false ⟨#[], #[.slice none 0 0, .int .i64 0], []⟩ 8 (by kernel_rfl) (by kernel_rfl) (by kernel_rfl) (by kernel_rfl)) ?_
  intro W base args ds gs before hval0 hW hcnd _
  have hval : ∀ (j : Nat) t v, Try.f3.params[j]? = some t → args[j]? = some v → Value.okWide Try.prog W .any base t v := hval0
  have hW' := hW
  obtain ⟨p, q, hA0, hV, rfl, hfz, hnd⟩ := hW
  have hA : DataW.TrodAll enc Try.prog W 0 (fun _ => true) true Try.f3.params.toList args.toList ds p := hA0
  rw [Try.params3] at hA hval
  obtain ⟨v0, vs0, d0, ds0, p0, q0, hargs, rfl, rfl, h0, r0⟩ := trodAll_cons hA
  obtain ⟨v1, vs1, d1, ds1, p1, q1, rfl, rfl, rfl, h1, r1⟩ := trodAll_cons r0
  obtain ⟨rfl, rfl, rfl⟩ := trodAll_nil r1
  obtain rfl : args = #[v0, v1] := by cases args; simp_all
  obtain ⟨rfl, rfl⟩ := trodVars_none hV
  have o0 := hval 0 22 v0 rfl rfl
  have lt0 : ∀ x ∈ p0, x.block < W.heap.size := by obtain ⟨m, hm⟩ := h0; exact DataW.trod_lt m _ _ _ hm
  have o1 := hval 1 3 v1 rfl rfl
  have lt1 : ∀ x ∈ p1, x.block < W.heap.size := by obtain ⟨m, hm⟩ := h1; exact DataW.trod_lt m _ _ _ hm
  clear hA0 hval0
  refine (walk o0 o1 h0 h1).mono fun e W' ⟨he, bel⟩ => ?_
  subst he
  exact ⟨_, rfl, _, _, _, [], _, [], hW', trodAll_mk1 (shut_bool Try.underlying4 _), (trodAll_cons_mk (Below.trod laidOut (by kernel_rfl) (of_decide_eq_true (by kernel_rfl)) h0 bel lt0) (trodAll_cons_mk (Below.trod laidOut (by kernel_rfl) (of_decide_eq_true (by kernel_rfl)) h1 bel lt1) trodAll_mk0)), rfl, bel.frame _, fun h => by cases h⟩

theorem over : Rows.radixPlaysRow.holds Try.pinned (OpenSpec.ofChange Rows.radixPlaysSpec) :=
  OpenClaim.holds_of_wide 3 Try.f3 rfl rfl rfl rfl rfl rfl rfl ⟨rfl, rfl, rfl, rfl, rfl⟩ rfl rfl rfl rfl rfl (by kernel_rfl) Try.func3 (by kernel_rfl)
    (of_decide_eq_true (by kernel_rfl)) (by unfold Func.isWrapper; first | (rw [if_pos (by decide +kernel)]; kernel_rfl) | (rw [if_neg (by decide +kernel)]; exact ⟨rfl, rfl⟩))
    (fun os started H enc _ => lifted os started H enc)
end Go.Proofs.Ytkghedllkigecaa.RadixPlays
namespace Go.Proofs.Ytkghedllkigecaa
/-- The statement. -/
theorem radixPlays_holds : Rows.RadixPlaysSaid := RadixPlays.over
#print axioms radixPlays_holds
end Go.Proofs.Ytkghedllkigecaa
