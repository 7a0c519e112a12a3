/- Proved: gunnylaw05.FramesPlays returns true for all ints many and all lists of deeds: what any calls of any number of frames answer, and whose each is behind each, is the document's; those that aren't there have nothing. No conditions. -/
import Derived.Test.YtngehhpaegljcaaFSame
import Derived.Test.YtngehhpaegljcaaFWhose
import Derived.Test.YtngehhpaegljcaaFLives
import Derived.Test.YtngehhpaegljcaaBDeeds
import Derived.Deep.LoopGhost
import Derived.Deep.DeepCutAuto
namespace Go.Proofs.Ytngehhpaegljcaa.FramesPlays
open Go.ChangeShapes Go.WideShapes Go.ChangeAt Go.RowKit
set_option linter.unusedVariables false
theorem own : ownKnob Try.prog.godebug = none := by kernel_rfl
theorem laidOut : laidOutB Try.prog = true := by kernel_rfl
theorem apart {w : World} {base xb j : Nat} {e F : TypeId} {size n : Nat} {v u : Value} {xs : List Value} {cs : Array Value} {fr : Nat × Nat} (h : w.ownsRow base e size v n xs) (hx : w.heap[xb]? = some (.cells cs F fr)) (hne : e ≠ F) : (w.setCell ⟨xb, j, none⟩ u).ownsRow base e size v n xs := by
  refine ⟨h.1, ?_⟩
  rcases h.2 with h1 | ⟨g, cap, cur, h1, h2, h3, r⟩
  · exact .inl h1
  · refine .inr ⟨g, cap, cur, h1, h2, ?_, r⟩
    rw [Below.heap_setCell _ _ _ _ (by
      show g ≠ xb
      rintro rfl
      rw [hx] at h3
      simp at h3
      exact hne h3.2.1.symm)]
    exact h3
/-- Frames (whose owners are O) and the document's (whose owners are O2), made since w. -/
structure Mid (w wr : World) (B E xb : Nat) (p : Option Addr) (vO vW : Value) (m t now : Nat) (O : List Int) (S : List Nat) (O2 W : List Int) : Prop where
  fr : FramesP B E wr p m t O S
  doc : DocAt E wr vO vW m O2 W
  box : wr.heap[xb]? = some (.cells #[vO, vW, .int .i64 (now : Int)] 37 (0, 0))
  bel : Below w.heap.size w wr
  wB : w.heap.size ≤ B
  hB : B ≤ E
  xlo : E ≤ xb
section
variable {w wr w2 : World} {B E xb m t t' now now' : Nat} {p : Option Addr} {vO vW vO' vW' : Value} {O O' O2 W O3 W3 : List Int} {S S' : List Nat}
theorem Mid.lt (h : Mid w wr B E xb p vO vW m t now O S O2 W) : xb < wr.heap.size := (Array.getElem?_eq_some_iff.1 h.box).1
theorem Mid.hi (h : Mid w wr B E xb p vO vW m t now O S O2 W) : E ≤ wr.heap.size := Nat.le_trans h.xlo (Nat.le_of_lt h.lt)
theorem Mid.below (h : Mid w wr B E xb p vO vW m t now O S O2 W) (hb : Below wr.heap.size wr w2) : Mid w w2 B E xb p vO vW m t now O S O2 W :=
  ⟨h.fr.below hb, h.doc.below hb, (hb.block xb h.lt).trans h.box, h.bel.trans (hb.mono h.bel.size), h.wB, h.hB, h.xlo⟩
theorem Mid.c0 (h : Mid w wr B E xb p vO vW m t now O S O2 W) : wr.cell? ⟨xb, 0, none⟩ = some vO := by rw [cell_of_row wr xb 0 _ _ _ h.box]; rfl
theorem Mid.c1 (h : Mid w wr B E xb p vO vW m t now O S O2 W) : wr.cell? ⟨xb, 1, none⟩ = some vW := by rw [cell_of_row wr xb 1 _ _ _ h.box]; rfl
theorem Mid.c2 (h : Mid w wr B E xb p vO vW m t now O S O2 W) : wr.cell? ⟨xb, 2, none⟩ = some (.int .i64 (now : Int)) := by rw [cell_of_row wr xb 2 _ _ _ h.box]; rfl
theorem Mid.frozen (h : Mid w wr B E xb p vO vW m t now O S O2 W) (j : Nat) : wr.frozen? ⟨xb, j, none⟩ = false := frozen_of_row wr xb j _ _ h.box
/-- The document's frames are laid anew. -/
theorem Mid.lay (h : Mid w wr B E xb p vO vW m t now O S O2 W) (hb : Below wr.heap.size wr w2) (hd : DocAt E w2 vO' vW' m O3 W3) :
    Mid w (((w2.setCell ⟨xb, 0, none⟩ vO').setCell ⟨xb, 1, none⟩ vW').setCell ⟨xb, 2, none⟩ (.int .i64 (now' : Int))) B E xb p vO' vW' m t now' O S O3 W3 := by
  have h2 := h.below hb
  have x1 := heap_setCell_same w2 xb 0 _ _ vO' h2.box
  have x2 := heap_setCell_same _ xb 1 _ _ vW' x1
  have hx : w.heap.size ≤ xb := Nat.le_trans h.wB (Nat.le_trans h.hB h.xlo)
  refine ⟨h2.fr.kept (by simp) (fun i hi => res_block (by have := h.xlo; omega)), ⟨?_, ?_⟩, res_kept h2.box, res_below h2.bel hx, h.wB, h.hB, h.xlo⟩
  · exact apart (apart (apart hd.rO h2.box (by decide)) x1 (by decide)) x2 (by decide)
  · exact apart (apart (apart hd.rW h2.box (by decide)) x1 (by decide)) x2 (by decide)
/-- The frames turned. -/
theorem Mid.turn (h : Mid w wr B E xb p vO vW m t now O S O2 W) (h2 : FramesP B E w2 p m t' O' S') (ht : Turns B E wr w2) : Mid w w2 B E xb p vO vW m t' now O' S' O2 W :=
  ⟨h2, ⟨ht.row h.doc.rO (Nat.le_refl _), ht.row h.doc.rW (Nat.le_refl _)⟩, (ht.block xb h.lt (.inr h.xlo)).trans h.box, h.bel.trans ((ht.below (Nat.le_trans h.hB h.hi)).mono h.wB), h.wB, h.hB, h.xlo⟩
theorem same_at (h : Mid w wr B E xb p vO vW m t now O S O W) (T : Int) (hT : T = t) :
    Calls Try.prog 16 #[.pointer p, .agg #[vO, vW, .int .i64 (now : Int)], .int .i64 T] wr fun e w' => e = .returned (.bool true) ∧ Below wr.heap.size wr w' := by
  subst hT
  exact same_any wr h.fr h.doc
theorem refGive_at (h : Mid w wr B E xb p vO vW m t now O S O W) (hw : now < 1000) (n : Int) {b : Bool} {nw : Nat} {O3 W3 : List Int} (hb : gvB O n = b) (hn : up now b = nw) (hO : gvO O n = O3) (hW : gvW O W now n = W3) :
    Calls Try.prog 17 #[.agg #[vO, vW, .int .i64 (now : Int)], .int .i64 n] wr fun e w' => ∃ vO' vW', e = .returned (.tuple #[.agg #[vO', vW', .int .i64 (nw : Int)], .bool b]) ∧ DocAt E w' vO' vW' m O3 W3 ∧ Below wr.heap.size wr w' := by
  subst hb hn hO hW
  exact refGive_any n wr h.doc h.fr.small hw h.hi
theorem refTake_at (h : Mid w wr B E xb p vO vW m t now O S O W) (d : Dated m S W now) (o : Int) {b : Bool} {n : Nat} {O3 : List Int} (hb : tkB S o = b) (hn : tkN S o = n) (hO : tkO O S o = O3) :
    Calls Try.prog 18 #[.agg #[vO, vW, .int .i64 (now : Int)], .int .i64 o] wr fun e w' => ∃ vO', e = .returned (.tuple #[.agg #[vO', vW, .int .i64 (now : Int)], .int .i64 (n : Nat), .bool b]) ∧ DocAt E w' vO' vW m O3 W ∧ Below wr.heap.size wr w' := by
  subst hb hn hO
  exact refTake_any o wr h.doc h.fr.good d h.fr.small h.hi
end
theorem count_nil (w : World) : Calls Try.prog 9 #[.pointer none, .slice (some ⟨w.heap.size, 0, none⟩) 2 2] (w.alloc (.cells #[.int .i64 0, .int .i64 1] 3)) fun e w' => e = .returned (.int .i64 0) ∧ Below w.heap.size w w' :=
  (count_is (zs := [0, 1]) _ (FramesP.nil 0 0 _) (IntsAt.made w [0, 1] _ rfl) rfl (by decide) (n := 0) (by decide)).mono (by rintro e w' ⟨rfl, hb⟩; exact ⟨rfl, alloc_then hb⟩)
theorem of_nil (w : World) : Calls Try.prog 10 #[.pointer none, .int .i64 0] w fun e w' => (∃ a c, e = .returned (.slice a 0 c)) ∧ Below w.heap.size w w' :=
  (of_any 0 w (FramesP.nil 0 0 w)).mono (by
    rintro e w' ⟨v, rfl, hr, hb⟩
    obtain ⟨a, c, rfl⟩ := row_slice hr
    exact ⟨⟨a, c, rfl⟩, hb⟩)
theorem take_nil (w : World) : Calls Try.prog 6 #[.pointer none, .int .i64 1] w fun e w' => e = .returned (.tuple #[.int .i64 0, .bool false]) ∧ Below w.heap.size w w' :=
  (take_is (n := 0) 1 w (FramesP.nil w.heap.size w.heap.size w) (by omega) (b := false) (by decide) (by decide)).mono (by rintro e w' ⟨rfl, _, ht⟩; exact ⟨rfl, ht.below (Nat.le_refl _)⟩)
theorem give_nil (w : World) : Calls Try.prog 7 #[.pointer none, .int .i64 0] w fun e w' => e = .returned (.bool false) ∧ Below w.heap.size w w' :=
  (give_is 0 w (FramesP.nil w.heap.size w.heap.size w) (by omega) (b := false) (by decide)).mono (by rintro e w' ⟨rfl, _, ht⟩; exact ⟨rfl, ht.below (Nat.le_refl _)⟩)
theorem next {a b c : World} (h : Below a.heap.size a b) (k : Below b.heap.size b c) : Below a.heap.size a c := h.trans (k.mono h.size)
set_option maxRecDepth 100000 in
set_option maxHeartbeats 4000000 in
theorem run_bad (many : Int) (a : Option Addr) (L c : Nat) (w : World) (hbad : many < 8 ∨ 96 < many) :
    Calls Try.prog 3 #[.int .i64 many, .slice a L c] w fun e w' => e = .returned (.bool true) ∧ Below w.heap.size w w' := by
  have HBAD : Hid _ := hbad
  rcases hbad with h1 | h1
  · go_enter Try.func3, Try.ntmps3
    go_wp2_with fail
    refine (take_nil w).mono ?_
    rintro e w1 ⟨rfl, b1⟩
    go_wp2_with fail
    refine (give_nil w1).mono ?_
    rintro e w2 ⟨rfl, b2⟩
    have b3 := next b1 b2
    clear b1 b2
    go_wp2_with fail
    refine (owner_is 0 w2 (FramesP.nil 0 0 w2) (q := 0) rfl).mono ?_
    rintro e w' ⟨rfl, rfl⟩
    go_wp2_with fail
    refine (count_nil w2).mono ?_
    rintro e w4 ⟨rfl, b4⟩
    have b5 := next b3 b4
    clear b3 b4
    go_wp2_with fail
    refine (of_nil w4).mono ?_
    rintro e w5 ⟨⟨az, cz, rfl⟩, b6⟩
    have b7 := next b5 b6
    clear b5 b6
    go_wp2_with fail
    refine (many_any w5 (FramesP.nil 0 0 w5)).mono ?_
    rintro e w' ⟨rfl, rfl⟩
    go_wp2_with fail
    refine (turns_any w5 (FramesP.nil 0 0 w5)).mono ?_
    rintro e w' ⟨rfl, rfl⟩
    go_wp2_with fail
    refine (new_bad many HBAD.out w5).mono ?_
    rintro e w' ⟨rfl, rfl⟩
    go_wp2_with fail
    refine (lives_any w5).mono ?_
    rintro e w8 ⟨rfl, b8⟩
    go_wp2
    go_ret
    exact ⟨rfl, next b7 b8⟩
  · have h2 : ¬ many < 8 := by omega
    go_enter Try.func3, Try.ntmps3
    go_wp2_with fail
    refine (take_nil w).mono ?_
    rintro e w1 ⟨rfl, b1⟩
    go_wp2_with fail
    refine (give_nil w1).mono ?_
    rintro e w2 ⟨rfl, b2⟩
    have b3 := next b1 b2
    clear b1 b2
    go_wp2_with fail
    refine (owner_is 0 w2 (FramesP.nil 0 0 w2) (q := 0) rfl).mono ?_
    rintro e w' ⟨rfl, rfl⟩
    go_wp2_with fail
    refine (count_nil w2).mono ?_
    rintro e w4 ⟨rfl, b4⟩
    have b5 := next b3 b4
    clear b3 b4
    go_wp2_with fail
    refine (of_nil w4).mono ?_
    rintro e w5 ⟨⟨az, cz, rfl⟩, b6⟩
    have b7 := next b5 b6
    clear b5 b6
    go_wp2_with fail
    refine (many_any w5 (FramesP.nil 0 0 w5)).mono ?_
    rintro e w' ⟨rfl, rfl⟩
    go_wp2_with fail
    refine (turns_any w5 (FramesP.nil 0 0 w5)).mono ?_
    rintro e w' ⟨rfl, rfl⟩
    go_wp2_with fail
    refine (new_bad many HBAD.out w5).mono ?_
    rintro e w' ⟨rfl, rfl⟩
    go_wp2_with fail
    refine (lives_any w5).mono ?_
    rintro e w8 ⟨rfl, b8⟩
    go_wp2
    go_ret
    exact ⟨rfl, next b7 b8⟩
set_option maxRecDepth 100000 in
set_option maxHeartbeats 4000000 in
theorem run_far (m : Nat) (h8 : 8 ≤ m) (hm : m ≤ 96) (a : Option Addr) (L c : Nat) (w : World) (hL : L ≤ maxLen) (hlong : 200 < L) :
    Calls Try.prog 3 #[.int .i64 (m : Nat), .slice a L c] w fun e w' => e = .returned (.bool true) ∧ Below w.heap.size w w' := by
  unfold maxLen at hL
  go_enter Try.func3, Try.ntmps3
  go_wp2_with fail
  refine (take_nil w).mono ?_
  rintro e w1 ⟨rfl, b1⟩
  go_wp2_with fail
  refine (give_nil w1).mono ?_
  rintro e w2 ⟨rfl, b2⟩
  have b3 := next b1 b2
  clear b1 b2
  go_wp2_with fail
  refine (owner_is 0 w2 (FramesP.nil 0 0 w2) (q := 0) rfl).mono ?_
  rintro e w' ⟨rfl, rfl⟩
  go_wp2_with fail
  refine (count_nil w2).mono ?_
  rintro e w4 ⟨rfl, b4⟩
  have b5 := next b3 b4
  clear b3 b4
  go_wp2_with fail
  refine (of_nil w4).mono ?_
  rintro e w5 ⟨⟨az, cz, rfl⟩, b6⟩
  have b7 := next b5 b6
  clear b5 b6
  go_wp2_with fail
  refine (many_any w5 (FramesP.nil 0 0 w5)).mono ?_
  rintro e w' ⟨rfl, rfl⟩
  go_wp2_with fail
  refine (turns_any w5 (FramesP.nil 0 0 w5)).mono ?_
  rintro e w' ⟨rfl, rfl⟩
  go_wp2_with fail
  refine (new_any m h8 hm w5).mono ?_
  rintro e w6 ⟨p, rfl, h6, b6⟩
  have b8 := next b7 b6
  clear h6 b6 b7
  go_wp2_with fail
  refine (lives_any w6).mono ?_
  rintro e w8 ⟨rfl, b9⟩
  go_wp2
  go_ret
  exact ⟨rfl, next b8 b9⟩
set_option maxRecDepth 100000 in
set_option maxHeartbeats 8000000 in
theorem run_near (m : Nat) (h8 : 8 ≤ m) (hm : m ≤ 96) (a : Option Addr) (L c : Nat) (K N : Nat → Int) (w : World) (hL : L ≤ 200) (hd : PairsAt w a L K N) :
    Calls Try.prog 3 #[.int .i64 (m : Nat), .slice a L c] w fun e w' => e = .returned (.bool true) ∧ Below w.heap.size w w' := by
  have HD : Hid (PairsAt w a L K N) := hd
  clear hd
  go_enter Try.func3, Try.ntmps3
  go_wp2_with fail
  refine (take_nil w).mono ?_
  rintro e w1 ⟨rfl, b1⟩
  go_wp2_with fail
  refine (give_nil w1).mono ?_
  rintro e w2 ⟨rfl, b2⟩
  have b3 := next b1 b2
  clear b1 b2
  go_wp2_with fail
  refine (owner_is 0 w2 (FramesP.nil 0 0 w2) (q := 0) rfl).mono ?_
  rintro e w' ⟨rfl, rfl⟩
  go_wp2_with fail
  refine (count_nil w2).mono ?_
  rintro e w4 ⟨rfl, b4⟩
  have b5 := next b3 b4
  clear b3 b4
  go_wp2_with fail
  refine (of_nil w4).mono ?_
  rintro e w5 ⟨⟨az, cz, rfl⟩, b6⟩
  have b7 := next b5 b6
  clear b5 b6
  go_wp2_with fail
  refine (many_any w5 (FramesP.nil 0 0 w5)).mono ?_
  rintro e w' ⟨rfl, rfl⟩
  go_wp2_with fail
  refine (turns_any w5 (FramesP.nil 0 0 w5)).mono ?_
  rintro e w' ⟨rfl, rfl⟩
  go_wp2_with fail
  refine (new_any m h8 hm w5).mono ?_
  rintro e w6 ⟨p, rfl, h6, b6⟩
  have HF6 : Hid (FramesP w5.heap.size w6.heap.size w6 p m 0 (List.replicate m 0) (down m)) := h6
  have HB6 : Hid (Below w.heap.size w w6) := next b7 b6
  have HWB : Hid (w.heap.size ≤ w5.heap.size) := b7.size
  have HBE : Hid (w5.heap.size ≤ w6.heap.size) := b6.size
  clear h6 b6 b7
  go_wp2_with fail
  refine (refNew_any m hm w6).mono ?_
  rintro e w7 ⟨vO, vW, rfl, hd7, b7⟩
  obtain ⟨aO, cO, rfl⟩ := row_slice hd7.rO
  obtain ⟨aW, cW, rfl⟩ := row_slice hd7.rW
  have b8 : Below w7.heap.size w7 (w7.alloc (.cells #[.slice aO m cO, .slice aW m cW, .int .i64 (m : Int)] 37)) := (Below.refl _ _).alloc (Nat.le_refl _) _
  have HM : Hid (Mid w (w7.alloc (.cells #[.slice aO m cO, .slice aW m cW, .int .i64 (m : Int)] 37)) w5.heap.size w6.heap.size w7.heap.size p (.slice aO m cO) (.slice aW m cW) m 0 m (List.replicate m 0) (down m) (List.replicate m 0) (dates m m)) :=
    ⟨(HF6.out.below b7).below b8, hd7.below b8, heap_alloc_new w7 _, next (next HB6.out b7) b8, HWB.out, HBE.out, b7.size⟩
  clear hd7 b7 b8 HF6 HB6
  have HDT : Hid (Dated m (down m) (dates m m) m) := Dated.start m
  generalize List.replicate m (0 : Int) = O0 at *
  generalize down m = S0 at *
  generalize dates m m = W0 at *
  go_upto_region 12 with (fail)
  generalize w7.alloc (.cells #[.slice aO m cO, .slice aW m cW, .int .i64 (m : Int)] 37) = w8 at *
  generalize w7.heap.size = xb at *
  generalize w6.heap.size = E at *
  generalize w5.heap.size = B at *
  clear HWB HBE
  have x0 := HM.out.c0
  have x1 := HM.out.c1
  have x2 := HM.out.c2
  go_wp2_with fail
  refine (same_at HM.out _ rfl).mono ?_
  rintro e w9 ⟨rfl, b9⟩
  have HM2 : Hid _ := HM.out.below b9
  clear b9 x0 x1 x2 HM
  go_wp2_with fail
  go_loopg [11, 12, 13, 14, 15, 16, 17] L (fun gk tv i _ _ _ _ _ wr => ∃ (k t now : Nat) (vO vW : Value) (O W : List Int) (S : List Nat), k ≤ L ∧ gk = L - k ∧ i = .int .i64 k ∧ tv = .int .i64 t ∧ Mid w wr B E xb p vO vW m t now O S O W ∧ Dated m S W now ∧ t ≤ k ∧ now ≤ 96 + k)
  case atStart => exact ⟨0, 0, m, _, _, _, _, _, Nat.zero_le _, rfl, rfl, rfl, HM2.out, HDT.out, Nat.le_refl _, by omega⟩
  case round =>
    obtain ⟨k, t, now, vO, vW, O, W, S, hk, rfl, rfl, rfl, hM, hDT, htk, hnk⟩ := hrel
    have HM0 : Hid (Mid w wr B E xb p vO vW m t now O S O W) := hM
    have HDD : Hid (Dated m S W now) := hDT
    clear HM2 HDT hDT
    by_cases hlt : k < L
    · obtain ⟨bz, off, rfl, hbz, hcK, hcN⟩ := HD.out.later hM.bel hlt
      generalize K k = n at *
      generalize N k = o at *
      obtain ⟨aO', cO', rfl⟩ := row_slice hM.doc.rO
      obtain ⟨aW', cW', rfl⟩ := row_slice hM.doc.rW
      have HMD : Hid (Mid w (wr.alloc (.cells #[.int .i64 n, .int .i64 o] 41)) B E xb p (.slice aO' m cO') (.slice aW' m cW') m t now O S O W) := hM.below ((Below.refl _ _).alloc (Nat.le_refl _) _)
      have HDB : Hid ((wr.alloc (.cells #[.int .i64 n, .int .i64 o] 41)).heap[wr.heap.size]? = some (.cells #[.int .i64 n, .int .i64 o] 41 (0, 0))) := heap_alloc_new wr _
      have HXD : Hid (xb < wr.heap.size) := hM.lt
      clear hM HM0
      by_cases hn : 0 ≤ n
      · go_upto_region 20 with (fail)
        generalize wr.alloc (.cells #[.int .i64 n, .int .i64 o] 41) = w6 at *
        generalize wr.heap.size = db at *
        clear hcK hcN
        have d0 := cell_of_row w6 db 0 _ _ _ HDB.out
        rw [show (#[Value.int .i64 n, .int .i64 o] : Array Value)[0]? = some (.int .i64 n) from rfl] at d0
        have x0 := HMD.out.c0
        have x1 := HMD.out.c1
        have x2 := HMD.out.c2
        obtain ⟨O3, hO3⟩ : ∃ O3, gvO O n = O3 := ⟨_, rfl⟩
        obtain ⟨W3, hW3⟩ : ∃ W3, gvW O W now n = W3 := ⟨_, rfl⟩
        obtain ⟨S3, hS3⟩ : ∃ S3, gvS O S n = S3 := ⟨_, rfl⟩
        obtain ⟨nw, hnw⟩ : ∃ nw, up now (gvB O n) = nw := ⟨_, rfl⟩
        obtain ⟨tt, htt⟩ : ∃ tt, up t (gvB O n) = tt := ⟨_, rfl⟩
        have HDT : Hid (Dated m S3 W3 nw) := by have := HDD.out.gv HMD.out.fr.good n; rw [hS3, hW3, hnw] at this; exact this
        have HO3 : Hid _ := hO3
        have HW3 : Hid _ := hW3
        have HS3 : Hid _ := hS3
        cases hb : gvB O n with
        | true =>
          rw [hb] at hnw htt
          have HNQ : Hid (nw = now + 1) := by show _ = _; rw [← hnw]; rfl
          have htt' : tt = t + 1 := by rw [← htt]; rfl
          have HB : Hid (gvB O n = true) := hb
          have HNW : Hid _ := hnw
          have HTT : Hid _ := htt
          clear hb hO3 hW3 hS3 hnw htt
          go_wp2_with fail
          refine (refGive_at HMD.out (by omega) n HB.out HNW.out HO3.out HW3.out).mono ?_
          rintro e w7 ⟨vO3, vW3, rfl, hd3, b3⟩
          obtain ⟨aO3, cO3, rfl⟩ := row_slice hd3.rO
          obtain ⟨aW3, cW3, rfl⟩ := row_slice hd3.rW
          have HM3 : Hid (Mid w (((w7.setCell ⟨xb, 0, none⟩ (.slice aO3 m cO3)).setCell ⟨xb, 1, none⟩ (.slice aW3 m cW3)).setCell ⟨xb, 2, none⟩ (.int .i64 (nw : Int))) B E xb p (.slice aO3 m cO3) (.slice aW3 m cW3) m t nw O S O3 W3) := HMD.out.lay b3 hd3
          have hdx : db ≠ xb := by have := HXD.out; omega
          have HD7 : Hid ((((w7.setCell ⟨xb, 0, none⟩ (.slice aO3 m cO3)).setCell ⟨xb, 1, none⟩ (.slice aW3 m cW3)).setCell ⟨xb, 2, none⟩ (.int .i64 (nw : Int))).heap[db]? = some (.cells #[.int .i64 n, .int .i64 o] 41 (0, 0))) := by
            show _ = _
            rw [res_block hdx]
            exact (b3.block db (Array.getElem?_eq_some_iff.1 HDB.out).1).trans HDB.out
          have x0' := (HMD.out.below b3).c0
          have x1' := (HMD.out.below b3).c1
          have x2' := (HMD.out.below b3).c2
          have g0 := (HMD.out.below b3).frozen 0
          have g1 := (HMD.out.below b3).frozen 1
          have g2 := (HMD.out.below b3).frozen 2
          clear x0 x1 x2 d0 hd3 b3
          go_upto_region 21 with (fail)
          generalize ((w7.setCell ⟨xb, 0, none⟩ (.slice aO3 m cO3)).setCell ⟨xb, 1, none⟩ (.slice aW3 m cW3)).setCell ⟨xb, 2, none⟩ (.int .i64 (nw : Int)) = w8 at *
          clear x0' x1' x2' g0 g1 g2
          have d0 := cell_of_row w8 db 0 _ _ _ HD7.out
          rw [show (#[Value.int .i64 n, .int .i64 o] : Array Value)[0]? = some (.int .i64 n) from rfl] at d0
          go_wp2_with fail
          refine (give_is n w8 HM3.out.fr (by omega) HB.out).mono ?_
          rw [HO3.out, HS3.out, HTT.out]
          rintro e w9 ⟨rfl, h9, t9⟩
          have HM5 : Hid (Mid w w9 B E xb p (.slice aO3 m cO3) (.slice aW3 m cW3) m tt nw O3 S3 O3 W3) := HM3.out.turn h9 t9
          clear h9 t9 d0 HM3
          have x0 := HM5.out.c0
          have x1 := HM5.out.c1
          have x2 := HM5.out.c2
          go_wp2_with fail
          refine (same_at HM5.out _ (by first | rfl | omega)).mono ?_
          rintro e w11 ⟨rfl, b11⟩
          have HM4 : Hid _ := HM5.out.below b11
          clear b11
          go_wp2
          go_roundg (L - (k + 1))
          case measure => omega
          case rel => exact ⟨k + 1, tt, nw, _, _, _, _, _, by omega, rfl, by go_num, by go_num, HM4.out, HDT.out, by omega, by first | omega | (have := HNQ.out; omega)⟩
        | false =>
          rw [hb] at hnw htt
          have HNQ : Hid (nw = now) := by show _ = _; rw [← hnw]; rfl
          have htt' : tt = t := by rw [← htt]; rfl
          have HB : Hid (gvB O n = false) := hb
          have HNW : Hid _ := hnw
          have HTT : Hid _ := htt
          clear hb hO3 hW3 hS3 hnw htt
          go_wp2_with fail
          refine (refGive_at HMD.out (by omega) n HB.out HNW.out HO3.out HW3.out).mono ?_
          rintro e w7 ⟨vO3, vW3, rfl, hd3, b3⟩
          obtain ⟨aO3, cO3, rfl⟩ := row_slice hd3.rO
          obtain ⟨aW3, cW3, rfl⟩ := row_slice hd3.rW
          have HM3 : Hid (Mid w (((w7.setCell ⟨xb, 0, none⟩ (.slice aO3 m cO3)).setCell ⟨xb, 1, none⟩ (.slice aW3 m cW3)).setCell ⟨xb, 2, none⟩ (.int .i64 (nw : Int))) B E xb p (.slice aO3 m cO3) (.slice aW3 m cW3) m t nw O S O3 W3) := HMD.out.lay b3 hd3
          have hdx : db ≠ xb := by have := HXD.out; omega
          have HD7 : Hid ((((w7.setCell ⟨xb, 0, none⟩ (.slice aO3 m cO3)).setCell ⟨xb, 1, none⟩ (.slice aW3 m cW3)).setCell ⟨xb, 2, none⟩ (.int .i64 (nw : Int))).heap[db]? = some (.cells #[.int .i64 n, .int .i64 o] 41 (0, 0))) := by
            show _ = _
            rw [res_block hdx]
            exact (b3.block db (Array.getElem?_eq_some_iff.1 HDB.out).1).trans HDB.out
          have x0' := (HMD.out.below b3).c0
          have x1' := (HMD.out.below b3).c1
          have x2' := (HMD.out.below b3).c2
          have g0 := (HMD.out.below b3).frozen 0
          have g1 := (HMD.out.below b3).frozen 1
          have g2 := (HMD.out.below b3).frozen 2
          clear x0 x1 x2 d0 hd3 b3
          go_upto_region 21 with (fail)
          generalize ((w7.setCell ⟨xb, 0, none⟩ (.slice aO3 m cO3)).setCell ⟨xb, 1, none⟩ (.slice aW3 m cW3)).setCell ⟨xb, 2, none⟩ (.int .i64 (nw : Int)) = w8 at *
          clear x0' x1' x2' g0 g1 g2
          have d0 := cell_of_row w8 db 0 _ _ _ HD7.out
          rw [show (#[Value.int .i64 n, .int .i64 o] : Array Value)[0]? = some (.int .i64 n) from rfl] at d0
          go_wp2_with fail
          refine (give_is n w8 HM3.out.fr (by omega) HB.out).mono ?_
          rw [HO3.out, HS3.out, HTT.out]
          rintro e w9 ⟨rfl, h9, t9⟩
          have HM5 : Hid (Mid w w9 B E xb p (.slice aO3 m cO3) (.slice aW3 m cW3) m tt nw O3 S3 O3 W3) := HM3.out.turn h9 t9
          clear h9 t9 d0 HM3
          have x0 := HM5.out.c0
          have x1 := HM5.out.c1
          have x2 := HM5.out.c2
          go_wp2_with fail
          refine (same_at HM5.out _ (by first | rfl | omega)).mono ?_
          rintro e w11 ⟨rfl, b11⟩
          have HM4 : Hid _ := HM5.out.below b11
          clear b11
          go_wp2
          go_roundg (L - (k + 1))
          case measure => omega
          case rel => exact ⟨k + 1, tt, nw, _, _, _, _, _, by omega, rfl, by go_num, by go_num, HM4.out, HDT.out, by omega, by first | omega | (have := HNQ.out; omega)⟩
      · have hn2 : n < 0 := by omega
        go_upto_region 24 with (fail)
        generalize wr.alloc (.cells #[.int .i64 n, .int .i64 o] 41) = w6 at *
        generalize wr.heap.size = db at *
        clear hcK hcN
        have d1 := cell_of_row w6 db 1 _ _ _ HDB.out
        rw [show (#[Value.int .i64 n, .int .i64 o] : Array Value)[1]? = some (.int .i64 o) from rfl] at d1
        have x0 := HMD.out.c0
        have x1 := HMD.out.c1
        have x2 := HMD.out.c2
        obtain ⟨O3, hO3⟩ : ∃ O3, tkO O S o = O3 := ⟨_, rfl⟩
        obtain ⟨S3, hS3⟩ : ∃ S3, tkS S o = S3 := ⟨_, rfl⟩
        obtain ⟨tn, htn⟩ : ∃ tn, tkN S o = tn := ⟨_, rfl⟩
        obtain ⟨tt, htt⟩ : ∃ tt, up t (tkB S o) = tt := ⟨_, rfl⟩
        have HDT : Hid (Dated m S3 W now) := by have := HDD.out.tk o; rw [hS3] at this; exact this
        have HO3 : Hid _ := hO3
        have HS3 : Hid _ := hS3
        have HTN : Hid _ := htn
        cases hb : tkB S o with
        | true =>
          rw [hb] at htt
          have htt' : tt = t + 1 := by rw [← htt]; rfl
          have HB : Hid (tkB S o = true) := hb
          have HTT : Hid _ := htt
          clear hb hO3 hS3 htn htt
          go_wp2_with fail
          refine (refTake_at HMD.out HDD.out o HB.out HTN.out HO3.out).mono ?_
          rintro e w7 ⟨vO3, rfl, hd3, b3⟩
          obtain ⟨aO3, cO3, rfl⟩ := row_slice hd3.rO
          have HM3 : Hid (Mid w (((w7.setCell ⟨xb, 0, none⟩ (.slice aO3 m cO3)).setCell ⟨xb, 1, none⟩ (.slice aW' m cW')).setCell ⟨xb, 2, none⟩ (.int .i64 (now : Int))) B E xb p (.slice aO3 m cO3) (.slice aW' m cW') m t now O S O3 W) := HMD.out.lay b3 hd3
          have hdx : db ≠ xb := by have := HXD.out; omega
          have HD7 : Hid ((((w7.setCell ⟨xb, 0, none⟩ (.slice aO3 m cO3)).setCell ⟨xb, 1, none⟩ (.slice aW' m cW')).setCell ⟨xb, 2, none⟩ (.int .i64 (now : Int))).heap[db]? = some (.cells #[.int .i64 n, .int .i64 o] 41 (0, 0))) := by
            show _ = _
            rw [res_block hdx]
            exact (b3.block db (Array.getElem?_eq_some_iff.1 HDB.out).1).trans HDB.out
          have x0' := (HMD.out.below b3).c0
          have x1' := (HMD.out.below b3).c1
          have x2' := (HMD.out.below b3).c2
          have g0 := (HMD.out.below b3).frozen 0
          have g1 := (HMD.out.below b3).frozen 1
          have g2 := (HMD.out.below b3).frozen 2
          clear x0 x1 x2 d1 hd3 b3
          go_upto_region 25 with (fail)
          generalize ((w7.setCell ⟨xb, 0, none⟩ (.slice aO3 m cO3)).setCell ⟨xb, 1, none⟩ (.slice aW' m cW')).setCell ⟨xb, 2, none⟩ (.int .i64 (now : Int)) = w8 at *
          clear x0' x1' x2' g0 g1 g2
          have d1 := cell_of_row w8 db 1 _ _ _ HD7.out
          rw [show (#[Value.int .i64 n, .int .i64 o] : Array Value)[1]? = some (.int .i64 o) from rfl] at d1
          go_wp2_with fail
          refine (take_is o w8 HM3.out.fr (by omega) HB.out HTN.out).mono ?_
          rw [HO3.out, HS3.out, HTT.out]
          rintro e w9 ⟨rfl, h9, t9⟩
          have HM5 : Hid (Mid w w9 B E xb p (.slice aO3 m cO3) (.slice aW' m cW') m tt now O3 S3 O3 W) := HM3.out.turn h9 t9
          clear h9 t9 d1 HM3
          have x0 := HM5.out.c0
          have x1 := HM5.out.c1
          have x2 := HM5.out.c2
          go_wp2_with fail
          refine (same_at HM5.out _ (by first | rfl | omega)).mono ?_
          rintro e w11 ⟨rfl, b11⟩
          have HM4 : Hid _ := HM5.out.below b11
          clear b11
          go_wp2
          go_roundg (L - (k + 1))
          case measure => omega
          case rel => exact ⟨k + 1, tt, now, _, _, _, _, _, by omega, rfl, by go_num, by go_num, HM4.out, HDT.out, by omega, by first | omega | (have := HNQ.out; omega)⟩
        | false =>
          rw [hb] at htt
          have htt' : tt = t := by rw [← htt]; rfl
          have HB : Hid (tkB S o = false) := hb
          have HTT : Hid _ := htt
          clear hb hO3 hS3 htn htt
          go_wp2_with fail
          refine (refTake_at HMD.out HDD.out o HB.out HTN.out HO3.out).mono ?_
          rintro e w7 ⟨vO3, rfl, hd3, b3⟩
          obtain ⟨aO3, cO3, rfl⟩ := row_slice hd3.rO
          have HM3 : Hid (Mid w (((w7.setCell ⟨xb, 0, none⟩ (.slice aO3 m cO3)).setCell ⟨xb, 1, none⟩ (.slice aW' m cW')).setCell ⟨xb, 2, none⟩ (.int .i64 (now : Int))) B E xb p (.slice aO3 m cO3) (.slice aW' m cW') m t now O S O3 W) := HMD.out.lay b3 hd3
          have hdx : db ≠ xb := by have := HXD.out; omega
          have HD7 : Hid ((((w7.setCell ⟨xb, 0, none⟩ (.slice aO3 m cO3)).setCell ⟨xb, 1, none⟩ (.slice aW' m cW')).setCell ⟨xb, 2, none⟩ (.int .i64 (now : Int))).heap[db]? = some (.cells #[.int .i64 n, .int .i64 o] 41 (0, 0))) := by
            show _ = _
            rw [res_block hdx]
            exact (b3.block db (Array.getElem?_eq_some_iff.1 HDB.out).1).trans HDB.out
          have x0' := (HMD.out.below b3).c0
          have x1' := (HMD.out.below b3).c1
          have x2' := (HMD.out.below b3).c2
          have g0 := (HMD.out.below b3).frozen 0
          have g1 := (HMD.out.below b3).frozen 1
          have g2 := (HMD.out.below b3).frozen 2
          clear x0 x1 x2 d1 hd3 b3
          go_upto_region 25 with (fail)
          generalize ((w7.setCell ⟨xb, 0, none⟩ (.slice aO3 m cO3)).setCell ⟨xb, 1, none⟩ (.slice aW' m cW')).setCell ⟨xb, 2, none⟩ (.int .i64 (now : Int)) = w8 at *
          clear x0' x1' x2' g0 g1 g2
          have d1 := cell_of_row w8 db 1 _ _ _ HD7.out
          rw [show (#[Value.int .i64 n, .int .i64 o] : Array Value)[1]? = some (.int .i64 o) from rfl] at d1
          go_wp2_with fail
          refine (take_is o w8 HM3.out.fr (by omega) HB.out HTN.out).mono ?_
          rw [HO3.out, HS3.out, HTT.out]
          rintro e w9 ⟨rfl, h9, t9⟩
          have HM5 : Hid (Mid w w9 B E xb p (.slice aO3 m cO3) (.slice aW' m cW') m tt now O3 S3 O3 W) := HM3.out.turn h9 t9
          clear h9 t9 d1 HM3
          have x0 := HM5.out.c0
          have x1 := HM5.out.c1
          have x2 := HM5.out.c2
          go_wp2_with fail
          refine (same_at HM5.out _ (by first | rfl | omega)).mono ?_
          rintro e w11 ⟨rfl, b11⟩
          have HM4 : Hid _ := HM5.out.below b11
          clear b11
          go_wp2
          go_roundg (L - (k + 1))
          case measure => omega
          case rel => exact ⟨k + 1, tt, now, _, _, _, _, _, by omega, rfl, by go_num, by go_num, HM4.out, HDT.out, by omega, by first | omega | (have := HNQ.out; omega)⟩
    · have e : k = L := by omega
      subst e
      clear hM
      go_wp2_with fail
      refine (lives_any wr).mono ?_
      rintro e w11 ⟨rfl, b11⟩
      go_wp2
      go_ret
      exact ⟨rfl, next HM0.out.bel b11⟩

theorem walk {H : Type} {enc : TypeId × Value → H} {w : World} {base : Nat} {v0 v1 : Value} {d0 d1 : DataW H} {p0 p1 : List MemPlace}
    (o0 : Value.okWide Try.prog w .any base 3 v0) (o1 : Value.okWide Try.prog w .any base 22 v1)
    (h0 : DataW.Trod enc Try.prog w 0 (fun _ => true) true 3 v0 d0 p0) (h1 : DataW.Trod enc Try.prog w 0 (fun _ => true) true 22 v1 d1 p1) :
    Calls Try.prog 3 #[v0, v1] w fun e w' => e = .returned (.bool true) ∧ Below w.heap.size w w' := by
  obtain ⟨many, rfl, _⟩ := openOne Try.underlying3 o0 h0
  obtain ⟨a, L, c, K, N, rfl, hL, hd⟩ := openPairs Try.underlying22 Try.underlying41 (by kernel_rfl) rfl rfl (by kernel_rfl) (by kernel_rfl) Try.underlying3 Try.underlying3 o1 h1
  by_cases hbad : many < 8 ∨ 96 < many
  · exact run_bad many a L c w hbad
  · obtain ⟨m, rfl⟩ := Int.eq_ofNat_of_zero_le (show 0 ≤ many by omega)
    by_cases hlong : 200 < L
    · exact run_far m (by omega) (by omega) a L c w hL hlong
    · exact run_near m (by omega) (by omega) a L c K N w (by omega) hd

set_option maxRecDepth 100000 in
theorem lifted (os : Os) (started : os.Started) (H : Type) (enc : TypeId × Value → H) :
    ReturnsInHanded {} Try.checked os 3 .any (Rows.framesPlaysSpec.pre6 enc Try.prog Try.f3 Rows.framesPlaysRow.domain false) (Rows.framesPlaysSpec.post enc Try.prog Try.f3 false true false false) := by
  refine returnsInHanded_of_change (C := Try.checked) own started (by kernel_rfl) Try.func3
    (ChangeSpec.witness6 (enc := enc) (C := Try.checked) false ⟨#[], #[.int .i64 0, .slice none 0 0], []⟩ 8 (by kernel_rfl) (by kernel_rfl) (by kernel_rfl) (by kernel_rfl)) ?_
  intro W base args ds gs before hval0 hW hcnd _
  have hval : ∀ (j : Nat) t v, Try.f3.params[j]? = some t → args[j]? = some v → Value.okWide Try.prog W .any base t v := hval0
  have hW' := hW
  obtain ⟨p, q, hA0, hV, rfl, hfz, hnd⟩ := hW
  have hA : DataW.TrodAll enc Try.prog W 0 (fun _ => true) true Try.f3.params.toList args.toList ds p := hA0
  rw [Try.params3] at hA hval
  obtain ⟨v0, vs0, d0, ds0, p0, q0, hargs, rfl, rfl, h0, r0⟩ := trodAll_cons hA
  obtain ⟨v1, vs1, d1, ds1, p1, q1, rfl, rfl, rfl, h1, r1⟩ := trodAll_cons r0
  obtain ⟨rfl, rfl, rfl⟩ := trodAll_nil r1
  obtain rfl : args = #[v0, v1] := by cases args; simp_all
  obtain ⟨rfl, rfl⟩ := trodVars_none hV
  have o0 := hval 0 3 v0 rfl rfl
  have lt0 : ∀ x ∈ p0, x.block < W.heap.size := by obtain ⟨m, hm⟩ := h0; exact DataW.trod_lt m _ _ _ hm
  have o1 := hval 1 22 v1 rfl rfl
  have lt1 : ∀ x ∈ p1, x.block < W.heap.size := by obtain ⟨m, hm⟩ := h1; exact DataW.trod_lt m _ _ _ hm
  clear hA0 hval0
  refine (walk o0 o1 h0 h1).mono fun e W' ⟨he, bel⟩ => ?_
  subst he
  exact ⟨_, rfl, _, _, _, [], _, [], hW', trodAll_mk1 (shut_bool Try.underlying4 _), (trodAll_cons_mk (Below.trod laidOut (by kernel_rfl) (of_decide_eq_true (by kernel_rfl)) h0 bel lt0) (trodAll_cons_mk (Below.trod laidOut (by kernel_rfl) (of_decide_eq_true (by kernel_rfl)) h1 bel lt1) trodAll_mk0)), rfl, bel.frame _, fun h => by cases h⟩

theorem over : Rows.framesPlaysRow.holds Try.pinned (OpenSpec.ofChange Rows.framesPlaysSpec) :=
  OpenClaim.holds_of_wide 3 Try.f3 rfl rfl rfl rfl rfl rfl rfl ⟨rfl, rfl, rfl, rfl, rfl⟩ rfl rfl rfl rfl rfl (by kernel_rfl) Try.func3 (by kernel_rfl)
    (of_decide_eq_true (by kernel_rfl)) (by unfold Func.isWrapper; first | (rw [if_pos (by decide +kernel)]; kernel_rfl) | (rw [if_neg (by decide +kernel)]; exact ⟨rfl, rfl⟩))
    (fun os started H enc _ => lifted os started H enc)
end Go.Proofs.Ytngehhpaegljcaa.FramesPlays
namespace Go.Proofs.Ytngehhpaegljcaa
/-- The statement. -/
theorem framesPlays_holds : Rows.FramesPlaysSaid := FramesPlays.over
#print axioms framesPlays_holds
end Go.Proofs.Ytngehhpaegljcaa
