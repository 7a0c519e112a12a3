/- The walks of the document's Form and Back (layer 14). -/
import Derived.Test.YtgninhecclinaaaOPlain
import Derived.Test.YtgninhecclinaaaERef
import Derived.Test.YtgninhecclinaaaQRef
import Derived.Test.YtgninhecclinaaaKTk
namespace Go.Proofs.Ytgninhecclinaaa
open Go.RowKit

theorem refOf_is {p : Option Addr} {L c n : Nat} {b : List Nat} {t : Bool} (w : World) (h : ByAt w p L c b) (hn : ofN b = n) (ht : oneB b = t) :
    Calls Try.prog 22 #[.slice p L c] w fun e w' => e = .returned (.tuple #[.int .u64 (n : Nat), .bool t]) ∧ ∃ m, w' = w.drewN m := by
  subst hn ht
  exact refOf_any w h
set_option maxHeartbeats 1000000 in
theorem refForm_any {p : Option Addr} {L c f m : Nat} {b : List Nat} (w : World) (h : ByAt w p L c b) (hf : formN b = f) (hm : (pkL b).length = m) :
    Calls Try.prog 11 #[.slice p L c, .int .i64 (m : Nat)] w fun e w' => e = .returned (.int .i64 (f : Nat)) ∧ ∃ m, w' = w.drewN m := by
  have hl := h.len
  by_cases hp : L = 4096
  · subst hp
    have H : Hid (ByAt w p 4096 c b) := h
    cases ho : oneB b with
    | true =>
      obtain ⟨h1, _, _⟩ := form_one hl ho
      have HO : Hid (oneB b = true) := ho
      rw [h1] at hf
      subst hf
      obtain ⟨n, hn⟩ : ∃ n, ofN b = n := ⟨_, rfl⟩
      have HN : Hid (ofN b = n) := hn
      clear h h1 hl ho hm hn
      go_enter Try.func11, Try.ntmps11
      go_wp2_with fail
      refine (refOf_is w H.out HN.out HO.out).mono ?_
      rintro e w' ⟨rfl, z, rfl⟩
      go_wp2
      go_ret
      exact ⟨rfl, z, rfl⟩
    | false =>
      have HO : Hid (oneB b = false) := ho
      have HN : Hid (ofN b = 0) := ofN_no ho
      by_cases hp : (pkL b).length ≤ 3072
      · obtain ⟨h1, _, _⟩ := form_pack hl ho hp
        rw [h1] at hf
        subst hf
        have i1 : (m : Int) ≤ 3072 := by omega
        clear h h1 hl ho hm hp
        go_enter Try.func11, Try.ntmps11
        go_wp2_with fail
        refine (refOf_is w H.out HN.out HO.out).mono ?_
        rintro e w' ⟨rfl, z, rfl⟩
        go_wp2
        go_ret
        exact ⟨rfl, z, rfl⟩
      · obtain ⟨h1, _, _⟩ := form_raw hl ho hp
        rw [h1] at hf
        subst hf
        have i1 : ¬ (m : Int) ≤ 3072 := by omega
        clear h h1 hl ho hm hp
        go_enter Try.func11, Try.ntmps11
        go_wp2_with fail
        refine (refOf_is w H.out HN.out HO.out).mono ?_
        rintro e w' ⟨rfl, z, rfl⟩
        go_wp2
        go_ret
        exact ⟨rfl, z, rfl⟩
  · obtain ⟨h1, _, _⟩ := form_none (b := b) (by omega)
    rw [h1] at hf
    subst hf
    have h6 : ((L : Int) != 4096) = true := by rw [bne_iff_ne]; omega
    clear h h1 hl hm
    go_enter Try.func11, Try.ntmps11
    go_wp2
    go_ret
    exact ⟨rfl, 0, rfl⟩

set_option maxHeartbeats 1000000 in
theorem refBack_any {p : Option Addr} {L c x : Nat} {b q : List Nat} (f : Int) (w : World) (h : ByAt w p L c b) (hL : L ≤ 100000) (he : backE f b = x) (hq : backQ f b = q) :
    Calls Try.prog 15 #[.int .i64 f, .slice p L c] w fun e w' => ∃ v, e = .returned (.tuple #[v, .int .i64 (x : Nat)]) ∧ w'.ownsRow w.heap.size 5 1 v q.length (bv q) ∧ Below w.heap.size w w' := by
  obtain ⟨i0, hi, hz0, hz1, hz2⟩ := info_parts Try.info5
  have hl := h.len
  have HP : Hid (∀ w', Below w.heap.size w w' → ByAt w' p L c b) := fun w' hw => h.later hw
  by_cases f1 : f = 1
  · subst f1
    by_cases h8 : L = 8
    · subst h8
      obtain ⟨h1, h2⟩ := back_one hl
      rw [h1] at he
      rw [h2] at hq
      subst he hq
      have HL : Hid ((pageN (getTo b 0 8)).length = 4096) := pageN_len _
      have HC : Hid _ := refGet_any p 8 c 0 8 (0 : Int) (8 : Int) rfl rfl b w h.short h.len (nums_src h.src) h.byte (by omega) (by omega)
      have hn : getTo b 0 8 < 18446744073709551616 := getTo_lt (a := 0) (k := 8) h.byte
      generalize getTo b 0 8 = n at *
      clear h h1 h2 hl
      go_enter Try.func15, Try.ntmps15
      go_wp2_with fail
      refine Calls.mono HC.out ?_
      rintro e w' ⟨rfl, rfl⟩
      go_wp2_with fail
      refine (refPage_any n _ rfl hn w).mono ?_
      rintro e w1 ⟨g, rfl, own1, b1⟩
      have HO1 : Hid (w1.ownsRow w.heap.size 5 1 (.slice (some ⟨g, 0, none⟩) 4096 4096) 4096 (bv (pageN n))) := own1
      have HB1 : Hid (Below w.heap.size w w1) := b1
      clear own1 b1
      go_wp2
      go_ret2
      rw [HL.out]
      exact ⟨_, rfl, HO1.out, HB1.out⟩
    · obtain ⟨h1, h2⟩ := back_one_no (k := b) (by omega)
      rw [h1] at he
      rw [h2] at hq
      subst he hq
      have h6 : ((L : Int) != 8) = true := by rw [bne_iff_ne]; omega
      clear h h1 h2 hl
      go_enter Try.func15, Try.ntmps15
      go_wp2
      go_ret2
      exact ⟨_, rfl, World.ownsRow_nil _ _ _ _, Below.refl _ _⟩
  by_cases f2 : f = 2
  · subst f2
    by_cases h4 : 3072 < L
    · obtain ⟨h1, h2⟩ := back_pack_no (k := b) (by omega)
      rw [h1] at he
      rw [h2] at hq
      subst he hq
      have i1 : (3072 : Int) < (L : Int) := by omega
      clear h h1 h2 hl f1
      go_enter Try.func15, Try.ntmps15
      go_wp2
      go_ret2
      exact ⟨_, rfl, World.ownsRow_nil _ _ _ _, Below.refl _ _⟩
    · obtain ⟨h1, h2⟩ := back_pack (k := b) (by omega)
      rw [h1] at he
      rw [h2] at hq
      have HC : Hid _ := refUnpack_any w h hL
      generalize unpA b = U at *
      subst he hq
      have i1 : ¬ (3072 : Int) < (L : Int) := by omega
      clear h h1 h2 hl f1
      go_enter Try.func15, Try.ntmps15
      go_wp2_with fail
      refine Calls.mono HC.out ?_
      rintro e w1 ⟨v1, rfl, own1, b1⟩
      have HO1 : Hid (w1.ownsRow w.heap.size 5 1 v1 U.q.length (bv U.q)) := own1
      have HB1 : Hid (Below w.heap.size w w1) := b1
      clear own1 b1
      go_wp2
      go_ret2
      exact ⟨_, rfl, HO1.out, HB1.out⟩
  by_cases f3 : f = 3
  · subst f3
    by_cases h4 : L = 4096
    · subst h4
      obtain ⟨h1, h2⟩ := back_raw hl
      rw [h1] at he
      rw [h2] at hq
      subst he hq
      have HL : Hid (b.length = 4096) := hl
      have hba : Below w.heap.size w (w.alloc (.cells #[] 5)) := (Below.refl _ _).alloc (Nat.le_refl _) _
      have HS : Hid (SrcAt (w.alloc (.cells #[] 5)) (.slice p 4096 c) 4096 1 (bv b)) := (HP.out _ hba).src
      have HL0 : Hid ((w.alloc (.cells #[] 5)).ownsRow w.heap.size 5 1 (.slice (some ⟨w.heap.size, 0, none⟩) 0 0) 0 (bv [])) := own_lit w w.heap.size w.heap.size 0 [] #[] rfl (Nat.le_refl _) rfl (by unfold maxLen; omega) rfl
      clear h h1 h2 hl f1 f2 hba
      go_enter Try.func15, Try.ntmps15
      go_wp2_with (at_builtin; refine wpList_append_src rfl _ _ 23 rfl w.heap.size 5 i0 (.int .u8 0) 1 1 Try.underlying23 hi hz0 hz1 hz2 rfl (by decide) _ 0 (bv []) rfl HL0.out _ 4096 (bv b) rfl HS.out (bv_one _) ?y1 ?y2 ?y3 ?_)
      case y1 => unfold maxLen; omega
      case y2 => omega
      case y3 => simp
      intro v1 w1 own1 gr1
      have e1 : bv [] ++ bv b = bv b := rfl
      rw [e1] at own1
      have HO1 : Hid (w1.ownsRow w.heap.size 5 1 v1 4096 (bv b)) := own1
      have HB1 : Hid (Below w.heap.size w w1) := ((Below.refl _ w).alloc (Nat.le_refl _) _).grown gr1 (by simp) (fun j hj => by
        have e : w.heap.size = j := by simpa [Value.ownBlock] using hj
        omega)
      clear own1 gr1 e1
      go_wp2
      go_ret2
      rw [HL.out]
      exact ⟨_, rfl, HO1.out, HB1.out⟩
    · obtain ⟨h1, h2⟩ := back_raw_no (k := b) (by omega)
      rw [h1] at he
      rw [h2] at hq
      subst he hq
      have h6 : ((L : Int) != 4096) = true := by rw [bne_iff_ne]; omega
      clear h h1 h2 hl f1 f2
      go_enter Try.func15, Try.ntmps15
      go_wp2
      go_ret2
      exact ⟨_, rfl, World.ownsRow_nil _ _ _ _, Below.refl _ _⟩
  obtain ⟨h1, h2⟩ := back_no (k := b) f1 f2 f3
  rw [h1] at he
  rw [h2] at hq
  subst he hq
  have g1 : (f == 1) = false := by rw [beq_eq_false_iff_ne]; exact f1
  have g2 : (f == 2) = false := by rw [beq_eq_false_iff_ne]; exact f2
  have g3 : (f == 3) = false := by rw [beq_eq_false_iff_ne]; exact f3
  clear h h1 h2 hl
  go_enter Try.func15, Try.ntmps15
  go_wp2
  go_ret2
  exact ⟨_, rfl, World.ownsRow_nil _ _ _ _, Below.refl _ _⟩
end Go.Proofs.Ytgninhecclinaaa
