/- A table of places in memory; places that are compared; the walks of May and the document's May. -/
import Derived.Test.YtlnkelhhemgibaaVPlain
import Derived.Test.YtlnkelhhemgibaaGRes
import Derived.Laws.StructEq
import Derived.Laws.Rows
import Derived.Deep.LoopGhost
namespace Go.Proofs.Ytlnkelhhemgibaa
open Go.RowKit

/-- A place's cells. -/
def Pl.cs (x : Pl) : List Value := [.int .i64 x.p, .int .i64 x.o, .int .i64 x.l]
theorem Try.fields_pl : (Try.prog.fieldsOf 28).toList.map (fun f => (f.name, f.type, f.offset)) = [("Page", 3, 0), ("Obj", 3, 1), ("Len", 3, 2)] := by kernel_rfl
theorem Try.und_pl : (match Try.prog.underlying 28 with | some (.struct _) => true | _ => false) = true := by kernel_rfl
theorem Try.stood_pl : Try.prog.stoodInHeld 28 = false := by kernel_rfl
theorem Try.same_pl (f a l g b m : Int) (w : World) : (Op.equalIn 10000 28 (.agg #[.int .i64 f, .int .i64 a, .int .i64 l]) (.agg #[.int .i64 g, .int .i64 b, .int .i64 m])).run Try.prog w = .ok (sameP ⟨f, a, l⟩ ⟨g, b, m⟩) w := by
  have hu : Try.prog.underlying 28 = some (.struct (Try.prog.fieldsOf 28)) := by
    have h := Try.und_pl
    unfold Program.fieldsOf
    split at h
    · rename_i e; rw [e]
    · cases h
  rw [run_equalIn_agg w 9999 _ _ _ hu Try.stood_pl]
  have hf := Try.fields_pl
  generalize (Try.prog.fieldsOf 28).toList = fs at hf
  rcases fs with _ | ⟨f0, _ | ⟨f1, _ | ⟨f2, _ | ⟨f3, r⟩⟩⟩⟩
  · simp at hf
  · simp at hf
  · simp at hf
  · simp only [List.map_cons, List.map_nil, List.cons.injEq, Prod.mk.injEq, and_true] at hf
    obtain ⟨⟨n0, t0, o0⟩, ⟨n1, t1, o1⟩, ⟨n2, t2, o2⟩⟩ := hf
    have hi : Try.prog.underlying 3 = some (.int .i64) := Try.underlying3
    have e0 := run_equalIn_int (P := Try.prog) w 9998 _ .i64 _ f g hi
    have e1 := run_equalIn_int (P := Try.prog) w 9998 _ .i64 _ a b hi
    have e2 := run_equalIn_int (P := Try.prog) w 9998 _ .i64 _ l m hi
    have p0 : (part 3 #[.int .i64 f, .int .i64 a, .int .i64 l] 0).run Try.prog w = .ok (.int .i64 f) w := by kernel_rfl
    have p1 : (part 3 #[.int .i64 f, .int .i64 a, .int .i64 l] 1).run Try.prog w = .ok (.int .i64 a) w := by kernel_rfl
    have p2 : (part 3 #[.int .i64 f, .int .i64 a, .int .i64 l] 2).run Try.prog w = .ok (.int .i64 l) w := by kernel_rfl
    have q0 : (part 3 #[.int .i64 g, .int .i64 b, .int .i64 m] 0).run Try.prog w = .ok (.int .i64 g) w := by kernel_rfl
    have q1 : (part 3 #[.int .i64 g, .int .i64 b, .int .i64 m] 1).run Try.prog w = .ok (.int .i64 b) w := by kernel_rfl
    have q2 : (part 3 #[.int .i64 g, .int .i64 b, .int .i64 m] 2).run Try.prog w = .ok (.int .i64 m) w := by kernel_rfl
    unfold sameP
    cases z0 : f == g
    · simp [Op.eqFields, n0, t0, o0, p0, q0, e0, z0]
    · cases z1 : a == b
      · simp [Op.eqFields, n0, t0, o0, n1, t1, o1, p0, p1, q0, q1, e0, e1, z0, z1]
      · cases z2 : l == m
        · simp [Op.eqFields, n0, t0, o0, n1, t1, o1, n2, t2, o2, p0, p1, p2, q0, q1, q2, e0, e1, e2, z0, z1, z2]
        · simp [Op.eqFields, n0, t0, o0, n1, t1, o1, n2, t2, o2, p0, p1, p2, q0, q1, q2, e0, e1, e2, z0, z1, z2]
  · simp at hf
theorem Try.eqlP (f a l g b m : Int) (w : World) : (binOp .eql 28 (.agg #[.int .i64 f, .int .i64 a, .int .i64 l]) (.agg #[.int .i64 g, .int .i64 b, .int .i64 m])).run Try.prog w = .ok (.bool (sameP ⟨f, a, l⟩ ⟨g, b, m⟩)) w := by
  rw [run_eql_struct, Try.same_pl]
  rfl
theorem Try.neqP (f a l g b m : Int) (w : World) : (binOp .neq 28 (.agg #[.int .i64 f, .int .i64 a, .int .i64 l]) (.agg #[.int .i64 g, .int .i64 b, .int .i64 m])).run Try.prog w = .ok (.bool (!sameP ⟨f, a, l⟩ ⟨g, b, m⟩)) w := by
  rw [run_neq_struct, Try.same_pl]
  rfl
theorem Try.fields_rp : (Try.prog.fieldsOf 44).toList.map (fun f => (f.name, f.type, f.offset)) = [("Page", 3, 0), ("Obj", 3, 1), ("Len", 3, 2)] := by kernel_rfl
theorem Try.und_rp : (match Try.prog.underlying 44 with | some (.struct _) => true | _ => false) = true := by kernel_rfl
theorem Try.stood_rp : Try.prog.stoodInHeld 44 = false := by kernel_rfl
theorem Try.same_rp (f a l g b m : Int) (w : World) : (Op.equalIn 10000 44 (.agg #[.int .i64 f, .int .i64 a, .int .i64 l]) (.agg #[.int .i64 g, .int .i64 b, .int .i64 m])).run Try.prog w = .ok (sameP ⟨f, a, l⟩ ⟨g, b, m⟩) w := by
  have hu : Try.prog.underlying 44 = some (.struct (Try.prog.fieldsOf 44)) := by
    have h := Try.und_rp
    unfold Program.fieldsOf
    split at h
    · rename_i e; rw [e]
    · cases h
  rw [run_equalIn_agg w 9999 _ _ _ hu Try.stood_rp]
  have hf := Try.fields_rp
  generalize (Try.prog.fieldsOf 44).toList = fs at hf
  rcases fs with _ | ⟨f0, _ | ⟨f1, _ | ⟨f2, _ | ⟨f3, r⟩⟩⟩⟩
  · simp at hf
  · simp at hf
  · simp at hf
  · simp only [List.map_cons, List.map_nil, List.cons.injEq, Prod.mk.injEq, and_true] at hf
    obtain ⟨⟨n0, t0, o0⟩, ⟨n1, t1, o1⟩, ⟨n2, t2, o2⟩⟩ := hf
    have hi : Try.prog.underlying 3 = some (.int .i64) := Try.underlying3
    have e0 := run_equalIn_int (P := Try.prog) w 9998 _ .i64 _ f g hi
    have e1 := run_equalIn_int (P := Try.prog) w 9998 _ .i64 _ a b hi
    have e2 := run_equalIn_int (P := Try.prog) w 9998 _ .i64 _ l m hi
    have p0 : (part 3 #[.int .i64 f, .int .i64 a, .int .i64 l] 0).run Try.prog w = .ok (.int .i64 f) w := by kernel_rfl
    have p1 : (part 3 #[.int .i64 f, .int .i64 a, .int .i64 l] 1).run Try.prog w = .ok (.int .i64 a) w := by kernel_rfl
    have p2 : (part 3 #[.int .i64 f, .int .i64 a, .int .i64 l] 2).run Try.prog w = .ok (.int .i64 l) w := by kernel_rfl
    have q0 : (part 3 #[.int .i64 g, .int .i64 b, .int .i64 m] 0).run Try.prog w = .ok (.int .i64 g) w := by kernel_rfl
    have q1 : (part 3 #[.int .i64 g, .int .i64 b, .int .i64 m] 1).run Try.prog w = .ok (.int .i64 b) w := by kernel_rfl
    have q2 : (part 3 #[.int .i64 g, .int .i64 b, .int .i64 m] 2).run Try.prog w = .ok (.int .i64 m) w := by kernel_rfl
    unfold sameP
    cases z0 : f == g
    · simp [Op.eqFields, n0, t0, o0, p0, q0, e0, z0]
    · cases z1 : a == b
      · simp [Op.eqFields, n0, t0, o0, n1, t1, o1, p0, p1, q0, q1, e0, e1, z0, z1]
      · cases z2 : l == m
        · simp [Op.eqFields, n0, t0, o0, n1, t1, o1, n2, t2, o2, p0, p1, p2, q0, q1, q2, e0, e1, e2, z0, z1, z2]
        · simp [Op.eqFields, n0, t0, o0, n1, t1, o1, n2, t2, o2, p0, p1, p2, q0, q1, q2, e0, e1, e2, z0, z1, z2]
  · simp at hf
theorem Try.eqlR (f a l g b m : Int) (w : World) : (binOp .eql 44 (.agg #[.int .i64 f, .int .i64 a, .int .i64 l]) (.agg #[.int .i64 g, .int .i64 b, .int .i64 m])).run Try.prog w = .ok (.bool (sameP ⟨f, a, l⟩ ⟨g, b, m⟩)) w := by
  rw [run_eql_struct, Try.same_rp]
  rfl

/-- The cells of a table. -/
structure CellsT (cs : Array Value) (T : Int → Pl) : Prop where
  size : cs.size = 1539
  at_ : ∀ i : Nat, i < 513 → cs[i * 3]? = some (.int .i64 (T i).p) ∧ cs[i * 3 + 1]? = some (.int .i64 (T i).o) ∧ cs[i * 3 + 2]? = some (.int .i64 (T i).l)
theorem CellsT.set {cs : Array Value} {T : Int → Pl} (h : CellsT cs T) {n : Nat} (x : Pl) (hn : n < 513) :
    CellsT (((cs.setIfInBounds (n * 3) (.int .i64 x.p)).setIfInBounds (n * 3 + 1) (.int .i64 x.o)).setIfInBounds (n * 3 + 2) (.int .i64 x.l)) (putT T n x) := by
  have hs := h.size
  refine ⟨by simpa using hs, fun i hi => ?_⟩
  by_cases e : i = n
  · subst e
    rw [putT_same]
    refine ⟨?_, ?_, ?_⟩
    · rw [Array.getElem?_setIfInBounds_ne (by omega), Array.getElem?_setIfInBounds_ne (by omega), Array.getElem?_setIfInBounds_self_of_lt (by omega)]
    · rw [Array.getElem?_setIfInBounds_ne (by omega), Array.getElem?_setIfInBounds_self_of_lt (by simp; omega)]
    · rw [Array.getElem?_setIfInBounds_self_of_lt (by simp; omega)]
  · rw [putT_other x (by omega)]
    obtain ⟨h0, h1, h2⟩ := h.at_ i hi
    refine ⟨?_, ?_, ?_⟩
    · rw [Array.getElem?_setIfInBounds_ne (by omega), Array.getElem?_setIfInBounds_ne (by omega), Array.getElem?_setIfInBounds_ne (by omega)]; exact h0
    · rw [Array.getElem?_setIfInBounds_ne (by omega), Array.getElem?_setIfInBounds_ne (by omega), Array.getElem?_setIfInBounds_ne (by omega)]; exact h1
    · rw [Array.getElem?_setIfInBounds_ne (by omega), Array.getElem?_setIfInBounds_ne (by omega), Array.getElem?_setIfInBounds_ne (by omega)]; exact h2
/-- A table in block t. -/
structure TabAt (w : World) (t : Nat) (T : Int → Pl) : Prop where
  head : ∃ cs, w.heap[t]? = some (.cells cs 55 (0, 0)) ∧ CellsT cs T
  ok : TOk T
section
variable {w w' : World} {t : Nat} {T : Int → Pl}
theorem TabAt.lt (h : TabAt w t T) : t < w.heap.size := by obtain ⟨cs, h1, _⟩ := h.head; exact (Array.getElem?_eq_some_iff.1 h1).1
theorem TabAt.kept (h : TabAt w t T) (hk : w'.heap[t]? = w.heap[t]?) : TabAt w' t T := by obtain ⟨cs, h1, h2⟩ := h.head; exact ⟨⟨cs, hk.trans h1, h2⟩, h.ok⟩
theorem TabAt.below {B : Nat} (h : TabAt w t T) (hb : Below B w w') (ht : t < B) : TabAt w' t T := h.kept (hb.block t ht)
theorem TabAt.later (h : TabAt w t T) (hb : Below w.heap.size w w') : TabAt w' t T := h.below hb h.lt
theorem TabAt.cell (h : TabAt w t T) {n : Nat} (hn : n < 513) : w.cell? ⟨t, n * 3, none⟩ = some (.int .i64 (T n).p) ∧ w.cell? ⟨t, n * 3 + 1, none⟩ = some (.int .i64 (T n).o) ∧ w.cell? ⟨t, n * 3 + 2, none⟩ = some (.int .i64 (T n).l) := by
  obtain ⟨cs, h1, h2⟩ := h.head
  obtain ⟨h3, h4, h5⟩ := h2.at_ n hn
  exact ⟨(cell_of_row w t _ _ _ _ h1).trans h3, (cell_of_row w t _ _ _ _ h1).trans h4, (cell_of_row w t _ _ _ _ h1).trans h5⟩
theorem TabAt.frozen (h : TabAt w t T) (n : Nat) : w.frozen? ⟨t, n, none⟩ = false := by
  obtain ⟨cs, h1, _⟩ := h.head
  exact frozen_of_row w t n _ _ h1
theorem TabAt.set (h : TabAt w t T) {n : Nat} {x : Pl} (hn : 1 ≤ n ∧ n ≤ 512) (hx : x = zP ∨ mayP x = true) :
    TabAt (((w.setCell ⟨t, n * 3, none⟩ (.int .i64 x.p)).setCell ⟨t, n * 3 + 1, none⟩ (.int .i64 x.o)).setCell ⟨t, n * 3 + 2, none⟩ (.int .i64 x.l)) t (putT T n x) := by
  obtain ⟨cs, h1, h2⟩ := h.head
  exact ⟨⟨_, heap_setCell_same _ t _ _ _ _ (heap_setCell_same _ t _ _ _ _ (heap_setCell_same w t _ _ _ _ h1)), h2.set x (by omega)⟩, h.ok.put (by omega) hx⟩
theorem tab_turns (x : Pl) (n : Nat) (w : World) (t : Nat) : Turns t (t + 1) w (((w.setCell ⟨t, n * 3, none⟩ (.int .i64 x.p)).setCell ⟨t, n * 3 + 1, none⟩ (.int .i64 x.o)).setCell ⟨t, n * 3 + 2, none⟩ (.int .i64 x.l)) :=
  (((Turns.refl t (t + 1) w).setCell (p := ⟨t, n * 3, none⟩) (by show t ≤ t; omega) (by show t < t + 1; omega) _).setCell (p := ⟨t, n * 3 + 1, none⟩) (by show t ≤ t; omega) (by show t < t + 1; omega) _).setCell (p := ⟨t, n * 3 + 2, none⟩) (by show t ≤ t; omega) (by show t < t + 1; omega) _
end
/-- A table, or none. -/
def TabP (w : World) (v : Value) (T : Int → Pl) : Prop := (v = .pointer none ∧ T = noT) ∨ ∃ t : Nat, v = .pointer (some ⟨t, 0, none⟩) ∧ TabAt w t T
theorem TabP.later {w w' : World} {v : Value} {T : Int → Pl} (h : TabP w v T) (hb : Below w.heap.size w w') : TabP w' v T := by
  rcases h with h | ⟨t, h1, h2⟩
  · exact .inl h
  · exact .inr ⟨t, h1, h2.later hb⟩
theorem TabP.ok {w : World} {v : Value} {T : Int → Pl} (h : TabP w v T) : TOk T := by
  rcases h with ⟨_, rfl⟩ | ⟨t, _, h2⟩
  · exact noT_ok
  · exact h2.ok
theorem tabP_nil (w : World) : TabP w (.pointer none) noT := .inl ⟨rfl, rfl⟩
theorem TabAt.p {w : World} {t : Nat} {T : Int → Pl} (h : TabAt w t T) : TabP w (.pointer (some ⟨t, 0, none⟩)) T := .inr ⟨t, rfl, h⟩

set_option maxHeartbeats 400000 in
theorem may_any (p o l : Int) (w : World) :
    Calls Try.prog 15 #[.agg #[.int .i64 p, .int .i64 o, .int .i64 l]] w fun e w' => e = .returned (.bool (mayP ⟨p, o, l⟩)) ∧ Below w.heap.size w w' := by
  have HB : Hid (Below w.heap.size w (w.alloc (.cells #[.int .i64 p, .int .i64 o, .int .i64 l] 28))) := (Below.refl _ w).alloc (Nat.le_refl _) _
  by_cases h0 : 0 ≤ p
  · by_cases h1 : p < 4096
    · by_cases h2 : 0 ≤ o
      · by_cases h3 : o < 256
        · by_cases h4 : 1 ≤ l
          · by_cases h5 : l ≤ 4096
            · have E : Hid (mayP ⟨p, o, l⟩ = true) := mayP_iff.2 (by simp only; omega)
              go_enter Try.func15, Try.ntmps15
              go_wp2
              go_ret
              exact ⟨retBool E.out.symm, HB.out⟩
            · have E : Hid (mayP ⟨p, o, l⟩ = false) := mayP_not (by simp only; omega)
              go_enter Try.func15, Try.ntmps15
              go_wp2
              go_ret
              exact ⟨retBool E.out.symm, HB.out⟩
          · have E : Hid (mayP ⟨p, o, l⟩ = false) := mayP_not (by simp only; omega)
            go_enter Try.func15, Try.ntmps15
            go_wp2
            go_ret
            exact ⟨retBool E.out.symm, HB.out⟩
        · have E : Hid (mayP ⟨p, o, l⟩ = false) := mayP_not (by simp only; omega)
          go_enter Try.func15, Try.ntmps15
          go_wp2
          go_ret
          exact ⟨retBool E.out.symm, HB.out⟩
      · have E : Hid (mayP ⟨p, o, l⟩ = false) := mayP_not (by simp only; omega)
        go_enter Try.func15, Try.ntmps15
        go_wp2
        go_ret
        exact ⟨retBool E.out.symm, HB.out⟩
    · have E : Hid (mayP ⟨p, o, l⟩ = false) := mayP_not (by simp only; omega)
      go_enter Try.func15, Try.ntmps15
      go_wp2
      go_ret
      exact ⟨retBool E.out.symm, HB.out⟩
  · have E : Hid (mayP ⟨p, o, l⟩ = false) := mayP_not (by simp only; omega)
    go_enter Try.func15, Try.ntmps15
    go_wp2
    go_ret
    exact ⟨retBool E.out.symm, HB.out⟩
set_option maxHeartbeats 400000 in
theorem refMay_any (p o l : Int) (w : World) :
    Calls Try.prog 16 #[.agg #[.int .i64 p, .int .i64 o, .int .i64 l]] w fun e w' => e = .returned (.bool (mayP ⟨p, o, l⟩)) ∧ Below w.heap.size w w' := by
  have HB : Hid (Below w.heap.size w (w.alloc (.cells #[.int .i64 p, .int .i64 o, .int .i64 l] 44))) := (Below.refl _ w).alloc (Nat.le_refl _) _
  by_cases h0 : 0 ≤ p
  · by_cases h1 : p ≤ 4095
    · by_cases h2 : 0 ≤ o
      · by_cases h3 : o ≤ 255
        · by_cases h4 : 1 ≤ l
          · by_cases h5 : l ≤ 4096
            · have E : Hid (mayP ⟨p, o, l⟩ = true) := mayP_iff.2 (by simp only; omega)
              go_enter Try.func16, Try.ntmps16
              go_wp2
              go_ret
              exact ⟨retBool E.out.symm, HB.out⟩
            · have E : Hid (mayP ⟨p, o, l⟩ = false) := mayP_not (by simp only; omega)
              go_enter Try.func16, Try.ntmps16
              go_wp2
              go_ret
              exact ⟨retBool E.out.symm, HB.out⟩
          · have E : Hid (mayP ⟨p, o, l⟩ = false) := mayP_not (by simp only; omega)
            go_enter Try.func16, Try.ntmps16
            go_wp2
            go_ret
            exact ⟨retBool E.out.symm, HB.out⟩
        · have E : Hid (mayP ⟨p, o, l⟩ = false) := mayP_not (by simp only; omega)
          go_enter Try.func16, Try.ntmps16
          go_wp2
          go_ret
          exact ⟨retBool E.out.symm, HB.out⟩
      · have E : Hid (mayP ⟨p, o, l⟩ = false) := mayP_not (by simp only; omega)
        go_enter Try.func16, Try.ntmps16
        go_wp2
        go_ret
        exact ⟨retBool E.out.symm, HB.out⟩
    · have E : Hid (mayP ⟨p, o, l⟩ = false) := mayP_not (by simp only; omega)
      go_enter Try.func16, Try.ntmps16
      go_wp2
      go_ret
      exact ⟨retBool E.out.symm, HB.out⟩
  · have E : Hid (mayP ⟨p, o, l⟩ = false) := mayP_not (by simp only; omega)
    go_enter Try.func16, Try.ntmps16
    go_wp2
    go_ret
    exact ⟨retBool E.out.symm, HB.out⟩
theorem may_is {p o l : Int} {b : Bool} (w : World) (hb : mayP ⟨p, o, l⟩ = b) :
    Calls Try.prog 15 #[.agg #[.int .i64 p, .int .i64 o, .int .i64 l]] w fun e w' => e = .returned (.bool b) ∧ Below w.heap.size w w' := by subst hb; exact may_any p o l w
theorem refMay_is {p o l : Int} {b : Bool} (w : World) (hb : mayP ⟨p, o, l⟩ = b) :
    Calls Try.prog 16 #[.agg #[.int .i64 p, .int .i64 o, .int .i64 l]] w fun e w' => e = .returned (.bool b) ∧ Below w.heap.size w w' := by subst hb; exact refMay_any p o l w
end Go.Proofs.Ytlnkelhhemgibaa
