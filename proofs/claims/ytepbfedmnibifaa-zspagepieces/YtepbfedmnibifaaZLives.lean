/- Pieces that are compared, and the walk of the law's own 'lives': the chapter's example is answered as the chapter says. -/
import Derived.Test.YtepbfedmnibifaaZSeq
import Derived.Test.YtepbfedmnibifaaZRef
import Derived.Laws.StructEq
namespace Go.Proofs.Ytepbfedmnibifaa
open Go.RowKit

theorem Try.fields_pz : (Try.prog.fieldsOf 29).toList.map (fun f => (f.name, f.type, f.offset)) = [("Frame", 3, 0), ("At", 3, 1), ("Len", 3, 2)] := by kernel_rfl
theorem Try.und_pz : (match Try.prog.underlying 29 with | some (.struct _) => true | _ => false) = true := by kernel_rfl
theorem Try.stood_pz : Try.prog.stoodInHeld 29 = false := by kernel_rfl
theorem Try.same_pz (f a l : Int) (w : World) : (Op.equalIn 10000 29 (.agg #[.int .i64 f, .int .i64 a, .int .i64 l]) (.agg #[.int .i64 f, .int .i64 a, .int .i64 l])).run Try.prog w = .ok true w := by
  have hu : Try.prog.underlying 29 = some (.struct (Try.prog.fieldsOf 29)) := by
    have h := Try.und_pz
    unfold Program.fieldsOf
    split at h
    · rename_i e; rw [e]
    · cases h
  rw [run_equalIn_agg w 9999 _ _ _ hu Try.stood_pz]
  have hf := Try.fields_pz
  generalize (Try.prog.fieldsOf 29).toList = fs at hf
  rcases fs with _ | ⟨f0, _ | ⟨f1, _ | ⟨f2, _ | ⟨f3, r⟩⟩⟩⟩
  · simp at hf
  · simp at hf
  · simp at hf
  · simp only [List.map_cons, List.map_nil, List.cons.injEq, Prod.mk.injEq, and_true] at hf
    obtain ⟨⟨n0, t0, o0⟩, ⟨n1, t1, o1⟩, ⟨n2, t2, o2⟩⟩ := hf
    have hi : Try.prog.underlying 3 = some (.int .i64) := Try.underlying3
    have e0 := run_equalIn_int (P := Try.prog) w 9998 _ .i64 _ f f hi
    have e1 := run_equalIn_int (P := Try.prog) w 9998 _ .i64 _ a a hi
    have e2 := run_equalIn_int (P := Try.prog) w 9998 _ .i64 _ l l hi
    have p0 : (part 3 #[.int .i64 f, .int .i64 a, .int .i64 l] 0).run Try.prog w = .ok (.int .i64 f) w := by kernel_rfl
    have p1 : (part 3 #[.int .i64 f, .int .i64 a, .int .i64 l] 1).run Try.prog w = .ok (.int .i64 a) w := by kernel_rfl
    have p2 : (part 3 #[.int .i64 f, .int .i64 a, .int .i64 l] 2).run Try.prog w = .ok (.int .i64 l) w := by kernel_rfl
    simp [Op.eqFields, n0, t0, o0, n1, t1, o1, n2, t2, o2, p0, p1, p2, e0, e1, e2]
  · simp at hf
theorem Try.fields_pr : (Try.prog.fieldsOf 28).toList.map (fun f => (f.name, f.type, f.offset)) = [("Frame", 3, 0), ("At", 3, 1), ("Len", 3, 2)] := by kernel_rfl
theorem Try.und_pr : (match Try.prog.underlying 28 with | some (.struct _) => true | _ => false) = true := by kernel_rfl
theorem Try.stood_pr : Try.prog.stoodInHeld 28 = false := by kernel_rfl
theorem Try.same_pr (f a l : Int) (w : World) : (Op.equalIn 10000 28 (.agg #[.int .i64 f, .int .i64 a, .int .i64 l]) (.agg #[.int .i64 f, .int .i64 a, .int .i64 l])).run Try.prog w = .ok true w := by
  have hu : Try.prog.underlying 28 = some (.struct (Try.prog.fieldsOf 28)) := by
    have h := Try.und_pr
    unfold Program.fieldsOf
    split at h
    · rename_i e; rw [e]
    · cases h
  rw [run_equalIn_agg w 9999 _ _ _ hu Try.stood_pr]
  have hf := Try.fields_pr
  generalize (Try.prog.fieldsOf 28).toList = fs at hf
  rcases fs with _ | ⟨f0, _ | ⟨f1, _ | ⟨f2, _ | ⟨f3, r⟩⟩⟩⟩
  · simp at hf
  · simp at hf
  · simp at hf
  · simp only [List.map_cons, List.map_nil, List.cons.injEq, Prod.mk.injEq, and_true] at hf
    obtain ⟨⟨n0, t0, o0⟩, ⟨n1, t1, o1⟩, ⟨n2, t2, o2⟩⟩ := hf
    have hi : Try.prog.underlying 3 = some (.int .i64) := Try.underlying3
    have e0 := run_equalIn_int (P := Try.prog) w 9998 _ .i64 _ f f hi
    have e1 := run_equalIn_int (P := Try.prog) w 9998 _ .i64 _ a a hi
    have e2 := run_equalIn_int (P := Try.prog) w 9998 _ .i64 _ l l hi
    have p0 : (part 3 #[.int .i64 f, .int .i64 a, .int .i64 l] 0).run Try.prog w = .ok (.int .i64 f) w := by kernel_rfl
    have p1 : (part 3 #[.int .i64 f, .int .i64 a, .int .i64 l] 1).run Try.prog w = .ok (.int .i64 a) w := by kernel_rfl
    have p2 : (part 3 #[.int .i64 f, .int .i64 a, .int .i64 l] 2).run Try.prog w = .ok (.int .i64 l) w := by kernel_rfl
    simp [Op.eqFields, n0, t0, o0, n1, t1, o1, n2, t2, o2, p0, p1, p2, e0, e1, e2]
  · simp at hf
theorem Try.eqlPz (f a l : Int) (w : World) : (binOp .eql 29 (.agg #[.int .i64 f, .int .i64 a, .int .i64 l]) (.agg #[.int .i64 f, .int .i64 a, .int .i64 l])).run Try.prog w = .ok (.bool true) w := by
  rw [run_eql_struct, Try.same_pz]
  rfl
theorem Try.neqPr (f a l : Int) (w : World) : (binOp .neq 28 (.agg #[.int .i64 f, .int .i64 a, .int .i64 l]) (.agg #[.int .i64 f, .int .i64 a, .int .i64 l])).run Try.prog w = .ok (.bool false) w := by
  rw [run_neq_struct, Try.same_pr]
  rfl

set_option maxHeartbeats 1000000 in
theorem lives_any (w : World) : Calls Try.prog 6 #[] w fun e w' => e = .returned (.bool true) ∧ Below w.heap.size w w' := by
  have hz : Zae 3008 1 0 3008 3008 6016 := .inl ⟨⟨⟨by decide, by decide, by decide, by decide, by decide⟩, by decide, by decide, by decide⟩, by decide, by decide⟩
  have hp : pcsZ 3008 6016 = [⟨0, 3008, 1088⟩, ⟨1, 0, 1920⟩] := by rw [pcs_two (by decide)]; rfl
  have H : Hid _ := Pieces_any w (by decide) hz
  have q1 := Try.eqlPz 0 3008 1088
  have q2 := Try.eqlPz 1 0 1920
  clear hz
  go_enter Try.func6, Try.ntmps6
  go_wp2_with fail
  refine Calls.mono H.out ?_
  rintro r w1 ⟨v, rfl, own, hb⟩
  rw [hp] at own
  obtain ⟨av, cv, rfl⟩ := row_slice own
  obtain ⟨g, rfl, _, _, _, c0, c1, c2⟩ := rowZ_cells (T := [⟨0, 3008, 1088⟩, ⟨1, 0, 1920⟩]) (k := 0) own rfl
  obtain ⟨g', e, _, _, _, d0, d1, d2⟩ := rowZ_cells (T := [⟨0, 3008, 1088⟩, ⟨1, 0, 1920⟩]) (k := 1) own rfl
  cases e
  have c0' : w1.cell? ⟨g, 0, none⟩ = some (.int .i64 0) := c0
  have c1' : w1.cell? ⟨g, 1, none⟩ = some (.int .i64 3008) := c1
  have c2' : w1.cell? ⟨g, 2, none⟩ = some (.int .i64 1088) := c2
  have d0' : w1.cell? ⟨g, 3, none⟩ = some (.int .i64 1) := d0
  have d1' : w1.cell? ⟨g, 4, none⟩ = some (.int .i64 0) := d1
  have d2' : w1.cell? ⟨g, 5, none⟩ = some (.int .i64 1920) := d2
  have HB : Hid (Below w.heap.size w w1) := hb
  clear own hb hp c0 c1 c2 d0 d1 d2 H
  go_wp2
  go_ret
  exact ⟨rfl, HB.out⟩
end Go.Proofs.Ytepbfedmnibifaa
