/- The walks of the law's keys, over lists that lie in memory, and of lives. -/
import Derived.Test.YtkghedllkigecaaRRef
import Derived.Laws.StructEq
namespace Go.Proofs.Ytkghedllkigecaa
open Go.RowKit

/-- A list that lies in memory, read through a slice value. -/
def KAt (w : World) (a : Option Addr) (l : List KV) : Prop :=
  l = [] ∨ ∃ b off, a = some ⟨b, off, none⟩ ∧ ∀ i, i < l.length → w.cell? ⟨b, off + i * 2, none⟩ = some (.int .i64 (l.getD i (0, 0)).1) ∧ w.cell? ⟨b, off + i * 2 + 1, none⟩ = some (.int .u64 (l.getD i (0, 0)).2)
theorem KAt.of_row {w : World} {C c : Nat} {a : Option Addr} {l : List KV} (h : w.ownsRow C 47 2 (.slice a l.length c) l.length (kvv l)) : KAt w a l := by
  by_cases e : l = []
  · exact .inl e
  · right
    obtain ⟨g, rfl, _⟩ := row_at2 h (i := 0) (by have := List.length_pos_iff.2 e; omega)
    refine ⟨g, 0, rfl, fun i hi => ?_⟩
    obtain ⟨g', e', h1, h2, _⟩ := row_at2 h hi
    cases e'
    rw [(kvv_at l i hi).1] at h1
    rw [(kvv_at l i hi).2] at h2
    rw [show 0 + i * 2 = i * 2 by omega]
    exact ⟨h1, h2⟩
theorem KAt.drewN {w : World} {a : Option Addr} {l : List KV} (h : KAt w a l) (m : Nat) : KAt (w.drewN m) a l := h
def tailAddr (a : Option Addr) (c n : Nat) : Option Addr :=
  match a with
  | none => none
  | some d => if c = n then some d else some (d.add (n * 2))
/-- The list from a place on, as a slice of it. -/
theorem KAt.drop {w : World} {C c n : Nat} {a : Option Addr} {l : List KV} (h : w.ownsRow C 47 2 (.slice a l.length c) l.length (kvv l)) (hn : n ≤ l.length) :
    KAt w (tailAddr a c n) (l.drop n) := by
  by_cases e : n < l.length
  · right
    obtain ⟨g, rfl, _⟩ := row_at2 h e
    have hc := (row_cap h).1
    refine ⟨g, n * 2, by simp only [tailAddr]; rw [if_neg (by omega), Addr.add_lit]; simp, fun i hi => ?_⟩
    rw [List.length_drop] at hi
    obtain ⟨g', e', h1, h2, _⟩ := row_at2 h (i := n + i) (by omega)
    cases e'
    rw [(kvv_at l (n + i) (by omega)).1] at h1
    rw [(kvv_at l (n + i) (by omega)).2] at h2
    have eg : (l.drop n).getD i (0, 0) = l.getD (n + i) (0, 0) := by simp [List.getD]
    rw [eg, show n * 2 + i * 2 = (n + i) * 2 by omega]
    exact ⟨h1, h2⟩
  · left
    exact List.drop_of_length_le (by omega)
theorem KAt.take {w : World} {a : Option Addr} {l : List KV} (h : KAt w a l) (n : Nat) : KAt w a (l.take n) := by
  rcases h with rfl | ⟨b, off, e, h⟩
  · exact .inl (by simp)
  · refine .inr ⟨b, off, e, fun i hi => ?_⟩
    rw [List.length_take] at hi
    have eg : (l.take n).getD i (0, 0) = l.getD i (0, 0) := by simp [List.getD, show i < n by omega]
    rw [eg]
    exact h i (by omega)

theorem Try.fieldsK : (Try.prog.fieldsOf 47).toList.map (fun f => (f.name, f.type, f.offset)) = [("Key", 3, 0), ("V", 27, 1)] := by kernel_rfl
theorem Try.part0 (q r : Int) (w : World) : (part 3 #[.int .i64 q, .int .u64 r] 0).run Try.prog w = .ok (.int .i64 q) w := by kernel_rfl
theorem Try.part1 (q r : Int) (w : World) : (part 27 #[.int .i64 q, .int .u64 r] 1).run Try.prog w = .ok (.int .u64 r) w := by kernel_rfl
theorem Try.unI : Try.prog.underlying 3 = some (.int .i64) := by kernel_rfl
theorem Try.unU : Try.prog.underlying 27 = some (.int .u64) := by kernel_rfl
theorem Try.unK : (match Try.prog.underlying 47 with | some (.struct _) => true | _ => false) = true := by kernel_rfl
theorem Try.stK : Try.prog.stoodInHeld 47 = false := by kernel_rfl
theorem Try.neqK (q r : Int) (w : World) : (binOp .neq 47 (.agg #[.int .i64 q, .int .u64 r]) (.agg #[.int .i64 q, .int .u64 r])).run Try.prog w = .ok (.bool false) w := by
  have hu : Try.prog.underlying 47 = some (.struct (Try.prog.fieldsOf 47)) := by
    have h := Try.unK
    unfold Program.fieldsOf
    split at h
    · rename_i e; rw [e]
    · cases h
  rw [run_neq_struct, run_equalIn_agg w 9999 _ _ _ hu Try.stK]
  have hf := Try.fieldsK
  generalize (Try.prog.fieldsOf 47).toList = fs at hf
  rcases fs with _ | ⟨f0, _ | ⟨f1, _ | ⟨f2, r⟩⟩⟩
  · simp at hf
  · simp at hf
  · simp only [List.map_cons, List.map_nil, List.cons.injEq, Prod.mk.injEq, and_true] at hf
    obtain ⟨⟨n0, t0, o0⟩, ⟨n1, t1, o1⟩⟩ := hf
    have e0 := run_equalIn_int (P := Try.prog) w 9998 _ .i64 _ q q Try.unI
    have e1 := run_equalIn_int (P := Try.prog) w 9998 _ .u64 _ r r Try.unU
    simp [Op.eqFields, n0, t0, o0, n1, t1, o1, Try.part0, Try.part1, e0, e1]
  · simp at hf
set_option maxHeartbeats 1000000 in
theorem keys_any {a a2 : Option Addr} {c c2 : Nat} {l : List KV} (w : World) (h : KAt w a l) (h2 : KAt w a2 l) (hl : l.length ≤ 65536) :
    Calls Try.prog 18 #[.slice a l.length c, .slice a2 l.length c2] w fun e w' => e = .returned (.bool true) ∧ ∃ m, w' = w.drewN m := by
  have H : Hid (KAt w a l) := h
  have H2 : Hid (KAt w a2 l) := h2
  clear h h2
  go_enter Try.func18, Try.ntmps18
  go_wp2
  go_loopw [5] (fun i wr => ∃ k m : Nat, k ≤ l.length ∧ i = .int .i64 k ∧ wr = w.drewN m) (fun i _ => l.length - (intOf i).toNat)
  case atStart => exact ⟨0, 0, Nat.zero_le _, rfl, rfl⟩
  case round =>
    obtain ⟨k, m, hk, rfl, rfl⟩ := hrel
    by_cases hlt : k < l.length
    · have hne : l ≠ [] := by rintro rfl; simp at hlt
      obtain ⟨b, off, rfl, hc⟩ := H.out.resolve_left hne
      obtain ⟨b2, off2, rfl, hc2⟩ := H2.out.resolve_left hne
      obtain ⟨x1, x2⟩ := hc k hlt
      obtain ⟨y1, y2⟩ := hc2 k hlt
      generalize (l.getD k (0, 0)).1 = q at *
      generalize (l.getD k (0, 0)).2 = r at *
      have hlt' : (k : Int) < (l.length : Int) := by omega
      have hnq := Try.neqK (q : Int) r
      clear hc hc2
      go_wp2_with fail
      go_quiet (fail)
      go_wp2
      go_roundw
      case rel => exact ⟨k + 1, _, by omega, by go_num, rfl⟩
      case measure => simp [intOf]; omega
    · have e : k = l.length := by omega
      go_wp2
      go_ret
      exact ⟨rfl, m, rfl⟩
theorem keys_is {a a2 : Option Addr} {c c2 n : Nat} {l : List KV} (w : World) (h : KAt w a l) (h2 : KAt w a2 l) (hl : l.length ≤ 65536) (hn : l.length = n) :
    Calls Try.prog 18 #[.slice a n c, .slice a2 n c2] w fun e w' => e = .returned (.bool true) ∧ ∃ m, w' = w.drewN m := by
  subst hn; exact keys_any w h h2 hl
end Go.Proofs.Ytkghedllkigecaa
