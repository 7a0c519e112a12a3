/- A node beside one without anything: whether they are equal; and a node's load. -/
import Derived.Test.YtkghedllkigecaaRTree
namespace Go.Proofs.Ytkghedllkigecaa
open Go.RowKit

def upto (c : Nat → Option Nat) (i g : Nat) : Nat → Option Nat := fun j => if j < i then none else if j = i then some g else c j
theorem eqF (c : Nat → Option Nat) (g : Nat) (w : World) : ∀ i, i < 32 → (binOp .eql 59 (.agg (nodeCells (upto c i g))) (.agg #[.pointer none, .pointer none, .pointer none, .pointer none, .pointer none, .pointer none, .pointer none, .pointer none, .pointer none, .pointer none, .pointer none, .pointer none, .pointer none, .pointer none, .pointer none, .pointer none, .pointer none, .pointer none, .pointer none, .pointer none, .pointer none, .pointer none, .pointer none, .pointer none, .pointer none, .pointer none, .pointer none, .pointer none, .pointer none, .pointer none, .pointer none, .pointer none])).run Try.prog w = .ok (.bool false) w
  | 0, _ => by kernel_rfl
  | 1, _ => by kernel_rfl
  | 2, _ => by kernel_rfl
  | 3, _ => by kernel_rfl
  | 4, _ => by kernel_rfl
  | 5, _ => by kernel_rfl
  | 6, _ => by kernel_rfl
  | 7, _ => by kernel_rfl
  | 8, _ => by kernel_rfl
  | 9, _ => by kernel_rfl
  | 10, _ => by kernel_rfl
  | 11, _ => by kernel_rfl
  | 12, _ => by kernel_rfl
  | 13, _ => by kernel_rfl
  | 14, _ => by kernel_rfl
  | 15, _ => by kernel_rfl
  | 16, _ => by kernel_rfl
  | 17, _ => by kernel_rfl
  | 18, _ => by kernel_rfl
  | 19, _ => by kernel_rfl
  | 20, _ => by kernel_rfl
  | 21, _ => by kernel_rfl
  | 22, _ => by kernel_rfl
  | 23, _ => by kernel_rfl
  | 24, _ => by kernel_rfl
  | 25, _ => by kernel_rfl
  | 26, _ => by kernel_rfl
  | 27, _ => by kernel_rfl
  | 28, _ => by kernel_rfl
  | 29, _ => by kernel_rfl
  | 30, _ => by kernel_rfl
  | 31, _ => by kernel_rfl
  | i + 32, h => by omega
theorem first_of (c : Nat → Option Nat) (n : Nat) : (∀ i, i < n → c i = none) ∨ ∃ i g, i < n ∧ c i = some g ∧ ∀ j, j < i → c j = none := by
  induction n with
  | zero => exact .inl (by omega)
  | succ n ih =>
    rcases ih with h | ⟨i, g, h1, h2, h3⟩
    · cases e : c n with
      | none =>
        refine .inl fun i hi => ?_
        by_cases x : i = n
        · subst x; exact e
        · exact h i (by omega)
      | some g => exact .inr ⟨n, g, by omega, e, h⟩
    · exact .inr ⟨i, g, by omega, h2, h3⟩
theorem eqNode (c : Nat → Option Nat) (w : World) {b : Bool} (h : b = true ↔ ∀ i, i < 32 → c i = none) : (binOp .eql 59 (.agg (nodeCells c)) (.agg #[.pointer none, .pointer none, .pointer none, .pointer none, .pointer none, .pointer none, .pointer none, .pointer none, .pointer none, .pointer none, .pointer none, .pointer none, .pointer none, .pointer none, .pointer none, .pointer none, .pointer none, .pointer none, .pointer none, .pointer none, .pointer none, .pointer none, .pointer none, .pointer none, .pointer none, .pointer none, .pointer none, .pointer none, .pointer none, .pointer none, .pointer none, .pointer none])).run Try.prog w = .ok (.bool b) w := by
  rcases first_of c 32 with e | ⟨i, g, h1, h2, h3⟩
  · obtain rfl : b = true := h.2 e
    rw [nodeCells_congr e]
    kernel_rfl
  · obtain rfl : b = false := by
      cases b with
      | false => rfl
      | true => have := h.1 rfl i h1; rw [h2] at this; cases this
    rw [nodeCells_congr (c := c) (c' := upto c i g)]
    · exact eqF c g w i h1
    · intro j _
      unfold upto
      split
      · exact h3 j (by assumption)
      · split
        · rename_i e; rw [e]; exact h2
        · rfl
theorem Try.u59 : (Try.prog.underlying 59).isSome = true ∧ (match Try.prog.underlying 59 with | some (.struct _) => true | _ => false) = true := by constructor <;> kernel_rfl
theorem Try.i59 : (Try.prog.info? 59).map (fun i => i.size) = some 32 := by kernel_rfl
theorem load_node {w : World} {g : Nat} {c : Nat → Option Nat} (hg : w.heap[g]? = some (.cells (nodeCells c) 59 (0, 0))) : (loadVar 59 ⟨g, 0, none⟩).run Try.prog w = .ok (.agg (nodeCells c)) w := by
  obtain ⟨h1, h2⟩ := Try.u59
  obtain ⟨d, hd⟩ := Option.isSome_iff_exists.1 h1
  rw [hd] at h2
  refine run_loadVar_row w g _ _ (nodeCells c) _ d hg hd ?_ (by rw [Try.i59]; simp [nodeCells])
  cases d <;> simp_all
theorem wpList_load_node {ops : Array Oper} {rest : List Oper} {o : Oper} {a : Act} {w : World} {Q : Exit → Act → World → Prop} (hw : Region.wanted o (yielded ops a.tmps) = true) (x : Operand) (ho : o.op = .load 59 x)
    (g : Nat) (hx : a.eval x = .pointer (some ⟨g, 0, none⟩)) {X : Array Value} (hl : (loadVar 59 ⟨g, 0, none⟩).run Try.prog w = .ok (.agg X) w)
    (h : wpList Try.prog ops Q rest (a.put o.dst (.agg X)) w) : wpList Try.prog ops Q (o :: rest) a w :=
  BigFrame.wpList_want hw fun K hK => by
    unfold Oper.wp execOp
    simp only [ho, hx, Instr.loadAt, Instr.sureAddr, Sem.run_bind, Sem.run_pure, Result.andThen_ok, hl]
    exact hK _ _ h
end Go.Proofs.Ytkghedllkigecaa
