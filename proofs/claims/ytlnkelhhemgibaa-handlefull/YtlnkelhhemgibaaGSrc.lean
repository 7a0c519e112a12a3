/- Cells that a slice value reads (nil or not), and the law of an append of them onto a row of one's own. -/
import Derived.Test.YtlnkelhhemgibaaGKit
import Derived.Laws.AppendOwnNone
namespace Go.Proofs.Ytlnkelhhemgibaa
open Go.RowKit

/-- Cells that a slice value reads. -/
def SrcAt (w : World) (v : Value) (m size : Nat) (news : List Value) : Prop :=
  (v = .slice none 0 0 ∧ m = 0 ∧ news = []) ∨ ∃ ad c, v = .slice (some ad) m c ∧ news.length = m * size ∧ ∀ j u, news[j]? = some u → ad.block < w.heap.size ∧ w.cell? (ad.add j) = some u
theorem SrcAt.later {w w' : World} {v : Value} {m size : Nat} {news : List Value} (h : SrcAt w v m size news) (hb : Below w.heap.size w w') : SrcAt w' v m size news := by
  rcases h with h | ⟨ad, c, h1, h2, h3⟩
  · exact .inl h
  · refine .inr ⟨ad, c, h1, h2, fun j u hj => ?_⟩
    obtain ⟨h4, h5⟩ := h3 j u hj
    refine ⟨Nat.lt_of_lt_of_le h4 hb.size, ?_⟩
    rw [hb.cell (p := ad.add j) (by unfold Addr.add; split <;> exact h4)]
    exact h5
theorem src_row {w : World} {base : Nat} {e : TypeId} {size n : Nat} {v : Value} {xs : List Value} (h : w.ownsRow base e size v n xs) : SrcAt w v n size xs := by
  rcases h.2 with ⟨h1, h2⟩ | ⟨g, cap, cur, h1, h2, h3, _⟩
  · refine .inl ⟨h1, h2, ?_⟩
    have := h.1
    rw [h2] at this
    exact List.eq_nil_of_length_eq_zero (by simpa using this)
  · refine .inr ⟨⟨g, 0, none⟩, cap, h1, h.1, fun j u hj => ⟨(Array.getElem?_eq_some_iff.1 h3).1, ?_⟩⟩
    have hj2 : j < n * size := by
      rcases Nat.lt_or_ge j xs.length with h4 | h4
      · rw [← h.1]; exact h4
      · rw [List.getElem?_eq_none h4] at hj; simp at hj
    rw [add_lit', Nat.zero_add]
    subst h1
    rw [h.cellAt j hj2]
    exact hj
theorem wpList_append_src {P : Program} {w : World} {ops : Array Oper} {rest : List Oper} {o : Oper} {a : Act} {Q : Exit → Act → World → Prop} (hgd : o.guard = none) (s x : Operand) (t : TypeId)
    (ho : o.op = .call { callee := .builtin .append, args := #[s, x], argTypes := #[t, t] })
    (base : Nat) (e : TypeId) (i : TypeInfo) (z : Value) (size bytes : Nat) (ht : P.underlying t = some (.slice e)) (hi : P.info? e = some i) (hz : i.zero = some z)
    (hsize : i.size = size) (hby : i.bytes = bytes) (hzs : z.cells.size = size) (hsz : 0 < size)
    (v : Value) (n : Nat) (xs : List Value) (hs : a.eval s = v) (hown : w.ownsRow base e size v n xs)
    (vx : Value) (m : Nat) (news : List Value) (hx : a.eval x = vx) (hsrc : SrcAt w vx m size news) (h1 : ∀ u ∈ news, u.oneCell' = true)
    (h63 : n + m ≤ maxLen) (hbytes : (n + m) * bytes ≤ 140737488355328) (hbase : base ≤ w.heap.size)
    (h : ∀ v' w', w'.ownsRow base e size v' (n + m) (xs ++ news) → w.grownBy w' v.ownBlock → wpList P ops Q rest (a.put o.dst v') w') : wpList P ops Q (o :: rest) a w := by
  rcases hsrc with ⟨rfl, rfl, rfl⟩ | ⟨ad, c, rfl, h2, h3⟩
  · exact wpList_append_own_none hgd s x t ho base e i size ht hi v n xs hs hown hx (h v w (by simpa using hown) (World.grownBy.refl _ _))
  · exact wpList_append_own w hgd s x t ho base e i z size bytes ht hi hz hsize hby hzs hsz v n xs hs hown ad m c news hx h2 (fun j u hj => (h3 j u hj).2) h1 h63 hbytes hbase (fun v' w' k1 k2 _ => h v' w' k1 k2)
theorem row_one {w : World} {base : Nat} {e : TypeId} {size n : Nat} {v : Value} {xs : List Value} (h : w.ownsRow base e size v n xs) : v.oneCell' = true := by
  rcases h.2 with ⟨rfl, _⟩ | ⟨g, cap, cur, rfl, _⟩ <;> rfl
end Go.Proofs.Ytlnkelhhemgibaa
