/- A map of numbers to how full their zspages are, as it lies in memory: what it tells, one taken out, one put in. -/
import Derived.Test.YthjacjckobkhmaaULays
import Derived.Test.YthjacjckobkhmaaUPlain
import Derived.Test.YthjacjckobkhmaaGRange
namespace Go.Proofs.Ythjacjckobkhmaa
open Go.RowKit Go.Maps

def objD (u m : Int) : DataW Unit := .agg [.lit (.int .i64 u), .lit (.int .i64 m)]
def objR (v : Value) : Option (DataW Unit × List MemPlace) :=
  match v with
  | .agg a => match a.toList with
    | [.int .i64 u, .int .i64 m] => some (objD u m, [])
    | _ => none
  | _ => none
theorem objR_mk (u m : Int) : objR (.agg #[.int .i64 u, .int .i64 m]) = some (objD u m, []) := rfl
theorem objR_inv {v : Value} {z : DataW Unit × List MemPlace} (h : objR v = some z) : ∃ u m, v = .agg #[.int .i64 u, .int .i64 m] ∧ z = (objD u m, []) := by
  unfold objR at h
  split at h
  · split at h
    · rename_i a u m e
      cases h
      refine ⟨u, m, ?_, rfl⟩
      congr 1
      rw [← Array.toList_inj, e]
    · cases h
  · cases h
theorem objD_inj {u m u' m' : Int} (h : objD u m = objD u' m') : u = u' ∧ m = m' := by
  unfold objD at h
  simpa using h
/-- A map that reads as D has the numbers of L, with what these have. -/
structure Reads (D : DataW Unit) (L : List Gh) : Prop where
  has : ∀ n : Int, Maps.has D (.int .i64 n) = hasG L n
  at_ : ∀ h ∈ L, ∀ z, D.atKey (.int .i64 h.n) z = objD h.u h.m
def MapAt (w : World) (b : Nat) (L : List Gh) : Prop := ∃ D, w.ownsMap Try.prog 3 objR b L.length D ∧ Reads D L
theorem lit_ne {a b : Int} (h : a ≠ b) : (Lit.int .i64 a) ≠ .int .i64 b := fun e => h (by simpa using e)
theorem key_lit (a : Int) : WideAt.IsKeyLit (.int .i64 a) := trivial
theorem keyI {n : Int} (h : -9223372036854775808 ≤ n ∧ n ≤ 9223372036854775807) : keyOf Try.prog 3 (.int .i64 n) = some (.int .i64 n) := keyOf_int_mk Try.underlying3 (WalkArith.wf_i64 h)
theorem Try.lawI : Keyed Try.prog 3 := int_keyed Try.underlying3

theorem hasG_mem {L : List Gh} {n : Int} : hasG L n = true ↔ n ∈ L.map Gh.n := by
  unfold hasG
  rw [List.any_eq_true, List.mem_map]
  constructor
  · rintro ⟨x, hx, h⟩
    exact ⟨x, hx, of_decide_eq_true h⟩
  · rintro ⟨x, hx, h⟩
    exact ⟨x, hx, decide_eq_true h⟩
section
variable {w w' : World} {b n : Nat} {D : DataW Unit} {L : List Gh}
theorem Reads.keys (h : w.ownsMap Try.prog 3 objR b n D) (hr : Reads D L) (hG : Gok L) : (L.map Gh.n).Perm (intKeys D) := by
  have hc : CollectedI D (fun _ => false) (L.map Gh.n) := ⟨hG.nd, fun x => by rw [hr.has x, hasG_mem]; simp⟩
  exact hc.perm h Try.lawI Try.underlying3 (fun _ => rfl)
theorem Reads.tight (h : w.ownsMap Try.prog 3 objR b n D) (hr : Reads D L) (hG : Gok L) : w.ownsMap Try.prog 3 objR b L.length D := by
  have hp := (hr.keys h hG).length_eq
  rw [List.length_map] at hp
  obtain ⟨es, clock, hb, F, hs, rfl⟩ := h
  refine ⟨es, clock, hb, F, ?_, rfl⟩
  rw [hp]
  unfold intKeys
  simp only
  rw [List.length_map, length_sorted]
  simp
theorem Reads.size (h : w.ownsMap Try.prog 3 objR b n D) (hr : Reads D L) (hG : Gok L) : Maps.size D ≤ L.length := (hr.tight h hG).size_le
theorem hasG_del (L : List Gh) (n k : Int) : hasG (delG L n) k = (hasG L k && !decide (k = n)) := by
  rw [Bool.eq_iff_iff, Bool.and_eq_true, hasG_mem, hasG_mem]
  unfold delG
  simp only [List.mem_map, List.mem_filter, Bool.not_eq_true', decide_eq_false_iff_not]
  constructor
  · rintro ⟨x, ⟨h1, h2⟩, rfl⟩
    exact ⟨⟨x, h1, rfl⟩, h2⟩
  · rintro ⟨⟨x, h1, rfl⟩, h2⟩
    exact ⟨x, ⟨h1, h2⟩, rfl⟩
theorem Reads.del (hr : Reads D L) (k : Int) : Reads (D.del (.int .i64 k)) (delG L k) := by
  refine ⟨fun x => ?_, fun h hh z => ?_⟩
  · rw [hasG_del]
    by_cases e : x = k
    · subst e
      rw [has_del_same, decide_eq_true rfl, Bool.not_true, Bool.and_false]
    · rw [has_del_other (lit_ne e), hr.has, decide_eq_false e, Bool.not_false, Bool.and_true]
  · obtain ⟨h1, h2⟩ := List.mem_filter.1 hh
    have h3 : h.n ≠ k := by simpa using h2
    rw [atKey_del_other (lit_ne h3)]
    exact hr.at_ h h1 z
theorem Reads.put (hm : IsMap D) (hr : Reads D L) (x : Gh) : Reads (D.put (.int .i64 x.n) (objD x.u x.m)) (putG L x) := by
  have hd := hr.del x.n
  refine ⟨fun k => ?_, fun h hh z => ?_⟩
  · have e1 : hasG (putG L x) k = (hasG (delG L x.n) k || decide (x.n = k)) := by
      unfold putG hasG
      rw [List.any_append]
      simp
    rw [e1, hasG_del]
    by_cases e : k = x.n
    · subst e
      rw [has_put_same hm (key_lit _), decide_eq_true rfl, Bool.or_true]
    · rw [has_put_other (lit_ne e), hr.has, decide_eq_false e, decide_eq_false (fun h => e h.symm), Bool.not_false, Bool.and_true, Bool.or_false]
  · unfold putG at hh
    rcases List.mem_append.1 hh with h1 | h1
    · obtain ⟨h2, h3⟩ := List.mem_filter.1 h1
      have h4 : h.n ≠ x.n := by simpa using h3
      rw [atKey_put_other (lit_ne h4)]
      exact hr.at_ h h2 z
    · obtain rfl : h = x := by simpa using h1
      exact atKey_put_same hm (key_lit _) _ _
theorem reads_nil : Reads (.map []) [] := ⟨fun _ => rfl, fun _ h => (by cases h)⟩

theorem MapAt.kept {row : Option Nat} (h : MapAt w b L) (hg : w.grownBy w' row) (hne : some b ≠ row) : MapAt w' b L := by
  obtain ⟨D, h1, h2⟩ := h
  exact ⟨D, h1.kept hg hne, h2⟩
theorem MapAt.keeps {K : Nat → Prop} (h : MapAt w b L) (hk : Keeps K w w') (hb : K b) : MapAt w' b L := by
  obtain ⟨D, ⟨es, clock, h1, h3⟩, h2⟩ := h
  exact ⟨D, ⟨es, clock, hk.at h1 hb, h3⟩, h2⟩
theorem MapAt.lt (h : MapAt w b L) : b < w.heap.size := by
  obtain ⟨D, h1, _⟩ := h
  exact h1.lt
theorem MapAt.below (h : MapAt w b L) (hb : Below w.heap.size w w') : MapAt w' b L := h.keeps (K := fun _ => True) (keeps_all hb) trivial
theorem MapAt.made (w : World) : MapAt (w.alloc (.map #[] 0)) w.heap.size [] := ⟨.map [], World.ownsMap_made _ _ _ _, reads_nil⟩
/-- What a number has. -/
theorem MapAt.look (h : MapAt w b L) (hG : Gok L) {x : Gh} (hx : x ∈ L) : (Instr.lookup 53 (.map (some b)) (.int .i64 x.n) false).run Try.prog w = .ok (.agg #[.int .i64 x.u, .int .i64 x.m]) w := by
  obtain ⟨D, h1, h2⟩ := h
  have hb := hG.ok x hx
  obtain ⟨v, ps, hrun, hv⟩ := h1.lookup Try.lawI Try.underlying53 (Try.zeroValue51 w) (objR_mk 0 0) (keyI (n := x.n) (by omega))
  rw [h2.at_ x hx] at hv
  obtain ⟨u, m, rfl, e⟩ := objR_inv hv
  simp only [Prod.mk.injEq] at e
  obtain ⟨rfl, rfl⟩ := objD_inj e.1
  exact hrun
/-- .. and whether it is there. -/
theorem MapAt.look_ok (h : MapAt w b L) {n : Int} (hn : -9223372036854775808 ≤ n ∧ n ≤ 9223372036854775807) :
    ∃ u m : Int, (Instr.lookup 53 (.map (some b)) (.int .i64 n) true).run Try.prog w = .ok (.tuple #[.agg #[.int .i64 u, .int .i64 m], .bool (hasG L n)]) w := by
  obtain ⟨D, h1, h2⟩ := h
  obtain ⟨v, ps, hrun, hv⟩ := h1.look_ok Try.lawI Try.underlying53 (Try.zeroValue51 w) (objR_mk 0 0) (keyI hn)
  obtain ⟨u, m, rfl, e⟩ := objR_inv hv
  rw [h2.has] at hrun
  exact ⟨u, m, hrun⟩
theorem MapAt.del (h : MapAt w b L) (hG : Gok L) {n : Int} (hn : -9223372036854775808 ≤ n ∧ n ≤ 9223372036854775807) (ty : TypeId) :
    ∃ w', (Builtin.delete_ #[53, 3] ty #[.map (some b), .int .i64 n]).run Try.prog w = .ok (.tuple #[]) w' ∧ MapAt w' b (delG L n) ∧ w.grownBy w' (some b) := by
  obtain ⟨D, h1, h2⟩ := h
  obtain ⟨w', hrun, h3, h4⟩ := h1.drop Try.lawI Try.underlying53 (keyI hn) ty
  exact ⟨w', hrun, ⟨_, (h2.del n).tight h3 (hG.filter _), h2.del n⟩, h4.grown⟩
theorem MapAt.put (h : MapAt w b L) (hG : Gok L) {x : Gh} (hx : 0 ≤ x.n ∧ x.n < 4096 ∧ 0 ≤ x.u ∧ x.u ≤ x.m ∧ x.m ≤ 100000000) (hL : L.length ≤ 100000) :
    ∃ w', (Instr.mapUpdate 53 (.map (some b)) (.int .i64 x.n) (.agg #[.int .i64 x.u, .int .i64 x.m])).run Try.prog w = .ok () w' ∧ MapAt w' b (putG L x) ∧ w.grownBy w' (some b) := by
  obtain ⟨D, h1, h2⟩ := h
  obtain ⟨w', hrun, h3, h4⟩ := h1.update Try.lawI Try.underlying53 (by unfold maxLen; omega) (keyI (n := x.n) (by omega)) (objR_mk x.u x.m)
  exact ⟨w', hrun, ⟨_, (h2.put h1.isMap x).tight h3 (hG.put hx), h2.put h1.isMap x⟩, h4⟩
end
end Go.Proofs.Ythjacjckobkhmaa
