/- Bytes in rows (putAt: bytes laid over others; seg: bytes cut out), bytes that a slice value reads (SrcAt of bv), and the walks of slices.Clone at bytes, copy, the document's Bytes: general facts. -/
import Derived.Test.YtgninhecclinaaaPlain
import Derived.Test.YtgninhecclinaaaGSrc
import Derived.Lib.SliceRun
import Derived.Laws.BytesArg
import Derived.Laws.CopyOwn
import Derived.Deep.OwnRows
namespace Go.Proofs.Ytgninhecclinaaa
open Go.RowKit

theorem Try.info5 : (Try.prog.info? 5).map (fun i => (i.zero, i.size, i.bytes)) = some (some (.int .u8 0), 1, 1) := by kernel_rfl
theorem Try.size5 : (Try.prog.info? 5).map (·.size) = some 1 := by kernel_rfl

/-- P with b laid over it from o on. -/
def putAt (P : List Nat) (o : Nat) (b : List Nat) : List Nat := P.take o ++ b ++ P.drop (o + b.length)
/-- s bytes of P from o on. -/
def seg (P : List Nat) (o s : Nat) : List Nat := (P.drop o).take s
section
variable {P b : List Nat} {o s i : Nat}
theorem length_putAt (h : o + b.length ≤ P.length) : (putAt P o b).length = P.length := by simp [putAt]; omega
theorem length_seg (h : o + s ≤ P.length) : (seg P o s).length = s := by simp [seg]; omega
theorem seg_getD (hi : i < s) : (seg P o s).getD i 0 = P.getD (o + i) 0 := by
  unfold seg
  simp [List.getD, hi]
theorem putAt_getD (h : o + b.length ≤ P.length) (i : Nat) : (putAt P o b).getD i 0 = if o ≤ i ∧ i < o + b.length then b.getD (i - o) 0 else P.getD i 0 := by
  unfold putAt
  simp only [List.getD, List.append_assoc]
  by_cases h1 : i < o
  · rw [List.getElem?_append_left (by simp; omega), List.getElem?_take, if_pos h1, if_neg (by omega)]
  · rw [List.getElem?_append_right (by simp; omega)]
    have e : (P.take o).length = o := by simp; omega
    rw [e]
    by_cases h2 : i < o + b.length
    · rw [List.getElem?_append_left (by omega), if_pos (by omega)]
    · rw [List.getElem?_append_right (by omega), List.getElem?_drop, if_neg (by omega)]
      congr 2
      omega
theorem putAt_nil (P : List Nat) (o : Nat) : putAt P o [] = P := by simp [putAt]
theorem putAt_byte (h : ∀ x ∈ P, x < 256) (hb : ∀ x ∈ b, x < 256) : ∀ x ∈ putAt P o b, x < 256 := by
  intro x hx
  simp only [putAt, List.mem_append] at hx
  rcases hx with (hx | hx) | hx
  · exact h x (List.mem_of_mem_take hx)
  · exact hb x hx
  · exact h x (List.mem_of_mem_drop hx)
theorem seg_byte (h : ∀ x ∈ P, x < 256) : ∀ x ∈ seg P o s, x < 256 := fun x hx => h x (List.mem_of_mem_drop (List.mem_of_mem_take hx))
theorem bv_putAt (P : List Nat) (o : Nat) (b : List Nat) : (bv P).take o ++ bv b ++ (bv P).drop (o + (bv b).length) = bv (putAt P o b) := by
  simp [bv, putAt, List.map_take, List.map_drop]
theorem getD_byte (h : ∀ x ∈ P, x < 256) (i : Nat) : P.getD i 0 < 256 := by
  by_cases hi : i < P.length
  · rw [List.getD_eq_getElem?_getD, List.getElem?_eq_getElem hi]
    exact h _ (List.getElem_mem _)
  · rw [List.getD_eq_getElem?_getD, List.getElem?_eq_none (by omega)]; simp
theorem ext_getD {a b : List Nat} (hl : a.length = b.length) (h : ∀ i, i < a.length → a.getD i 0 = b.getD i 0) : a = b := by
  apply List.ext_getElem hl
  intro i h1 h2
  have := h i h1
  simpa [List.getD, h1, h2] using this
theorem seg_putAt (h : o + b.length ≤ P.length) : seg (putAt P o b) o b.length = b := by
  refine ext_getD (length_seg (by rw [length_putAt h]; exact h)) fun i hi => ?_
  rw [length_seg (by rw [length_putAt h]; exact h)] at hi
  rw [seg_getD hi, putAt_getD h, if_pos (by omega), Nat.add_sub_cancel_left]
theorem seg_putAt_other {q : Nat} (h : o + b.length ≤ P.length) (hq : q + s ≤ P.length) (hd : q + s ≤ o ∨ o + b.length ≤ q) : seg (putAt P o b) q s = seg P q s := by
  refine ext_getD (by rw [length_seg (by rw [length_putAt h]; exact hq), length_seg hq]) fun i hi => ?_
  rw [length_seg (by rw [length_putAt h]; exact hq)] at hi
  rw [seg_getD hi, seg_getD hi, putAt_getD h, if_neg (by omega)]
theorem repN_getD (n i : Nat) : (List.replicate n (0 : Nat)).getD i 0 = 0 := by
  rw [List.getD_eq_getElem?_getD, List.getElem?_replicate]
  split <;> rfl
theorem seg_rep {n o s : Nat} (h : o + s ≤ n) : seg (List.replicate n 0) o s = List.replicate s 0 := by
  refine ext_getD (by rw [length_seg (by rw [List.length_replicate]; exact h), List.length_replicate]) fun i hi => ?_
  rw [length_seg (by rw [List.length_replicate]; exact h)] at hi
  rw [seg_getD hi, repN_getD, repN_getD]
theorem rep_byte {n v : Nat} (hv : v < 256) : ∀ x ∈ List.replicate n v, x < 256 := fun x hx => by rw [(List.mem_replicate.1 hx).2]; exact hv
end
theorem bv_one (l : List Nat) : ∀ u ∈ bv l, u.oneCell' = true := by
  intro u hu
  obtain ⟨_, _, rfl⟩ := List.mem_map.1 hu
  rfl
theorem bv_at (l : List Nat) (i : Nat) (hi : i < l.length) : (bv l)[i]? = some (.int .u8 (l.getD i 0 : Nat)) := by simp [bv, List.getD, hi]
theorem bv_some {l : List Nat} {j : Nat} {u : Value} (h : (bv l)[j]? = some u) : j < l.length ∧ u = .int .u8 (l.getD j 0 : Nat) := by
  have hj : j < l.length := by
    rcases Nat.lt_or_ge j l.length with h1 | h1
    · exact h1
    · rw [List.getElem?_eq_none (by simpa using h1)] at h; simp at h
  rw [bv_at l j hj] at h
  exact ⟨hj, (Option.some.inj h).symm⟩

/-- Bytes that a slice value reads, apart from the blocks from B to less than E. -/
def Apart (B E : Nat) (v : Value) (b : List Nat) : Prop := ∀ ad m c, v = .slice (some ad) m c → b ≠ [] → ad.block < B ∨ E ≤ ad.block
theorem block_add (ad : Addr) (j : Nat) : (ad.add j).block = ad.block := by unfold Addr.add; split <;> rfl
theorem src_turns {B E n : Nat} {w w' : World} {v : Value} {b : List Nat} (h : SrcAt w v n 1 (bv b)) (ap : Apart B E v b) (ht : Turns B E w w') : SrcAt w' v n 1 (bv b) := by
  rcases h with h | ⟨ad, c, h1, h2, h3⟩
  · exact .inl h
  · refine .inr ⟨ad, c, h1, h2, fun j u hj => ?_⟩
    obtain ⟨h4, h5⟩ := h3 j u hj
    refine ⟨Nat.lt_of_lt_of_le h4 ht.size, ?_⟩
    have hb : b ≠ [] := fun e => by rw [e] at hj; simp [bv] at hj
    rw [← h5]
    exact World.cell?_of_block (by rw [block_add]; exact ht.block _ h4 (ap ad n c h1 hb))
theorem src_len {w : World} {v : Value} {n : Nat} {b : List Nat} (h : SrcAt w v n 1 (bv b)) : b.length = n := by
  rcases h with ⟨_, rfl, h⟩ | ⟨ad, c, _, h, _⟩
  · have := congrArg List.length h; simpa using this
  · simpa using h
theorem src_slice {w : World} {v : Value} {n : Nat} {b : List Value} (h : SrcAt w v n 1 b) : ∃ a c, v = .slice a n c := by
  rcases h with ⟨rfl, rfl, _⟩ | ⟨ad, c, rfl, _⟩ <;> exact ⟨_, _, rfl⟩
theorem apart_row {w : World} {base n B E : Nat} {e : TypeId} {v : Value} {xs : List Value} {b : List Nat} (h : w.ownsRow base e 1 v n xs) (hE : E ≤ base) : Apart B E v b := by
  intro ad m c e1 _
  subst e1
  rcases h.2 with ⟨h1, _⟩ | ⟨g, cap, cur, h1, h2, _⟩
  · simp at h1
  · simp only [Value.slice.injEq, Option.some.injEq] at h1
    rw [h1.1]
    exact .inr (Nat.le_trans hE h2)
theorem src_cell {w : World} {g off s c : Nat} {b : List Nat} (hl : b.length = s) (hg : g < w.heap.size) (hc : ∀ j, j < s → w.cell? ⟨g, off + j, none⟩ = some (.int .u8 (b.getD j 0 : Nat))) : SrcAt w (.slice (some ⟨g, off, none⟩) s c) s 1 (bv b) := by
  refine .inr ⟨_, _, rfl, by simp [hl], fun j u hj => ⟨hg, ?_⟩⟩
  obtain ⟨h1, rfl⟩ := bv_some hj
  rw [add_lit']
  exact hc j (by omega)

/-- Bytes as a string. -/
def strB (l : List Nat) : ByteArray := strOfNums (l.map fun x : Nat => (x : Int))
theorem conv_src {w : World} {n : Nat} {v : Value} {l : List Nat} (h : SrcAt w v n 1 (bv l)) : (convert 23 9 v).run Try.prog w = .ok (.string (strB l)) w := by
  have hl := src_len h
  rcases h with ⟨rfl, rfl, h⟩ | ⟨ad, c, rfl, h2, h3⟩
  · obtain rfl : l = [] := List.eq_nil_of_length_eq_zero hl
    exact run_convert_bytes_nil w 23 5 Try.underlying23 Try.underlying5 0 0 9 Try.underlying9
  · by_cases hn : n = 0
    · subst hn
      obtain rfl : l = [] := List.eq_nil_of_length_eq_zero hl
      rw [run_convert_bytes_string w 23 9 5 (some ad) 0 c Try.underlying23 Try.underlying5 Try.underlying9]
      have hlo : (loadCells ad 0).run Try.prog w = .ok (([] : List Int).map (Value.int .u8)).toArray w := by
        have := run_loadCells_list (P := Try.prog) w ad [] (by simp)
        simpa using this
      rw [run_bytesToString w ad 0 c [] hlo]
      rfl
    · obtain ⟨bb, off, spot⟩ := ad
      have h0 := (h3 0 _ (bv_at l 0 (by omega))).2
      have hspot : spot = none := by simpa [Addr.add] using World.cell?_spot h0
      subst hspot
      refine run_convert_bytes_arg (P := Try.prog) w 23 5 Try.underlying23 Try.underlying5 bb off n c (l.map fun x : Nat => (x : Int)) (by simpa using hl) ?_ 9 Try.underlying9
      intro i hi
      have : i < l.length := by omega
      have hc := (h3 i _ (bv_at l i this)).2
      rw [add_lit'] at hc
      rw [hc]
      simp [List.getD, this]
theorem conv_any {w : World} {B n : Nat} {v : Value} {l : List Nat} (h : w.ownsRow B 5 1 v n (bv l)) : (convert 23 9 v).run Try.prog w = .ok (.string (strB l)) w := conv_src (src_row h)

set_option maxHeartbeats 400000 in
theorem refBytes_same (v1 v2 : Value) (l : List Nat) (w : World) (h1 : (convert 23 9 v1).run Try.prog w = .ok (.string (strB l)) w) (h2 : (convert 23 9 v2).run Try.prog w = .ok (.string (strB l)) w) :
    Calls Try.prog 13 #[v1, v2] w fun e w' => e = .returned (.bool true) ∧ w = w' := by
  generalize strB l = t at *
  go_enter Try.func13, Try.ntmps13
  go_wp2
  go_ret
  exact ⟨rfl, rfl⟩


/-- What copy does to a row of bytes in block g: bytes b that lie elsewhere are laid from o on. -/
theorem copy_row {w : World} {g o cap n : Nat} {tg : TypeId} {v : Value} {b P : List Nat} (hg : w.heap[g]? = some (.cells (bv P).toArray tg (0, 0))) (hfit : o + b.length ≤ P.length) (hb : SrcAt w v n 1 (bv b)) (ty : TypeId) :
    (Builtin.copy_ #[23, 23] ty #[.slice (some ⟨g, o, none⟩) n cap, v]).run Try.prog w = .ok (.int .i64 (n : Int)) (w.setRow g (bv (putAt P o b)).toArray) := by
  have hl := src_len hb
  rcases hb with ⟨rfl, rfl, h⟩ | ⟨ad, c, rfl, h2, h3⟩
  · obtain rfl : b = [] := List.eq_nil_of_length_eq_zero hl
    rw [putAt_nil, setRow_self w g _ _ _ hg]
    exact run_copy_none w 23 23 ty 5 _ _ _ _ _ _ Try.underlying23 Try.size5 rfl
  · subst hl
    have hr := run_copy_row (P := Try.prog) w 23 23 ty 5 g o b.length cap ad b.length c (bv P).toArray tg (bv b) Try.underlying23 Try.size5 hg (by simp) (fun j u hj => (h3 j u hj).2) (by simp; exact hfit) (bv_one b)
    refine hr.trans ?_
    have e2 := bv_putAt P o b
    show Result.ok (Value.int .i64 ((bv b).length : Int)) (w.setRow g ((bv P).take o ++ bv b ++ (bv P).drop (o + (bv b).length)).toArray) = _
    rw [e2, length_bv]
theorem copy_gone {w : World} {a : Option Addr} {L c : Nat} (ty : TypeId) :
    (Builtin.copy_ #[23, 23] ty #[.slice none 0 0, .slice a L c]).run Try.prog w = .ok (.int .i64 0) w :=
  run_copy_none w 23 23 ty 5 _ _ _ _ _ _ Try.underlying23 Try.size5 (by simp)
/-- make([]byte, n). -/
theorem run_make_bytes (n : Nat) (hn : n ≤ 100000) (w : World) :
    (Instr.makeSlice 23 (.int .i64 (n : Int)) (.int .i64 (n : Int))).run Try.prog w = .ok (.slice (some ⟨w.heap.size, 0, none⟩) n n) (w.alloc (.cells (bv (List.replicate n 0)).toArray 5)) := by
  have h := run_make_row' (P := Try.prog) 23 5 (.int .u8 0) 1 Try.underlying23 Try.info5 rfl .i64 .i64 n (by omega) (by omega) w
  rw [← made_bytes, Array.toArray_toList]
  exact h
theorem made_own (w : World) (n : Nat) (hn : n ≤ maxLen) : (w.alloc (.cells (bv (List.replicate n 0)).toArray 5)).ownsRow w.heap.size 5 1 (.slice (some ⟨w.heap.size, 0, none⟩) n n) n (bv (List.replicate n 0)) := by
  have h := World.ownsRow_lit (base := w.heap.size) (e := 5) (size := 1) w (bv (List.replicate n 0)).toArray n (Nat.le_refl _) hn (by simp [bv])
  simpa using h
theorem Turns.setRow {B E g : Nat} {a w : World} (h : Turns B E a w) (h1 : B ≤ g) (h2 : g < E) (cs : Array Value) : Turns B E a (w.setRow g cs) := by
  refine ⟨h.os, h.tape, h.output, by have := h.size; simpa [World.setRow] using this, fun k hk hk2 => ?_⟩
  rw [setRow_other w g k cs (by omega)]
  exact h.block k hk hk2
theorem Turns.setNew {B E : Nat} {a w : World} (h : Turns B E a w) {p : Addr} (hp : a.heap.size ≤ p.block) (u : Value) : Turns B E a (w.setCell p u) := by
  refine ⟨h.os, h.tape, h.output, by have := h.size; simpa using this, fun k hk hk2 => ?_⟩
  rw [Below.heap_setCell _ _ _ _ (by omega)]
  exact h.block k hk hk2
/-- A list of numbers that lies in memory, read through a slice value. -/
def NumsAt (k : IntKind) (w : World) (a : Option Addr) (zs : List Nat) : Prop :=
  zs = [] ∨ ∃ b off, a = some ⟨b, off, none⟩ ∧ b < w.heap.size ∧ ∀ i, i < zs.length → w.cell? ⟨b, off + i, none⟩ = some (.int k (zs.getD i 0 : Nat))
theorem nums_src {w : World} {p : Option Addr} {L c : Nat} {b : List Nat} (h : SrcAt w (.slice p L c) L 1 (bv b)) : NumsAt .u8 w p b := by
  have hl := src_len h
  rcases h with ⟨_, rfl, _⟩ | ⟨ad, c', h1, h2, h3⟩
  · exact .inl (List.eq_nil_of_length_eq_zero hl)
  · by_cases hn : L = 0
    · subst hn
      exact .inl (List.eq_nil_of_length_eq_zero hl)
    · simp only [Value.slice.injEq, true_and] at h1
      obtain ⟨rfl, rfl⟩ := h1
      obtain ⟨bb, off, spot⟩ := ad
      have h0 := h3 0 _ (bv_at b 0 (by omega))
      have hspot : spot = none := by simpa [Addr.add] using World.cell?_spot h0.2
      subst hspot
      refine .inr ⟨bb, off, rfl, h0.1, fun i hi => ?_⟩
      have hc := (h3 i _ (bv_at b i hi)).2
      rw [add_lit'] at hc
      exact hc
end Go.Proofs.Ytgninhecclinaaa
