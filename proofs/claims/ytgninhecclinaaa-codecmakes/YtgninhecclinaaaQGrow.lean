/- The walk of squeeze.grow: a page, and behind it what a token stands for. -/
import Derived.Test.YtgninhecclinaaaQPlain
import Derived.Test.YtgninhecclinaaaQChunk
import Derived.Test.YtgninhecclinaaaKGrow
import Derived.Deep.RegionWith
import Derived.Deep.AppendLies
namespace Go.Proofs.Ytgninhecclinaaa
open Go.RowKit

/-- The bytes behind the first f. -/
theorem cut_tail {B m c f : Nat} {a : Option Addr} {q : List Nat} {w : World} (h : w.ownsRow B 5 1 (.slice a m c) m (bv q)) (hf : f ≤ m) :
    ∃ p', (∀ (w' : World) (A : Int), A = f → (Instr.slice 23 (.slice a m c) (some (.int .i64 A)) none none).run Try.prog w' = .ok (.slice p' (m - f) (c - f)) w') ∧ ∀ w', ByAt w' a m c q → ByAt w' p' (m - f) (c - f) (q.drop f) := by
  refine ⟨if c = f then a else a.map (·.add f), fun w' A hA => ?_, fun w' hb => ?_⟩
  · subst hA
    rw [run_slice_l (P := Try.prog) w' 23 _ _ _ und_byte .i64 _ (by omega) (by omega), size_byte]
    simp only [Result.andThen, sliced, Nat.mul_one, Int.toNat_natCast]
  · have hl := hb.len
    by_cases e : f = m
    · subst e
      have hd : q.drop f = [] := List.drop_of_length_le (by omega)
      rw [hd, Nat.sub_self]
      have hcap := hb.cap
      have hmax := hb.max
      cases a with
      | none =>
        have hc0 : c = 0 := by
          rcases hb.src with ⟨e1, _⟩ | ⟨ad, c', e1, _⟩
          · simp at e1; omega
          · cases e1
        obtain rfl : f = 0 := by omega
        subst hc0
        exact by_nil _
      | some ad =>
        refine ⟨.inr ⟨if c = f then ad else ad.add f, c - f, ?_, by simp [bv], fun j u hj => by simp [bv] at hj⟩, by omega, by omega, by simp⟩
        split <;> rfl
    · obtain ⟨g, o, rfl, _, _⟩ := hb.at (by omega)
      rw [if_neg (by have := hb.cap; omega), Option.map_some, add_lit']
      have := hb.part (l := f) (s := m - f) (by omega) (by omega)
      have e2 : seg q f (m - f) = q.drop f := by
        unfold seg
        exact List.take_of_length_le (by rw [List.length_drop]; omega)
      rwa [e2] at this
/-- The first f. -/
theorem row_head {B m c f : Nat} {a : Option Addr} {q : List Nat} {w : World} (h : w.ownsRow B 5 1 (.slice a m c) m (bv q)) (hf : f ≤ m) : w.ownsRow B 5 1 (.slice a f c) f (bv (q.take f)) := by
  have hl := h.1
  have hq : q.length = m := by simpa [bv] using hl
  refine ⟨by simp [bv]; omega, ?_⟩
  rcases h.2 with ⟨e1, h0⟩ | ⟨g, cap, cur, e1, h3, h4, h5, h6, h7, h8⟩
  · subst h0
    obtain rfl : f = 0 := by omega
    exact .inl ⟨e1, rfl⟩
  · cases e1
    refine .inr ⟨g, c, cur, rfl, h3, h4, by omega, h6, h7, ?_⟩
    have e2 : bv (q.take f) = (bv q).take f := by simp [bv, List.map_take]
    rw [e2, ← h8, List.take_take, Nat.mul_one, Nat.mul_one, Nat.min_eq_left hf]

/-- What a page grows to. -/
def Grew (w w' : World) (e : Ending) (B : Nat) (v : Value) (k : Nat) (x : List Nat) : Prop :=
  ∃ g cap, e = .returned (.tuple #[.slice (some ⟨g, 0, none⟩) k cap, .int .i64 0]) ∧ w'.ownsRow B 5 1 (.slice (some ⟨g, 0, none⟩) k cap) k (bv x) ∧ Keeps (fun j => v.ownBlock ≠ some j) w w' ∧ (v.ownBlock = some g ∨ w.heap.size ≤ g)
theorem ownBlock_len (a : Option Addr) (m f c : Nat) : (Value.slice a m c).ownBlock = (Value.slice a f c).ownBlock := by cases a <;> rfl
set_option maxRecDepth 100000 in
set_option maxHeartbeats 1000000 in
theorem sgrow_yes {B m : Nat} {v : Value} {q ab : List Nat} {p : Option Addr} {l c n d : Nat} (w : World) (hown : w.ownsRow B 5 1 v m (bv q)) (h8 : ∀ x ∈ q, x < 256) (hB : B ≤ w.heap.size) (hm : m ≤ 5000) (ht : ByAt w p l c ab) (hmay : mayT ab.length (n : Int) (d : Int) = true) (hd : d ≤ m) :
    Calls Try.prog 51 #[v, .agg #[.slice p l c, .int .i64 (n : Int), .int .i64 (d : Int)]] w fun e w' => Grew w w' e B v (m + sizeT l (n : Int) (d : Int)) (growB q ab (n : Int) (d : Int)) := by
  obtain ⟨f, hf⟩ : ∃ f, f = m - d := ⟨_, rfl⟩
  obtain ⟨s, hs⟩ : ∃ s, sizeT l (n : Int) (d : Int) = s := ⟨_, rfl⟩
  have hs0 : 0 < s := by rw [← hs, ← ht.len]; exact size_pos hmay
  have hs1 : s ≤ 130 := by rw [← hs]; exact size_le _ _ _
  have hql : q.length = m := by simpa [bv] using hown.1
  obtain ⟨g1, g2⟩ := grow_cut (q := q) (f := f) hmay (by omega) (by omega)
  have g3 := grow_len g1
  rw [ht.len, hs, List.length_drop, hql] at g3
  rw [hs]
  obtain ⟨k, hk⟩ : ∃ k, d + s = k := ⟨_, rfl⟩
  have g4 : (growA (q.drop f) ab (n : Int) (d : Int)).length = k := by omega
  rw [show m + s = f + k by omega]
  have HG1 : Hid (growE (q.drop f) ab (n : Int) (d : Int) = 0) := g1
  have HG2 : Hid (q.take f ++ growA (q.drop f) ab (n : Int) (d : Int) = growB q ab (n : Int) (d : Int)) := g2
  have HG4 : Hid ((growA (q.drop f) ab (n : Int) (d : Int)).length = k) := g4
  have hfm : f ≤ m ∧ m ≤ f + d ∧ f + d ≤ m := by omega
  have hkk : 0 < k ∧ k ≤ 5130 := by omega
  clear g1 g2 g3 g4 hs hf hk hql
  obtain ⟨i0, hi, hz0, hz1, hz2⟩ := info_parts Try.info5
  have hmayl : ab.length = l := ht.len
  obtain ⟨a, c0, rfl⟩ := row_slice hown
  have hmc : m ≤ c0 := (by_own hown h8).cap
  have hql : q.length = m := by simpa [bv] using hown.1
  have hlm := ht.short
  obtain ⟨p', hcut, hbt⟩ := cut_tail (f := f) hown (by omega)
  have hmax : ∀ (ts : Array TypeId) (t : TypeId) (w : World), (Builtin.max_ ts t #[.int .i64 0, .int .i64 ((m : Int) - (d : Int))]).run Try.prog w = .ok (.int .i64 ((f : Nat) : Int)) w := by
    intro ts t w
    rw [run_max_int2]
    congr 2
    split <;> omega
  have hcut2 := fun w' => hcut w' ((f : Nat) : Int) rfl
  obtain ⟨r, hr⟩ : ∃ r, m - f = r := ⟨_, rfl⟩
  obtain ⟨c1, hc1⟩ : ∃ c1, c0 - f = c1 := ⟨_, rfl⟩
  rw [hr, hc1] at hbt hcut2
  have hrm : r ≤ m := by omega
  obtain ⟨hx1, hb1⟩ := three_new (w := w) (t := 48) (u0 := .slice p l c) (u1 := .int .i64 (n : Int)) (u2 := .int .i64 (d : Int)) (Below.refl _ _)
  have HT : Hid (∀ w', Below w.heap.size w w' → ByAt w' p l c ab) := fun w' hb => ht.later hb
  have HBT : Hid (∀ w', Below w.heap.size w w' → ByAt w' p' r c1 (q.drop f)) := fun w' hb => hbt w' ((by_own hown h8).later hb)
  have HOW : Hid (w.ownsRow B 5 1 (.slice a m c0) m (bv q)) := hown
  have HMAY : Hid (mayT ab.length (n : Int) (d : Int) = true) := hmay
  have HX1 : Hid _ := hx1
  have HB1 : Hid (Below w.heap.size w (w.alloc (.cells #[.slice p l c, .int .i64 (n : Int), .int .i64 (d : Int)] 48))) := hb1
  obtain ⟨d0, d1, d2⟩ := three_cells hx1
  have HR : Hid (m - f = r) := hr
  clear hx1 hb1 hown ht hcut hbt hmay hr hc1
  go_enter Try.func51, Try.ntmps51
  go_wp2_with fail
  generalize (w.alloc (.cells #[.slice p l c, .int .i64 (n : Int), .int .i64 (d : Int)] 48)) = w1 at *
  have HC : Hid (∀ wz, Below w1.heap.size w1 wz → Calls Try.prog 56 #[.slice p' r c1, .agg #[.slice p l c, .int .i64 (n : Int), .int .i64 (d : Int)]] wz fun e w' => ∃ g2 c2, e = .returned (.tuple #[.slice (some ⟨g2, 0, none⟩) k c2, .int .i64 0]) ∧ w'.ownsRow wz.heap.size 5 1 (.slice (some ⟨g2, 0, none⟩) k c2) k (bv (growA (q.drop f) ab (n : Int) (d : Int))) ∧ Below wz.heap.size wz w') := by
    intro wz hz
    have hz2 : Below w.heap.size w wz := HB1.out.trans (hz.mono HB1.out.size)
    refine (grow_any _ (HBT.out _ hz2) (HT.out _ hz2) (by omega)).mono ?_
    rintro e w2 ⟨v2, rfl, own2, b2⟩
    rw [HG1.out]
    rw [HG4.out] at own2
    obtain ⟨g2, c2, rfl, _⟩ := own2.form hkk.1
    exact ⟨g2, c2, rfl, own2, b2⟩
  have HHD := run_head (p := a) (n := m) (c := c0) (m := f) (M := (f : Int)) rfl (by omega)
  go_region_with (go_at_call 56; refine Calls.mono (HC.out _ (drew_below _ _)) ?_; rintro e w2 ⟨g2, c2, rfl, own2, b2⟩)
  have B2 : Hid (Below w.heap.size w w2) := HB1.out.trans ((drew_below w.heap.size w1).trans (b2.mono HB1.out.size))
  have HSR : Hid (SrcAt w2 (.slice (some ⟨g2, 0, none⟩) k c2) k 1 (bv (growA (q.drop f) ab (n : Int) (d : Int)))) := src_row own2
  have HOH : Hid (w2.ownsRow B 5 1 (.slice a f c0) f (bv (q.take f))) := row_head (row_below HOW.out B2.out) hfm.1
  clear own2 b2 d0 d1 d2
  have hB2 : B ≤ w2.heap.size := Nat.le_trans hB B2.out.size
  go_wp2_with (at_builtin; refine wpList_append_lies _ rfl _ _ 23 rfl B 5 i0 (.int .u8 0) 1 1 Try.underlying23 hi hz0 hz1 hz2 rfl (by decide) _ f (bv (q.take f)) rfl HOH.out _ k c2 (bv (growA (q.drop f) ab (n : Int) (d : Int))) rfl ?q1 ?q2 (bv_one _) hkk.1 ?q3 ?q4 hB2 _ rfl ?_)
  case q1 => rw [Nat.mul_one]; simpa [bv] using HG4.out
  case q2 =>
    rcases HSR.out with ⟨e1, _⟩ | ⟨ad, c', e1, _, h3⟩
    · cases e1
    · cases e1
      exact fun j u hj => (h3 j u hj).2
  case q3 => unfold maxLen; omega
  case q4 => omega
  intro g3 cap3 w3 own3 gr3 hat _
  have HE : Hid (Grew w w3 (.returned (.tuple #[.slice (some ⟨g3, 0, none⟩) (f + k) cap3, .int .i64 0])) B (.slice a m c0) (f + k) (growB q ab (n : Int) (d : Int))) := by
    refine ⟨g3, cap3, rfl, ?_, ?_, ?_⟩
    · rw [← HG2.out, bv_append]
      exact own3
    · refine (keeps_all B2.out).trans (keeps_grown gr3 fun j hj => ?_)
      rw [ownBlock_len a f m] at hj
      exact fun h => h hj
    · rw [ownBlock_len a f m] at hat
      rcases hat with h | h
      · exact .inl h
      · exact .inr (by rw [h]; exact B2.out.size)
  clear own3 gr3 hat
  go_wp2
  go_ret2
  exact HE.out
set_option maxRecDepth 100000 in
set_option maxHeartbeats 1000000 in
theorem sgrow_no {B m : Nat} {v : Value} {q ab : List Nat} {p : Option Addr} {l c n d : Nat} (w : World) (hown : w.ownsRow B 5 1 v m (bv q)) (h8 : ∀ x ∈ q, x < 256) (hm : m ≤ 5000) (ht : ByAt w p l c ab) (hmay : mayT ab.length (n : Int) (d : Int) = true) (hd : ¬ d ≤ m) :
    Calls Try.prog 51 #[v, .agg #[.slice p l c, .int .i64 (n : Int), .int .i64 (d : Int)]] w fun e w' => e = .returned (.tuple #[.slice none 0 0, .int .i64 3]) ∧ Below w.heap.size w w' := by
  have hql : q.length = m := by simpa [bv] using hown.1
  have hd5 : d ≤ 4095 := by rcases may_ways hmay with ⟨_, _, _, h5⟩ | ⟨_, N, D, _, h5, _⟩ <;> omega
  obtain ⟨f, hf⟩ : ∃ f, f = 0 := ⟨_, rfl⟩
  obtain ⟨g1, g2⟩ := grow_form (s := q) hmay (by omega)
  have HG1 : Hid (growE q ab (n : Int) (d : Int) = 3) := g1
  have HF0 : Hid (f = 0) := hf
  have hf1 : f < 1 := by omega
  clear g1 g2 hf hql
  obtain ⟨i0, hi, hz0, hz1, hz2⟩ := info_parts Try.info5
  have hmayl : ab.length = l := ht.len
  obtain ⟨a, c0, rfl⟩ := row_slice hown
  have hmc : m ≤ c0 := (by_own hown h8).cap
  have hql : q.length = m := by simpa [bv] using hown.1
  have hlm := ht.short
  obtain ⟨p', hcut, hbt⟩ := cut_tail (f := f) hown (by omega)
  have hmax : ∀ (ts : Array TypeId) (t : TypeId) (w : World), (Builtin.max_ ts t #[.int .i64 0, .int .i64 ((m : Int) - (d : Int))]).run Try.prog w = .ok (.int .i64 ((f : Nat) : Int)) w := by
    intro ts t w
    rw [run_max_int2]
    congr 2
    split <;> omega
  have hcut2 := fun w' => hcut w' ((f : Nat) : Int) rfl
  obtain ⟨r, hr⟩ : ∃ r, m - f = r := ⟨_, rfl⟩
  obtain ⟨c1, hc1⟩ : ∃ c1, c0 - f = c1 := ⟨_, rfl⟩
  rw [hr, hc1] at hbt hcut2
  have hrm : r ≤ m := by omega
  obtain ⟨hx1, hb1⟩ := three_new (w := w) (t := 48) (u0 := .slice p l c) (u1 := .int .i64 (n : Int)) (u2 := .int .i64 (d : Int)) (Below.refl _ _)
  have HT : Hid (∀ w', Below w.heap.size w w' → ByAt w' p l c ab) := fun w' hb => ht.later hb
  have HBT : Hid (∀ w', Below w.heap.size w w' → ByAt w' p' r c1 (q.drop f)) := fun w' hb => hbt w' ((by_own hown h8).later hb)
  have HOW : Hid (w.ownsRow B 5 1 (.slice a m c0) m (bv q)) := hown
  have HMAY : Hid (mayT ab.length (n : Int) (d : Int) = true) := hmay
  have HX1 : Hid _ := hx1
  have HB1 : Hid (Below w.heap.size w (w.alloc (.cells #[.slice p l c, .int .i64 (n : Int), .int .i64 (d : Int)] 48))) := hb1
  obtain ⟨d0, d1, d2⟩ := three_cells hx1
  have HR : Hid (m - f = r) := hr
  clear hx1 hb1 hown ht hcut hbt hmay hr hc1
  clear hf1
  go_enter Try.func51, Try.ntmps51
  go_wp2_with fail
  generalize (w.alloc (.cells #[.slice p l c, .int .i64 (n : Int), .int .i64 (d : Int)] 48)) = w1 at *
  have HC : Hid (∀ wz, Below w1.heap.size w1 wz → Calls Try.prog 56 #[.slice p' r c1, .agg #[.slice p l c, .int .i64 (n : Int), .int .i64 (d : Int)]] wz fun e w' => ∃ a2 l2 c2, e = .returned (.tuple #[.slice a2 l2 c2, .int .i64 3]) ∧ Below wz.heap.size wz w') := by
    intro wz hz
    have hz2 : Below w.heap.size w wz := HB1.out.trans (hz.mono HB1.out.size)
    refine (grow_any _ (HBT.out _ hz2) (HT.out _ hz2) (by omega)).mono ?_
    rintro e w2 ⟨v2, rfl, own2, b2⟩
    obtain ⟨a2, c2, rfl⟩ := row_slice own2
    have e3 : growE (q.drop f) ab (n : Int) (d : Int) = 3 := by rw [HF0.out, List.drop_zero]; exact HG1.out
    rw [e3]
    exact ⟨a2, _, c2, rfl, b2⟩
  go_region_with (go_at_call 56; refine Calls.mono (HC.out _ (drew_below _ _)) ?_; rintro e w2 ⟨a2, l2, c2, rfl, b2⟩)
  have B2 : Hid (Below w.heap.size w w2) := HB1.out.trans ((drew_below w.heap.size w1).trans (b2.mono HB1.out.size))
  clear b2 d0 d1 d2
  go_wp2
  go_ret2
  exact ⟨rfl, B2.out⟩
end Go.Proofs.Ytgninhecclinaaa
