/- The walks of slices.Chunk at bytes, and of the function that it tells chunks by. -/
import Derived.Test.YtgninhecclinaaaGRange
import Derived.Shelf.Abstract
import Derived.Shelf.RegionOpen
import Derived.OwnWalkIn
import Derived.TacticsInMore
import Derived.LoopNIn
import Derived.LoopIn
import Derived.BigRegionIn
namespace Go.Proofs.Ytgninhecclinaaa
open Go.RowKit

section
variable {g o L c l h : Nat} {A H M : Int}
theorem size_byte (w : World) : (sizeOf (Try.prog.elem 23)).run Try.prog w = .ok 1 w := by
  obtain ⟨i0, h0, hz0, hz1, hz2⟩ := info_parts Try.info5
  have he : Try.prog.elem 23 = 5 := by kernel_rfl
  rw [he]
  simp [sizeOf, typeInfo, h0, hz1, go_sem]
theorem und_byte : Try.prog.underlying 23 = some (.slice (Try.prog.elem 23)) := by
  have he : Try.prog.elem 23 = 5 := by kernel_rfl
  rw [he]; exact Try.underlying23
/-- b[l:], b[l:h], b[l:h:h]. -/
theorem run_cut_from (hA : A = l) (hl : l ≤ L) (hc : l < c) (w : World) :
    (Instr.slice 23 (.slice (some ⟨g, o, none⟩) L c) (some (.int .i64 A)) none none).run Try.prog w = .ok (.slice (some ⟨g, o + l, none⟩) (L - l) (c - l)) w := by
  subst hA
  rw [run_slice_l (P := Try.prog) w 23 _ _ _ und_byte .i64 _ (by omega) (by omega), size_byte]
  simp only [Result.andThen, sliced, Option.map_some, Nat.mul_one, Int.toNat_natCast, add_lit']
  rw [if_neg (by omega)]
theorem run_cut (hA : A = l) (hH : H = h) (h1 : l ≤ h) (h2 : h ≤ c) (h3 : l < c) (w : World) :
    (Instr.slice 23 (.slice (some ⟨g, o, none⟩) L c) (some (.int .i64 A)) (some (.int .i64 H)) none).run Try.prog w = .ok (.slice (some ⟨g, o + l, none⟩) (h - l) (c - l)) w := by
  subst hA hH
  rw [run_slice_lh (P := Try.prog) w 23 _ _ _ und_byte .i64 .i64 _ _ (by omega) (by omega) (by omega), size_byte]
  simp only [Result.andThen, sliced, Option.map_some, Nat.mul_one, Int.toNat_natCast, add_lit']
  rw [if_neg (by omega)]
theorem run_cut3 (hA : A = l) (hH : H = h) (h1 : l < h) (h2 : h ≤ c) (w : World) :
    (Instr.slice 23 (.slice (some ⟨g, o, none⟩) L c) (some (.int .i64 A)) (some (.int .i64 H)) (some (.int .i64 H))).run Try.prog w = .ok (.slice (some ⟨g, o + l, none⟩) (h - l) (h - l)) w := by
  subst hA hH
  rw [run_slice_lhm (P := Try.prog) w 23 _ _ _ und_byte .i64 .i64 .i64 _ _ _ (by omega) (by omega) (by omega) (by omega), size_byte]
  simp only [Result.andThen, sliced, Option.map_some, Nat.mul_one, Int.toNat_natCast, add_lit']
  rw [if_neg (by omega)]
end
theorem Abides.drew {σ : Type} {J : σ → (Nat → Prop) → World → Prop} (h : Abides J) {s : σ} {M : Nat → Prop} {W : World} (hs : J s M W) : J s M W.drew :=
  h s M M W W.drew hs ⟨rfl, rfl, rfl, Nat.le_refl _, fun _ _ _ => rfl⟩ fun _ h1 => .inl h1
theorem Abides.later {σ : Type} {J : σ → (Nat → Prop) → World → Prop} (h : Abides J) {s : σ} {M : Nat → Prop} {W W' : World} (hs : J s M W) (hb : Below W.heap.size W W') : J s M W' :=
  h s M M W W' hs (keeps_all hb) fun _ h1 => .inl h1

attribute [local go_sem] Oper.semAt_some
/-- What a chunk is told by. -/
def chunkV (g o L x : Nat) : Array Value := #[.slice (some ⟨g, o + x, none⟩) (min 128 (L - x)) (min 128 (L - x))]
set_option maxRecDepth 100000 in
set_option maxHeartbeats 1000000 in
theorem chunk_iter {g o L c bs bn : Nat} {K0 : Nat → Prop} (w : World) (hs : w.cell? ⟨bs, 0, none⟩ = some (.slice (some ⟨g, o, none⟩) L c)) (hn : w.cell? ⟨bn, 0, none⟩ = some (.int .i64 128)) (hL : L ≤ c) (hc : L ≤ 100000) (h1 : K0 bs) (h2 : K0 bn) (h3 : bs < w.heap.size) (h4 : bn < w.heap.size) :
    Iterates Try.prog 48 #[.pointer (some ⟨bs, 0, none⟩), .pointer (some ⟨bn, 0, none⟩)] (chunkV g o L) K0 (fun s x _ => x = s ∧ s < L) (fun s _ => s + 128) 0 (fun s => L ≤ s) (fun _ => True) w := by
  intro l J Jx hJ hJx hR W hW h0
  have hs0 := (hW.cell (p := ⟨bs, 0, none⟩) h3).trans hs
  have hn0 := (hW.cell (p := ⟨bn, 0, none⟩) h4).trans hn
  have HSZ : Hid (∀ W' : World, W.heap.size ≤ W'.heap.size → bs < W'.heap.size ∧ bn < W'.heap.size) := fun W' h => by have := hW.size; omega
  have HR : Hid (Rounds Try.prog l (chunkV g o L) K0 (fun s x _ => x = s ∧ s < L) (fun s _ => s + 128) J Jx) := hR
  have HJ : Hid (Abides J) := hJ
  clear hR hJ hJx hW hs hn
  refine (callsIn_wide (n := 3)).1 ?_
  refine callsIn_of_wp Try.func48 rfl trivial ?_ rfl
  simp only [List.append_toArray, List.cons_append, List.nil_append]
  simp only [Try.ntmps48, List.size_toArray, List.length_cons, List.length_nil, Nat.reduceAdd, Nat.reduceSub, Array.replicate_succ, Array.replicate_zero, List.push_toArray, List.append_toArray, List.nil_append, List.cons_append]
  gi_wp2
  gi_loopw [4] (fun i wr => ∃ k : Nat, i = .int .i64 k ∧ k ≤ L + 128 ∧ J k (fun _ => False) wr ∧ wr.cell? ⟨bs, 0, none⟩ = some (.slice (some ⟨g, o, none⟩) L c) ∧ wr.cell? ⟨bn, 0, none⟩ = some (.int .i64 128) ∧ W.heap.size ≤ wr.heap.size) (fun i _ => L + 128 - (intOf i).toNat)
  case atStart => exact ⟨0, rfl, by omega, h0, hs0, hn0, Nat.le_refl _⟩
  case round =>
    obtain ⟨k, rfl, hk, hJ, hs, hn, hsz⟩ := hrel
    have HJ1 : Hid (J k (fun _ => False) wr) := hJ
    clear hJ h0 hs0 hn0
    by_cases hlt : k < L
    · have i1 : (k : Int) < (L : Int) := by omega
      obtain ⟨m, hm⟩ : ∃ m, min 128 (L - k) = m := ⟨_, rfl⟩
      have hm1 : 0 < m ∧ k + m ≤ L := by omega
      have hmin : ∀ (ts : Array TypeId) (t : TypeId) (w : World), (Builtin.min_ ts t #[.int .i64 128, .int .i64 ((L - k : Nat) : Int)]).run Try.prog w = .ok (.int .i64 (m : Int)) w := by
        intro ts t w
        rw [run_min_int2]
        congr 2
        split <;> omega
      have hc1 := run_cut_from (g := g) (o := o) (L := L) (c := c) (l := k) (A := (k : Int)) rfl (by omega) (by omega)
      have hc2 := run_cut3 (g := g) (o := o) (L := L) (c := c) (l := k) (h := k + m) (A := (k : Int)) (H := (k : Int) + (m : Int)) rfl (by omega) (by omega) (by omega)
      rw [Nat.add_sub_cancel_left] at hc2
      obtain ⟨fn, tmps, assign, body, hy, hRd⟩ := HR.out 2 k (fun _ => False) k wr.drew (HJ.out.drew HJ1.out) ⟨rfl, hlt⟩ (fun _ h => h.elim)
      unfold chunkV at hy
      rw [hm] at hy
      have HRd : Hid _ := hRd
      clear hRd hm
      gi_wp2
      gi_region
      gi_wp2
      refine RoundIn.mono HRd.out ?_
      rintro e W3 ⟨hk3, ⟨rfl, hJ3⟩ | ⟨rfl, hJx3⟩⟩
      · have hsz3 : W.heap.size ≤ W3.heap.size := Nat.le_trans hsz hk3.size
        obtain ⟨hb1, hb2⟩ := HSZ.out wr hsz
        have hs3 : W3.cell? ⟨bs, 0, none⟩ = some (.slice (some ⟨g, o, none⟩) L c) := (hk3.cell (p := ⟨bs, 0, none⟩) hb1 (.inl h1)).trans hs
        have hn3 : W3.cell? ⟨bn, 0, none⟩ = some (.int .i64 128) := (hk3.cell (p := ⟨bn, 0, none⟩) hb2 (.inl h2)).trans hn
        have HJ3 : Hid (J (k + 128) (fun _ => False) W3) := hJ3
        clear hJ3 hk3
        gi_wp2
        go_roundw
        case rel => exact ⟨k + 128, by go_num, by omega, HJ3.out, hs3, hn3, hsz3⟩
        case measure => simp [intOf]; omega
      · have HJx3 : Hid (Jx (k + 128) (fun _ => False) W3) := hJx3
        clear hJx3 hk3
        gi_wp2
        refine bodyPost_ret (results_none rfl _ _ _) rfl ?_
        exact ⟨⟨_, rfl⟩, .inr ⟨k + 128, fun _ => False, trivial, HJx3.out⟩⟩
    · have i1 : ¬ (k : Int) < (L : Int) := by omega
      gi_wp2
      go_end0
      exact ⟨⟨_, rfl⟩, .inl ⟨k, fun _ => False, Nat.le_of_not_lt hlt, HJ1.out⟩⟩
set_option maxHeartbeats 1000000 in
theorem chunk_any {g o L c : Nat} (w : World) :
    Calls Try.prog 34 #[.slice (some ⟨g, o, none⟩) L c, .int .i64 128] w fun e w' =>
      e = .returned (.func (.func 48) #[] #[.pointer (some ⟨w.heap.size, 0, none⟩), .pointer (some ⟨w.heap.size + 1, 0, none⟩)]) ∧
      w' = (w.alloc (.cells #[.slice (some ⟨g, o, none⟩) L c] 23)).alloc (.cells #[.int .i64 128] 3) := by
  go_enter Try.func34, Try.ntmps34
  go_wp2
  go_ret
  exact ⟨rfl, rfl⟩
end Go.Proofs.Ytgninhecclinaaa
