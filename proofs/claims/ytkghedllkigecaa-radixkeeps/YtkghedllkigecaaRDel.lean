/- The walk of Drop: what a key had, and the list without it. -/
import Derived.Test.YtkghedllkigecaaRDrop
namespace Go.Proofs.Ytkghedllkigecaa
open Go.RowKit

def dropL (l : List KV) (z : Int) : List KV := if isK z then del l z.toNat else l
theorem dropL_nat {l : List KV} {k : Nat} (h : k < 65536) : dropL l (k : Nat) = del l k := by rw [dropL, if_pos (isK_nat h)]; rfl
theorem dropL_none {l : List KV} {z : Int} (h : got l z = none) : dropL l z = l := by
  unfold dropL
  unfold got at h
  split
  · rename_i c
    rw [if_pos c] at h
    exact del_self (val_none_not h)
  · rfl
theorem half_of {B b k : Nat} {v : Int} {w w' : World} {l : List KV} {ad : Ad} {vl vl' : Nat → Int} (h : TreeOf B w b l ad vl) (hm : (k, v) ∈ l) (hv : ∀ q, q ≠ k → vl' q = vl q)
    (ht : Tr B w' b (ad 0 0) ((l.length : Int) - 1) (nodesOf l : Nat) (upd ad 4 k none) vl') : Half B w' b (del l k) k (upd ad 4 k none) vl' := by
  have e1 := (perm_del h.fine hm).length_eq
  rw [List.length_cons] at e1
  have e2 := nodesOf_perm (perm_del h.fine hm)
  rw [nodesOf_cons] at e2
  refine ⟨?_, h.fine.del k, fun d p hd hp => ?_, fun d hd => ?_, upd_same _ _ _ _, ?_, fun x hx => (hv _ (mem_del.1 hx).2).trans (h.vals x (mem_del.1 hx).1)⟩
  · rw [upd_other (by omega), ← e2, show (((del l k).length : Nat) : Int) = (l.length : Int) - 1 by omega]
    exact ht
  · rw [upd_other, h.dom d p hd, has_del_off (fun x => hp x.symm)]
    rintro ⟨rfl, rfl⟩
    exact hp (pre_four _).symm
  · rw [upd_other (by omega)]
    exact (h.dom d _ (by omega)).2 ⟨_, hm, rfl⟩
  · rintro ⟨x, hx, e⟩
    rw [pre_four, pre_four] at e
    exact (mem_del.1 hx).2 e
theorem prune_is {B b k : Nat} {l : List KV} {ad : Ad} {vl : Nat → Int} (hk : k < 65536) (w : World) (h : Half B w b l k ad vl) {V : Value} (hV : .agg (pathCells fun j => ad j (pre k j)) = V) :
    Calls Try.prog 25 #[.pointer (some ⟨b, 0, none⟩), .int .i64 (k : Nat), V] w fun e w' => e = .returned (.tuple #[]) ∧ TreeP B w' (some ⟨b, 0, none⟩) l ∧ Kept B w w' := by
  rw [← hV]; exact prune_any hk w h
set_option maxHeartbeats 4000000 in
theorem drop_any {B : Nat} {p : Option Addr} {l : List KV} (z : Int) (w : World) (h : TreeP B w p l) :
    Calls Try.prog 15 #[.pointer p, .int .i64 z] w fun e w' => e = .returned (.tuple #[.int .u64 ((got l z).getD 0), .bool (got l z).isSome]) ∧ TreeP B w' p (dropL l z) ∧ Kept B w w' := by
  cases hg : got l z with
  | none =>
    rw [dropL_none hg]
    go_enter Try.func15, Try.ntmps15
    go_wp2_with fail
    refine (get_any z w h).mono ?_
    rw [hg]
    rintro e w1 ⟨rfl, hb⟩
    go_wp2
    go_ret2
    exact ⟨rfl, h.below hb, .of_below hb⟩
  | some v =>
    have hz : isK z = true := by
      unfold got at hg
      split at hg
      · assumption
      · cases hg
    obtain ⟨k, rfl, hk⟩ := isK_of hz
    rw [dropL_nat hk]
    have hm : (k, v) ∈ l := by rw [got_nat hk] at hg; exact val_mem hg
    have hp := h
    rcases h with ⟨rfl, rfl⟩ | ⟨b, ad, vl, rfl, h⟩
    · simp at hm
    have hp3 : pre k 3 = k / 16 := by simp [pre]
    have hd3 : dig k 3 = k % 16 := by simp [dig]
    obtain ⟨g, hg3⟩ := Option.ne_none_iff_exists'.1 ((h.dom 3 (pre k 3) (by omega)).2 ⟨_, hm, rfl⟩)
    have HG : Hid (ad 3 (k / 16) = some g) := by show _ = _; rw [← hp3]; exact hg3
    have HS : Hid (slot 3 k = 16 + dig k 3) := by show _ = _; rw [hd3]; rfl
    have HD : Hid _ := digit_any hk (d := 3) (by omega)
    have hdl : ((dig k 3 : Nat) : Int) < 16 := by have := dig_lt k 3; omega
    have hlen : 0 < l.length ∧ l.length ≤ 65536 := ⟨List.length_pos_of_mem hm, h.fine.len⟩
    obtain ⟨x0, hx0⟩ : ∃ x, pt (ad 0 (pre k 0)) = x := ⟨_, rfl⟩
    obtain ⟨x1, hx1⟩ : ∃ x, pt (ad 1 (pre k 1)) = x := ⟨_, rfl⟩
    obtain ⟨x2, hx2⟩ : ∃ x, pt (ad 2 (pre k 2)) = x := ⟨_, rfl⟩
    have hPC : pathCells (fun j => ad j (pre k j)) = #[.pointer x0, .pointer x1, .pointer x2, .pointer (some ⟨g, 0, none⟩)] := by
      unfold pathCells
      rw [hx0, hx1, hx2]
      show #[_, _, _, Value.pointer (pt (ad 3 (pre k 3)))] = _
      rw [hg3]; rfl
    have HH : Hid (TreeOf B w b l ad vl) := h
    have HM : Hid ((k, v) ∈ l) := hm
    have HPC : Hid _ := hPC
    go_enter Try.func15, Try.ntmps15
    go_wp2_with fail
    refine (get_any (k : Nat) w hp).mono ?_
    rw [hg]
    rintro e w1 ⟨rfl, hb1⟩
    have h1 := h.below hb1
    have HB1 : Hid (Below w.heap.size w w1) := hb1
    clear hx0 hx1 hx2 hg3 hp3 hd3 hm hp h hg hz hb1
    go_wp2_with fail
    refine (path_key hk w1 h1).mono ?_
    rw [hPC]
    rintro e w2 ⟨rfl, hb2⟩
    have hB2 : Below w.heap.size w w2 := HB1.out.trans (hb2.mono HB1.out.size)
    have h2 := h1.below hb2
    clear h1 hb2 hPC
    generalize dig k 3 = dg at *
    go_wp2_with fail
    have hb3 : Below w2.heap.size w2 (w2.alloc (.cells #[.pointer x0, .pointer x1, .pointer x2, .pointer (some ⟨g, 0, none⟩)] 53)) := (Below.refl _ w2).alloc (Nat.le_refl _) _
    have h3 := h2.below hb3
    have hpb := heap_alloc_new w2 (.cells #[.pointer x0, .pointer x1, .pointer x2, .pointer (some ⟨g, 0, none⟩)] 53)
    have hk3 : Kept B w (w2.alloc (.cells #[.pointer x0, .pointer x1, .pointer x2, .pointer (some ⟨g, 0, none⟩)] 53)) := .of_below (hB2.trans (hb3.mono hB2.size))
    generalize w2.alloc (.cells #[.pointer x0, .pointer x1, .pointer x2, .pointer (some ⟨g, 0, none⟩)] 53) = w3 at *
    generalize w2.heap.size = pb at *
    have p3 : w3.cell? ⟨pb, 3, none⟩ = some (.pointer (some ⟨g, 0, none⟩)) := by rw [cell_of_row w3 pb 3 _ _ _ hpb]; rfl
    have cC := h3.tr.cellC (q := k) (d := 3) (by omega) HG.out
    have fC := h3.tr.frozenN (d := 3) (by omega) HG.out (16 + dg)
    rw [HS.out] at cC
    generalize pt (ad (3 + 1) k) = oo at *
    have T4 := h3.tr.put (d := 3) (q := k) (gp := g) none 0 (by omega) HG.out (fun e => by omega) (fun e => by omega) (fun _ c e => by cases e)
    rw [if_pos rfl, HS.out, pt_none] at T4
    have K4 : Kept B w (w3.setCell ⟨g, 16 + dg, none⟩ (.pointer none)) := hk3.trans (.setCell w3 (h3.tr.node 3 _ g (by omega) HG.out).1 (h3.tr.tendN (by omega) HG.out) _)
    have HPB : Hid ((w3.setCell ⟨g, 16 + dg, none⟩ (.pointer none)).heap[pb]? = some (.cells #[.pointer x0, .pointer x1, .pointer x2, .pointer (some ⟨g, 0, none⟩)] 53 (0, 0))) :=
      (Kept.setCell (B := B) w3 (p := ⟨g, 16 + dg, none⟩) (h3.tr.node 3 _ g (by omega) HG.out).1 (h3.tr.tendN (by omega) HG.out) (.pointer none)).other hpb (by decide) (by decide)
    have HT4 : Hid _ := T4
    have HK4 : Hid _ := K4
    have H3 : Hid _ := h3
    clear T4 K4 hpb h3 h2 hb3 hk3 hB2
    go_region_with (go_at_call 22; refine (HD.out _ rfl _).mono ?_; rintro e w' ⟨rfl, rfl⟩)
    all_goals
      have t5 := HT4.out.drew
      have k5 := HK4.out.drew
      have hpb5 : (w3.setCell ⟨g, 16 + dg, none⟩ (.pointer none)).drew.heap[pb]? = some (.cells #[.pointer x0, .pointer x1, .pointer x2, .pointer (some ⟨g, 0, none⟩)] 53 (0, 0)) := HPB.out
      generalize (w3.setCell ⟨g, 16 + dg, none⟩ (.pointer none)).drew = w5 at *
      have c1 := t5.cell1
      have f1 := t5.frozenB 1
      have p0 : w5.cell? ⟨pb, 0, none⟩ = some (.pointer x0) := by rw [cell_of_row w5 pb 0 _ _ _ hpb5]; rfl
      have p1 : w5.cell? ⟨pb, 1, none⟩ = some (.pointer x1) := by rw [cell_of_row w5 pb 1 _ _ _ hpb5]; rfl
      have p2 : w5.cell? ⟨pb, 2, none⟩ = some (.pointer x2) := by rw [cell_of_row w5 pb 2 _ _ _ hpb5]; rfl
      have p4 : w5.cell? ⟨pb, 3, none⟩ = some (.pointer (some ⟨g, 0, none⟩)) := by rw [cell_of_row w5 pb 3 _ _ _ hpb5]; rfl
      have hne : pb ≠ b := by
        rintro rfl
        rw [t5.head] at hpb5
        simp at hpb5
      have hhf := half_of HH.out HM.out (vl' := updv vl k 0) (fun q hq => by simp [updv, hq]) (by have := t5.setK ((l.length : Int) - 1); exact this)
      have k6 : Kept B w (w5.setCell ⟨b, 1, none⟩ (.int .i64 ((l.length : Int) - 1))) := k5.trans (.setCell w5 t5.hb t5.tendB _)
      have hV : Value.agg (pathCells fun j => upd ad 4 k none j (pre k j)) = .agg #[.pointer x0, .pointer x1, .pointer x2, .pointer (some ⟨g, 0, none⟩)] := by
        rw [← HPC.out]
        refine congrArg Value.agg (pathCells_congr fun j hj => ?_)
        exact upd_other (by omega)
      have HHF : Hid _ := hhf
      have HK6 : Hid _ := k6
      clear hhf k6 k5 t5 hpb5 p3 cC fC
      generalize l.length = L at *
      go_wp2_with fail
      refine (prune_is hk _ HHF.out hV).mono ?_
      rintro e w6 ⟨rfl, t6, k7⟩
      go_wp2
      go_ret2
      exact ⟨rfl, t6, HK6.out.trans k7⟩
end Go.Proofs.Ytkghedllkigecaa
