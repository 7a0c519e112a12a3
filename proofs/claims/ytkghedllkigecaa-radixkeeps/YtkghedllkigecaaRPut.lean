/- The walk of Set: the list with a key that has something else, or more. -/
import Derived.Test.YtkghedllkigecaaRSet
namespace Go.Proofs.Ytkghedllkigecaa
open Go.RowKit

set_option maxHeartbeats 1000000 in
theorem set_none {B : Nat} {p : Option Addr} {l : List KV} (z v : Int) (w : World) (h : TreeP B w p l) (hz : p = none ∨ isK z = false) :
    Calls Try.prog 8 #[.pointer p, .int .i64 z, .int .u64 v] w fun e w' => e = .returned (.bool false) ∧ Below w.heap.size w w' := by
  rcases h with ⟨rfl, rfl⟩ | ⟨b, ad, vl, rfl, h⟩
  · go_enter Try.func8, Try.ntmps8
    go_wp2
    go_ret
    exact ⟨rfl, (Below.refl _ w).alloc (Nat.le_refl _) _⟩
  · have hk : isK z = false := by simpa using hz
    clear hz h
    go_enter Try.func8, Try.ntmps8
    go_wp2_with (go_at_call 23; refine (isKey_is _ _ hk).mono ?_; rintro e w' ⟨rfl, rfl⟩)
    go_ret
    exact ⟨rfl, (Below.refl _ w).alloc (Nat.le_refl _) _⟩

theorem set_fin {B b k g bx dg : Nat} {v : Int} {w w2 : World} {l : List KV} {ad ad' : Ad} {vl : Nat → Int} (hk : k < 65536) (h : TreeOf B w b l ad vl) (hgr : Grown ad ad' k 3) (hg : ad' 3 (k / 16) = some g) (hs : slot 3 k = 16 + dg)
    (t : Tr B w2 b (ad' 0 0) ((ins l k v).length : Nat) ((nodesOf l : Nat) + (misTo ad k 4 : Nat)) ad' vl) (hbx : w2.heap[bx]? = some (.cells #[.int .u64 v] 27 (0, 0))) (kp : Kept B w w2) :
    TreeP B (w2.setCell ⟨g, 16 + dg, none⟩ (.pointer (some ⟨bx, 0, none⟩))) (some ⟨b, 0, none⟩) (ins l k v) ∧ Kept B w (w2.setCell ⟨g, 16 + dg, none⟩ (.pointer (some ⟨bx, 0, none⟩))) := by
  have T3 := t.put (d := 3) (q := k) (gp := g) (some bx) v (by omega) hg (fun e => by omega) (fun e => by omega) (fun _ c e => by cases e; exact hbx)
  rw [if_pos rfl, hs, pt_some] at T3
  refine ⟨.inr ⟨b, _, _, rfl, h.set (c := bx) hk hgr rfl ?_⟩, kp.trans (.setCell w2 (t.node 3 _ g (by omega) hg).1 (t.tendN (by omega) hg) _)⟩
  rw [show ((nodesOf l + misTo ad k 4 : Nat) : Int) = (nodesOf l : Nat) + (misTo ad k 4 : Nat) by omega]
  exact T3
set_option maxHeartbeats 4000000 in
theorem set_key {B b k : Nat} {l : List KV} {ad : Ad} {vl : Nat → Int} (hk : k < 65536) (v : Int) (w : World) (h : TreeOf B w b l ad vl) :
    Calls Try.prog 8 #[.pointer (some ⟨b, 0, none⟩), .int .i64 (k : Nat), .int .u64 v] w fun e w' => e = .returned (.bool true) ∧ TreeP B w' (some ⟨b, 0, none⟩) (ins l k v) ∧ Kept B w w' := by
  have hK := isK_nat hk
  have hb1 : Below w.heap.size w (w.alloc (.cells #[.int .u64 v] 27)) := (Below.refl _ w).alloc (Nat.le_refl _) _
  have h1 := h.below hb1
  have hbx := heap_alloc_new w (.cells #[.int .u64 v] 27)
  have k1 : Kept B w (w.alloc (.cells #[.int .u64 v] 27)) := .of_below hb1
  have hnb := nodesOf_le l
  have hlb := h.fine.len
  have hp3 : pre k 3 = k / 16 := by simp [pre]
  have hd3 : dig k 3 = k % 16 := by simp [dig]
  go_enter Try.func8, Try.ntmps8
  go_wp2_with (first | (go_at_call 23; refine (isKey_is _ _ hK).mono ?_; rintro e w' ⟨rfl, rfl⟩) | fail)
  generalize w.alloc (.cells #[.int .u64 v] 27) = w1 at *
  obtain ⟨bx, hbxe⟩ : ∃ x, w.heap.size = x := ⟨_, rfl⟩
  rw [hbxe] at hbx
  rw [hbxe]
  refine (grow_any hk w1 h1.tr (by omega) (by omega)).mono ?_
  rintro e w2 ⟨g, ad', rfl, hg, hgr, t2, k2⟩
  rw [hp3] at hg
  have HG : Hid (ad' 3 (k / 16) = some g) := hg
  have HGR : Hid (Grown ad ad' k 3) := hgr
  have HS : Hid (slot 3 k = 16 + dig k 3) := by show _ = _; rw [hd3]; rfl
  have HD : Hid _ := digit_any hk (d := 3) (by omega)
  have HBX : Hid (w2.heap[bx]? = some (.cells #[.int .u64 v] 27 (0, 0))) := k2.other hbx (by decide) (by decide)
  have HH : Hid (TreeOf B w b l ad vl) := h
  have HK2 : Hid (Kept B w w2) := k1.trans k2
  have HT2 : Hid (Tr B w2 b (ad' 0 0) (l.length : Nat) ((nodesOf l : Nat) + (misTo ad k 4 : Nat)) ad' vl) := t2
  have cC := t2.cellC (q := k) (d := 3) (by omega) hg
  have fC := t2.frozenN (d := 3) (by omega) hg (16 + dig k 3)
  have c1 := t2.cell1
  have f1 := t2.frozenB 1
  have hne := t2.ne_node (d := 3) (by omega) hg
  rw [HS.out, hgr.off 4 k (.inl (by omega))] at cC
  have hdl : ((dig k 3 : Nat) : Int) < 16 := by have := dig_lt k 3; omega
  have HL : Hid (((ins l k v).length : Nat) = if (val l k).isNone then l.length + 1 else l.length) := ins_len h.fine k v
  generalize dig k 3 = dg at *
  generalize l.length = L at *
  clear hgr t2 hbx k1 k2 hbxe h hb1 hg hp3 hd3 h1
  cases h4 : ad 4 k with
  | none =>
    rw [h4, pt_none] at cC
    have HV : Hid (val l k = none) := HH.out.got_none h4
    rw [HV.out] at HL
    clear h4
    go_wp2_with (go_at_call 22; refine (HD.out _ rfl _).mono ?_; rintro e w' ⟨rfl, rfl⟩)
    go_ret
    have T1 := HT2.out.setK ((L : Nat) + 1)
    have e : ((ins l k v).length : Nat) = L + 1 := HL.out
    have HB1 : (w2.setCell ⟨b, 1, none⟩ (.int .i64 ((L : Nat) + 1))).heap[bx]? = some (.cells #[.int .u64 v] 27 (0, 0)) := (Kept.setCell (B := B) w2 (p := ⟨b, 1, none⟩) HT2.out.hb HT2.out.tendB _).other HBX.out (by decide) (by decide)
    rw [show ((L : Nat) : Int) + 1 = ((L + 1 : Nat) : Int) by omega, ← e] at T1
    have e2 : ((L : Nat) : Int) + 1 = (((ins l k v).length : Nat) : Int) := by omega
    rw [e2] at HB1
    rw [e2]
    exact ⟨rfl, set_fin hk HH.out HGR.out HG.out HS.out T1 HB1 (HK2.out.trans (.setCell w2 HT2.out.hb HT2.out.tendB _))⟩
  | some c =>
    rw [h4, pt_some] at cC
    have HV : Hid (val l k = some (vl k)) := HH.out.got_some h4
    rw [HV.out] at HL
    clear h4
    go_wp2_with (go_at_call 22; refine (HD.out _ rfl _).mono ?_; rintro e w' ⟨rfl, rfl⟩)
    go_ret
    have e : ((ins l k v).length : Nat) = L := HL.out
    have T1 := HT2.out
    rw [← e] at T1
    exact ⟨rfl, set_fin hk HH.out HGR.out HG.out HS.out T1 HBX.out HK2.out⟩
end Go.Proofs.Ytkghedllkigecaa
