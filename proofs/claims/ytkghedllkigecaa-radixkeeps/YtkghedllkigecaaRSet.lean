/- The walks of newNode, grow and Set: the list with a key that has something else, or more. -/
import Derived.Test.YtkghedllkigecaaRGet
import Derived.Deep.RegionWith
import Derived.Deep.DeepCutAuto
namespace Go.Proofs.Ytkghedllkigecaa
open Go.RowKit

theorem ins_nodes {l : List KV} (h : Fine l) (k : Nat) (v : Int) : nodesOf (ins l k v) = nodesOf l + miss l k := by
  rw [nodesOf_perm (ins_perm h k v), nodesOf_cons]
  by_cases c : ∃ u, (k, u) ∈ l
  · obtain ⟨u, hu⟩ := c
    have e := nodesOf_perm (perm_del h hu)
    rw [nodesOf_cons] at e
    have m : miss l k = 0 := miss_from (m := 4) (by omega) (fun d hd => ⟨_, hu, rfl⟩) (by omega)
    omega
  · rw [del_self (not_mem_of_key c)]
theorem ins_len {l : List KV} (h : Fine l) (k : Nat) (v : Int) : (ins l k v).length = if (val l k).isNone then l.length + 1 else l.length := by
  rw [(ins_perm h k v).length_eq, List.length_cons]
  cases c : val l k with
  | none => rw [del_self (val_none_not c)]; rfl
  | some u =>
    have := (perm_del h (val_mem c)).length_eq
    rw [List.length_cons] at this
    rw [← this]; rfl
/-- How many of a key's first beginnings have no node. -/
def misTo (ad : Ad) (k : Nat) : Nat → Nat
  | 0 => 0
  | d + 1 => misTo ad k d + if ad d (pre k d) = none then 1 else 0
theorem TreeOf.mis {B b : Nat} {w : World} {l : List KV} {ad : Ad} {vl : Nat → Int} (h : TreeOf B w b l ad vl) (k : Nat) : misTo ad k 4 = miss l k := by
  have e : ∀ d, d ≤ 4 → (if ad d (pre k d) = none then 1 else 0) = missAt l k d := by
    intro d hd
    unfold missAt
    by_cases c : ad d (pre k d) = none
    · rw [if_pos c, if_neg (fun x => (h.dom d _ hd).2 x c)]
    · rw [if_neg c, if_pos ((h.dom d _ hd).1 c)]
  simp only [misTo, miss]
  rw [e 0 (by omega), e 1 (by omega), e 2 (by omega), e 3 (by omega)]
  omega
theorem misTo_le (ad : Ad) (k d : Nat) : misTo ad k d ≤ d := by
  induction d with
  | zero => exact Nat.le_refl _
  | succ d ih => simp only [misTo]; split <;> omega
structure Grown (ad ad' : Ad) (k m : Nat) : Prop where
  off : ∀ d p, m < d ∨ p ≠ pre k d → ad' d p = ad d p
  on : ∀ d, d ≤ m → ad' d (pre k d) ≠ none
theorem Grown.start {ad : Ad} {k : Nat} (h : ad 0 (pre k 0) ≠ none) : Grown ad ad k 0 := ⟨fun _ _ _ => rfl, fun d hd => by
  obtain rfl : d = 0 := by omega
  exact h⟩
theorem misTo_one {ad : Ad} {k : Nat} (h : ad 0 (pre k 0) ≠ none) : misTo ad k 1 = 0 := by simp [misTo, h]
theorem misTo_one' {ad : Ad} {k : Nat} (h : ad 0 (pre k 0) = none) : misTo ad k 1 = 1 := by simp [misTo, h]
theorem TreeOf.set {B b k c : Nat} {v : Int} {w w' : World} {l : List KV} {ad ad' : Ad} {vl vl' : Nat → Int} (h : TreeOf B w b l ad vl) (hk : k < 65536) (hg : Grown ad ad' k 3)
    (hv : vl' = updv vl k v) (ht : Tr B w' b (ad' 0 0) ((ins l k v).length : Nat) ((nodesOf l + misTo ad k 4 : Nat)) (upd ad' 4 k (some c)) vl') : TreeOf B w' b (ins l k v) (upd ad' 4 k (some c)) vl' := by
  refine ⟨?_, h.fine.ins hk v, ?_, ?_⟩
  · rw [upd_other (by omega), ins_nodes h.fine, ← h.mis k]; exact ht
  · intro d p hd
    rw [has_ins h.fine]
    by_cases e : p = pre k d
    · subst e
      refine ⟨fun _ => .inl rfl, fun _ => ?_⟩
      by_cases e4 : d = 4
      · subst e4; rw [pre_four, upd_same]; simp
      · rw [upd_other (by omega)]; exact hg.on d (by omega)
    · have e1 : upd ad' 4 k (some c) d p = ad d p := by
        rw [upd_other, hg.off d p (.inr e)]
        rintro ⟨rfl, rfl⟩
        exact e (pre_four _).symm
      rw [e1, h.dom d p hd, has_del_off (fun x => e x.symm)]
      exact ⟨.inr, fun x => x.resolve_left fun y => e y.symm⟩
  · intro x hx
    rw [hv]
    rcases (mem_ins h.fine).1 hx with rfl | ⟨h1, h2⟩
    · simp [updv]
    · simp only [updv, if_neg h2]; exact h.vals x h1

set_option maxHeartbeats 1000000 in
theorem newNode_any {B b : Nat} {r : Option Nat} {k n : Int} {ad : Ad} {vl : Nat → Int} (w : World) (h : Tr B w b r k n ad vl) (h0 : 0 ≤ n) (h1 : n ≤ 1000000) :
    Calls Try.prog 28 #[.pointer (some ⟨b, 0, none⟩)] w fun e w' => e = .returned (.pointer (some ⟨w.heap.size, 0, none⟩)) ∧
      Tr B w' b r k (n + 1) ad vl ∧ w'.heap[w.heap.size]? = some (.cells (nodeCells fun _ => none) 59 (0, 0)) ∧ Kept B w w' ∧ w.heap.size < w'.heap.size := by
  have c2 := h.cell2
  have f2 := h.frozenB 2
  have HT : Hid (Tr B w b r k n ad vl) := h
  clear h
  go_enter Try.func28, Try.ntmps28
  go_wp2
  go_ret
  have t1 := HT.out.setN (n + 1)
  have k1 : Kept B w (w.setCell ⟨b, 2, none⟩ (.int .i64 (n + 1))) := .setCell w HT.out.hb HT.out.tendB _
  have hsz : (w.setCell ⟨b, 2, none⟩ (.int .i64 (n + 1))).heap.size = w.heap.size := by simp
  have hnew := heap_alloc_new (w.setCell ⟨b, 2, none⟩ (.int .i64 (n + 1))) (.cells (nodeCells fun _ => none) 59)
  rw [hsz] at hnew
  exact ⟨rfl, t1.below ((Below.refl _ _).alloc (Nat.le_refl _) _), hnew, k1.trans (.alloc _ _), by simp⟩

theorem Tr.drew {B b : Nat} {w : World} {r : Option Nat} {k n : Int} {ad : Ad} {vl : Nat → Int} (h : Tr B w b r k n ad vl) : Tr B w.drew b r k n ad vl := h.keep fun _ _ => rfl
theorem Tr.drewN {B b : Nat} {w : World} {r : Option Nat} {k n : Int} {ad : Ad} {vl : Nat → Int} (h : Tr B w b r k n ad vl) (m : Nat) : Tr B (w.drewN m) b r k n ad vl := h.keep fun _ _ => rfl
/-- A node that is new is none of the tree's. -/
theorem Tr.fresh {B b : Nat} {w : World} {r : Option Nat} {k n : Int} {ad : Ad} {vl : Nat → Int} (h : Tr B w b r k n ad vl) : ∀ d p, d < 4 → ad d p ≠ some w.heap.size := fun _ _ hd e => Nat.lt_irrefl _ (h.lt hd e)
set_option maxHeartbeats 4000000 in
theorem grow_any {B b q : Nat} {k n : Int} {ad : Ad} {vl : Nat → Int} (hq : q < 65536) (w : World) (h : Tr B w b (ad 0 0) k n ad vl) (h0 : 0 ≤ n) (h1 : n ≤ 900000) :
    Calls Try.prog 24 #[.pointer (some ⟨b, 0, none⟩), .int .i64 (q : Nat)] w fun e w' => ∃ (g : Nat) (ad' : Ad), e = .returned (.pointer (some ⟨g, 0, none⟩)) ∧
      ad' 3 (pre q 3) = some g ∧ Grown ad ad' q 3 ∧ Tr B w' b (ad' 0 0) k (n + (misTo ad q 4 : Nat)) ad' vl ∧ Kept B w w' := by
  have c0 := h.cell0
  have f0 := h.frozenB 0
  have HT : Hid (Tr B w b (ad 0 0) k n ad vl) := h
  have HZ : Hid (pre q 0 = 0) := pre_zero hq
  clear h
  cases hr : ad 0 0 with
  | some g0 =>
    rw [hr, pt_some] at c0
    have HR : Hid (ad 0 0 = some g0) := hr
    have HNE : Hid (ad 0 (pre q 0) ≠ none) := by show _ ≠ _; rw [HZ.out, hr]; simp
    clear hr
    go_enter Try.func24, Try.ntmps24
    go_wp2
    go_loopw [5, 22] (fun x i wr => ∃ (m g : Nat) (ad' : Ad), m ≤ 3 ∧ x = .pointer (some ⟨g, 0, none⟩) ∧ i = .int .i64 m ∧ ad' m (pre q m) = some g ∧ Grown ad ad' q m ∧ Tr B wr b (ad' 0 0) k (n + (misTo ad q (m + 1) : Nat)) ad' vl ∧ Kept B w wr) (fun _ i _ => 3 - (intOf i).toNat)
    case atStart => exact ⟨0, g0, ad, by omega, rfl, rfl, by rw [HZ.out]; exact HR.out, Grown.start HNE.out, by rw [misTo_one HNE.out]; simpa using HT.out, Kept.refl _ _⟩
    case round =>
      obtain ⟨m, g, ad', hm, rfl, rfl, hg, hgr, htr, hkp⟩ := hrel
      have HG : Hid (ad' m (pre q m) = some g) := hg
      have HGR : Hid (Grown ad ad' q m) := hgr
      have HTR : Hid (Tr B wr b (ad' 0 0) k (n + (misTo ad q (m + 1) : Nat)) ad' vl) := htr
      have HKP : Hid (Kept B w wr) := hkp
      clear hg hgr hkp
      by_cases hlt : m < 3
      · have HD : Hid _ := digit_any hq (d := m) (by omega)
        have HP : Hid (pre q (m + 1) / 16 = pre q m) := pre_div q (by omega)
        have HS : Hid (slot m (pre q (m + 1)) = dig q m) := by show _ = _; rw [slot, if_pos hlt, pre_mod q (by omega)]
        have cC := htr.cellC (q := pre q (m + 1)) (d := m) (by omega) (by rw [HP.out]; exact HG.out)
        have fC := htr.frozenN (d := m) (by omega) HG.out (dig q m)
        rw [HS.out] at cC
        have hdl : ((dig q m : Nat) : Int) < 16 := by have := dig_lt q m; omega
        have hle := misTo_le ad q (m + 1)
        clear htr
        have HN : Hid (misTo ad q (m + 1 + 1) = misTo ad q (m + 1) + if ad' (m + 1) (pre q (m + 1)) = none then 1 else 0) := by
          show _ = _
          rw [HGR.out.off (m + 1) _ (.inl (by omega))]; rfl
        generalize dig q m = dg at *
        cases hc : ad' (m + 1) (pre q (m + 1)) with
        | some g2 =>
          rw [hc, pt_some] at cC
          have HC : Hid (ad' (m + 1) (pre q (m + 1)) = some g2) := hc
          clear hc
          go_wp2_with (go_at_call 22; refine (HD.out _ rfl _).mono ?_; rintro e w' ⟨rfl, rfl⟩)
          go_roundw
          case rel =>
            refine ⟨m + 1, g2, ad', by omega, rfl, by go_num, HC.out, ⟨fun d p hd => HGR.out.off d p (hd.imp (fun x => by omega) id), fun d hd => ?_⟩, ?_, HKP.out⟩
            · by_cases e : d = m + 1
              · subst e; rw [HC.out]; simp
              · exact HGR.out.on d (by omega)
            · rw [HN.out, HC.out]; exact HTR.out
          case measure => simp [intOf]; omega
        | none =>
          rw [hc, pt_none] at cC
          have HC : Hid (ad' (m + 1) (pre q (m + 1)) = none) := hc
          clear hc
          go_wp2_with (go_at_call 22; refine (HD.out _ rfl _).mono ?_; rintro e w' ⟨rfl, rfl⟩)
          have HTD : Hid (Tr B wr.drew b (ad' 0 0) k (n + (misTo ad q (m + 1) : Nat)) ad' vl) := HTR.out.drew
          have HNW : Hid (∀ w2, Tr B w2 b (ad' 0 0) k (n + (misTo ad q (m + 1) : Nat) + 1) ad' vl → w2.cell? ⟨g, dg, none⟩ = some (.pointer none) ∧ w2.frozen? ⟨g, dg, none⟩ = false) := by
            intro w2 t2
            have h1 := t2.cellC (q := pre q (m + 1)) (d := m) (by omega) (by rw [HP.out]; exact HG.out)
            rw [HS.out, HC.out, pt_none] at h1
            exact ⟨h1, t2.frozenN (d := m) (by omega) HG.out dg⟩
          first | (go_region_with (go_at_call 28; refine (newNode_any _ HTD.out (by omega) (by omega)).mono ?_; rintro e w2 ⟨rfl, t2, hf2, k2, s2⟩; have T2 : Hid _ := t2; have HF2 : Hid _ := hf2; have K2 : Hid _ := k2; obtain ⟨c2, f2⟩ := HNW.out w2 t2; clear t2 hf2 k2)) | (fail "the region")
          have T3 := T2.out.put (d := m) (q := pre q (m + 1)) (gp := g) (some wr.heap.size) 0 (by omega) (by rw [HP.out]; exact HG.out)
            (fun _ i hi => HTR.out.up (m + 1) _ (by omega) (by rw [show (pre q (m + 1) * 16 + i) / 16 = pre q (m + 1) by omega]; exact HC.out))
            (fun _ g' e => by cases e; exact ⟨Nat.le_of_lt (Nat.lt_of_le_of_lt HTR.out.hb HTR.out.ltB), HF2.out, HTR.out.fresh⟩) (fun e => by omega)
          rw [if_neg (by omega), HS.out, pt_some] at T3
          have K3 : Kept B w (w2.setCell ⟨g, dg, none⟩ (.pointer (some ⟨wr.heap.size, 0, none⟩))) := (HKP.out.drew.trans K2.out).trans (.setCell w2 (T2.out.node m _ g (by omega) HG.out).1 (T2.out.tendN (by omega) HG.out) _)
          have G3 : Grown ad (upd ad' (m + 1) (pre q (m + 1)) (some wr.heap.size)) q (m + 1) := by
            refine ⟨fun d p hd => ?_, fun d hd => ?_⟩
            · rw [upd_other (by rintro ⟨rfl, rfl⟩; rcases hd with hd | hd; omega; exact hd rfl)]
              exact HGR.out.off d p (hd.imp (fun x => by omega) id)
            · by_cases e : d = m + 1
              · subst e; rw [upd_same]; simp
              · rw [upd_other (by omega)]; exact HGR.out.on d (by omega)
          have cM := T3.cellC (q := pre q (m + 1)) (d := m) (by omega) (by rw [HP.out, upd_other (by omega)]; exact HG.out)
          rw [HS.out, upd_same, pt_some] at cM
          have E0 : upd ad' (m + 1) (pre q (m + 1)) (some wr.heap.size) 0 0 = ad' 0 0 := upd_other (by omega)
          have ES : upd ad' (m + 1) (pre q (m + 1)) (some wr.heap.size) (m + 1) (pre q (m + 1)) = some wr.heap.size := upd_same _ _ _ _
          rw [← E0] at T3
          generalize upd ad' (m + 1) (pre q (m + 1)) (some wr.heap.size) = ad3 at *
          generalize w2.setCell ⟨g, dg, none⟩ (.pointer (some ⟨wr.heap.size, 0, none⟩)) = w3 at *
          have HT3 : Hid (Tr B w3 b (ad3 0 0) k (n + (misTo ad q (m + 1) : Nat) + 1) ad3 vl) := T3
          have HK3 : Hid (Kept B w w3) := K3
          have HG3 : Hid (Grown ad ad3 q (m + 1)) := G3
          have HES : Hid (ad3 (m + 1) (pre q (m + 1)) = some wr.heap.size) := ES
          clear T3 K3 G3 ES E0
          generalize wr.heap.size = g3 at *
          clear cC fC c2 f2 s2 HTD HNW HD T2 K2 HF2
          go_wp2
          go_roundw
          case rel =>
            refine ⟨m + 1, g3, ad3, by omega, rfl, by go_num, HES.out, HG3.out, ?_, HK3.out⟩
            rw [HN.out, if_pos HC.out]
            have e : n + ((misTo ad q (m + 1) + 1 : Nat) : Int) = n + (misTo ad q (m + 1) : Nat) + 1 := by omega
            rw [e]; exact HT3.out
          case measure => simp [intOf]; omega
      · have e3 : m = 3 := by omega
        subst e3
        clear htr
        go_wp2
        go_ret
        exact ⟨g, ad', rfl, HG.out, HGR.out, HTR.out, HKP.out⟩
  | none =>
    rw [hr, pt_none] at c0
    have HR : Hid (ad 0 0 = none) := hr
    have HNE : Hid (ad 0 (pre q 0) = none) := by show _ = _; rw [HZ.out, hr]
    clear hr
    go_enter Try.func24, Try.ntmps24
    go_wp2_with fail
    refine (newNode_any _ HT.out (by omega) (by omega)).mono ?_
    rintro e w2 ⟨rfl, t2, hf2, k2, s2⟩
    have c2 := t2.cell0
    have f2 := t2.frozenB 0
    rw [HR.out, pt_none] at c2
    have T3 := (t2.root (g := w.heap.size) HR.out (Nat.le_of_lt (Nat.lt_of_le_of_lt HT.out.hb HT.out.ltB)) hf2 HT.out.fresh).setRoot (some w.heap.size)
    have K3 : Kept B w (w2.setCell ⟨b, 0, none⟩ (.pointer (some ⟨w.heap.size, 0, none⟩))) := k2.trans (.setCell w2 t2.hb t2.tendB _)
    rw [pt_some] at T3
    have ES : upd ad 0 0 (some w.heap.size) 0 0 = some w.heap.size := upd_same _ _ _ _
    have HG0 : Hid (Grown ad (upd ad 0 0 (some w.heap.size)) q 0) := by
      refine ⟨fun d p hd => upd_other ?_, fun d hd => ?_⟩
      · rintro ⟨rfl, rfl⟩
        rcases hd with hd | hd
        · omega
        · exact hd HZ.out.symm
      · obtain rfl : d = 0 := by omega
        rw [HZ.out, upd_same]; simp
    have c3 := T3.cell0
    rw [pt_some] at c3
    generalize upd ad 0 0 (some w.heap.size) = ad1 at *
    have HT2 : Hid _ := t2
    clear t2 hf2 k2 c0 f0
    go_upto_region 3 with (fail)
    generalize w2.setCell ⟨b, 0, none⟩ (.pointer (some ⟨w.heap.size, 0, none⟩)) = w3 at *
    have HT3 : Hid (Tr B w3 b (ad1 0 0) k (n + 1) ad1 vl) := by rw [ES]; exact T3
    have HK3 : Hid (Kept B w w3) := K3
    have HES : Hid (ad1 0 0 = some w.heap.size) := ES
    clear T3 K3 ES c2 f2
    go_wp2
    go_loopw [5, 22] (fun x i wr => ∃ (m g : Nat) (ad' : Ad), m ≤ 3 ∧ x = .pointer (some ⟨g, 0, none⟩) ∧ i = .int .i64 m ∧ ad' m (pre q m) = some g ∧ Grown ad ad' q m ∧ Tr B wr b (ad' 0 0) k (n + (misTo ad q (m + 1) : Nat)) ad' vl ∧ Kept B w wr) (fun _ i _ => 3 - (intOf i).toNat)
    case atStart => exact ⟨0, w.heap.size, ad1, by omega, rfl, rfl, by rw [HZ.out]; exact HES.out, HG0.out, by rw [misTo_one' HNE.out]; exact HT3.out, HK3.out⟩
    case round =>
      obtain ⟨m, g, ad', hm, rfl, rfl, hg, hgr, htr, hkp⟩ := hrel
      have HG : Hid (ad' m (pre q m) = some g) := hg
      have HGR : Hid (Grown ad ad' q m) := hgr
      have HTR : Hid (Tr B wr b (ad' 0 0) k (n + (misTo ad q (m + 1) : Nat)) ad' vl) := htr
      have HKP : Hid (Kept B w wr) := hkp
      clear hg hgr hkp
      by_cases hlt : m < 3
      · have HD : Hid _ := digit_any hq (d := m) (by omega)
        have HP : Hid (pre q (m + 1) / 16 = pre q m) := pre_div q (by omega)
        have HS : Hid (slot m (pre q (m + 1)) = dig q m) := by show _ = _; rw [slot, if_pos hlt, pre_mod q (by omega)]
        have cC := htr.cellC (q := pre q (m + 1)) (d := m) (by omega) (by rw [HP.out]; exact HG.out)
        have fC := htr.frozenN (d := m) (by omega) HG.out (dig q m)
        rw [HS.out] at cC
        have hdl : ((dig q m : Nat) : Int) < 16 := by have := dig_lt q m; omega
        have hle := misTo_le ad q (m + 1)
        clear htr
        have HN : Hid (misTo ad q (m + 1 + 1) = misTo ad q (m + 1) + if ad' (m + 1) (pre q (m + 1)) = none then 1 else 0) := by
          show _ = _
          rw [HGR.out.off (m + 1) _ (.inl (by omega))]; rfl
        generalize dig q m = dg at *
        cases hc : ad' (m + 1) (pre q (m + 1)) with
        | some g2 =>
          rw [hc, pt_some] at cC
          have HC : Hid (ad' (m + 1) (pre q (m + 1)) = some g2) := hc
          clear hc
          go_wp2_with (go_at_call 22; refine (HD.out _ rfl _).mono ?_; rintro e w' ⟨rfl, rfl⟩)
          go_roundw
          case rel =>
            refine ⟨m + 1, g2, ad', by omega, rfl, by go_num, HC.out, ⟨fun d p hd => HGR.out.off d p (hd.imp (fun x => by omega) id), fun d hd => ?_⟩, ?_, HKP.out⟩
            · by_cases e : d = m + 1
              · subst e; rw [HC.out]; simp
              · exact HGR.out.on d (by omega)
            · rw [HN.out, HC.out]; exact HTR.out
          case measure => simp [intOf]; omega
        | none =>
          rw [hc, pt_none] at cC
          have HC : Hid (ad' (m + 1) (pre q (m + 1)) = none) := hc
          clear hc
          go_wp2_with (go_at_call 22; refine (HD.out _ rfl _).mono ?_; rintro e w' ⟨rfl, rfl⟩)
          have HTD : Hid (Tr B wr.drew b (ad' 0 0) k (n + (misTo ad q (m + 1) : Nat)) ad' vl) := HTR.out.drew
          have HNW : Hid (∀ w2, Tr B w2 b (ad' 0 0) k (n + (misTo ad q (m + 1) : Nat) + 1) ad' vl → w2.cell? ⟨g, dg, none⟩ = some (.pointer none) ∧ w2.frozen? ⟨g, dg, none⟩ = false) := by
            intro w2 t2
            have h1 := t2.cellC (q := pre q (m + 1)) (d := m) (by omega) (by rw [HP.out]; exact HG.out)
            rw [HS.out, HC.out, pt_none] at h1
            exact ⟨h1, t2.frozenN (d := m) (by omega) HG.out dg⟩
          first | (go_region_with (go_at_call 28; refine (newNode_any _ HTD.out (by omega) (by omega)).mono ?_; rintro e w2 ⟨rfl, t2, hf2, k2, s2⟩; have T2 : Hid _ := t2; have HF2 : Hid _ := hf2; have K2 : Hid _ := k2; obtain ⟨c2, f2⟩ := HNW.out w2 t2; clear t2 hf2 k2)) | (fail "the region")
          have T3 := T2.out.put (d := m) (q := pre q (m + 1)) (gp := g) (some wr.heap.size) 0 (by omega) (by rw [HP.out]; exact HG.out)
            (fun _ i hi => HTR.out.up (m + 1) _ (by omega) (by rw [show (pre q (m + 1) * 16 + i) / 16 = pre q (m + 1) by omega]; exact HC.out))
            (fun _ g' e => by cases e; exact ⟨Nat.le_of_lt (Nat.lt_of_le_of_lt HTR.out.hb HTR.out.ltB), HF2.out, HTR.out.fresh⟩) (fun e => by omega)
          rw [if_neg (by omega), HS.out, pt_some] at T3
          have K3 : Kept B w (w2.setCell ⟨g, dg, none⟩ (.pointer (some ⟨wr.heap.size, 0, none⟩))) := (HKP.out.drew.trans K2.out).trans (.setCell w2 (T2.out.node m _ g (by omega) HG.out).1 (T2.out.tendN (by omega) HG.out) _)
          have G3 : Grown ad (upd ad' (m + 1) (pre q (m + 1)) (some wr.heap.size)) q (m + 1) := by
            refine ⟨fun d p hd => ?_, fun d hd => ?_⟩
            · rw [upd_other (by rintro ⟨rfl, rfl⟩; rcases hd with hd | hd; omega; exact hd rfl)]
              exact HGR.out.off d p (hd.imp (fun x => by omega) id)
            · by_cases e : d = m + 1
              · subst e; rw [upd_same]; simp
              · rw [upd_other (by omega)]; exact HGR.out.on d (by omega)
          have cM := T3.cellC (q := pre q (m + 1)) (d := m) (by omega) (by rw [HP.out, upd_other (by omega)]; exact HG.out)
          rw [HS.out, upd_same, pt_some] at cM
          have E0 : upd ad' (m + 1) (pre q (m + 1)) (some wr.heap.size) 0 0 = ad' 0 0 := upd_other (by omega)
          have ES : upd ad' (m + 1) (pre q (m + 1)) (some wr.heap.size) (m + 1) (pre q (m + 1)) = some wr.heap.size := upd_same _ _ _ _
          rw [← E0] at T3
          generalize upd ad' (m + 1) (pre q (m + 1)) (some wr.heap.size) = ad3 at *
          generalize w2.setCell ⟨g, dg, none⟩ (.pointer (some ⟨wr.heap.size, 0, none⟩)) = w3 at *
          have HT3 : Hid (Tr B w3 b (ad3 0 0) k (n + (misTo ad q (m + 1) : Nat) + 1) ad3 vl) := T3
          have HK3 : Hid (Kept B w w3) := K3
          have HG3 : Hid (Grown ad ad3 q (m + 1)) := G3
          have HES : Hid (ad3 (m + 1) (pre q (m + 1)) = some wr.heap.size) := ES
          clear T3 K3 G3 ES E0
          generalize wr.heap.size = g3 at *
          clear cC fC c2 f2 s2 HTD HNW HD T2 K2 HF2
          go_wp2
          go_roundw
          case rel =>
            refine ⟨m + 1, g3, ad3, by omega, rfl, by go_num, HES.out, HG3.out, ?_, HK3.out⟩
            rw [HN.out, if_pos HC.out]
            have e : n + ((misTo ad q (m + 1) + 1 : Nat) : Int) = n + (misTo ad q (m + 1) : Nat) + 1 := by omega
            rw [e]; exact HT3.out
          case measure => simp [intOf]; omega
      · have e3 : m = 3 := by omega
        subst e3
        clear htr
        go_wp2
        go_ret
        exact ⟨g, ad', rfl, HG.out, HGR.out, HTR.out, HKP.out⟩
end Go.Proofs.Ytkghedllkigecaa
