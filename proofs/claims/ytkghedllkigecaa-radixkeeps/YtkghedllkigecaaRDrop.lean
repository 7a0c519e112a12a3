/- The walks of prune and Drop: the list without a key. -/
import Derived.Test.YtkghedllkigecaaRPut
import Derived.Test.YtkghedllkigecaaREq
namespace Go.Proofs.Ytkghedllkigecaa
open Go.RowKit

/-- The nodes of a key's beginnings from m digits on are gone. -/
def cut (ad : Ad) (k m : Nat) : Ad := fun d p => if m ≤ d ∧ d < 4 ∧ p = pre k d then none else ad d p
theorem cut_on {ad : Ad} {k m d : Nat} (h : m ≤ d) (h4 : d < 4) : cut ad k m d (pre k d) = none := by simp [cut, h, h4]
theorem cut_off {ad : Ad} {k m d p : Nat} (h : d < m ∨ 4 ≤ d ∨ p ≠ pre k d) : cut ad k m d p = ad d p := by
  unfold cut
  rw [if_neg]
  rintro ⟨h1, h2, h3⟩
  rcases h with h | h | h
  · omega
  · omega
  · exact h h3
theorem cut_step (ad : Ad) (k : Nat) {m : Nat} (hm : m < 4) : upd (cut ad k (m + 1)) m (pre k m) none = cut ad k m := by
  funext d p
  by_cases c : d = m ∧ p = pre k m
  · obtain ⟨rfl, rfl⟩ := c
    rw [upd_same, cut_on (Nat.le_refl _) hm]
  · rw [upd_other c]
    unfold cut
    by_cases c1 : m + 1 ≤ d ∧ d < 4 ∧ p = pre k d
    · rw [if_pos c1, if_pos ⟨by omega, c1.2⟩]
    · rw [if_neg c1, if_neg]
      rintro ⟨h1, h2, h3⟩
      by_cases e : d = m
      · subst e; exact c ⟨rfl, h3⟩
      · exact c1 ⟨by omega, h2, h3⟩
theorem cut_four (ad : Ad) (k : Nat) : cut ad k 4 = ad := by
  funext d p
  exact cut_off (by omega)
theorem kid_some {ad : Ad} {d p i : Nat} (hi : i < 32) (h : kid ad d p i ≠ none) : ∃ q, q / 16 = p ∧ ad (d + 1) q ≠ none := by
  unfold kid at h
  split at h
  · split at h
    · exact ⟨_, by omega, h⟩
    · exact absurd rfl h
  · split at h
    · rename_i e
      subst e
      exact ⟨_, by omega, h⟩
    · exact absurd rfl h
theorem pathCells_at (c : Nat → Option Nat) : ∀ j, j < 4 → (pathCells c)[j]? = some (.pointer (pt (c j)))
  | 0, _ => rfl
  | 1, _ => rfl
  | 2, _ => rfl
  | 3, _ => rfl
  | j + 4, h => by omega
/-- A tree whose key k has just lost its thing, with the nodes still there; it has l. -/
structure Half (B : Nat) (w : World) (b : Nat) (l : List KV) (k : Nat) (ad : Ad) (vl : Nat → Int) : Prop where
  tr : Tr B w b (ad 0 0) (l.length : Nat) ((nodesOf l + miss l k : Nat)) ad vl
  fine : Fine l
  off : ∀ d p, d ≤ 4 → p ≠ pre k d → (ad d p ≠ none ↔ has d p l)
  on : ∀ d, d < 4 → ad d (pre k d) ≠ none
  gone : ad 4 k = none
  none4 : ¬ has 4 (pre k 4) l
  vals : ∀ x ∈ l, vl x.1 = x.2
section
variable {B b k : Nat} {w w' : World} {l : List KV} {ad : Ad} {vl : Nat → Int}
theorem Half.below (h : Half B w b l k ad vl) (hb : Below w.heap.size w w') : Half B w' b l k ad vl := ⟨h.tr.below hb, h.fine, h.off, h.on, h.gone, h.none4, h.vals⟩
theorem Half.empty (h : Half B w b l k ad vl) {m : Nat} (hm : m < 4) (hno : ∀ d, m + 1 ≤ d → d ≤ 4 → ¬ has d (pre k d) l) :
    (∀ i, i < 32 → kid (cut ad k (m + 1)) m (pre k m) i = none) ↔ ¬ has m (pre k m) l := by
  constructor
  · rintro ha ⟨x, hx, e⟩
    have hq : pre x.1 (m + 1) / 16 = pre k m := by rw [pre_div x.1 hm, e]
    by_cases c : pre x.1 (m + 1) = pre k (m + 1)
    · exact hno (m + 1) (Nat.le_refl _) (by omega) ⟨x, hx, c⟩
    · have h1 := ha _ (slot_lt m (pre x.1 (m + 1)))
      rw [← hq, kid_child _ _ hm, cut_off (.inr (.inr c))] at h1
      exact (h.off (m + 1) _ (by omega) c).2 ⟨x, hx, rfl⟩ h1
  · intro hn i hi
    by_cases c : kid (cut ad k (m + 1)) m (pre k m) i = none
    · exact c
    · obtain ⟨q, h1, h2⟩ := kid_some hi c
      exfalso
      by_cases e : q = pre k (m + 1)
      · subst e
        by_cases e4 : m + 1 < 4
        · exact h2 (cut_on (Nat.le_refl _) e4)
        · have : m = 3 := by omega
          subst this
          rw [cut_off (.inr (.inl (by omega))), pre_four] at h2
          exact h2 h.gone
      · rw [cut_off (.inr (.inr e))] at h2
        obtain ⟨x, hx, e2⟩ := (h.off (m + 1) q (by omega) e).1 h2
        exact hn ⟨x, hx, by rw [← pre_div x.1 hm, e2, h1]⟩
theorem misses {m : Nat} (hm : m ≤ 4) (hno : ∀ d, m ≤ d → d ≤ 4 → ¬ has d (pre k d) l) (hyes : 0 < m → has (m - 1) (pre k (m - 1)) l) : miss l k = 4 - m :=
  miss_from hm (fun d hd => has_le (m - 1) (by omega) (by omega) (hyes (by omega))) (fun d h1 h2 => hno d h1 (by omega))
theorem Half.fin (h : Half B w b l k ad vl) {m : Nat} (hm : m ≤ 4) (hno : ∀ d, m ≤ d → d ≤ 4 → ¬ has d (pre k d) l) (hyes : 0 < m → has (m - 1) (pre k (m - 1)) l)
    (ht : Tr B w' b (cut ad k m 0 0) (l.length : Nat) (nodesOf l : Nat) (cut ad k m) vl) : TreeOf B w' b l (cut ad k m) vl := by
  refine ⟨ht, h.fine, fun d p hd => ?_, h.vals⟩
  by_cases e : p = pre k d
  · subst e
    by_cases c : m ≤ d
    · have hn := hno d c hd
      refine ⟨fun x => absurd ?_ x, fun x => absurd x hn⟩
      by_cases e4 : d < 4
      · exact cut_on c e4
      · have : d = 4 := by omega
        subst this
        rw [cut_off (.inr (.inl (by omega))), pre_four]
        exact h.gone
    · rw [cut_off (.inl (by omega))]
      exact ⟨fun _ => has_le (m - 1) (by omega) (by omega) (hyes (by omega)), fun _ => h.on d (by omega)⟩
  · rw [cut_off (.inr (.inr e))]
    exact h.off d p hd e
end

set_option maxHeartbeats 4000000 in
theorem prune_any {B b k : Nat} {l : List KV} {ad : Ad} {vl : Nat → Int} (hk : k < 65536) (w : World) (h : Half B w b l k ad vl) :
    Calls Try.prog 25 #[.pointer (some ⟨b, 0, none⟩), .int .i64 (k : Nat), .agg (pathCells fun j => ad j (pre k j))] w fun e w' => e = .returned (.tuple #[]) ∧ TreeP B w' (some ⟨b, 0, none⟩) l ∧ Kept B w w' := by
  have hb1 : Below w.heap.size w (w.alloc (.cells (pathCells fun j => ad j (pre k j)) 53)) := (Below.refl _ w).alloc (Nat.le_refl _) _
  have h1 := h.below hb1
  have hpb := heap_alloc_new w (.cells (pathCells fun j => ad j (pre k j)) 53)
  have k1 : Kept B w (w.alloc (.cells (pathCells fun j => ad j (pre k j)) 53)) := .of_below hb1
  have hnb := nodesOf_le l
  have hlb := h.fine.len
  obtain ⟨N, hN⟩ : ∃ N : Int, ((nodesOf l + miss l k : Nat) : Int) = N := ⟨_, rfl⟩
  have hN1 : 0 ≤ N ∧ N ≤ 900000 := by
    have : miss l k ≤ 4 := by unfold miss missAt; (repeat' split) <;> omega
    omega
  go_enter Try.func25, Try.ntmps25
  generalize hw1 : w.alloc (.cells (pathCells fun j => ad j (pre k j)) 53) = w1 at *
  go_wp2
  obtain ⟨pb, hpe⟩ : ∃ x, w.heap.size = x := ⟨_, rfl⟩
  rw [hpe] at hpb
  rw [hpe]
  have HH : Hid (Half B w1 b l k ad vl) := h1
  have HPB : Hid (w1.heap[pb]? = some (.cells (pathCells fun j => ad j (pre k j)) 53 (0, 0))) := hpb
  have HK1 : Hid (Kept B w w1) := k1
  have HN : Hid (((nodesOf l + miss l k : Nat) : Int) = N) := hN
  have HPV : Hid (∀ j, j < 4 → (pathCells (fun j => ad j (pre k j)))[j]? = some (.pointer (pt (ad j (pre k j))))) := pathCells_at _
  generalize pathCells (fun j => ad j (pre k j)) = PV at *
  clear hw1 h1 hpb k1 h hb1 hN
  go_loopw [6] (fun i wr => ∃ m : Nat, m ≤ 4 ∧ i = .int .i64 ((m : Int) - 1) ∧ Tr B wr b (ad 0 0) (l.length : Nat) (N - (4 - (m : Int))) (cut ad k m) vl ∧ (∀ d, m ≤ d → d ≤ 4 → ¬ has d (pre k d) l) ∧ Kept B w1 wr) (fun i _ => (intOf i + 1).toNat)
  case atStart =>
    refine ⟨4, by omega, rfl, ?_, ?_, Kept.refl _ _⟩
    · rw [cut_four, show N - (4 - ((4 : Nat) : Int)) = N by omega, ← HN.out]; exact HH.out.tr
    · intro d h1 h2
      obtain rfl : d = 4 := by omega
      exact HH.out.none4
  case round =>
    obtain ⟨m, hm, rfl, htr, hno, hkp⟩ := hrel
    have HT : Hid (Tr B wr b (ad 0 0) (l.length : Nat) (N - (4 - (m : Int))) (cut ad k m) vl) := htr
    have HNO : Hid (∀ d, m ≤ d → d ≤ 4 → ¬ has d (pre k d) l) := hno
    have HKP : Hid (Kept B w1 wr) := hkp
    have c2 := htr.cell2
    have f2 := htr.frozenB 2
    have c0 := htr.cell0
    have f0 := htr.frozenB 0
    clear hno hkp
    cases m with
    | zero =>
      have HM : Hid (miss l k = 4 - 0) := misses (by omega) HNO.out (by omega)
      have HE : Hid (l = []) := by
        show _ = _
        by_cases e : l = []
        · exact e
        · have := (has_zero HH.out.fine).2 e
          exact absurd (by rw [pre_zero hk]; exact this) (HNO.out 0 (by omega) (by omega))
      have hv : N - (4 - ((0 : Nat) : Int)) = 0 := by
        have h1 := HN.out
        have h2 := HM.out
        have h3 : nodesOf l = 0 := by rw [HE.out]; rfl
        omega
      rw [hv] at c2
      clear htr hv
      rw [show ((0 : Nat) : Int) - 1 = -1 by omega]
      go_wp2
      go_end0
      have T := HT.out.setRoot none
      rw [pt_none] at T
      have hv : N - (4 - ((0 : Nat) : Int)) = ((nodesOf l : Nat) : Int) := by
        have h1 := HN.out
        have h2 := HM.out
        omega
      rw [hv] at T
      refine ⟨rfl, .inr ⟨b, _, _, rfl, HH.out.fin (by omega) HNO.out (by omega) ?_⟩, (HK1.out.trans HKP.out).trans (.setCell wr HT.out.hb HT.out.tendB _)⟩
      have e0 := cut_on (ad := ad) (k := k) (m := 0) (d := 0) (Nat.le_refl _) (by omega)
      rw [pre_zero hk] at e0
      rw [e0]
      exact T
    | succ j =>
      have hj : j < 4 := by omega
      obtain ⟨g, hg⟩ := Option.ne_none_iff_exists'.1 (HH.out.on j hj)
      have hgc : cut ad k (j + 1) j (pre k j) = some g := by rw [cut_off (.inl (by omega))]; exact hg
      have hpc : wr.cell? ⟨pb, j, none⟩ = some (.pointer (some ⟨g, 0, none⟩)) := by
        rw [cell_of_row wr pb j _ _ _ (HKP.out.other HPB.out (by decide) (by decide)), HPV.out j hj, hg]; rfl
      rw [show ((j + 1 : Nat) : Int) - 1 = j by omega]
      by_cases c : has j (pre k j) l
      · have HLD : Hid _ := load_node (htr.node j _ g hj hgc).2
        have heq := fun w => eqNode (kid (cut ad k (j + 1)) j (pre k j)) w (b := false) (by simp only [Bool.false_eq_true, false_iff]; intro x; exact (HH.out.empty hj HNO.out).1 x c)
        have HM : Hid (miss l k = 4 - (j + 1)) := misses (by omega) HNO.out (fun _ => c)
        have hv : N - (4 - ((j + 1 : Nat) : Int)) = ((nodesOf l : Nat) : Int) := by
          have h1 := HN.out
          have h2 := HM.out
          omega
        have HC : Hid (has j (pre k j) l) := c
        have HT2 := HT.out
        rw [hv] at c2 HT2
        have hpos : 0 < nodesOf l := by
          apply nodesOf_pos
          rintro rfl
          obtain ⟨y, hy, _⟩ := c
          simp at hy
        have hne : ¬ ((nodesOf l : Nat) : Int) = 0 := by omega
        have HF : Hid (Tr B wr b (ad 0 0) (l.length : Nat) (nodesOf l : Nat) (cut ad k (j + 1)) vl) := HT2
        generalize nodeCells (kid (cut ad k (j + 1)) j (pre k j)) = X at *
        clear htr HT2 c hv hg hgc
        go_wp2_with (refine wpList_load_node rfl _ rfl g rfl HLD.out ?_)
        go_end0
        refine ⟨rfl, .inr ⟨b, _, _, rfl, HH.out.fin (by omega) HNO.out (fun _ => HC.out) ?_⟩, HK1.out.trans HKP.out⟩
        rw [cut_off (.inl (by omega))]
        exact HF.out
      · have HLD : Hid _ := load_node (htr.node j _ g hj hgc).2
        have heq := fun w => eqNode (kid (cut ad k (j + 1)) j (pre k j)) w (b := true) (by simp only [true_iff]; exact (HH.out.empty hj HNO.out).2 c)
        have HE : Hid _ := (HH.out.empty hj HNO.out).2 c
        have HNO2 : Hid (∀ d, j ≤ d → d ≤ 4 → ¬ has d (pre k d) l) := by
          intro d h1 h2
          by_cases e : d = j
          · subst e; exact c
          · exact HNO.out d (by omega) h2
        generalize nodeCells (kid (cut ad k (j + 1)) j (pre k j)) = X at *
        clear htr c
        have T1 := HT.out.setN (N - (4 - ((j + 1 : Nat) : Int)) - 1)
        have K1 : Kept B w1 (wr.setCell ⟨b, 2, none⟩ (.int .i64 (N - (4 - ((j + 1 : Nat) : Int)) - 1))) := HKP.out.trans (.setCell wr HT.out.hb HT.out.tendB _)
        have hv : N - (4 - ((j + 1 : Nat) : Int)) - 1 = N - (4 - (j : Int)) := by omega
        have hv2 : -4 ≤ N - (4 - ((j + 1 : Nat) : Int)) ∧ N - (4 - ((j + 1 : Nat) : Int)) ≤ 1000000 := by omega
        rw [hv] at T1 K1
        generalize hV : N - (4 - ((j + 1 : Nat) : Int)) = V at *
        cases j with
        | zero =>
          clear T1 K1
          go_wp2_with (refine wpList_load_node rfl _ rfl g rfl HLD.out ?_)
          go_roundw
          case rel =>
            refine ⟨0, by omega, rfl, ?_, HNO2.out, HKP.out.trans (.setCell wr HT.out.hb HT.out.tendB _)⟩
            have T2 := (HT.out.setN (N - 4)).rootCut (fun i hi => by
              have := HE.out i (by omega)
              rw [pre_zero hk] at this
              unfold kid at this
              rw [if_pos hi, if_pos (by omega), show 0 * 16 + i = i by omega] at this
              exact this)
            have e := cut_step ad k (m := 0) (by omega)
            rw [pre_zero hk] at e
            rw [e] at T2
            exact T2
          case measure => simp [intOf]
        | succ i =>
          have HPD : Hid (pre k (i + 1) / 16 = pre k i) := pre_div k (by omega)
          have HS : Hid (slot i (pre k (i + 1)) = dig k i) := by show _ = _; rw [slot, if_pos (by omega), pre_mod k (by omega)]
          have HD : Hid _ := digit_any hk (d := i) (by omega)
          have hdl : ((dig k i : Nat) : Int) < 16 := by have := dig_lt k i; omega
          obtain ⟨gp, hgp⟩ := Option.ne_none_iff_exists'.1 (HH.out.on i (by omega))
          have HGP : Hid (cut ad k (i + 1 + 1) i (pre k i) = some gp) := by show _ = _; rw [cut_off (.inl (by omega))]; exact hgp
          have HPC : Hid (∀ wq, Kept B w1 wq → wq.cell? ⟨pb, i, none⟩ = some (.pointer (some ⟨gp, 0, none⟩))) := by
            intro wq hq
            rw [cell_of_row wq pb i _ _ _ (hq.other HPB.out (by decide) (by decide)), HPV.out i (by omega), hgp]; rfl
          have HKI : Hid (∀ i_1, i_1 < 16 → i + 1 < 3 → cut ad k (i + 1 + 1) (i + 1 + 1) (pre k (i + 1) * 16 + i_1) = none) := by
            intro z hz h3
            have := HE.out z (by omega)
            unfold kid at this
            rw [if_pos hz, if_pos h3] at this
            exact this
          have HK3 : Hid (i + 1 = 3 → ∀ z, z < 16 → cut ad k (i + 1 + 1) 4 (pre k (i + 1) * 16 + z) = none) := by
            intro h3 z hz
            have := HE.out (16 + z) (by omega)
            unfold kid at this
            rw [if_neg (by omega), if_pos h3, show 16 + z - 16 = z by omega] at this
            exact this
          generalize dig k i = dg at *
          generalize hY : N - (4 - ((i + 1 : Nat) : Int)) = Y at *
          rw [show ((i + 1 : Nat) : Int) = (i : Int) + 1 by omega]
          have HT1 : Hid (Tr B (wr.setCell ⟨b, 2, none⟩ (.int .i64 Y)) b (ad 0 0) (l.length : Nat) Y (cut ad k (i + 1 + 1)) vl) := T1
          have HKA : Hid (Kept B w1 (wr.setCell ⟨b, 2, none⟩ (.int .i64 Y))) := K1
          have hi0 : (0 : Int) < (i : Int) + 1 := by omega
          clear T1 K1
          go_wp2_with (refine wpList_load_node rfl _ rfl g rfl HLD.out ?_)
          generalize wr.setCell ⟨b, 2, none⟩ (.int .i64 Y) = w2 at *
          have pc := HPC.out w2 HKA.out
          have cP := HT1.out.cellC (q := pre k (i + 1)) (d := i) (by omega) (by rw [HPD.out]; exact HGP.out)
          have fP := HT1.out.frozenN (d := i) (by omega) HGP.out dg
          rw [HS.out] at cP
          have T3 := HT1.out.put (d := i) (q := pre k (i + 1)) (gp := gp) none 0 (by omega) (by rw [HPD.out]; exact HGP.out)
            (fun h3 z hz => by
              by_cases e : i + 1 < 3
              · exact HKI.out z hz e
              · obtain rfl : i = 2 := by omega
                exact HK3.out rfl z hz) (fun _ g' e => by cases e) (fun e => by omega)
          rw [if_neg (by omega), HS.out, pt_none, cut_step ad k (by omega)] at T3
          have HT3 : Hid (Tr B (w2.setCell ⟨gp, dg, none⟩ (.pointer none)) b (ad 0 0) (l.length : Nat) Y (cut ad k (i + 1)) vl) := T3
          have HKB : Hid (Kept B w1 (w2.setCell ⟨gp, dg, none⟩ (.pointer none))) := HKA.out.trans (.setCell w2 (HT1.out.node i _ gp (by omega) HGP.out).1 (HT1.out.tendN (by omega) HGP.out) _)
          generalize ad' : cut ad k (i + 1 + 1) (i + 1) (pre k (i + 1)) = oo at *
          have hi4 : (i : Int) < 4 := by omega
          have hi5 : (0 : Int) ≤ (i : Int) := by omega
          clear T3 HLD heq hpc c2 f2 c0 f0
          generalize hDe : (i : Int) + 1 = D at *
          have hD1 : D - 1 = (i : Int) := by omega
          have hD2 : 1 ≤ D ∧ D ≤ 3 := by omega
          have HDE : Hid _ := hDe
          have hwr : IntKind.i64.wrap (i : Int) = (i : Int) := by simp only [IntKind.wrap]; simp [IntKind.signed, IntKind.bits]; omega
          clear hDe
          go_region_with (go_at_call 22; refine (HD.out _ rfl _).mono ?_; rintro e w' ⟨rfl, rfl⟩)
          all_goals
            go_wp2
            go_roundw
            case rel =>
              refine ⟨i + 1, by omega, by rw [show ((i + 1 : Nat) : Int) - 1 = (i : Int) by omega], ?_, HNO2.out, HKB.out.drew⟩
              rw [hY]
              exact HT3.out.drew
            case measure => simp [intOf]; omega
end Go.Proofs.Ytkghedllkigecaa
