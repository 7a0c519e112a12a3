/- The walks of the document's Page, Of and Runs (layer 10). -/
import Derived.Test.YtgninhecclinaaaEPage
import Derived.Deep.QuietTactic
import Derived.BigQuiet
import Derived.Deep.LoopGhost
namespace Go.Proofs.Ytgninhecclinaaa
open Go.RowKit

/-- The document's page under way: k bytes stand. -/
structure Lays (w wr : World) (g gw c k n : Nat) (P : List Nat) : Prop where
  own : wr.ownsRow g 5 1 (.slice (some ⟨g, 0, none⟩) 4096 4096) 4096 (bv P)
  len : P.length = 4096
  get : ∀ i, i < k → P.getD i 0 = n / 256 ^ (i % 8) % 256
  src : wr.ownsRow w.heap.size 5 1 (.slice (some ⟨gw, 0, none⟩) 8 c) 8 (bv (putN 8 n))
  lt : gw < g
  lo : w.heap.size ≤ g
  bel : Below w.heap.size w wr
theorem Lays.step {w wr : World} {g gw c k n : Nat} {P : List Nat} (h : Lays w wr g gw c k n P) (hk : k < 4096) : Lays w (wr.setCell ⟨g, k, none⟩ (.int .u8 ((n / 256 ^ (k % 8) % 256 : Nat) : Int))) g gw c (k + 1) n (P.set k (n / 256 ^ (k % 8) % 256)) := by
  have hl := h.len
  have R := h.own.stored k (.int .u8 ((n / 256 ^ (k % 8) % 256 : Nat) : Int))
  rw [bv_set] at R
  have hT : Turns g (g + 1) wr (wr.setCell ⟨g, k, none⟩ (.int .u8 ((n / 256 ^ (k % 8) % 256 : Nat) : Int))) := Turns.setCell (p := ⟨g, k, none⟩) (Turns.refl g (g + 1) wr) (Nat.le_refl g) (Nat.lt_succ_self g) _
  have hg : g < wr.heap.size := (h.own.lt g rfl).2
  refine ⟨R.1, by rw [List.length_set, hl], fun i hi => ?_, row_of_block h.src (hT.block gw (by have := h.lt; omega) (.inl h.lt)), h.lt, h.lo, h.bel.trans ((hT.below (Nat.le_of_lt hg)).mono h.lo)⟩
  by_cases e : i = k
  · subst e
    rw [List.getD_eq_getElem?_getD, List.getElem?_set_self (by omega)]
    rfl
  · rw [List.getD_eq_getElem?_getD, List.getElem?_set_ne (by omega), ← List.getD_eq_getElem?_getD]
    exact h.get i (by omega)
theorem Lays.fin {w wr : World} {g gw c n : Nat} {P : List Nat} (h : Lays w wr g gw c 4096 n P) : P = pageN n := by
  refine ext_getD (by rw [pageN_len, h.len]) fun i hi => ?_
  rw [h.len] at hi
  rw [h.get i hi, pageN_getD hi]

set_option maxRecDepth 100000 in
set_option maxHeartbeats 400000 in
theorem refPage_any (n : Nat) (N : Int) (hN : N = n) (hn : n < 18446744073709551616) (w : World) :
    Calls Try.prog 25 #[.int .u64 N] w fun e w' => ∃ g, e = .returned (.slice (some ⟨g, 0, none⟩) 4096 4096) ∧ w'.ownsRow w.heap.size 5 1 (.slice (some ⟨g, 0, none⟩) 4096 4096) 4096 (bv (pageN n)) ∧ Below w.heap.size w w' := by
  subst hN
  obtain ⟨Z, hZ⟩ : ∃ Z : List Nat, Z = List.replicate 4096 0 := ⟨_, rfl⟩
  have hmk : ∀ w : World, (Instr.makeSlice 23 (.int .i64 4096) (.int .i64 4096)).run Try.prog w = .ok (.slice (some ⟨w.heap.size, 0, none⟩) 4096 4096) (w.alloc (.cells (bv Z).toArray 5)) := by
    intro w
    rw [hZ]
    exact run_make_bytes 4096 (by omega) w
  have HZ : Hid (∀ w : World, (w.alloc (.cells (bv Z).toArray 5)).ownsRow w.heap.size 5 1 (.slice (some ⟨w.heap.size, 0, none⟩) 4096 4096) 4096 (bv Z)) := by
    intro w
    rw [hZ]
    exact made_own w 4096 (by unfold maxLen; omega)
  have HZL : Hid (Z.length = 4096) := by show _ = _; rw [hZ]; simp
  clear hZ
  go_enter Try.func25, Try.ntmps25
  go_wp2_with fail
  refine (refPut_any 8 n _ _ rfl rfl w (by omega) hn).mono ?_
  rintro e w1 ⟨v, rfl, own1, b1⟩
  obtain ⟨p, c, rfl⟩ := row_slice own1
  obtain ⟨gw, rfl, _, _, hlo, hlt⟩ := row_at own1 (i := 0) (by omega)
  have HF : Hid (Lays w (w1.alloc (.cells (bv Z).toArray 5)) w1.heap.size gw c 0 n Z) :=
    ⟨HZ.out w1, HZL.out, fun i hi => by omega, own1.alloc _, hlt, b1.size, b1.alloc b1.size _⟩
  clear own1 b1
  go_wp2
  generalize w1.alloc (.cells (bv Z).toArray 5) = w2 at *
  generalize w1.heap.size = g at *
  clear hmk HZ
  go_loopw [5] (fun i wr => ∃ (k : Nat) (P : List Nat), k ≤ 4096 ∧ i = .int .i64 k ∧ Lays w wr g gw c k n P) (fun i _ => 4096 - (intOf i).toNat)
  case atStart => exact ⟨0, Z, by omega, rfl, HF.out⟩
  case round =>
    obtain ⟨k, P, hk, rfl, hF⟩ := hrel
    clear HF
    have H : Hid (Lays w wr g gw c k n P) := hF
    by_cases hlt : k < 4096
    · have i1 : (k : Int) < 4096 := by omega
      have hc : wr.cell? ⟨gw, k % 8, none⟩ = some (.int .u8 ((n / 256 ^ (k % 8) % 256 : Nat) : Int)) := by
        rw [hF.src.cellAt (k % 8) (by omega), bv_at _ _ (by rw [length_putN]; omega), putN_getD (by omega)]
      obtain ⟨v0, hc0⟩ := own_cell hF.own hlt
      have hfz := hF.own.frozenAt k
      have HS : Hid (Lays w (wr.setCell ⟨g, k, none⟩ (.int .u8 ((n / 256 ^ (k % 8) % 256 : Nat) : Int))) g gw c (k + 1) n (P.set k (n / 256 ^ (k % 8) % 256))) := hF.step hlt
      generalize n / 256 ^ (k % 8) % 256 = x at *
      have hix := index_at (g := gw) (o := 0) (L := 8) (c := c) (q := k % 8) (I := (k : Int) % 8) (k % 8) (by omega) (by omega) (by omega)
      clear hF
      go_wp2
      go_roundw
      case rel => exact ⟨k + 1, _, by omega, by go_num, HS.out⟩
      case measure => simp [intOf]; omega
    · obtain rfl : k = 4096 := by omega
      have e := hF.fin
      subst e
      have HO : Hid _ := rowMono hF.own hF.lo
      have HB : Hid _ := hF.bel
      clear hF
      go_wp2
      go_ret
      exact ⟨g, rfl, HO.out, HB.out⟩

set_option maxHeartbeats 400000 in
theorem refOf_any {p : Option Addr} {L c : Nat} {b : List Nat} (w : World) (h : ByAt w p L c b) :
    Calls Try.prog 22 #[.slice p L c] w fun e w' => e = .returned (.tuple #[.int .u64 (ofN b : Nat), .bool (oneB b)]) ∧ ∃ m, w' = w.drewN m := by
  have hL := h.short
  unfold maxLen at hL
  have hl := h.len
  by_cases hp : L = 4096
  · subst hp
    obtain ⟨g, off, rfl, hg, hcell⟩ := h.at (by omega)
    have H : Hid (ByAt w (some ⟨g, off, none⟩) 4096 c b) := h
    have HL : Hid (b.length = 4096) := hl
    have HC : Hid (∀ i, i < 4096 → w.cell? ⟨g, off + i, none⟩ = some (.int .u8 (b.getD i 0 : Nat))) := hcell
    have HO : Hid (oneB b = true ↔ ∀ i, i < 4096 → b.getD i 0 = b.getD (i % 8) 0) := oneB_bytes hl h.byte
    clear h hl hcell
    go_enter Try.func22, Try.ntmps22
    go_wp2
    go_loopw [4] (fun i wr => ∃ k m : Nat, 8 ≤ k ∧ k ≤ 4096 ∧ i = .int .i64 k ∧ wr = w.drewN m ∧ ∀ i, i < k → b.getD i 0 = b.getD (i % 8) 0) (fun i _ => 4096 - (intOf i).toNat)
    case atStart => exact ⟨8, 0, by omega, by omega, rfl, rfl, fun i hi => by rw [Nat.mod_eq_of_lt hi]⟩
    case round =>
      obtain ⟨k, m, hk8, hk, rfl, rfl, hall⟩ := hrel
      have HA : Hid (∀ i, i < k → b.getD i 0 = b.getD (i % 8) 0) := hall
      clear hall
      by_cases hlt : k < 4096
      · have i1 : (k : Int) < 4096 := by omega
        have c1 := HC.out k hlt
        have c2 := HC.out (k % 8) (by omega)
        have hix := index_at (g := g) (o := off) (L := 4096) (c := c) (q := off + k % 8) (I := (k : Int) % 8) (k % 8) (by omega) (by omega) (by omega)
        by_cases e : b.getD k 0 = b.getD (k % 8) 0
        · have HA2 : Hid (∀ i, i < k + 1 → b.getD i 0 = b.getD (i % 8) 0) := fun i hi => by
            by_cases e2 : i = k
            · subst e2; exact e
            · exact HA.out i (by omega)
          rw [← e] at c2
          clear e
          generalize b.getD k 0 = x at *
          go_wp2_with fail
          go_quiet (fail)
          go_wp2
          go_roundw
          case rel => exact ⟨k + 1, _, by omega, by omega, by go_num, rfl, HA2.out⟩
          case measure => simp [intOf]; omega
        · have HN : Hid (oneB b = false) := by
            show _ = _
            rw [Bool.eq_false_iff]
            intro h
            exact e (HO.out.1 h k hlt)
          have HO2 : Hid (ofN b = 0) := ofN_no HN.out
          generalize b.getD k 0 = x at *
          generalize b.getD (k % 8) 0 = y at *
          have h6 : ((x : Int) != (y : Int)) = true := by rw [bne_iff_ne]; omega
          go_wp2_with fail
          go_quiet (fail)
          go_wp2
          go_ret2
          rw [HN.out, HO2.out]
          exact ⟨rfl, _, World.drewN_drewN _ _ _⟩
      · obtain rfl : k = 4096 := by omega
        have HN : Hid (oneB b = true) := HO.out.2 HA.out
        have HO2 : Hid (ofN b = wd b 0) := ofN_yes HN.out
        have HHm : Hid (ByAt (w.drewN m) (some ⟨g, off, none⟩) 4096 c b) := H.out.later (drewN_below _ _ _)
        go_wp2_with fail
        refine (refGet_any _ 4096 c 0 8 _ _ rfl rfl b _ HHm.out.short HHm.out.len (nums_src HHm.out.src) HHm.out.byte (by omega) (by omega)).mono ?_
        rintro e w' ⟨rfl, rfl⟩
        rw [show getTo b 0 8 = ofN b from HO2.out.symm]
        go_wp2
        go_ret2
        rw [HN.out]
        exact ⟨rfl, _, rfl⟩
  · have h6 : ((L : Int) != 4096) = true := by rw [bne_iff_ne]; omega
    obtain ⟨e1, e2⟩ := oneB_none (b := b) (by rw [hl]; exact hp)
    rw [e1, e2]
    clear e1 e2
    go_enter Try.func22, Try.ntmps22
    go_wp2
    go_ret2
    exact ⟨rfl, 0, rfl⟩
end Go.Proofs.Ytgninhecclinaaa
