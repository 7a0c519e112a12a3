/- The walk of shelf: the first shelf from a place's own on that has no others. -/
import Derived.Test.YtgninhecclinaaaASet
import Derived.Test.YtgninhecclinaaaSHas
namespace Go.Proofs.Ytgninhecclinaaa
open Go.RowKit

theorem quietMore {P : Program} {f : FuncId} {args : Array Value} {w : World} {n : Nat} {v : Value}
    (h : Calls P f args (w.drewN n) fun e w' => e = .returned v ∧ ∃ m, w' = (w.drewN n).drewN m) : Calls P f args (w.drewN n) fun e w'' => e = .returned v ∧ ∃ m, w'' = w.drewN m :=
  h.mono fun _ _ ⟨he, m, hm⟩ => ⟨he, n + m, by rw [hm, World.drewN_drewN]⟩

/-- The shelf that three bytes name. -/
def hsh (x y z : Nat) : Int := bits .or .u32 (bits .or .u32 (x : Int) ((y : Int) * 256)) ((z : Int) * 65536) * 2654435761 % 4294967296 / 1048576
theorem hsh_in (x y z : Nat) : ∃ h : Nat, hsh x y z = h ∧ h < 4096 := by
  unfold hsh
  generalize bits .or .u32 (bits .or .u32 (x : Int) ((y : Int) * 256)) ((z : Int) * 65536) * 2654435761 = t
  exact ⟨(t % 4294967296 / 1048576).toNat, by omega, by omega⟩
/-- The shelf of a place. -/
def hs (b : List Nat) (q : Nat) : Nat := (hsh (b.getD q 0) (b.getD (q + 1) 0) (b.getD (q + 2) 0)).toNat
theorem hs_cand (b : List Nat) (a f : Nat) (h : cand b a f) : hs b a = hs b f := by unfold hs; rw [h.1, h.2.1, h.2.2]
theorem hs_in (b : List Nat) (q : Nat) : hsh (b.getD q 0) (b.getD (q + 1) 0) (b.getD (q + 2) 0) = (hs b q : Nat) ∧ hs b q < 4096 := by
  obtain ⟨h, h1, h2⟩ := hsh_in (b.getD q 0) (b.getD (q + 1) 0) (b.getD (q + 2) 0)
  unfold hs
  rw [h1]
  exact ⟨rfl, h2⟩

set_option maxRecDepth 100000 in
set_option maxHeartbeats 1000000 in
theorem shelf_any {fb lb L c k : Nat} {p : Option Addr} {b : List Nat} {A T : Nat → Nat} (w : World) (hF : FinAt w fb p L c b A) (hT : HasAt 83 4096 w lb T) (hS : Shelved b (hs b) k T) (hk : k + 3 ≤ L) :
    Calls Try.prog 45 #[.pointer (some ⟨fb, 0, none⟩), .pointer (some ⟨lb, 0, none⟩), .int .i64 (k : Nat)] w fun e w' => ∃ j : Nat, e = .returned (.int .i64 ((hs b k + j) % 4096 : Nat)) ∧ j < 4096 ∧ Others b (hs b) k T j ∧ (T ((hs b k + j) % 4096) = 0 ∨ cand b k (T ((hs b k + j) % 4096) - 1)) ∧ ∃ m, w' = w.drewN m := by
  have HF : Hid (FinAt w fb p L c b A) := hF
  have HS : Hid (Shelved b (hs b) k T) := hS
  have HP : Hid (HasB w (.pointer (some ⟨fb, 0, none⟩)) b) := .inr ⟨fb, p, L, c, A, rfl, hF⟩
  have HL : Hid (b.length = L) := hF.len
  have HT : Hid (HasAt 83 4096 w lb T) := hT
  have hle := hF.le
  have c0 := hF.at_.bytes
  obtain ⟨g, off, rfl, hg, hc⟩ := hF.by_.at (by omega)
  have hcap := hF.by_.cap
  have ha := hc k (by omega)
  have hb := hc (k + 1) (by omega)
  have hd := hc (k + 2) (by omega)
  have h8 : ∀ i, i < L → b.getD i 0 < 256 := fun i hi => hF.by_.byte _ (by rw [List.getD_eq_getElem?_getD, List.getElem?_eq_getElem (by rw [hF.len]; exact hi)]; exact List.getElem_mem _)
  have h8a := h8 k (by omega)
  have h8b := h8 (k + 1) (by omega)
  have h8d := h8 (k + 2) (by omega)
  have hsl := run_part (g := g) (o := off) (L := L) (c := c) (l := k) (s := 3) (A := (k : Int)) (H := (k : Int) + 3) rfl (by omega) (by omega) (by omega)
  obtain ⟨hhash, hh4⟩ := hs_in b k
  obtain ⟨x, hx⟩ : ∃ x, b.getD k 0 = x := ⟨_, rfl⟩
  obtain ⟨y, hy⟩ : ∃ y, b.getD (k + 1) 0 = y := ⟨_, rfl⟩
  obtain ⟨z, hz⟩ : ∃ z, b.getD (k + 2) 0 = z := ⟨_, rfl⟩
  rw [hx, hy, hz] at hhash
  rw [hx] at ha h8a
  rw [hy] at hb h8b
  rw [hz] at hd h8d
  obtain ⟨h, hh⟩ : ∃ h, hs b k = h := ⟨_, rfl⟩
  rw [hh] at hhash hh4
  have HH : Hid (hs b k = h) := hh
  have HHS : Hid (hsh x y z = (h : Nat)) := hhash
  clear hx hy hz hh hhash
  have ix0 := index_at (g := g) (o := off + k) (L := 3) (c := c - k) (q := off + k) (I := 0) 0 (by omega) (by omega) rfl
  have ix1 := index_at (g := g) (o := off + k) (L := 3) (c := c - k) (q := off + (k + 1)) (I := 1) 1 (by omega) (by omega) (by omega)
  have ix2 := index_at (g := g) (o := off + k) (L := 3) (c := c - k) (q := off + (k + 2)) (I := 2) 2 (by omega) (by omega) (by omega)
  clear hF hT hc h8 hS
  go_enter Try.func45, Try.ntmps45
  go_wp2_with fail
  go_quiet (fail)
  have e8 := HHS.out
  unfold hsh at e8
  rw [e8]
  clear e8 ha hb hd h8a h8b h8d hsl ix0 ix1 ix2
  go_wp2
  go_loopg [8] 4096 (fun gk i wr => ∃ (j m : Nat), j ≤ 4096 ∧ gk = 4096 - j ∧ i = .int .u32 ((h + j) % 4096 : Nat) ∧ wr = w.drewN m ∧ Others b (hs b) k T j)
  case atStart => exact ⟨0, _, by omega, rfl, by congr 1; omega, rfl, fun i hi => by omega⟩
  case round =>
    obtain ⟨j, m, hj, rfl, rfl, rfl, ho⟩ := hrel
    have HO : Hid (Others b (hs b) k T j) := ho
    have hj2 := HS.out.more (by omega) ho
    clear ho
    obtain ⟨n, hn⟩ : ∃ n, (h + j) % 4096 = n := ⟨_, rfl⟩
    have hn4 : n < 4096 := by omega
    have HNN : Hid ((hs b k + j) % 4096 = n) := by show _ = _; rw [HH.out]; exact hn
    have HN1 : Hid ((h + (j + 1)) % 4096 = (n + 1) % 4096) := by show _ = _; omega
    rw [hn]
    clear hn
    have c1 := HT.out.cell hn4
    obtain ⟨q, hq⟩ : ∃ q, T n = q := ⟨_, rfl⟩
    have HQ : Hid (T n = q) := hq
    rw [hq] at c1
    clear hq
    cases q with
    | zero =>
      have i4 : (((0 : Nat) : Int) != 0) = false := rfl
      go_wp2
      go_ret
      refine ⟨j, retInt (by rw [HNN.out]), hj2, HO.out, .inl (by rw [HNN.out]; exact HQ.out), _, rfl⟩
    | succ q =>
      have i4 : ((((q + 1 : Nat)) : Int) != 0) = true := by rw [bne_iff_ne]; omega
      have hqk : q < k := by have := HS.out.le n hn4; rw [HQ.out] at this; omega
      have HD : Hid (∀ m, HasB ((w.drewN m)) (.pointer (some ⟨fb, 0, none⟩)) b) := fun m => HP.out.later (drewN_below _ _ _)
      obtain ⟨s, hs1⟩ : ∃ s, wN b k q = s := ⟨_, rfl⟩
      have hsl := wN_le b k q
      rw [hs1] at hsl
      have HW : Hid (withI b (k : Int) (q : Int) = s) := by show _ = _; rw [with_yes (by omega) (by have := HL.out; omega)]; exact hs1
      have HC : Hid (3 ≤ s ↔ cand b k q) := by show _ ↔ _; rw [← hs1]; exact wN_cand hqk (by have := HL.out; omega)
      clear hs1
      go_wp2_with fail
      refine (with_is _ (HD.out _) HW.out).mono ?_
      rintro e w' ⟨rfl, m2, rfl⟩
      by_cases h3 : s < 3
      · have i5 : (s : Int) < 3 := by omega
        have HO2 : Hid (Others b (hs b) k T (j + 1)) := fun i hi => by
          by_cases e : i = j
          · subst e
            rw [HNN.out, HQ.out]
            exact ⟨by omega, fun h4 => by have := HC.out.2 h4; omega⟩
          · exact HO.out i (by omega)
        go_wp2
        go_roundg (4096 - (j + 1))
        case measure => omega
        case rel => exact ⟨j + 1, m + m2, by omega, rfl, by congr 1; have := HN1.out; omega, rfl, HO2.out⟩
      · have i5 : ¬ (s : Int) < 3 := by omega
        have HCQ : Hid (cand b k q) := HC.out.1 (by omega)
        go_wp2
        go_ret
        refine ⟨j, retInt (by rw [HNN.out]), hj2, HO.out, .inr (by rw [HNN.out, HQ.out]; exact HCQ.out), m + m2, rfl⟩
end Go.Proofs.Ytgninhecclinaaa
