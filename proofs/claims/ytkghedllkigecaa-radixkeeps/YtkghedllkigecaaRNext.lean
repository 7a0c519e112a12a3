/- The walks of gap and next: the least key from one on. -/
import Derived.Test.YtkghedllkigecaaRGet
namespace Go.Proofs.Ytkghedllkigecaa
open Go.RowKit

/-- Where a key's path has no node no key begins so. -/
def PathOf (l : List KV) (k : Nat) (f : Nat → Option Nat) : Prop := ∀ j, j < 4 → f j = none → ¬ has j (pre k j) l
theorem path_any {B k : Nat} {p : Option Addr} {l : List KV} (hk : k < 65536) (w : World) (h : TreeP B w p l) :
    Calls Try.prog 21 #[.pointer p, .int .i64 (k : Nat)] w fun e w' => ∃ f, e = .returned (.agg (pathCells f)) ∧ PathOf l k f ∧ Below w.heap.size w w' := by
  rcases h with ⟨rfl, rfl⟩ | ⟨b, ad, vl, rfl, h⟩
  · refine (path_none (B := B) (l := []) (k : Nat) w (.inl ⟨rfl, rfl⟩) (.inl rfl)).mono ?_
    rintro e w' ⟨rfl, hb⟩
    exact ⟨_, rfl, fun j _ _ ⟨x, hx, _⟩ => by simp at hx, hb⟩
  · refine (path_key hk w h).mono ?_
    rintro e w' ⟨rfl, hb⟩
    exact ⟨_, rfl, fun j hj hn hh => (h.dom j _ (by omega)).2 hh hn, hb⟩
theorem Try.indexJ (c : Nat → Option Nat) (w : World) : ∀ j, j < 4 → (Instr.index 53 (.agg (pathCells c)) (.int .i64 (j : Nat))).run Try.prog w = .ok (.pointer (pt (c j))) w
  | 0, _ => by kernel_rfl
  | 1, _ => by kernel_rfl
  | 2, _ => by kernel_rfl
  | 3, _ => by kernel_rfl
  | j + 4, h => by omega
def wide (m : Nat) : Nat := 16 ^ (4 - m)
theorem wide_step : ∀ m, m < 4 → wide m = 16 * wide (m + 1)
  | 0, _ => rfl
  | 1, _ => rfl
  | 2, _ => rfl
  | 3, _ => rfl
  | j + 4, h => by omega
theorem wide_pos (m : Nat) : 0 < wide m := Nat.pow_pos (by omega)
theorem wide_le (m : Nat) : wide m ≤ 65536 := by
  have : 16 ^ (4 - m) ≤ 16 ^ 4 := Nat.pow_le_pow_right (by omega) (by omega)
  simpa [wide] using this
theorem gap_plain {k : Nat} (hk : k < 65536) : ∀ m, m ≤ 4 → k + (wide m - k % wide m) ≤ 65536 ∧ ∀ x, k ≤ x → x < k + (wide m - k % wide m) → pre x m = pre k m
  | 0, _ => ⟨by simp only [wide]; omega, fun x h1 h2 => by simp only [wide] at h2; simp only [pre]; omega⟩
  | 1, _ => ⟨by simp only [wide]; omega, fun x h1 h2 => by simp only [wide] at h2; simp only [pre]; omega⟩
  | 2, _ => ⟨by simp only [wide]; omega, fun x h1 h2 => by simp only [wide] at h2; simp only [pre]; omega⟩
  | 3, _ => ⟨by simp only [wide]; omega, fun x h1 h2 => by simp only [wide] at h2; simp only [pre]; omega⟩
  | 4, _ => ⟨by simp only [wide]; omega, fun x h1 h2 => by simp only [wide] at h2; simp only [pre]; omega⟩
  | j + 5, h => by omega
structure Gap (l : List KV) (k s : Nat) : Prop where
  pos : 1 ≤ s
  le : k + s ≤ 65536
  none : ∀ x ∈ l, ¬ (k ≤ x.1 ∧ x.1 < k + s)
theorem gap_of {l : List KV} {k m : Nat} (hk : k < 65536) (hm : m ≤ 4) (h : ¬ has m (pre k m) l) : Gap l k (wide m - k % wide m) := by
  obtain ⟨h1, h2⟩ := gap_plain hk m hm
  have h3 := Nat.mod_lt k (wide_pos m)
  exact ⟨by omega, h1, fun x hx ⟨a, b⟩ => h ⟨x, hx, h2 x.1 a b⟩⟩
set_option maxHeartbeats 1000000 in
theorem gap_any {B k : Nat} {p : Option Addr} {l : List KV} (hk : k < 65536) (hv : val l k = none) (w : World) (h : TreeP B w p l) :
    Calls Try.prog 29 #[.pointer p, .int .i64 (k : Nat)] w fun e w' => ∃ s : Nat, e = .returned (.int .i64 s) ∧ Gap l k s ∧ Below w.heap.size w w' := by
  have HV : Hid (val l k = none) := hv
  clear hv
  go_enter Try.func29, Try.ntmps29
  go_wp2_with fail
  refine (path_any hk w h).mono ?_
  rintro e w1 ⟨f, rfl, hf, hb⟩
  have HF : Hid (PathOf l k f) := hf
  have HI := Try.indexJ f
  generalize pathCells f = PC at *
  clear hf h
  go_wp2
  go_loopw [5, 11] (fun x i wr => ∃ m : Nat, m ≤ 4 ∧ x = .int .i64 (wide m : Nat) ∧ i = .int .i64 m ∧ w1 = wr) (fun _ i _ => 4 - (intOf i).toNat)
  case atStart => exact ⟨0, by omega, rfl, rfl, rfl⟩
  case round =>
    obtain ⟨m, hm, rfl, rfl, rfl⟩ := hrel
    by_cases hlt : m < 4
    · have hi := fun w => HI w m hlt
      have hst := wide_step m hlt
      have hps := wide_pos m
      have hle := wide_le m
      have hps2 := wide_pos (m + 1)
      cases hx : f m with
      | none =>
        rw [hx, pt_none] at hi
        have HG := gap_of hk hm (HF.out m hlt hx)
        generalize wide m = W at *
        have hW0 : ¬ ((W : Nat) : Int) = 0 := by omega
        clear HI hst
        go_wp2
        go_ret
        refine ⟨W - k % W, retInt ?_, HG, hb⟩
        rw [← Int.natCast_emod]
        have hr := Nat.mod_lt k hps
        generalize k % W = r at *
        unfold wrap64
        omega
      | some g =>
        rw [hx, pt_some] at hi
        clear HI
        go_wp2
        go_roundw
        case rel => exact ⟨m + 1, by omega, rfl, by go_num, trivial⟩
        case measure => simp [intOf]; omega
    · have e : m = 4 := by omega
      subst e
      have HG := gap_of hk (m := 4) (by omega) (fun hh => by
        obtain ⟨v, hx⟩ := has_four.1 hh
        rw [pre_four] at hx
        exact val_none_not HV.out _ hx rfl)
      have hps := wide_pos 4
      have hle := wide_le 4
      generalize wide 4 = W at *
      have hW0 : ¬ ((W : Nat) : Int) = 0 := by omega
      clear HI
      go_wp2
      go_ret
      refine ⟨W - k % W, retInt ?_, HG, hb⟩
      rw [← Int.natCast_emod]
      have hr := Nat.mod_lt k hps
      generalize k % W = r at *
      unfold wrap64
      omega

/-- The keys from a number on. -/
def frm (l : List KV) (z : Int) : List KV := l.filter fun x => decide (z ≤ (x.1 : Int))
def keyOf (r : Option KV) : Nat := match r with | some x => x.1 | none => 0
def valOf (r : Option KV) : Int := match r with | some x => x.2 | none => 0
theorem frm_skip {l : List KV} {k s : Nat} (h : Gap l k s) : frm l (k : Nat) = frm l ((k : Int) + (s : Int)) := by
  apply List.filter_congr
  intro x hx
  have := h.none x hx
  exact decide_eq_decide.2 (by omega)
theorem frm_end {l : List KV} (h : Fine l) {k : Nat} (hk : ¬ k < 65536) : frm l (k : Nat) = [] := by
  apply List.filter_eq_nil_iff.2
  intro x hx
  have := h.small x hx
  simp only [decide_eq_true_eq]; omega
theorem frm_start {l : List KV} (z : Int) (c : Nat) (hc : (c : Int) = if 0 > z then 0 else z) : frm l z = frm l (c : Nat) := by
  apply List.filter_congr
  intro x hx
  rw [hc]
  split
  · exact decide_eq_decide.2 (by omega)
  · rfl
theorem frm_here {l : List KV} (h : Fine l) {k : Nat} {v : Int} (hm : (k, v) ∈ l) : (frm l (k : Nat)).head? = some (k, v) := by
  induction l with
  | nil => simp at hm
  | cons x r ih =>
    rcases List.mem_cons.1 hm with e | hm
    · subst e
      unfold frm
      rw [List.filter_cons_of_pos (by simp)]; rfl
    · have hx := h.head _ hm
      have := ih h.tail hm
      unfold frm at this ⊢
      rw [List.filter_cons_of_neg (by simp only [decide_eq_true_eq]; simp only at hx; omega)]
      exact this
def told (r : Option KV) : Value := .tuple #[.int .i64 (keyOf r : Nat), .int .u64 (valOf r), .bool r.isSome]
set_option maxHeartbeats 1000000 in
theorem next_any {B : Nat} {p : Option Addr} {l : List KV} (z : Int) (hz : z ≤ 9223372036854775807) (w : World) (h : TreeP B w p l) :
    Calls Try.prog 27 #[.pointer p, .int .i64 z] w fun e w' => e = .returned (told (frm l z).head?) ∧ Below w.heap.size w w' := by
  obtain ⟨c, hc⟩ : ∃ c : Nat, (c : Int) = if 0 > z then 0 else z := ⟨(if 0 > z then 0 else z).toNat, by split <;> omega⟩
  have hf := frm_start (l := l) z c hc
  have hfl := h.fine
  have hcl : (c : Int) ≤ 9223372036854775807 := by rw [hc]; split <;> omega
  have hmax : ∀ (ts : Array TypeId) (t : TypeId) (w : World), (Builtin.max_ ts t #[.int .i64 z, .int .i64 0]).run Try.prog w = .ok (.int .i64 (c : Nat)) w := by
    intro ts t w
    rw [run_max_int2, hc]
  have HF : Hid (frm l z = frm l (c : Nat)) := hf
  have HP : Hid (TreeP B w p l) := h
  have HFL : Hid (Fine l) := hfl
  rw [HF.out]
  clear hc hf h hfl
  go_enter Try.func27, Try.ntmps27
  go_wp2
  go_loopw [1] (fun x wr => ∃ k : Nat, x = .int .i64 k ∧ (k : Int) ≤ 9223372036854775807 ∧ frm l (c : Nat) = frm l (k : Nat) ∧ Below w.heap.size w wr) (fun x _ => 65536 - (intOf x).toNat)
  case atStart => exact ⟨c, rfl, hcl, rfl, Below.refl _ _⟩
  case round =>
    obtain ⟨k, rfl, hkl, hfk, hb⟩ := hrel
    have HR : Hid (TreeP B wr p l) := HP.out.below hb
    have HFK : Hid (frm l (c : Nat) = frm l (k : Nat)) := hfk
    have HB : Hid (Below w.heap.size w wr) := hb
    have hbs := hb.size
    clear hfk hb
    by_cases hk : k < 65536
    · have hK := isK_nat hk
      cases hv : val l k with
      | some v =>
        have HG : Hid (got l (k : Nat) = some v) := by show _ = _; rw [got_nat hk, hv]
        have HH : Hid ((frm l (c : Nat)).head? = some (k, v)) := by show _ = _; rw [HFK.out]; exact frm_here HFL.out (val_mem hv)
        clear hv
        go_wp2_with (first | (go_at_call 23; refine (isKey_is _ _ hK).mono ?_; rintro e w' ⟨rfl, rfl⟩) | fail)
        refine (get_any (k : Nat) wr HR.out).mono ?_
        rw [HG.out]
        rintro e w2 ⟨rfl, hb2⟩
        go_wp2
        go_ret3
        exact ⟨by rw [HH.out]; rfl, HB.out.trans (hb2.mono hbs)⟩
      | none =>
        have HG : Hid (got l (k : Nat) = none) := by show _ = _; rw [got_nat hk, hv]
        have HV : Hid (val l k = none) := hv
        clear hv
        go_wp2_with (first | (go_at_call 23; refine (isKey_is _ _ hK).mono ?_; rintro e w' ⟨rfl, rfl⟩) | fail)
        refine (get_any (k : Nat) wr HR.out).mono ?_
        rw [HG.out]
        rintro e w2 ⟨rfl, hb2⟩
        have HR2 : Hid (TreeP B w2 p l) := HR.out.below hb2
        have HB2 : Hid (Below w.heap.size w w2) := HB.out.trans (hb2.mono hbs)
        have hbs2 := HB2.out.size
        clear hb2
        go_wp2_with fail
        refine (gap_any hk HV.out w2 HR2.out).mono ?_
        rintro e w3 ⟨s, rfl, hgap, hb3⟩
        have hs1 := hgap.pos
        have hs2 := hgap.le
        have HGAP : Hid (Gap l k s) := hgap
        clear hgap
        go_wp2
        go_roundw
        case rel =>
          refine ⟨k + s, by go_num, by omega, ?_, HB2.out.trans (hb3.mono hbs2)⟩
          rw [HFK.out, frm_skip HGAP.out]
          congr 1
        case measure => simp [intOf]; omega
    · have hK : isK (k : Nat) = false := by simp [isK]; omega
      have HH : Hid (frm l (c : Nat) = []) := by show _ = _; rw [HFK.out]; exact frm_end HFL.out hk
      go_wp2_with (go_at_call 23; refine (isKey_is _ _ hK).mono ?_; rintro e w' ⟨rfl, rfl⟩)
      go_ret3
      exact ⟨by rw [HH.out]; rfl, HB.out⟩
end Go.Proofs.Ytkghedllkigecaa
