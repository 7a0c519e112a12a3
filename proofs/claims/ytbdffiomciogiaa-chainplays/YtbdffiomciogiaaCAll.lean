/- The walks of inOrder, of All and the function that it tells numbers by, and of the law's own 'all'. -/
import Derived.Test.YtbdffiomciogiaaCOld
import Derived.Test.YtbdffiomciogiaaCNew
import Derived.OneCell
namespace Go.Proofs.Ytbdffiomciogiaa
open Go.RowKit

def iv (l : List Nat) : List Value := l.map fun n : Nat => Value.int .i64 (n : Int)
theorem iv_at (l : List Nat) (i : Nat) (hi : i < l.length) : (iv l)[i]? = some (.int .i64 (l.getD i 0 : Nat)) := by simp [iv, List.getD, hi]
theorem row_slice {w : World} {base : Nat} {e : TypeId} {size n : Nat} {v : Value} {xs : List Value} (h : w.ownsRow base e size v n xs) : ∃ a c, v = .slice a n c := by
  rcases h.2 with ⟨h1, h2⟩ | ⟨g, cap, cur, h1, _⟩
  · subst h2; exact ⟨_, _, h1⟩
  · exact ⟨_, _, h1⟩
theorem row_at {w : World} {base n c : Nat} {e : TypeId} {a : Option Addr} {xs : List Value} (h : w.ownsRow base e 1 (.slice a n c) n xs) {i : Nat} (hi : i < n) :
    ∃ g, a = some ⟨g, 0, none⟩ ∧ w.cell? ⟨g, i, none⟩ = xs[i]? ∧ w.frozen? ⟨g, i, none⟩ = false ∧ base ≤ g ∧ g < w.heap.size := by
  rcases h.2 with ⟨_, h2⟩ | ⟨g, cap, cur, h1, h2, h3, _⟩
  · omega
  · simp only [Value.slice.injEq, true_and] at h1
    obtain ⟨rfl, rfl⟩ := h1
    exact ⟨g, rfl, h.cellAt i (by omega), h.frozenAt i, h2, (Array.getElem?_eq_some_iff.1 h3).1⟩
theorem row_below {w w' : World} {base : Nat} {e : TypeId} {size n : Nat} {v : Value} {xs : List Value} (h : w.ownsRow base e size v n xs) (hb : Below w.heap.size w w') : w'.ownsRow base e size v n xs := by
  refine ⟨h.1, ?_⟩
  rcases h.2 with h1 | ⟨g, cap, cur, h1, h2, h3, r⟩
  · exact .inl h1
  · exact .inr ⟨g, cap, cur, h1, h2, by rw [hb.block g (Array.getElem?_eq_some_iff.1 h3).1]; exact h3, r⟩
theorem rowMono {w : World} {base base' : Nat} {e : TypeId} {size : Nat} {v : Value} {n : Nat} {xs : List Value} (h : w.ownsRow base e size v n xs) (hb : base' ≤ base) : w.ownsRow base' e size v n xs := by
  refine ⟨h.1, ?_⟩
  rcases h.2 with h1 | ⟨g, cap, cur, h1, h2, r⟩
  · exact .inl h1
  · exact .inr ⟨g, cap, cur, h1, by omega, r⟩
theorem row_form {w : World} {base : Nat} {e : TypeId} {size n : Nat} {v : Value} {xs : List Value} (h : w.ownsRow base e size v n xs) (hv : ¬ v = .slice none 0 0) : ∃ g cap, v = .slice (some ⟨g, 0, none⟩) n cap := by
  rcases h.2 with ⟨h1, _⟩ | ⟨g, cap, cur, h1, _⟩
  · exact absurd h1 hv
  · exact ⟨g, cap, h1⟩
theorem one_new (w : World) (v : Value) : ∀ j u, [v][j]? = some u → (w.alloc (.cells #[v] 3)).cell? ((⟨w.heap.size, 0, none⟩ : Addr).add j) = some u := by
  intro j u hj
  match j, hj with
  | 0, hj => simp at hj; subst hj; simp [Addr.add]
theorem one_one (n : Int) : ∀ u ∈ [Value.int .i64 n], u.oneCell' = true := by intro u hu; simp at hu; subst hu; rfl

theorem next_at {l : List Nat} (hn : l.Nodup) {k : Nat} (hk : k < l.length) : nextN l (l.getD k 0) = l.getD (k + 1) 0 ∧ nextB l (l.getD k 0) = decide (k + 1 < l.length) := by
  have e : l.getD k 0 = l[k] := by simp [List.getD, hk]
  have e2 : l.idxOf (l.getD k 0) = k := by rw [e]; exact hn.idxOf_getElem k hk
  refine ⟨?_, by rw [nextB, e2]⟩
  rw [nextN, e2]
  split
  · rfl
  · rename_i h
    rw [List.getD_eq_getElem?_getD, List.getElem?_eq_none (by omega), Option.getD_none]
theorem old_at (l : List Nat) : oldN l = l.getD 0 0 ∧ oldB l = decide (0 < l.length) := by
  cases l <;> exact ⟨rfl, rfl⟩
theorem newer_at {B E m : Nat} {p : Option Addr} {l : List Nat} {k : Nat} (hk : k < l.length) (w : World) (h : ChainP B E w p m l) {n n2 : Nat} {b : Bool} (hn : l.getD k 0 = n) (hn2 : l.getD (k + 1) 0 = n2) (hb : decide (k + 1 < l.length) = b) :
    Calls Try.prog 24 #[.pointer p, .int .i64 n] w fun e w' => e = .returned (.tuple #[.int .i64 n2, .bool b]) ∧ ∃ q, w' = w.drewN q := by
  obtain ⟨e1, e2⟩ := next_at h.nd hk
  subst hn hn2 hb
  rw [← e1, ← e2]
  exact newer_any _ w h
theorem take_next {l : List Nat} {k : Nat} (hk : k < l.length) : l.take (k + 1) = l.take k ++ [l.getD k 0] := by
  rw [List.take_add_one, List.getElem?_eq_getElem hk, List.getD_eq_getElem?_getD, List.getElem?_eq_getElem hk]; rfl

def vlen : Value → Nat
  | .slice _ n _ => n
  | _ => 0
set_option maxHeartbeats 1000000 in
theorem inOrder_any {B E m : Nat} {p : Option Addr} {l : List Nat} (w : World) (h : ChainP B E w p m l) :
    Calls Try.prog 26 #[.pointer p] w fun e w' => ∃ v, e = .returned v ∧ w'.ownsRow w.heap.size 3 1 v l.length (iv l) ∧ Below w.heap.size w w' := by
  obtain ⟨i0, hi, hz0, hz1, hz2⟩ := info_parts Try.info3
  have hlen := h.len
  have hs := h.small
  have H : Hid (ChainP B E w p m l) := h
  clear h
  go_enter Try.func26, Try.ntmps26
  go_wp2_with (first | (go_at_call 10; refine (len_any _ H.out).mono ?_; rintro e w' ⟨rfl, rfl⟩) | (at_make; refine wpList_make_own _ rfl _ _ 22 rfl w.heap.size 3 i0 (.int .i64 0) 1 Try.underlying22 hi hz0 hz1 .i64 .i64 _ l.length rfl rfl rfl (by rw [hz2]; omega) (by unfold maxLen; omega) (Nat.le_refl _) ?_))
  intro w1 hown1 hgr1
  have b1 : Below w.heap.size w w1 := (Below.refl _ _).grown hgr1 (Nat.le_refl _) (by intro k hk; simp at hk)
  clear hgr1
  obtain ⟨o1, o2⟩ := old_at l
  have O1 : Hid _ := o1
  have O2 : Hid _ := o2
  clear o1 o2
  go_wp2_with (go_at_call 17; refine (oldest_any _ (H.out.below b1)).mono ?_; rw [O1.out, O2.out]; rintro e w' ⟨rfl, q, rfl⟩)
  go_loopw [3, 4, 5] (fun v n ok wr => ∃ k : Nat, k ≤ l.length ∧ n = .int .i64 (l.getD k 0 : Nat) ∧ ok = .bool (decide (k < l.length)) ∧ wr.ownsRow w.heap.size 3 1 v k (iv (l.take k)) ∧ Below w.heap.size w wr) (fun v _ _ _ => l.length - vlen v)
  case atStart => exact ⟨0, Nat.zero_le _, rfl, rfl, row_below hown1 (drewN_below _ _ _), b1.trans (drewN_below _ _ _)⟩
  case round =>
    obtain ⟨k, hk, rfl, rfl, hown, hb⟩ := hrel
    obtain ⟨a, c, rfl⟩ := row_slice hown
    by_cases hlt : k < l.length
    · have HT : Hid (l.take (k + 1) = l.take k ++ [l.getD k 0]) := take_next hlt
      have hdk : decide (k < l.length) = true := decide_eq_true hlt
      obtain ⟨n, hn⟩ : ∃ n, l.getD k 0 = n := ⟨_, rfl⟩
      obtain ⟨n2, hn2⟩ : ∃ n, l.getD (k + 1) 0 = n := ⟨_, rfl⟩
      obtain ⟨b2, hb2⟩ : ∃ b, decide (k + 1 < l.length) = b := ⟨_, rfl⟩
      rw [hn] at HT
      rw [hn, hdk]
      have HN : Hid _ := hn
      have HN2 : Hid _ := hn2
      have HB2 : Hid _ := hb2
      clear hn hn2 hb2 hdk
      go_wp2_with (at_builtin; refine wpList_append_own _ rfl _ _ 22 rfl w.heap.size 3 i0 (.int .i64 0) 1 8 Try.underlying22 hi hz0 hz1 hz2 rfl (by decide) _ _ _ rfl (hown.alloc _) ⟨wr.heap.size, 0, none⟩ 1 1 [.int .i64 (n : Int)] rfl rfl (one_new wr _) (one_one _) ?c3 ?c4 ?c5 ?_)
      case c3 => unfold maxLen; omega
      case c4 => omega
      case c5 => have := hb.size; simp; omega
      intro v' w2 hown' hgr' _
      have hbw : Below w.heap.size w w2 := (hb.alloc hb.size _).grown hgr' (by have := hb.size; simp; omega) (fun j hj => (hown.lt j hj).1)
      have H2 : Hid (ChainP B E w2 p m l) := H.out.below hbw
      obtain ⟨a', c', rfl⟩ := row_slice hown'
      have HOW : Hid (w2.ownsRow w.heap.size 3 1 (.slice a' (k + 1) c') (k + 1) (iv (l.take k) ++ [.int .i64 (n : Int)])) := hown'
      clear hgr' hown'
      go_wp2_with (go_at_call 24; refine (newer_at hlt _ H2.out HN.out HN2.out HB2.out).mono ?_; rintro e w' ⟨rfl, q2, rfl⟩)
      go_roundw
      case rel =>
        refine ⟨k + 1, by omega, by rw [HN2.out], by rw [HB2.out], ?_, hbw.trans (drewN_below _ _ _)⟩
        rw [HT.out]
        have e : iv (l.take k ++ [n]) = iv (l.take k) ++ [.int .i64 (n : Int)] := by simp [iv]
        rw [e]
        exact row_below HOW.out (drewN_below _ _ _)
      case measure => simp [vlen]; omega
    · have e : k = l.length := by omega
      subst e
      rw [List.take_length] at hown
      go_wp2
      go_ret
      exact ⟨_, rfl, hown, hb⟩
end Go.Proofs.Ytbdffiomciogiaa
