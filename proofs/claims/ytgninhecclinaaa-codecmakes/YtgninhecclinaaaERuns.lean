/- The walks of same.wordAt, Runs and Of, over bytes that a slice value reads. -/
import Derived.Test.YtgninhecclinaaaGBy
import Derived.Test.YtgninhecclinaaaEPlain
namespace Go.Proofs.Ytgninhecclinaaa
open Go.RowKit

set_option maxHeartbeats 400000 in
theorem word_any {p : Option Addr} {L c i : Nat} {b : List Nat} (I : Int) (hI : I = i) (w : World) (h : ByAt w p L c b) (hi : 8 * i + 8 ≤ L) :
    Calls Try.prog 36 #[.slice p L c, .int .i64 I] w fun e w' => e = .returned (.int .u64 (wd b i : Nat)) ∧ w = w' := by
  subst hI
  have hL := h.short
  unfold maxLen at hL
  have H : Hid (ByAt w p L c b) := h
  have HW : Hid (getTo b (8 * i) 8 = wd b i) := rfl
  clear h
  go_enter Try.func36, Try.ntmps36
  go_wp2_with fail
  refine (get_yes p L c (8 * i) 8 _ _ (by omega) rfl b _ H.out.short H.out.len (nums_src H.out.src) H.out.byte (by omega) hi).mono ?_
  rintro e w' ⟨rfl, rfl⟩
  rw [HW.out]
  go_wp2
  go_ret
  exact ⟨rfl, rfl⟩

set_option maxHeartbeats 400000 in
theorem runs_any {p : Option Addr} {L c : Nat} {b : List Nat} (w : World) (h : ByAt w p L c b) :
    Calls Try.prog 35 #[.slice p L c] w fun e w' => e = .returned (.int .i64 (runsN b : Nat)) ∧ w = w' := by
  have hL := h.short
  unfold maxLen at hL
  have hl := h.len
  by_cases hp : L = 4096
  · subst hp
    have H : Hid (ByAt w p 4096 c b) := h
    have HR : Hid (runsN b = runsTo b 511) := runsN_page hl
    clear h hl
    go_enter Try.func35, Try.ntmps35
    go_wp2
    go_loop [3, 8] (fun r i => ∃ k : Nat, k ≤ 511 ∧ i = .int .i64 k ∧ r = .int .i64 (runsTo b k : Nat)) (fun _ i => 511 - (intOf i).toNat)
    case atStart => exact ⟨0, by omega, rfl, rfl⟩
    case round =>
      obtain ⟨k, hk, rfl, rfl⟩ := hrel
      by_cases hlt : k < 511
      · have i1 : (k : Int) < 511 := by omega
        have hr := (runsTo_pos b k).2
        have HC1 : Hid _ := word_any (k : Int) rfl w H.out (by omega)
        have HC2 : Hid _ := word_any ((k : Int) + 1) (i := k + 1) (by omega) w H.out (by omega)
        by_cases e : wd b k = wd b (k + 1)
        · have HS : Hid (runsTo b (k + 1) = runsTo b k) := runsTo_same e
          rw [← e] at HC2
          clear e
          generalize runsTo b k = r0 at *
          generalize wd b k = w0 at *
          go_wp2_with fail
          refine Calls.mono HC1.out ?_
          rintro e w' ⟨rfl, rfl⟩
          go_wp2_with fail
          refine Calls.mono HC2.out ?_
          rintro e w' ⟨rfl, rfl⟩
          go_wp2
          go_round
          case rel => exact ⟨k + 1, by omega, by go_num, by rw [HS.out]⟩
          case measure => simp [intOf]; omega
        · have HS : Hid (runsTo b (k + 1) = runsTo b k + 1) := runsTo_other e
          generalize runsTo b k = r0 at *
          generalize wd b k = w0 at *
          generalize wd b (k + 1) = w1 at *
          have h6 : ((w0 : Int) != (w1 : Int)) = true := by rw [bne_iff_ne]; omega
          go_wp2_with fail
          refine Calls.mono HC1.out ?_
          rintro e w' ⟨rfl, rfl⟩
          go_wp2_with fail
          refine Calls.mono HC2.out ?_
          rintro e w' ⟨rfl, rfl⟩
          go_wp2
          go_round
          case rel => exact ⟨k + 1, by omega, by go_num, by rw [HS.out]; go_num⟩
          case measure => simp [intOf]; omega
      · have e : k = 511 := by omega
        subst e
        rw [← HR.out]
        go_wp2
        go_ret
        exact ⟨rfl, rfl⟩
  · have h6 : ((L : Int) != 4096) = true := by rw [bne_iff_ne]; omega
    have HR : Hid (runsN b = 0) := runsN_none (by rw [hl]; exact hp)
    go_enter Try.func35, Try.ntmps35
    go_wp2
    go_ret
    exact ⟨retInt (by rw [HR.out]; rfl), rfl⟩

set_option maxHeartbeats 400000 in
theorem of_any {p : Option Addr} {L c : Nat} {b : List Nat} (w : World) (h : ByAt w p L c b) :
    Calls Try.prog 19 #[.slice p L c] w fun e w' => e = .returned (.tuple #[.int .u64 (ofN b : Nat), .bool (oneB b)]) ∧ w = w' := by
  have H : Hid (ByAt w p L c b) := h
  have hl := h.len
  cases ho : oneB b with
  | true =>
    have HR : Hid (runsN b = 1) := oneB_iff.1 ho
    have HL : Hid (L = 4096) := by rw [← hl]; exact oneB_len ho
    have HO : Hid (ofN b = wd b 0) := ofN_yes ho
    clear h hl ho
    go_enter Try.func19, Try.ntmps19
    go_wp2_with fail
    refine (runs_any _ H.out).mono ?_
    rw [HR.out]
    rintro e w' ⟨rfl, rfl⟩
    go_wp2_with fail
    refine (word_any (i := 0) _ rfl _ H.out (by rw [HL.out]; omega)).mono ?_
    rw [← HO.out]
    rintro e w' ⟨rfl, rfl⟩
    go_wp2
    go_ret2
    exact ⟨rfl, rfl⟩
  | false =>
    have hr : runsN b ≠ 1 := fun e => by rw [oneB_iff.2 e] at ho; cases ho
    have HO : Hid (ofN b = 0) := ofN_no ho
    have C1 := runs_any _ h
    generalize runsN b = r at *
    have HC1 : Hid _ := C1
    have h6 : ((r : Int) != 1) = true := by rw [bne_iff_ne]; omega
    rw [HO.out]
    clear h hl ho C1
    go_enter Try.func19, Try.ntmps19
    go_wp2_with fail
    refine Calls.mono HC1.out ?_
    rintro e w' ⟨rfl, rfl⟩
    go_wp2
    go_ret2
    exact ⟨rfl, rfl⟩
/-- Of, its answer under letters. -/
theorem of_is {p : Option Addr} {L c n : Nat} {b : List Nat} {t : Bool} (w : World) (h : ByAt w p L c b) (hn : ofN b = n) (ht : oneB b = t) :
    Calls Try.prog 19 #[.slice p L c] w fun e w' => e = .returned (.tuple #[.int .u64 (n : Nat), .bool t]) ∧ w = w' := by
  subst hn ht
  exact of_any w h

end Go.Proofs.Ytgninhecclinaaa
