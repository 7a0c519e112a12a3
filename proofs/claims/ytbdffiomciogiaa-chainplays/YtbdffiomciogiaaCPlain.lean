/- Plain facts: two rows of links that close a ring, and the list of numbers that they tell, the oldest one first. -/
import Derived.Test.YtbdffiomciogiaaRows
namespace Go.Proofs.Ytbdffiomciogiaa

theorem getD_set (N : List Int) (i j : Nat) (v : Int) (hi : i < N.length) : (N.set i v).getD j 0 = if i = j then v else N.getD j 0 := by
  by_cases h : i = j
  · subst h; simp [List.getD, hi]
  · simp [List.getD, h, List.getElem?_set_ne h]

/-- From a the links lead through l to z, and back. -/
def Path (N O : List Int) : Nat → List Nat → Nat → Prop
  | a, [], z => N.getD a 0 = z ∧ O.getD z 0 = a
  | a, x :: l, z => N.getD a 0 = x ∧ O.getD x 0 = a ∧ Path N O x l z

theorem Path.congr {N O N' O' : List Int} : ∀ {l : List Nat} {a z : Nat}, Path N O a l z → (∀ x ∈ a :: l, N'.getD x 0 = N.getD x 0) → (∀ x ∈ l ++ [z], O'.getD x 0 = O.getD x 0) → Path N' O' a l z
  | [], a, z, h, h1, h2 => ⟨(h1 a (by simp)).trans h.1, (h2 z (by simp)).trans h.2⟩
  | x :: l, a, z, h, h1, h2 => ⟨(h1 a (by simp)).trans h.1, (h2 x (by simp)).trans h.2.1, h.2.2.congr (fun y hy => h1 y (List.mem_cons_of_mem _ hy)) (fun y hy => h2 y (by simp at hy ⊢; exact .inr hy))⟩
theorem Path.append {N O : List Int} : ∀ {l : List Nat} {a x z : Nat} {l2 : List Nat}, Path N O a l x → Path N O x l2 z → Path N O a (l ++ x :: l2) z
  | [], _, _, _, _, h, h2 => ⟨h.1, h.2, h2⟩
  | _ :: _, _, _, _, _, h, h2 => ⟨h.1, h.2.1, h.2.2.append h2⟩
theorem Path.split {N O : List Int} : ∀ {l : List Nat} {a x z : Nat} {l2 : List Nat}, Path N O a (l ++ x :: l2) z → Path N O a l x ∧ Path N O x l2 z
  | [], _, _, _, _, h => ⟨⟨h.1, h.2.1⟩, h.2.2⟩
  | _ :: _, _, _, _, _, h => ⟨⟨h.1, h.2.1, (Path.split h.2.2).1⟩, (Path.split h.2.2).2⟩
theorem Path.last {N O : List Int} : ∀ {l : List Nat} {a z : Nat}, Path N O a l z → O.getD z 0 = (l.getLastD a : Nat)
  | [], _, _, h => h.2
  | x :: l, a, _, h => by
    have := Path.last h.2.2
    rw [List.getLastD_cons]
    exact this
theorem Path.first {N O : List Int} : ∀ {l : List Nat} {a z : Nat}, Path N O a l z → N.getD a 0 = (l.headD z : Nat)
  | [], _, _, h => h.1
  | _ :: _, _, _, h => h.1
theorem last_mem (l : List Nat) (a : Nat) : l.getLastD a ∈ a :: l := by
  induction l generalizing a with
  | nil => simp
  | cons x l ih => rw [List.getLastD_cons]; exact List.mem_cons_of_mem _ (ih x)
theorem head_mem (l : List Nat) (z : Nat) : l.headD z ∈ l ++ [z] := by cases l <;> simp
/-- The last link is turned: to q. -/
theorem Path.splice {N O : List Int} {p q : Nat} (hp : p < N.length) (hq : q < O.length) : ∀ {l : List Nat} {a z : Nat}, Path N O a l z → (a :: l).Nodup → q ∉ l → p = l.getLastD a → Path (N.set p q) (O.set q p) a l q
  | [], a, z, _, _, _, e => by
    have e : p = a := e
    subst e
    exact ⟨by rw [getD_set _ _ _ _ hp, if_pos rfl], by rw [getD_set _ _ _ _ hq, if_pos rfl]⟩
  | x :: l, a, z, h, hn, hql, e => by
    rw [List.getLastD_cons] at e
    have hn' := List.nodup_cons.1 hn
    have hpa : p ≠ a := by
      intro e2
      apply hn'.1
      rw [← e2, e]
      exact last_mem l x
    have hqx : q ≠ x := fun e2 => hql (by rw [e2]; simp)
    refine ⟨?_, ?_, Path.splice hp hq h.2.2 hn'.2 (fun h2 => hql (List.mem_cons_of_mem _ h2)) e⟩
    · rw [getD_set _ _ _ _ hp, if_neg hpa]; exact h.1
    · rw [getD_set _ _ _ _ hq, if_neg hqx]; exact h.2.1

/-- Links N (newer) and O (older) of m numbers and the place m that closes the ring: they tell l. -/
structure Ring (m : Nat) (N O : List Int) (l : List Nat) : Prop where
  nl : N.length = m + 1
  ol : O.length = m + 1
  path : Path N O m l m
  nd : l.Nodup
  lt : ∀ x ∈ l, x < m
  out : ∀ n, n < m → n ∉ l → N.getD n 0 = -1

theorem Ring.new (m : Nat) : Ring m (List.replicate m (-1) ++ [(m : Int)]) (List.replicate m 0 ++ [(m : Int)]) [] := by
  refine ⟨by simp, by simp, ⟨?_, ?_⟩, List.nodup_nil, by simp, ?_⟩
  · simp [List.getD]
  · simp [List.getD]
  · intro n hn _
    simp [List.getD, List.getElem?_append_left, hn]

theorem Ring.nodup {m : Nat} {N O : List Int} {l : List Nat} (h : Ring m N O l) : (m :: l).Nodup := by
  refine List.nodup_cons.2 ⟨fun hm => ?_, h.nd⟩
  have := h.lt m hm
  omega
theorem Ring.has {m : Nat} {N O : List Int} {l : List Nat} (h : Ring m N O l) {n : Nat} (hn : n < m) : (N.getD n 0 != -1) = decide (n ∈ l) := by
  by_cases hm : n ∈ l
  · obtain ⟨s, t, rfl⟩ := List.append_of_mem hm
    have := (Path.split h.path).2.first
    rw [this, decide_eq_true hm, bne_iff_ne]
    omega
  · rw [h.out n hn hm, decide_eq_false hm]; rfl
theorem Ring.old {m : Nat} {N O : List Int} {l : List Nat} (h : Ring m N O l) : N.getD m 0 = (l.headD m : Nat) := h.path.first
theorem Ring.newest {m : Nat} {N O : List Int} {l : List Nat} (h : Ring m N O l) : O.getD m 0 = (l.getLastD m : Nat) := h.path.last
theorem Ring.next {m : Nat} {N O : List Int} {l : List Nat} (h : Ring m N O l) {i : Nat} (hi : i < l.length) : N.getD (l.getD i 0) 0 = ((l.drop (i + 1)).headD m : Nat) := by
  have e : l = l.take i ++ l.getD i 0 :: l.drop (i + 1) := by
    rw [show l.getD i 0 = l[i] by simp [List.getD, hi], List.getElem_cons_drop, List.take_append_drop]
  have hp := h.path
  rw [e] at hp
  exact (Path.split hp).2.first

theorem erase_mid {s t : List Nat} {n : Nat} (h : n ∉ s) : (s ++ n :: t).erase n = s ++ t := by
  rw [List.erase_append_right _ h]; simp
theorem Ring.drop {m : Nat} {N O : List Int} {l : List Nat} (h : Ring m N O l) {n : Nat} (hn : n ∈ l) :
    ∃ p q : Nat, O.getD n 0 = p ∧ N.getD n 0 = q ∧ p ≤ m ∧ q ≤ m ∧ Ring m ((N.set p q).set n (-1)) (O.set q p) (l.erase n) := by
  have hnd := h.nodup
  have hlt := h.lt
  have hnm := h.lt n hn
  obtain ⟨s, t, rfl⟩ := List.append_of_mem hn
  obtain ⟨h1, h2⟩ := Path.split h.path
  have hN := h.nl
  have hO := h.ol
  simp only [List.nodup_cons, List.nodup_append, List.mem_append, List.mem_cons, not_or, List.nodup_cons] at hnd
  obtain ⟨⟨hms, hmn, hmt⟩, hs, ⟨hnt, ht⟩, hst⟩ := hnd
  have hns : n ∉ s := fun hx => hst n hx n (.inl rfl) rfl
  have hpm : s.getLastD m ∈ m :: s := last_mem s m
  have hqm : t.headD m ∈ t ++ [m] := head_mem t m
  have hple : s.getLastD m ≤ m := by
    rcases List.mem_cons.1 hpm with e | e
    · omega
    · have := hlt _ (List.mem_append_left _ e); omega
  have hqle : t.headD m ≤ m := by
    rcases List.mem_append.1 hqm with e | e
    · have := hlt (t.headD m) (List.mem_append_right _ (List.mem_cons_of_mem _ e)); omega
    · have : t.headD m = m := by simpa using e
      omega
  refine ⟨s.getLastD m, t.headD m, h1.last, h2.first, hple, hqle, ?_⟩
  have hpn : s.getLastD m ≠ n := by
    intro e
    rcases List.mem_cons.1 hpm with e2 | e2
    · omega
    · exact hns (e ▸ e2)
  have hset : ∀ x, x ≠ n → ((N.set (s.getLastD m) (t.headD m : Nat)).set n (-1)).getD x 0 = (N.set (s.getLastD m) (t.headD m : Nat)).getD x 0 := by
    intro x hx
    rw [getD_set _ _ _ _ (by simp; omega), if_neg (Ne.symm hx)]
  rw [erase_mid hns]
  refine ⟨by simp [hN], by simp [hO], ?_, ?_, ?_, ?_⟩
  · have hsp : ∀ q, q ∉ s → q ≤ m → Path (N.set (s.getLastD m) q) (O.set q (s.getLastD m)) m s q := fun q hq hq2 =>
      Path.splice (by omega) (by omega) h1 (List.nodup_cons.2 ⟨hms, hs⟩) hq rfl
    cases t with
    | nil =>
      rw [List.append_nil]
      refine (hsp m hms (Nat.le_refl _)).congr (fun x hx => hset x ?_) (fun _ _ => rfl)
      intro e
      subst e
      rcases List.mem_cons.1 hx with e | e
      · omega
      · exact hns e
    | cons q t =>
      simp only [List.mem_cons, not_or, List.nodup_cons] at hnt hmt ht
      have hqs : q ∉ s := fun hx => hst q hx q (by simp) rfl
      have hps : ∀ x, x ∈ q :: t → s.getLastD m ≠ x := by
        intro x hx e
        rcases List.mem_cons.1 hpm with e2 | e2
        · rcases List.mem_cons.1 hx with e3 | e3
          · exact hmt.1 (by rw [← e2, e, e3])
          · exact hmt.2 (by rw [← e2, e]; exact e3)
        · exact hst _ e2 _ (.inr (e ▸ hx)) rfl
      refine Path.append ((hsp q hqs hqle).congr (fun x hx => hset x ?_) (fun _ _ => rfl)) (h2.2.2.congr (fun x hx => ?_) (fun x hx => ?_))
      · intro e
        subst e
        rcases List.mem_cons.1 hx with e | e
        · omega
        · exact hns e
      · have hxn : x ≠ n := by
          intro e
          subst e
          rcases List.mem_cons.1 hx with e | e
          · exact hnt.1 e
          · exact hnt.2 e
        rw [hset x hxn, getD_set _ _ _ _ (by omega), if_neg (hps x hx)]
      · show (O.set q _).getD x 0 = _
        rw [getD_set _ _ _ _ (by have : q ≤ m := hqle; omega), if_neg]
        intro e
        subst e
        rcases List.mem_append.1 hx with e | e
        · exact ht.1 e
        · have : q = m := by simpa using e
          exact hmt.1 this.symm
  · refine List.nodup_append.2 ⟨hs, ht, fun a ha b hb => hst a ha b (.inr hb)⟩
  · intro x hx
    rcases List.mem_append.1 hx with e | e
    · exact hlt x (List.mem_append_left _ e)
    · exact hlt x (List.mem_append_right _ (List.mem_cons_of_mem _ e))
  · intro x hx hxl
    by_cases e : x = n
    · subst e
      rw [getD_set _ _ _ _ (by simp; omega), if_pos rfl]
    · rw [hset x e, getD_set _ _ _ _ (by omega), if_neg]
      · refine h.out x hx ?_
        simp only [List.mem_append, List.mem_cons, not_or] at hxl ⊢
        exact ⟨hxl.1, e, hxl.2⟩
      · intro e2
        apply hxl
        rcases List.mem_cons.1 hpm with e3 | e3
        · omega
        · exact List.mem_append_left _ (e2 ▸ e3)

theorem Ring.push {m : Nat} {N O : List Int} {l : List Nat} (h : Ring m N O l) {n : Nat} (hn : n < m) (hnl : n ∉ l) :
    ∃ p : Nat, O.getD m 0 = p ∧ p ≤ m ∧ Ring m ((N.set p n).set n m) ((O.set n p).set m n) (l ++ [n]) := by
  have hN := h.nl
  have hO := h.ol
  have hpm : l.getLastD m ∈ m :: l := last_mem l m
  have hple : l.getLastD m ≤ m := by
    rcases List.mem_cons.1 hpm with e | e
    · omega
    · have := h.lt _ e; omega
  have hsp := Path.splice (p := l.getLastD m) (q := n) (by omega) (by omega) h.path h.nodup hnl rfl
  refine ⟨l.getLastD m, h.newest, hple, by simp [hN], by simp [hO], ?_, ?_, ?_, ?_⟩
  · refine Path.append (hsp.congr (fun x hx => ?_) (fun x hx => ?_)) ⟨?_, ?_⟩
    · rw [getD_set _ _ _ _ (by simp; omega), if_neg]
      intro e
      subst e
      rcases List.mem_cons.1 hx with e | e
      · omega
      · exact hnl e
    · rw [getD_set _ _ _ _ (by simp; omega), if_neg]
      intro e
      subst e
      rcases List.mem_append.1 hx with e | e
      · have := h.lt _ e; omega
      · have : m = n := by simpa using e
        omega
    · rw [getD_set _ _ _ _ (by simp; omega), if_pos rfl]
    · rw [getD_set _ _ _ _ (by simp; omega), if_pos rfl]
  · exact List.nodup_append.2 ⟨h.nd, by simp, fun a ha b hb => by simp at hb; subst hb; exact fun e => hnl (e ▸ ha)⟩
  · intro x hx
    rcases List.mem_append.1 hx with e | e
    · exact h.lt x e
    · have : x = n := by simpa using e
      omega
  · intro x hx hxl
    simp only [List.mem_append, List.mem_singleton, not_or] at hxl
    rw [getD_set _ _ _ _ (by simp; omega), if_neg (Ne.symm hxl.2), getD_set _ _ _ _ (by omega), if_neg]
    · exact h.out x hx hxl.1
    · intro e
      rcases List.mem_cons.1 hpm with e2 | e2
      · omega
      · exact hxl.1 (e ▸ e2)
theorem nodup_len : ∀ (m : Nat) (l : List Nat), l.Nodup → (∀ x ∈ l, x < m) → l.length ≤ m
  | 0, [], _, _ => Nat.le_refl _
  | 0, x :: _, _, h => absurd (h x (by simp)) (by omega)
  | m + 1, l, hn, h => by
    have h1 := nodup_len m (l.erase m) (hn.erase m) (fun x hx => by
      have h2 := hn.mem_erase_iff.1 hx
      have h3 := h x h2.2
      have h4 : x ≠ m := h2.1
      omega)
    rw [List.length_erase] at h1
    split at h1 <;> omega
theorem Ring.len {m : Nat} {N O : List Int} {l : List Nat} (h : Ring m N O l) : l.length ≤ m := nodup_len m l h.nd h.lt
end Go.Proofs.Ytbdffiomciogiaa
