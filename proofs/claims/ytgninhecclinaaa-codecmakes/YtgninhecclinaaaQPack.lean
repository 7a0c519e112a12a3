/- Pages packed, as plain facts: where the next copy is, the tokens of a page, that they unpack to it, and how many bytes they have. -/
import Derived.Test.YtgninhecclinaaaQPlain
import Derived.Test.YtgninhecclinaaaAPlain
namespace Go.Proofs.Ytgninhecclinaaa

/-- The first place from a on, of f places, at which a copy of so many bytes stands; behind the first one of four. -/
def nextF (b : List Nat) : Nat → Nat → Nat → Nat × Nat × Nat
  | 0, _, _ => (b.length, 0, 0)
  | f + 1, a, least => if least ≤ (findI b (a : Int)).1 then (a, (findI b (a : Int)).1, (findI b (a : Int)).2) else nextF b f (a + 1) 4
def nextC (b : List Nat) (s : Nat) : Nat × Nat × Nat := nextF b (b.length - s) s 3
theorem next_yes {b : List Nat} {a least r d : Nat} (ha : a < b.length) (hr : findI b (a : Int) = (r, d)) (h : least ≤ r) : nextF b (b.length - a) a least = (a, r, d) := by
  obtain ⟨f, hf⟩ : ∃ f, b.length - a = f + 1 := ⟨b.length - a - 1, by omega⟩
  rw [hf, nextF, hr, if_pos h]
theorem next_no {b : List Nat} {a least r d : Nat} (ha : a < b.length) (hr : findI b (a : Int) = (r, d)) (h : ¬ least ≤ r) : nextF b (b.length - a) a least = nextF b (b.length - (a + 1)) (a + 1) 4 := by
  obtain ⟨f, hf⟩ : ∃ f, b.length - a = f + 1 := ⟨b.length - a - 1, by omega⟩
  rw [hf, nextF, hr, if_neg h]
  congr 1
  omega
theorem next_end {b : List Nat} {a least : Nat} (ha : ¬ a < b.length) : nextF b (b.length - a) a least = (b.length, 0, 0) := by
  rw [show b.length - a = 0 by omega]; rfl
/-- What is told of the next copy. -/
structure Next (b : List Nat) (s a L d : Nat) : Prop where
  lo : s ≤ a
  hi : a ≤ b.length
  is : (a = b.length ∧ L = 0 ∧ d = 0) ∨ (a < b.length ∧ Stands b a (L, d) ∧ 3 ≤ L ∧ (s < a → 4 ≤ L))
  no : ∀ c, s ≤ c → c < a → (findI b (c : Int)).1 < 4
theorem next_spec (b : List Nat) : ∀ f a least, f = b.length - a → a ≤ b.length → (least = 3 ∨ least = 4) →
    (a ≤ (nextF b f a least).1 ∧ (nextF b f a least).1 ≤ b.length) ∧
    (((nextF b f a least).1 = b.length ∧ (nextF b f a least).2.1 = 0 ∧ (nextF b f a least).2.2 = 0) ∨
      ((nextF b f a least).1 < b.length ∧ Stands b (nextF b f a least).1 (nextF b f a least).2 ∧ 3 ≤ (nextF b f a least).2.1 ∧ least ≤ (nextF b f a least).2.1 ∧ (a < (nextF b f a least).1 → 4 ≤ (nextF b f a least).2.1))) ∧
    (∀ c, a ≤ c → c < (nextF b f a least).1 → (findI b (c : Int)).1 < 4)
  | 0, a, least, hf, ha, _ => by
    have e : a = b.length := by omega
    exact ⟨⟨ha, Nat.le_refl _⟩, .inl ⟨rfl, rfl, rfl⟩, fun c h1 h2 => by have : c < b.length := h2; omega⟩
  | f + 1, a, least, hf, ha, hl => by
    by_cases h : least ≤ (findI b (a : Int)).1
    · have e : nextF b (f + 1) a least = (a, (findI b (a : Int)).1, (findI b (a : Int)).2) := by rw [nextF, if_pos h]
      rw [e]
      have hs : Stands b a (findI b (a : Int)) := find_stands
      refine ⟨⟨Nat.le_refl _, ha⟩, .inr ⟨by show a < b.length; omega, hs, ?_, h, fun h1 => absurd h1 (Nat.lt_irrefl _)⟩, fun c h1 h2 => ?_⟩
      · show 3 ≤ (findI b (a : Int)).1
        omega
      · have : c < a := h2
        omega
    · have e : nextF b (f + 1) a least = nextF b f (a + 1) 4 := by rw [nextF, if_neg h]
      rw [e]
      obtain ⟨⟨h1, h2⟩, h3, h4⟩ := next_spec b f (a + 1) 4 (by omega) (by omega) (.inr rfl)
      refine ⟨⟨by omega, h2⟩, ?_, fun c h5 h6 => ?_⟩
      · rcases h3 with h3 | ⟨h3, h5, h6, h7, _⟩
        · exact .inl h3
        · exact .inr ⟨h3, h5, h6, by omega, fun _ => h7⟩
      · by_cases e2 : c = a
        · subst e2
          omega
        · exact h4 c (by omega) h6
theorem nextC_spec {b : List Nat} {s : Nat} (hs : s ≤ b.length) : Next b s (nextC b s).1 (nextC b s).2.1 (nextC b s).2.2 := by
  obtain ⟨⟨h1, h2⟩, h3, h4⟩ := next_spec b _ s 3 rfl hs (.inl rfl)
  refine ⟨h1, h2, ?_, h4⟩
  rcases h3 with h3 | ⟨h3, h5, h6, _, h7⟩
  · exact .inl h3
  · exact .inr ⟨h3, h5, h6, h7⟩

/-- A token of a page: l bytes from o on, or a copy of n bytes that stand d ahead. -/
structure Tz where
  o : Nat
  l : Nat
  n : Nat
  d : Nat
def Tz.b (b : List Nat) (t : Tz) : List Nat := seg b t.o t.l
def Tz.put (b : List Nat) (t : Tz) : List Nat := tokB (t.b b) (t.n : Int) (t.d : Int)
/-- The bytes of tokens. -/
def catZ (b : List Nat) : List Tz → List Nat
  | [] => []
  | t :: T => t.put b ++ catZ b T
theorem catZ_append (b : List Nat) : ∀ S T : List Tz, catZ b (S ++ T) = catZ b S ++ catZ b T
  | [], _ => rfl
  | s :: S, T => by rw [List.cons_append, catZ, catZ, catZ_append b S T, List.append_assoc]
/-- The j-th chunk of m bytes from s on. -/
def chunkZ (s m j : Nat) : Tz := ⟨s + 128 * j, min 128 (m - 128 * j), 0, 0⟩
def litsL (s m : Nat) : List Tz := (List.range ((m + 127) / 128)).map (chunkZ s m)
theorem lits_len (s m : Nat) : (litsL s m).length = (m + 127) / 128 := by simp [litsL]
theorem lits_at {s m j : Nat} (h : 128 * j < m) : (litsL s m)[j]? = some (chunkZ s m j) := by
  have hj : j < (m + 127) / 128 := by omega
  simp [litsL, hj]
def dupL (b : List Nat) (a L d : Nat) : List Tz := if a < b.length then [⟨0, 0, L, d⟩] else []
def packF (b : List Nat) : Nat → Nat → List Tz
  | 0, _ => []
  | f + 1, s => if s < b.length then litsL s ((nextC b s).1 - s) ++ (dupL b (nextC b s).1 (nextC b s).2.1 (nextC b s).2.2 ++ packF b f ((nextC b s).1 + (nextC b s).2.1)) else []
def packL (b : List Nat) : List Tz := packF b b.length 0

/-- Tokens stand for the bytes from s to s'. -/
def Spell (b : List Nat) : Nat → List Tz → Nat → Prop
  | s, [], s2 => s = s2
  | s, t :: T, s2 => (s < 4096 ∧ mayT (t.b b).length (t.n : Int) (t.d : Int) = true ∧ t.d ≤ s ∧ growB (b.take s) (t.b b) (t.n : Int) (t.d : Int) = b.take (s + sizeT (t.b b).length (t.n : Int) (t.d : Int))) ∧
      Spell b (s + sizeT (t.b b).length (t.n : Int) (t.d : Int)) T s2
theorem Spell.nil {b : List Nat} (s : Nat) : Spell b s [] s := rfl
theorem Spell.cons {b : List Nat} {s s2 : Nat} {t : Tz} {T : List Tz} (h1 : s < 4096) (h2 : mayT (t.b b).length (t.n : Int) (t.d : Int) = true) (h3 : t.d ≤ s) (h4 : growB (b.take s) (t.b b) (t.n : Int) (t.d : Int) = b.take (s + sizeT (t.b b).length (t.n : Int) (t.d : Int)))
    (h5 : Spell b (s + sizeT (t.b b).length (t.n : Int) (t.d : Int)) T s2) : Spell b s (t :: T) s2 := ⟨⟨h1, h2, h3, h4⟩, h5⟩
theorem Spell.append {b : List Nat} : ∀ {S T : List Tz} {s s1 s2 : Nat}, Spell b s S s1 → Spell b s1 T s2 → Spell b s (S ++ T) s2
  | [], _, _, _, _, h, k => by
    have e : _ = _ := h
    rw [e]
    exact k
  | _ :: _, _, _, _, _, h, k => ⟨h.1, Spell.append h.2 k⟩
theorem Spell.may {b : List Nat} : ∀ {T : List Tz} {s s2 : Nat}, Spell b s T s2 → ∀ t ∈ T, mayT (t.b b).length (t.n : Int) (t.d : Int) = true
  | [], _, _, _ => by simp
  | t :: T, _, _, h => by
    intro t' ht
    rcases List.mem_cons.1 ht with rfl | ht
    · exact h.1.2.1
    · exact Spell.may h.2 t' ht
theorem Spell.und {b : List Nat} (hb : b.length = 4096) : ∀ {T : List Tz} {s s2 : Nat} {p r B : List Nat} {n : Nat}, Spell b s T s2 → B = p ++ catZ b T ++ r → (∀ x ∈ B, x < 256) → s ≤ 4096 → Und B p.length (b.take s) n → Und B (p.length + (catZ b T).length) (b.take s2) (n + T.length)
  | [], s, s2, p, r, B, n, h, _, _, _, hu => by
    have e : s = s2 := h
    rw [← e]
    simpa [catZ] using hu
  | t :: T, s, s2, p, r, B, n, h, hB, h8, hs, hu => by
    obtain ⟨⟨h1, h2, h3, h4⟩, h5⟩ := h
    have e : B = p ++ tokB (t.b b) (t.n : Int) (t.d : Int) ++ (catZ b T ++ r) := by rw [hB, catZ, Tz.put]; simp
    have ht := take_put p (catZ b T ++ r) h2
    rw [← e, Int.toNat_natCast, Int.toNat_natCast] at ht
    have hl : (b.take s).length = s := by rw [List.length_take]; omega
    have hst := hu.step h8 (by rw [hl]; exact h1) ht rfl (by rw [hl]; exact h3)
    rw [h4] at hst
    have hp : (p ++ t.put b).length = p.length + (tokB (t.b b) (t.n : Int) (t.d : Int)).length := by rw [List.length_append]; rfl
    have e3 : s + sizeT (t.b b).length (t.n : Int) (t.d : Int) ≤ 4096 ∨ 4096 < s + sizeT (t.b b).length (t.n : Int) (t.d : Int) := by omega
    rcases e3 with e3 | e3
    · have := Spell.und hb h5 (p := p ++ t.put b) (r := r) (B := B) (n := n + 1) (by rw [hB, catZ]; simp) h8 e3 (by rw [hp]; exact hst)
      rw [hp] at this
      rw [catZ, List.length_append, List.length_cons, Nat.add_comm T.length 1, ← Nat.add_assoc, ← Nat.add_assoc]
      exact this
    · exfalso
      have g1 := congrArg List.length h4
      rw [grow_size h2, hl, List.length_take] at g1
      omega
theorem spell_lits {b : List Nat} {s m : Nat} (hb : b.length = 4096) (hm : s + m ≤ b.length) : ∀ j, j ≤ (m + 127) / 128 → Spell b s ((List.range j).map (chunkZ s m)) (s + min m (128 * j))
  | 0, _ => by simpa using Spell.nil s
  | j + 1, hj => by
    have ih := spell_lits (b := b) hb hm j (by omega)
    rw [List.range_succ, List.map_append, List.map_singleton]
    refine ih.append ?_
    have hmin : min m (128 * j) = 128 * j := by omega
    rw [hmin]
    have hl : (chunkZ s m j).b b = seg b (s + 128 * j) (min 128 (m - 128 * j)) := rfl
    have hll : ((chunkZ s m j).b b).length = min 128 (m - 128 * j) := by rw [hl, length_seg (by omega)]
    have hmay : mayT ((chunkZ s m j).b b).length ((chunkZ s m j).n : Int) ((chunkZ s m j).d : Int) = true := by
      rw [may_lit (by omega)]
      exact decide_eq_true ⟨by omega, rfl, rfl⟩
    have hsz : sizeT ((chunkZ s m j).b b).length ((chunkZ s m j).n : Int) ((chunkZ s m j).d : Int) = min 128 (m - 128 * j) := by
      rw [sizeT_yes hmay, hll]
      show _ + (((0 : Nat) : Int)).toNat = _
      simp
    have := Spell.cons (b := b) (s := s + 128 * j) (t := chunkZ s m j) (T := []) (s2 := s + 128 * j + min 128 (m - 128 * j)) (by omega) hmay (Nat.zero_le _) ?_ (by rw [hsz]; exact .nil _)
    · rwa [show s + 128 * j + min 128 (m - 128 * j) = s + min m (128 * (j + 1)) by omega] at this
    · rw [hsz]
      show reach (b.take (s + 128 * j) ++ (chunkZ s m j).b b) (((0 : Nat) : Int)).toNat (((0 : Nat) : Int)).toNat = _
      show b.take (s + 128 * j) ++ (chunkZ s m j).b b = _
      rw [hl, seg, ← List.take_add]
theorem reach_stands {b : List Nat} {a L d : Nat} (h1 : 1 ≤ d) (h2 : d ≤ a) (hw : wN b a (a - d) = L) (hl : a + L ≤ b.length) : ∀ k, k ≤ L → reach (b.take a) d k = b.take (a + k)
  | 0, _ => rfl
  | k + 1, hk => by
    have hla : (b.take a).length = a := by rw [List.length_take]; omega
    rw [reach, reach_stands h1 h2 hw hl k (by omega), hla]
    have e1 : (b.take (a + k)).getD (a + k - d) 0 = b.getD (a + k) 0 := by
      have e2 : (b.take (a + k)).getD (a + k - d) 0 = b.getD (a + k - d) 0 := by simp [List.getD, show a + k - d < a + k by omega]
      rw [e2, wN_at (b := b) (a := a) (f := a - d) (j := k) (by omega)]
      congr 1
      omega
    rw [e1]
    have e3 : b.take (a + (k + 1)) = b.take (a + k) ++ [b.getD (a + k) 0] := by
      rw [← Nat.add_assoc, List.take_add_one]
      congr 1
      simp [List.getD, List.getElem?_eq_getElem (show a + k < b.length by omega)]
    rw [e3]
theorem spell_dup {b : List Nat} {s a L d : Nat} (hb : b.length = 4096) (h : Next b s a L d) : Spell b a (dupL b a L d) (a + L) := by
  rcases h.is with ⟨rfl, rfl, rfl⟩ | ⟨h1, h2, h3, _⟩
  · rw [dupL, if_neg (Nat.lt_irrefl _)]
    exact .nil _
  · rw [dupL, if_pos h1]
    rcases h2 with ⟨h4, _⟩ | ⟨_, h5, h6, h7⟩
    · have : L = 0 := h4
      omega
    · have h5 : 1 ≤ d := h5
      have h6 : d ≤ a := h6
      have h7 : wN b a (a - d) = L := h7
      have hL1 : L ≤ 130 := by rw [← h7]; exact wN_le _ _ _
      have hL2 : a + L ≤ b.length := by rw [← h7]; exact wN_len (by omega)
      have hbz : (⟨0, 0, L, d⟩ : Tz).b b = [] := by simp [Tz.b, seg]
      have hmay : mayT ((⟨0, 0, L, d⟩ : Tz).b b).length (L : Int) (d : Int) = true := by
        rw [hbz, List.length_nil, may_copy]
        exact decide_eq_true (by omega)
      have hsz : sizeT ((⟨0, 0, L, d⟩ : Tz).b b).length (L : Int) (d : Int) = L := by
        rw [sizeT_yes hmay, hbz]
        simp
      refine .cons (by omega) hmay h6 ?_ (by rw [hsz]; exact .nil _)
      rw [hsz]
      show reach (b.take a ++ (⟨0, 0, L, d⟩ : Tz).b b) (d : Int).toNat (L : Int).toNat = _
      rw [hbz, List.append_nil, Int.toNat_natCast, Int.toNat_natCast]
      exact reach_stands h5 h6 h7 hL2 L (Nat.le_refl _)
theorem Next.step {b : List Nat} {s a L d : Nat} (h : Next b s a L d) (hs : s < b.length) : s < a + L ∧ a + L ≤ b.length := by
  have := h.lo
  have := h.hi
  rcases h.is with ⟨rfl, rfl, rfl⟩ | ⟨h1, h2, h3, _⟩
  · omega
  · rcases h2 with ⟨h4, _⟩ | ⟨_, h5, h6, h7⟩
    · have : L = 0 := h4
      omega
    · have h7 : wN b a (a - d) = L := h7
      have hL2 : a + L ≤ b.length := by rw [← h7]; exact wN_len (by omega)
      omega
theorem pack_spell {b : List Nat} (hb : b.length = 4096) : ∀ f s, b.length ≤ f + s → s ≤ b.length → Spell b s (packF b f s) b.length
  | 0, s, h1, h2 => by
    obtain rfl : s = b.length := by omega
    exact .nil _
  | f + 1, s, h1, h2 => by
    rw [packF]
    by_cases h : s < b.length
    · rw [if_pos h]
      have hn := nextC_spec h2
      generalize (nextC b s).1 = a at *
      generalize (nextC b s).2.1 = L at *
      generalize (nextC b s).2.2 = d at *
      obtain ⟨h3, h4⟩ := hn.step h
      have hlo := hn.lo
      have hhi := hn.hi
      have hlit := spell_lits (b := b) (s := s) (m := a - s) hb (by omega) ((a - s + 127) / 128) (Nat.le_refl _)
      rw [show s + min (a - s) (128 * ((a - s + 127) / 128)) = a by omega] at hlit
      exact hlit.append ((spell_dup hb hn).append (pack_spell hb f (a + L) (by omega) h4))
    · rw [if_neg h]
      obtain rfl : s = b.length := by omega
      exact .nil _
theorem packL_spell {b : List Nat} (hb : b.length = 4096) : Spell b 0 (packL b) b.length := pack_spell hb _ 0 (by omega) (Nat.zero_le _)
theorem tz_byte {b : List Nat} (h8 : ∀ x ∈ b, x < 256) {T : List Tz} (hm : ∀ t ∈ T, mayT (t.b b).length (t.n : Int) (t.d : Int) = true) : ∀ x ∈ catZ b T, x < 256 := by
  induction T with
  | nil => simp [catZ]
  | cons t T ih =>
    intro x hx
    rw [catZ] at hx
    rcases List.mem_append.1 hx with h | h
    · exact tok_byte (seg_byte h8) (hm t (by simp)) x h
    · exact ih (fun t ht => hm t (by simp [ht])) x h
/-- What is packed is unpacked. -/
theorem pack_back {b : List Nat} (hb : b.length = 4096) (h8 : ∀ x ∈ b, x < 256) : unpA (catZ b (packL b)) = ⟨0, b, (packL b).length⟩ := by
  have hs := packL_spell hb
  have h256 := tz_byte h8 hs.may
  have hu := Spell.und hb hs (p := []) (r := []) (B := catZ b (packL b)) (n := 0) (by simp) h256 (by omega) (Und.start _)
  rw [List.take_length, List.length_nil, Nat.zero_add, Nat.zero_add] at hu
  rw [hu.over (by omega), endU, if_neg (by omega), if_neg (Nat.lt_irrefl _)]
end Go.Proofs.Ytgninhecclinaaa
