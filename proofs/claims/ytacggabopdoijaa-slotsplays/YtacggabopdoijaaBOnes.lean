/- Plain facts on counting a word's bits by adding neighbours: no program in them. -/
import Derived.Laws.BitsAllLaws
namespace Go.Proofs.Ytacggabopdoijaa

def rep (s : Nat) : Nat → Nat
  | 0 => 0
  | k + 1 => 256 * rep s k + s
theorem and_bytes (y r M s : Nat) (hr : r < 256) (hs : s < 256) : (256 * y + r) &&& (256 * M + s) = 256 * (y &&& M) + (r &&& s) := by
  apply Nat.eq_of_testBit_eq
  intro i
  have hrs : r &&& s < 2 ^ 8 := Nat.lt_of_le_of_lt Nat.and_le_left hr
  rw [Nat.testBit_and, Nat.testBit_two_pow_mul_add (i := 8) y hr, Nat.testBit_two_pow_mul_add (i := 8) M hs, Nat.testBit_two_pow_mul_add (i := 8) (y &&& M) hrs]
  split
  · rw [Nat.testBit_and]
  · rw [Nat.testBit_and]

def S1 (k x : Nat) : Nat := ((x / 2) &&& rep 85 k) + (x &&& rep 85 k)
def S2 (k x : Nat) : Nat := ((x / 4) &&& rep 51 k) + (x &&& rep 51 k)
def S3 (k x : Nat) : Nat := (x / 16 + x) &&& rep 15 k
def s1 (r : Nat) : Nat := ((r / 2) &&& 85) + (r &&& 85)
def s2 (r : Nat) : Nat := ((r / 4) &&& 51) + (r &&& 51)
def t8 (r : Nat) : Nat := (s2 (s1 r) / 16 + s2 (s1 r)) % 16

theorem s1_lt : ∀ r, r < 256 → s1 r < 256 := by decide +kernel
theorem s2_lt : ∀ r, r < 256 → s2 r < 256 := by decide +kernel
theorem leak1 : ∀ r, r < 256 → ∀ c, c < 2 → (128 * c + r / 2) &&& 85 = (r / 2) &&& 85 := by decide +kernel
theorem leak2 : ∀ r, r < 256 → ∀ c, c < 4 → (64 * c + r / 4) &&& 51 = (r / 4) &&& 51 := by decide +kernel
theorem nib : ∀ r, r < 256 → s2 (s1 r) % 16 ≤ 4 ∧ s2 (s1 r) / 16 ≤ 4 := by decide +kernel
theorem t8_count : ∀ r, r < 256 → t8 r = (List.range 8).countP (fun i => r.testBit i) := by decide +kernel
theorem t8_le (r : Nat) (h : r < 256) : t8 r ≤ 8 := by
  rw [t8_count r h]
  have := List.countP_le_length (p := fun i => r.testBit i) (l := List.range 8)
  simpa using this

theorem S1_step (k y r : Nat) (hr : r < 256) : S1 (k + 1) (256 * y + r) = 256 * S1 k y + s1 r := by
  unfold S1 s1
  have e : (256 * y + r) / 2 = 256 * (y / 2) + (128 * (y % 2) + r / 2) := by omega
  rw [e, rep, and_bytes _ _ _ _ (by omega) (by omega), and_bytes _ _ _ _ hr (by omega), leak1 r hr _ (by omega)]
  omega
theorem S2_step (k y r : Nat) (hr : r < 256) : S2 (k + 1) (256 * y + r) = 256 * S2 k y + s2 r := by
  unfold S2 s2
  have e : (256 * y + r) / 4 = 256 * (y / 4) + (64 * (y % 4) + r / 4) := by omega
  rw [e, rep, and_bytes _ _ _ _ (by omega) (by omega), and_bytes _ _ _ _ hr (by omega), leak2 r hr _ (by omega)]
  omega
theorem U_step (k y r : Nat) (hr : r < 256) : S2 (k + 1) (S1 (k + 1) (256 * y + r)) = 256 * S2 k (S1 k y) + s2 (s1 r) := by
  rw [S1_step k y r hr, S2_step k _ _ (s1_lt r hr)]
theorem U_nib (k y : Nat) : S2 k (S1 k y) % 16 ≤ 4 := by
  cases k with
  | zero => simp [S2, rep]
  | succ k =>
    have e : y = 256 * (y / 256) + y % 256 := by omega
    rw [e, U_step k _ _ (by omega)]
    have := nib (y % 256) (by omega)
    omega
theorem T_step (k y r : Nat) (hr : r < 256) : S3 (k + 1) (S2 (k + 1) (S1 (k + 1) (256 * y + r))) = 256 * S3 k (S2 k (S1 k y)) + t8 r := by
  rw [U_step k y r hr]
  have h1 := U_nib k y
  have h2 := nib r hr
  have h3 := s2_lt _ (s1_lt r hr)
  unfold S3 t8
  generalize S2 k (S1 k y) = u at *
  generalize s2 (s1 r) = q at *
  have e : (256 * u + q) / 16 + (256 * u + q) = 256 * (u / 16 + u) + (16 * (u % 16) + q / 16 + q) := by omega
  rw [e, rep, and_bytes _ _ _ _ (by omega) (by omega)]
  have e2 : (16 * (u % 16) + q / 16 + q) &&& 15 = (16 * (u % 16) + q / 16 + q) % 16 := Nat.and_two_pow_sub_one_eq_mod _ 4
  rw [e2]
  omega

/-- The bytes' counts, one a byte. -/
def pcs : Nat → Nat → Nat
  | 0, _ => 0
  | k + 1, x => 256 * pcs k (x / 256) + t8 (x % 256)
def pcSum : Nat → Nat → Nat
  | 0, _ => 0
  | k + 1, x => pcSum k (x / 256) + t8 (x % 256)
theorem T_all (k x : Nat) : S3 k (S2 k (S1 k x)) = pcs k x := by
  induction k generalizing x with
  | zero => simp [S3, rep, pcs]
  | succ k ih =>
    have e : x = 256 * (x / 256) + x % 256 := by omega
    rw [pcs, ← ih]
    rw [← T_step k _ _ (show x % 256 < 256 by omega), ← e]
theorem count_split (a b x : Nat) : (List.range (a + b)).countP (fun i => x.testBit i) = (List.range a).countP (fun i => x.testBit i) + (List.range b).countP (fun i => (x / 2 ^ a).testBit i) := by
  rw [List.range_add, List.countP_append, List.countP_map]
  congr 1
  apply List.countP_congr
  intro i _
  simp [Nat.testBit_div_two_pow, Nat.add_comm]
theorem pcSum_count (k x : Nat) : pcSum k x = (List.range (8 * k)).countP (fun i => x.testBit i) := by
  induction k generalizing x with
  | zero => simp [pcSum]
  | succ k ih =>
    rw [pcSum, ih, show 8 * (k + 1) = 8 + 8 * k by omega, count_split 8 (8 * k) x, t8_count _ (by omega), Nat.add_comm]
    congr 1
    apply List.countP_congr
    intro i hi
    have hi' : i < 8 := by simpa using hi
    have e : x % 256 = x % 2 ^ 8 := rfl
    rw [e, Nat.testBit_mod_two_pow]
    simp [hi']
/-- The number of a word's bits that are set. -/
def pop (x : Nat) : Nat := (List.range 64).countP (fun i => x.testBit i)
theorem pop_le (x : Nat) : pop x ≤ 64 := by
  have := List.countP_le_length (p := fun i => x.testBit i) (l := List.range 64)
  simpa [pop] using this
theorem divd (a b m : Nat) (h : a < m) : (a + m * b) / m = b := by
  rw [Nat.add_mul_div_left _ _ (by omega), Nat.div_eq_of_lt h, Nat.zero_add]
theorem modd (a b m : Nat) (h : a < m) : (a + m * b) % m = a := by
  rw [Nat.add_mul_mod_self_left, Nat.mod_eq_of_lt h]
theorem addUp (p0 p1 p2 p3 p4 p5 p6 p7 u : Nat) (h0 : p0 ≤ 8) (h1 : p1 ≤ 8) (h2 : p2 ≤ 8) (h3 : p3 ≤ 8) (h4 : p4 ≤ 8) (h5 : p5 ≤ 8) (h6 : p6 ≤ 8) (_h7 : p7 ≤ 8)
    (hu : u = 256 * (256 * (256 * (256 * (256 * (256 * (256 * p7 + p6) + p5) + p4) + p3) + p2) + p1) + p0) :
    u + u / 256 + (u + u / 256) / 65536 + (u + u / 256 + (u + u / 256) / 65536) / 4294967296 = (p0 + p1 + p2 + p3 + p4 + p5 + p6 + p7) + 128 * (2 * (p1 + p2 + p3 + p4 + p5 + p6 + p7) + 512 * (p2 + p3 + p4 + p5 + p6 + p7) + 131072 * (p3 + p4 + p5 + p6 + p7) + 33554432 * (p4 + p5 + p6 + p7) + 8589934592 * (p5 + p6 + p7) + 2199023255552 * (p6 + p7) + 562949953421312 * p7) := by
  obtain ⟨y1, hy1⟩ : ∃ y, y = 256 * (256 * (256 * (256 * (256 * (256 * p7 + p6) + p5) + p4) + p3) + p2) + p1 := ⟨_, rfl⟩
  have a0 : u = p0 + 256 * y1 := by omega
  have d1 : u / 256 = y1 := by rw [a0]; exact divd _ _ _ (by omega)
  rw [d1]
  obtain ⟨q2, hq2⟩ : ∃ y, y = (p2 + p3) + 256 * (p3 + p4) + 65536 * (p4 + p5) + 16777216 * (p5 + p6) + 4294967296 * (p6 + p7) + 1099511627776 * p7 := ⟨_, rfl⟩
  have a2 : u + y1 = ((p0 + p1) + 256 * (p1 + p2)) + 65536 * q2 := by rw [hu, hy1, hq2]; omega
  rw [a2, divd _ _ _ (show (p0 + p1) + 256 * (p1 + p2) < 65536 by omega)]
  obtain ⟨q4, hq4⟩ : ∃ y, y = (p4 + p5 + p6 + p7) + 256 * (p5 + p6 + p7) + 65536 * (p6 + p7) + 16777216 * p7 := ⟨_, rfl⟩
  have a4 : (p0 + p1) + 256 * (p1 + p2) + 65536 * q2 + q2 = ((p0 + p1 + p2 + p3) + 256 * (p1 + p2 + p3 + p4) + 65536 * (p2 + p3 + p4 + p5) + 16777216 * (p3 + p4 + p5 + p6)) + 4294967296 * q4 := by rw [hq2, hq4]; omega
  rw [a4, divd _ _ _ (show (p0 + p1 + p2 + p3) + 256 * (p1 + p2 + p3 + p4) + 65536 * (p2 + p3 + p4 + p5) + 16777216 * (p3 + p4 + p5 + p6) < 4294967296 by omega)]
  rw [hq4]
  omega
theorem pop_end (x : Nat) : let u := S3 8 (S2 8 (S1 8 x)); let v1 := u + u / 256; let v2 := v1 + v1 / 65536; let v3 := v2 + v2 / 4294967296; v3 % 128 = pop x ∧ v3 < 9223372036854775808 := by
  have e : pop x = pcSum 8 x := by rw [pcSum_count]; rfl
  intro u v1 v2 v3
  have h0 := t8_le (x % 256) (by omega)
  have h1 := t8_le (x / 256 % 256) (by omega)
  have h2 := t8_le (x / 256 / 256 % 256) (by omega)
  have h3 := t8_le (x / 256 / 256 / 256 % 256) (by omega)
  have h4 := t8_le (x / 256 / 256 / 256 / 256 % 256) (by omega)
  have h5 := t8_le (x / 256 / 256 / 256 / 256 / 256 % 256) (by omega)
  have h6 := t8_le (x / 256 / 256 / 256 / 256 / 256 / 256 % 256) (by omega)
  have h7 := t8_le (x / 256 / 256 / 256 / 256 / 256 / 256 / 256 % 256) (by omega)
  have hv := addUp _ _ _ _ _ _ _ _ u h0 h1 h2 h3 h4 h5 h6 h7 (by show S3 8 (S2 8 (S1 8 x)) = _; rw [T_all]; simp only [pcs, Nat.mul_zero, Nat.zero_add])
  have hv' : v3 = _ := hv
  rw [hv', e]
  simp only [pcSum, Nat.zero_add]
  clear hv hv' e
  clear v3 v2 v1 u
  generalize t8 (x % 256) = p0 at *
  generalize t8 (x / 256 % 256) = p1 at *
  generalize t8 (x / 256 / 256 % 256) = p2 at *
  generalize t8 (x / 256 / 256 / 256 % 256) = p3 at *
  generalize t8 (x / 256 / 256 / 256 / 256 % 256) = p4 at *
  generalize t8 (x / 256 / 256 / 256 / 256 / 256 % 256) = p5 at *
  generalize t8 (x / 256 / 256 / 256 / 256 / 256 / 256 % 256) = p6 at *
  generalize t8 (x / 256 / 256 / 256 / 256 / 256 / 256 / 256 % 256) = p7 at *
  refine ⟨?_, by omega⟩
  rw [modd _ _ _ (by omega)]
  omega
theorem S1_lt (x : Nat) : S1 8 x < 18446744073709551616 := by
  have h1 : x / 2 &&& rep 85 8 ≤ rep 85 8 := Nat.and_le_right
  have h2 : x &&& rep 85 8 ≤ rep 85 8 := Nat.and_le_right
  have e : rep 85 8 = 6148914691236517205 := by decide
  unfold S1
  omega
theorem S2_lt (x : Nat) : S2 8 x < 18446744073709551616 := by
  have h1 : x / 4 &&& rep 51 8 ≤ rep 51 8 := Nat.and_le_right
  have h2 : x &&& rep 51 8 ≤ rep 51 8 := Nat.and_le_right
  have e : rep 51 8 = 3689348814741910323 := by decide
  unfold S2
  omega
end Go.Proofs.Ytacggabopdoijaa
