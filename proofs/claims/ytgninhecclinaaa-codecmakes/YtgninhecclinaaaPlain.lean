/- Plain facts on numbers in bytes and parts of words: lists of natural numbers, no program in them. -/
import Derived.OwnWalk
import Derived.Laws.BitsAllLaws
namespace Go.Proofs.Ytgninhecclinaaa

/-- The lowest bytes of a number, lowest first. -/
def putN (size n : Nat) : List Nat := (List.range size).map fun i => n / 256 ^ i % 256
/-- b with a number's lowest bytes at a place. -/
def layN (b : List Nat) (at' size n : Nat) : List Nat := b.take at' ++ putN size n ++ b.drop (at' + size)
/-- The number of bytes, lowest first. -/
def getL : List Nat → Nat
  | [] => 0
  | c :: r => c + 256 * getL r
def bv (l : List Nat) : List Value := l.map fun x : Nat => Value.int .u8 (x : Int)
/-- The bytes of numbers, one behind the other. -/
def putAll (size : Nat) (ns : List Nat) : List Nat := ns.flatMap (putN size)

@[simp] theorem length_putN (size n : Nat) : (putN size n).length = size := by simp [putN]
@[simp] theorem length_bv (l : List Nat) : (bv l).length = l.length := by simp [bv]
theorem length_layN {b : List Nat} {a s n : Nat} (h : a + s ≤ b.length) : (layN b a s n).length = b.length := by simp [layN]; omega
theorem layN_zero (b : List Nat) (a n : Nat) : layN b a 0 n = b := by simp [layN, putN]
theorem putN_succ (k n : Nat) : putN (k + 1) n = putN k n ++ [n / 256 ^ k % 256] := by simp [putN, List.range_succ]
theorem layN_succ {b : List Nat} {a k n : Nat} (h : a + k < b.length) : (layN b a k n).set (a + k) (n / 256 ^ k % 256) = layN b a (k + 1) n := by
  have hd : b.drop (a + k) = b[a + k] :: b.drop (a + k + 1) := by rw [List.drop_eq_getElem_cons h]
  unfold layN
  rw [putN_succ, hd, List.set_append_right _ _ (by simp; omega)]
  have e : a + k - (b.take a ++ putN k n).length = 0 := by simp; omega
  rw [e]
  simp [Nat.add_assoc]
theorem bv_set (l : List Nat) (j x : Nat) : (bv l).set j (.int .u8 (x : Int)) = bv (l.set j x) := by simp [bv, List.map_set]
theorem byteAt (n k : Nat) : IntKind.u8.wrap ((n : Int) / 2 ^ (8 * k)) = ((n / 256 ^ k % 256 : Nat) : Int) := by
  rw [IntKind.wrap_u8', Int.pow_mul, show ((2 : Int) ^ 8) = 256 from rfl]
  simp
theorem byteAt2 (n k : Nat) : (n : Int) / 2 ^ (8 * k) % 256 = ((n / 256 ^ k % 256 : Nat) : Int) := by
  rw [Int.pow_mul, show ((2 : Int) ^ 8) = 256 from rfl]
  simp
theorem byteAt' (n k : Nat) : IntKind.u8.wrap ((n : Int) / 256 ^ k) = ((n / 256 ^ k % 256 : Nat) : Int) := by
  rw [IntKind.wrap_u8']
  simp
theorem made_bytes (n : Nat) : (madeCells #[Value.int .u8 0] n).toList = bv (List.replicate n 0) := by
  apply List.ext_getElem
  · simp [bv, madeCells]
  · intro i h1 h2
    simp [bv, madeCells, Nat.mod_one]
theorem layN_append (x y : List Nat) (s n : Nat) : layN (x ++ y) x.length s n = x ++ putN s n ++ y.drop s := by
  unfold layN
  rw [List.drop_append, List.drop_of_length_le (by omega)]
  simp
theorem length_putAll (s : Nat) (ns : List Nat) : (putAll s ns).length = ns.length * s := by
  induction ns with
  | nil => simp [putAll]
  | cons a r ih => simp only [putAll, List.flatMap_cons, List.length_append, length_putN, List.length_cons] at ih ⊢; rw [ih, Nat.add_mul]; omega
theorem putAll_snoc (s : Nat) (ns : List Nat) (x : Nat) : putAll s (ns ++ [x]) = putAll s ns ++ putN s x := by simp [putAll]
/-- What stands in the row behind k numbers. -/
def putTo (s : Nat) (ns : List Nat) (k : Nat) : List Nat := putAll s (ns.take k) ++ List.replicate ((ns.length - k) * s) 0
theorem putTo_zero (s : Nat) (ns : List Nat) : putTo s ns 0 = List.replicate (ns.length * s) 0 := by simp [putTo, putAll]
theorem putTo_all (s : Nat) (ns : List Nat) : putTo s ns ns.length = putAll s ns := by simp [putTo]
theorem length_putTo (s : Nat) (ns : List Nat) (k : Nat) (h : k ≤ ns.length) : (putTo s ns k).length = ns.length * s := by
  simp only [putTo, List.length_append, length_putAll, List.length_take, List.length_replicate, Nat.min_eq_left h]
  rw [← Nat.add_mul]
  congr 1
  omega
theorem putTo_succ (s : Nat) (ns : List Nat) (k : Nat) (h : k < ns.length) : layN (putTo s ns k) (k * s) s (ns[k]) = putTo s ns (k + 1) := by
  have hl : (putAll s (ns.take k)).length = k * s := by rw [length_putAll, List.length_take, Nat.min_eq_left (by omega)]
  unfold putTo
  rw [← hl, layN_append, List.take_succ_eq_append_getElem h, putAll_snoc, List.drop_replicate]
  congr 2
  rw [show ns.length - k = (ns.length - (k + 1)) + 1 by omega, Nat.add_mul]
  omega

theorem getL_append (l r : List Nat) : getL (l ++ r) = getL l + 256 ^ l.length * getL r := by
  induction l with
  | nil => simp [getL]
  | cons c t ih => simp only [List.cons_append, getL, ih, List.length_cons, Nat.pow_succ, Nat.mul_add]; rw [Nat.mul_comm (256 ^ t.length) 256, ← Nat.mul_assoc]; omega
theorem getL_lt (l : List Nat) (h : ∀ x ∈ l, x < 256) : getL l < 256 ^ l.length := by
  induction l with
  | nil => simp [getL]
  | cons c t ih =>
    have h1 := ih (fun x hx => h x (by simp [hx]))
    have h2 := h c (by simp)
    simp only [getL, List.length_cons, Nat.pow_succ]
    omega
theorem pow256_le {k : Nat} (h : k ≤ 8) : 256 ^ k ≤ 18446744073709551616 := show 256 ^ k ≤ 256 ^ 8 from Nat.pow_le_pow_right (by omega) h
theorem pow256_lt {k : Nat} (h : k < 8) : 256 ^ k ≤ 72057594037927936 := show 256 ^ k ≤ 256 ^ 7 from Nat.pow_le_pow_right (by omega) (by omega)
/-- The number of k bytes at a place. -/
def getTo (b : List Nat) (a k : Nat) : Nat := getL ((b.drop a).take k)
theorem getTo_succ {b : List Nat} {a k : Nat} (h : a + k < b.length) : getTo b a (k + 1) = getTo b a k + 256 ^ k * b[a + k] := by
  unfold getTo
  rw [List.take_succ_eq_append_getElem (by simp; omega), getL_append]
  have e : min k (b.length - a) = k := by omega
  simp [getL, e]
theorem getTo_lt {b : List Nat} {a k : Nat} (hb : ∀ x ∈ b, x < 256) : getTo b a k < 256 ^ k := by
  have h1 := getL_lt ((b.drop a).take k) (fun x hx => hb x (List.mem_of_mem_drop (List.mem_of_mem_take hx)))
  exact Nat.lt_of_lt_of_le h1 (Nat.pow_le_pow_right (by omega) (List.length_take_le _ _))
theorem or_byte {q c k : Nat} (hq : q < 256 ^ k) (hc : c < 256) (hk : k < 8) :
    bits .or .u64 (q : Int) (IntKind.u64.wrap ((c : Int) * 2 ^ (8 * k))) = ((q + 256 ^ k * c : Nat) : Int) := by
  have e : (2 : Nat) ^ (8 * k) = 256 ^ k := by rw [Nat.pow_mul]
  have hp := pow256_lt hk
  have hq2 : q < 18446744073709551616 := by omega
  have hm : c * 256 ^ k ≤ 255 * 72057594037927936 := Nat.mul_le_mul (by omega) hp
  have hc2 : c * 256 ^ k < 18446744073709551616 := by omega
  have e1 : IntKind.u64.wrap ((c : Int) * 2 ^ (8 * k)) = ((c * 256 ^ k : Nat) : Int) := by
    rw [IntKind.wrap_u64, show ((c : Int) * 2 ^ (8 * k)) = ((c * 256 ^ k : Nat) : Int) by rw [← e]; simp]
    omega
  rw [e1, u64_or_nat q _ hq2 hc2, Nat.or_comm, nat_join (8 * k) (c * 256 ^ k) q (by rw [e]; exact Nat.mul_mod_left _ _) (by rw [e]; exact hq)]
  rw [Nat.add_comm, Nat.mul_comm]
theorem getTo_head {b : List Nat} {a j : Nat} (k : Nat) (hj : j < b.length) (h : j = a) : getTo b a (k + 1) = b[j] + 256 * getTo b (a + 1) k := by
  subst h
  unfold getTo
  rw [List.drop_eq_getElem_cons hj, List.take_succ_cons]
  rfl
end Go.Proofs.Ytgninhecclinaaa
