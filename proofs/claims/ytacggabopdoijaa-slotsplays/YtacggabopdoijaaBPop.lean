/- The walk of math/bits.OnesCount64: the number of a word's bits that are set. -/
import Derived.Test.YtacggabopdoijaaBSet
import Derived.Test.YtacggabopdoijaaBOnes
import Derived.Laws.Bits128
namespace Go.Proofs.Ytacggabopdoijaa
open Go.RowKit

theorem wrapU (n : Nat) (h : n < 18446744073709551616) : IntKind.u64.wrap (n : Int) = (n : Int) := by rw [IntKind.wrap_u64]; omega

set_option maxHeartbeats 400000 in
theorem ones_any (x : Nat) (w : World) (hx : x < 18446744073709551616) :
    Calls Try.prog 47 #[.int .u64 x] w fun e w' => e = .returned (.int .i64 (pop x : Nat)) ∧ w = w' := by
  obtain ⟨pe, pl⟩ := pop_end x
  have m0 : rep 85 8 = 6148914691236517205 := by decide
  have m1 : rep 51 8 = 3689348814741910323 := by decide
  have m2 : rep 15 8 = 1085102592571150095 := by decide
  have b1 := S1_lt x
  have b2 := S2_lt (S1 8 x)
  have b3 : S3 8 (S2 8 (S1 8 x)) ≤ rep 15 8 := Nat.and_le_right
  have nb : S2 8 (S1 8 x) ≤ 2 * rep 51 8 := by
    have h1 : S1 8 x / 4 &&& rep 51 8 ≤ rep 51 8 := Nat.and_le_right
    have h2 : S1 8 x &&& rep 51 8 ≤ rep 51 8 := Nat.and_le_right
    unfold S2
    omega
  have e1 : bits .and .u64 ((x : Int) / 2) 6148914691236517205 = ((x / 2 &&& rep 85 8 : Nat) : Int) := by
    have := u64_and_nat (x / 2) 6148914691236517205 (by omega) (by omega)
    rw [m0]; simpa using this
  have e2 : bits .and .u64 (x : Int) 6148914691236517205 = ((x &&& rep 85 8 : Nat) : Int) := by
    have := u64_and_nat x 6148914691236517205 (by omega) (by omega)
    rw [m0]; simpa using this
  have e3 : IntKind.u64.wrap (((x / 2 &&& rep 85 8 : Nat) : Int) + ((x &&& rep 85 8 : Nat) : Int)) = ((S1 8 x : Nat) : Int) := by
    have := wrapU (S1 8 x) b1
    unfold S1 at this ⊢
    simpa using this
  have e4 : bits .and .u64 (((S1 8 x : Nat) : Int) / 4) 3689348814741910323 = ((S1 8 x / 4 &&& rep 51 8 : Nat) : Int) := by
    have := u64_and_nat (S1 8 x / 4) 3689348814741910323 (by omega) (by omega)
    rw [m1]; simpa using this
  have e5 : bits .and .u64 ((S1 8 x : Nat) : Int) 3689348814741910323 = ((S1 8 x &&& rep 51 8 : Nat) : Int) := by
    have := u64_and_nat (S1 8 x) 3689348814741910323 (by omega) (by omega)
    rw [m1]; simpa using this
  have e6 : IntKind.u64.wrap (((S1 8 x / 4 &&& rep 51 8 : Nat) : Int) + ((S1 8 x &&& rep 51 8 : Nat) : Int)) = ((S2 8 (S1 8 x) : Nat) : Int) := by
    have := wrapU (S2 8 (S1 8 x)) b2
    unfold S2 at this ⊢
    simpa using this
  have e7 : IntKind.u64.wrap (((S2 8 (S1 8 x) : Nat) : Int) / 16 + ((S2 8 (S1 8 x) : Nat) : Int)) = ((S2 8 (S1 8 x) / 16 + S2 8 (S1 8 x) : Nat) : Int) := by
    rw [IntKind.wrap_u64]; omega
  have e8 : bits .and .u64 ((S2 8 (S1 8 x) / 16 + S2 8 (S1 8 x) : Nat) : Int) 1085102592571150095 = ((S3 8 (S2 8 (S1 8 x)) : Nat) : Int) := by
    have := u64_and_nat (S2 8 (S1 8 x) / 16 + S2 8 (S1 8 x)) 1085102592571150095 (by omega) (by omega)
    unfold S3; rw [m2]; simpa using this
  generalize S3 8 (S2 8 (S1 8 x)) = u at *
  generalize S2 8 (S1 8 x) / 16 + S2 8 (S1 8 x) = t at *
  generalize S2 8 (S1 8 x) = z at *
  generalize S1 8 x / 4 &&& rep 51 8 = c1 at *
  generalize S1 8 x &&& rep 51 8 = c0 at *
  generalize S1 8 x = y at *
  generalize x / 2 &&& rep 85 8 = d1 at *
  generalize x &&& rep 85 8 = d0 at *
  generalize hv1 : u + u / 256 = v1 at *
  generalize hv2 : v1 + v1 / 65536 = v2 at *
  generalize hv3 : v2 + v2 / 4294967296 = v3 at *
  have e9 : IntKind.u64.wrap ((u : Int) + (u : Int) / 256) = (v1 : Int) := by rw [IntKind.wrap_u64]; omega
  have e10 : IntKind.u64.wrap ((v1 : Int) + (v1 : Int) / 65536) = (v2 : Int) := by rw [IntKind.wrap_u64]; omega
  have e11 : IntKind.u64.wrap ((v2 : Int) + (v2 : Int) / 4294967296) = (v3 : Int) := by rw [IntKind.wrap_u64]; omega
  have e12 : IntKind.i64.wrap (v3 : Int) = (v3 : Int) := by rw [IntKind.wrap_i64]; omega
  have HE : Hid (v3 % 128 = pop x) := pe
  clear m0 m1 m2 b1 b2 b3 nb pe hv1 hv2 hv3
  go_enter Try.func47, Try.ntmps47
  go_wp2
  go_ret
  refine ⟨retInt ?_, rfl⟩
  rw [i64_and127]
  have := HE.out
  omega
end Go.Proofs.Ytacggabopdoijaa
