/- What bits.Div64 has when both numbers are shifted up so that the divisor is great: as natural numbers. -/
import Derived.Test.YtjiiejagnlanoaaPlain
namespace Go.Proofs.Ytjiiejagnlanoaa
open Go.RowKit

theorem pow_cast (n : Nat) : (2 : Int) ^ n = ((2 ^ n : Nat) : Int) := by simp
theorem norm_nat (H X V n : Nat) (h1 : H < V) (x1 : X < 18446744073709551616) (hn : n ≤ 63) (v3 : V * 2 ^ n < 18446744073709551616) :
    H * 2 ^ n + X / 2 ^ (64 - n) < V * 2 ^ n ∧ H * 2 ^ n < 18446744073709551616 ∧ X / 2 ^ (64 - n) < 2 ^ n ∧
    (H * 18446744073709551616 + X) * 2 ^ n = (H * 2 ^ n + X / 2 ^ (64 - n)) * 18446744073709551616 + X * 2 ^ n % 18446744073709551616 := by
  have e64 : 2 ^ (64 - n) * 2 ^ n = 18446744073709551616 := by rw [← Nat.pow_add, show (64 - n) + n = 64 by omega]
  have kpos := Nat.two_pow_pos n
  have jpos := Nat.two_pow_pos (64 - n)
  have a1 : H * 2 ^ n + 2 ^ n ≤ V * 2 ^ n := by rw [← Nat.succ_mul]; exact Nat.mul_le_mul_right _ h1
  have a2 : X / 2 ^ (64 - n) < 2 ^ n := by rw [Nat.div_lt_iff_lt_mul jpos, Nat.mul_comm, e64]; exact x1
  have a3 : X * 2 ^ n / 18446744073709551616 = X / 2 ^ (64 - n) := by rw [← e64, Nat.mul_div_mul_right _ _ kpos]
  refine ⟨by omega, by omega, a2, ?_⟩
  rw [Nat.add_mul, Nat.mul_right_comm, Nat.add_mul, ← a3]
  omega
theorem or_pow (H K n : Nat) (h1 : H * 2 ^ n < 18446744073709551616) (h2 : K < 2 ^ n) (h3 : K < 18446744073709551616) : bits .or .u64 ((H * 2 ^ n : Nat) : Int) ((K : Nat) : Int) = ((H * 2 ^ n + K : Nat) : Int) := by
  rw [u64_or_nat _ _ h1 h3, Nat.mul_comm, ← Nat.two_pow_add_eq_or_of_lt h2]
theorem wrap_nat (a : Nat) (ha : a < 18446744073709551616) : IntKind.u64.wrap (a : Int) = (a : Int) := by rw [IntKind.wrap_u64]; omega
theorem wrap_mod (a : Nat) : IntKind.u64.wrap (a : Int) = ((a % 18446744073709551616 : Nat) : Int) := by rw [IntKind.wrap_u64]; omega
theorem split32 (a : Nat) : a / 4294967296 * 4294967296 + a % 4294967296 = a := by omega
theorem norm_facts (hi lo y : Int) (n : Nat) (h0 : 1 ≤ hi) (h1 : hi < y) (l0 : 0 ≤ lo) (l1 : lo < 18446744073709551616) (n1 : n ≤ 63)
    (n2 : 9223372036854775808 ≤ y.toNat * 2 ^ n) (n3 : y.toNat * 2 ^ n < 18446744073709551616) :
    ∃ Y1 Y0 U L : Nat, 2147483648 ≤ Y1 ∧ Y1 < 4294967296 ∧ Y0 < 4294967296 ∧ L < 18446744073709551616 ∧ U < Y1 * 4294967296 + Y0 ∧
      IntKind.u64.wrap (y * 2 ^ n) = ((Y1 * 4294967296 + Y0 : Nat) : Int) ∧
      bits BinOp.or IntKind.u64 (IntKind.u64.wrap (hi * 2 ^ n)) (lo / 2 ^ (64 - n)) = (U : Int) ∧
      IntKind.u64.wrap (lo * 2 ^ n) = (L : Int) ∧
      (hi * 18446744073709551616 + lo) / y = (((U * 18446744073709551616 + L) / (Y1 * 4294967296 + Y0) : Nat) : Int) := by
  obtain ⟨H, rfl⟩ := Int.eq_ofNat_of_zero_le (show 0 ≤ hi by omega)
  obtain ⟨X, rfl⟩ := Int.eq_ofNat_of_zero_le l0
  obtain ⟨V, rfl⟩ := Int.eq_ofNat_of_zero_le (show 0 ≤ y by omega)
  rw [Int.toNat_natCast] at n2 n3
  obtain ⟨a1, a2, a3, a4⟩ := norm_nat H X V n (by omega) (by omega) n1 n3
  have c1 : ((V : Int) * 2 ^ n) = ((V * 2 ^ n : Nat) : Int) := by rw [pow_cast, Int.natCast_mul]
  have c2 : ((H : Int) * 2 ^ n) = ((H * 2 ^ n : Nat) : Int) := by rw [pow_cast, Int.natCast_mul]
  have c3 : ((X : Int) * 2 ^ n) = ((X * 2 ^ n : Nat) : Int) := by rw [pow_cast, Int.natCast_mul]
  have c4 : ((X : Int) / 2 ^ (64 - n)) = ((X / 2 ^ (64 - n) : Nat) : Int) := by rw [pow_cast, Int.natCast_ediv]
  have c5 : X / 2 ^ (64 - n) ≤ X := Nat.div_le_self _ _
  refine ⟨V * 2 ^ n / 4294967296, V * 2 ^ n % 4294967296, H * 2 ^ n + X / 2 ^ (64 - n), X * 2 ^ n % 18446744073709551616, by omega, by omega, by omega, by omega, ?_, ?_, ?_, ?_, ?_⟩
  · rw [split32]; exact a1
  · rw [split32, c1, wrap_nat _ n3]
  · rw [c2, c4, wrap_nat _ a2, or_pow _ _ _ a2 a3 (by omega)]
  · rw [c3, wrap_mod]
  · rw [split32, ← a4, norm_div, Int.natCast_ediv, Int.natCast_add, Int.natCast_mul]
    rfl
end Go.Proofs.Ytjiiejagnlanoaa
