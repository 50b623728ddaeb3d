/- Plain numbers: the product by 2^32, the scaled number, the division of two words by one word in two digits, and the division bit by bit; nothing of the program is named here. -/
import Derived.WalkKit
import Derived.Laws.BitsAllLaws
import Derived.Laws.MathBits
namespace Go.Proofs.Ytjiiejagnlanoaa

/-- the product by 2^32, held -/
def mulN (a b : Nat) : Nat := min (a * b / 4294967296) 18446744073709551615
/-- a times n by d, held -/
def sclN (a n d : Nat) : Nat := if d = 0 then 18446744073709551615 else min (a * n / d) 18446744073709551615

theorem mulN_lt (a b : Nat) : mulN a b < 18446744073709551616 := by unfold mulN; omega
theorem sclN_lt (a n d : Nat) : sclN a n d < 18446744073709551616 := by unfold sclN; split <;> omega
theorem mulN_comm (a b : Nat) : mulN a b = mulN b a := by unfold mulN; rw [Nat.mul_comm]
theorem sclN_comm (a b d : Nat) : sclN a b d = sclN b a d := by unfold sclN; rw [Nat.mul_comm]
theorem scl_one (a c : Nat) : sclN a c 4294967296 = mulN a c := by unfold sclN mulN; rw [if_neg (by decide)]
theorem mulN_one (a : Nat) (ha : a < 18446744073709551616) : mulN a 4294967296 = a := by
  unfold mulN; rw [Nat.mul_div_cancel _ (by decide)]; omega
theorem sclN_same (a n : Nat) (ha : a < 18446744073709551616) (hn : n ≠ 0) : sclN a n n = a := by
  unfold sclN; rw [if_neg hn, Nat.mul_div_cancel _ (by omega)]; omega
theorem sclN_zero (a n : Nat) : sclN a n 0 = 18446744073709551615 := by unfold sclN; rw [if_pos rfl]
theorem mulN_mono (a b c : Nat) (h : a ≤ b) : mulN a c ≤ mulN b c := by
  unfold mulN
  have := Nat.div_le_div_right (c := 4294967296) (Nat.mul_le_mul_right c h)
  omega
theorem sclN_big (a n d : Nat) (h : d ≤ a * n / 18446744073709551616) : sclN a n d = 18446744073709551615 := by
  unfold sclN
  split
  · rfl
  · rename_i hd
    have h1 : d * 18446744073709551616 ≤ a * n := by omega
    have h2 : 18446744073709551616 ≤ a * n / d := (Nat.le_div_iff_mul_le (by omega)).2 (by omega)
    omega
theorem sclN_small (a n d : Nat) (h : a * n / 18446744073709551616 < d) : sclN a n d = a * n / d := by
  unfold sclN
  rw [if_neg (by omega)]
  have h1 : a * n < d * 18446744073709551616 := by omega
  have h2 : a * n / d < 18446744073709551616 := (Nat.div_lt_iff_lt_mul (by omega)).2 (by omega)
  omega

/-! ### one digit of a quotient -/
theorem dig_start (U y1 y0 : Nat) (h1 : 2147483648 ≤ y1) (h0 : y0 < 4294967296) (hU : U < y1 * 4294967296 + y0) : U / y1 ≤ 4294967297 := by
  have : U / y1 < 4294967298 := (Nat.div_lt_iff_lt_mul (by omega)).2 (by omega)
  omega
theorem dig_ge (U y1 y0 u : Nat) (h1 : 2147483648 ≤ y1) (hu : u < 4294967296) : (U * 4294967296 + u) / (y1 * 4294967296 + y0) ≤ U / y1 := by
  have a : (U * 4294967296 + u) / (y1 * 4294967296 + y0) ≤ (U * 4294967296 + u) / (4294967296 * y1) :=
    Nat.div_le_div_left (by omega) (by omega)
  rw [← Nat.div_div_eq_div_mul] at a
  have : (U * 4294967296 + u) / 4294967296 = U := by omega
  rwa [this] at a
theorem dig_mul (q y1 y0 : Nat) : q * (y1 * 4294967296 + y0) = q * y1 * 4294967296 + q * y0 := by
  rw [Nat.mul_add, Nat.mul_assoc]
/-- the test says no: the digit is found -/
theorem dig_done (U y1 y0 u q r : Nat) (h1 : 2147483648 ≤ y1) (hr : q * y1 + r = U) (hq : (U * 4294967296 + u) / (y1 * 4294967296 + y0) ≤ q)
    (ht : q * y0 ≤ 4294967296 * r + u) : (U * 4294967296 + u) / (y1 * 4294967296 + y0) = q := by
  apply Nat.le_antisymm hq
  rw [Nat.le_div_iff_mul_le (by omega), dig_mul]
  generalize q * y1 = A at *
  generalize q * y0 = B at *
  omega
/-- the test says yes: the digit is less -/
theorem dig_more (U y1 y0 u q r : Nat) (hU : U < y1 * 4294967296 + y0) (hu : u < 4294967296) (hr : q * y1 + r = U)
    (ht : 4294967296 ≤ q ∨ 4294967296 * r + u < q * y0) : (U * 4294967296 + u) / (y1 * 4294967296 + y0) < q := by
  rw [Nat.div_lt_iff_lt_mul (by omega)]
  rcases ht with ht | ht
  · have := Nat.mul_le_mul_right (y1 * 4294967296 + y0) ht
    omega
  · rw [dig_mul]
    generalize q * y1 = A at *
    generalize q * y0 = B at *
    omega
/-- the rest has grown: the digit is found -/
theorem dig_stop (U y1 y0 u q r : Nat) (h1 : 2147483648 ≤ y1) (h0 : y0 < 4294967296) (hr : q * y1 + r = U) (hq : (U * 4294967296 + u) / (y1 * 4294967296 + y0) ≤ q)
    (hb : q ≤ 4294967296) (ht : 4294967296 ≤ r) : (U * 4294967296 + u) / (y1 * 4294967296 + y0) = q := by
  refine dig_done U y1 y0 u q r h1 hr hq ?_
  have a : q * y0 ≤ 4294967296 * 4294967295 := Nat.mul_le_mul hb (by omega)
  omega
theorem dig_lt (U Y u : Nat) (hU : U < Y) (hu : u < 4294967296) : (U * 4294967296 + u) / Y < 4294967296 := by
  rw [Nat.div_lt_iff_lt_mul (by omega)]
  omega
theorem dig_step (q r y1 U : Nat) (hq : 0 < q) (hr : q * y1 + r = U) : (q - 1) * y1 + (r + y1) = U := by
  obtain ⟨p, rfl⟩ : ∃ p, q = p + 1 := ⟨q - 1, by omega⟩
  rw [Nat.add_mul] at hr
  simp only [Nat.add_sub_cancel]
  omega
theorem two_aux (D q m Y l : Nat) (hY : 0 < Y) (e : Y * q + m = D) : (D * 4294967296 + l) / Y = q * 4294967296 + (m * 4294967296 + l) / Y := by
  have e2 : D * 4294967296 + l = (m * 4294967296 + l) + Y * (q * 4294967296) := by
    rw [← Nat.mul_assoc]
    omega
  rw [e2, Nat.add_mul_div_left _ _ hY, Nat.add_comm]
/-- two digits are the quotient -/
theorem two_digits (U L Y : Nat) (hY : 0 < Y) :
    (U * 18446744073709551616 + L) / Y = (U * 4294967296 + L / 4294967296) / Y * 4294967296 + ((U * 4294967296 + L / 4294967296) % Y * 4294967296 + L % 4294967296) / Y := by
  rw [← two_aux (U * 4294967296 + L / 4294967296) _ _ Y (L % 4294967296) hY (Nat.div_add_mod _ _)]
  have : U * 18446744073709551616 + L = (U * 4294967296 + L / 4294967296) * 4294967296 + L % 4294967296 := by omega
  rw [this]

/-! ### what is shifted up so that the divisor is great -/
theorem norm_div (N y s : Nat) : N * 2 ^ s / (y * 2 ^ s) = N / y := Nat.mul_div_mul_right _ _ (Nat.two_pow_pos s)

/-! ### bit by bit -/
theorem bit_div (N d i : Nat) (hd : 0 < d) :
    N / 2 ^ i / d = 2 * (N / 2 ^ (i + 1) / d) + (2 * (N / 2 ^ (i + 1) % d) + N / 2 ^ i % 2) / d ∧
    N / 2 ^ i % d = (2 * (N / 2 ^ (i + 1) % d) + N / 2 ^ i % 2) % d := by
  have e : N / 2 ^ (i + 1) = N / 2 ^ i / 2 := by rw [Nat.pow_succ, Nat.div_div_eq_div_mul]
  rw [e]
  generalize N / 2 ^ i = P
  have h := Nat.div_add_mod (P / 2) d
  generalize P / 2 / d = q at *
  generalize P / 2 % d = r at *
  have e2 : P = (2 * r + P % 2) + d * (2 * q) := by
    have : d * (2 * q) = 2 * (d * q) := by rw [← Nat.mul_assoc, Nat.mul_comm d 2, Nat.mul_assoc]
    omega
  constructor
  · rw [show P / d = ((2 * r + P % 2) + d * (2 * q)) / d from by rw [← e2], Nat.add_mul_div_left _ _ hd]
    omega
  · rw [show P % d = ((2 * r + P % 2) + d * (2 * q)) % d from by rw [← e2], Nat.add_mul_mod_self_left]
end Go.Proofs.Ytjiiejagnlanoaa
