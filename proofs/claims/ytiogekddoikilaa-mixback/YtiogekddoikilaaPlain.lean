/- Plain numbers: Mix, Hash, Key and the way back from Mix, as functions on natural numbers and bytes, with what is wanted of them; nothing of the program is named here. -/
import Derived.WalkKit
import Derived.Laws.BitsAllLaws
namespace Go.Proofs.Ytiogekddoikilaa

/-- one step of Mix -/
def mstep (X s C : Nat) : Nat := (X ^^^ X / s) * C % 18446744073709551616
/-- Mix -/
def mx (X : Nat) : Nat :=
  mstep (mstep X 1073741824 13787848793156543929) 134217728 10723151780598845931 ^^^ mstep (mstep X 1073741824 13787848793156543929) 134217728 10723151780598845931 / 2147483648
theorem mstep_lt (X s C : Nat) : mstep X s C < 18446744073709551616 := Nat.mod_lt _ (by decide)
theorem xs_lt (X s : Nat) (h : X < 18446744073709551616) : X ^^^ X / s < 18446744073709551616 :=
  Nat.xor_lt_two_pow (n := 64) h (Nat.lt_of_le_of_lt (Nat.div_le_self _ _) h)
theorem mx_lt (X : Nat) : mx X < 18446744073709551616 := xs_lt _ _ (mstep_lt _ _ _)
/-- one byte more in Hash -/
def hstep (h : Nat) (c : UInt8) : Nat := mx (((h ^^^ c.toNat) + 11400714819323198485) % 18446744073709551616)
/-- Hash -/
def hsh (seed n : Nat) (l : List UInt8) : Nat := l.foldl hstep (mx (seed ^^^ n))
theorem hstep_lt (h : Nat) (c : UInt8) : hstep h c < 18446744073709551616 := mx_lt _
theorem foldl_lt (l : List UInt8) : ∀ h, h < 18446744073709551616 → l.foldl hstep h < 18446744073709551616 := by
  induction l with
  | nil => intro h hh; exact hh
  | cons c r ih => intro h _; exact ih _ (hstep_lt _ _)
theorem hsh_lt (seed n : Nat) (l : List UInt8) : hsh seed n l < 18446744073709551616 := foldl_lt _ _ (mx_lt _)
theorem hsh_snoc (seed n : Nat) (l : List UInt8) (c : UInt8) : hsh seed n (l ++ [c]) = hstep (hsh seed n l) c := by
  unfold hsh; rw [List.foldl_append, List.foldl_cons, List.foldl_nil]
theorem hsh_nil (seed n : Nat) (l : List UInt8) : hsh seed n (l.take 0) = mx (seed ^^^ n) := by
  unfold hsh; rw [List.take_zero, List.foldl_nil]
theorem hsh_a1 : hsh 1 1 [97] = 5718913436695043505 := by decide +kernel
theorem hsh_a2 : hsh 2 1 [97] = 9061604884836938622 := by decide +kernel
theorem mx_0 : mx 0 = 0 := by decide +kernel

/-- three rounds of the way back from 'x-or itself shifted right' -/
def undo3 (y s : Nat) : Nat := y ^^^ (y ^^^ (y ^^^ y / s) / s) / s
theorem xor_div (a b k : Nat) : (a ^^^ b) / 2 ^ k = a / 2 ^ k ^^^ b / 2 ^ k := by
  rw [← Nat.shiftRight_eq_div_pow, ← Nat.shiftRight_eq_div_pow, ← Nat.shiftRight_eq_div_pow, Nat.shiftRight_xor_distrib]
theorem undo_xs (x k : Nat) (hk : 22 ≤ k) (hx : x < 18446744073709551616) : undo3 (x ^^^ x / 2 ^ k) (2 ^ k) = x := by
  unfold undo3
  have e3 : x / 2 ^ k / 2 ^ k / 2 ^ k = 0 := by
    rw [Nat.div_div_eq_div_mul, Nat.div_div_eq_div_mul, ← Nat.pow_add, ← Nat.pow_add]
    apply Nat.div_eq_of_lt
    have : 2 ^ 66 ≤ 2 ^ (k + (k + k)) := Nat.pow_le_pow_right (by decide) (by omega)
    omega
  simp only [xor_div, e3, Nat.xor_zero]
  apply Nat.eq_of_testBit_eq
  intro i
  simp only [Nat.testBit_xor]
  cases Nat.testBit x i <;> cases Nat.testBit (x / 2 ^ k) i <;> cases Nat.testBit (x / 2 ^ k / 2 ^ k) i <;> rfl
theorem mul_back (z C D : Nat) (hz : z < 18446744073709551616) (h : C * D % 18446744073709551616 = 1) : z * C % 18446744073709551616 * D % 18446744073709551616 = z := by
  rw [Nat.mod_mul_mod, Nat.mul_assoc, Nat.mul_mod, h, Nat.mul_one, Nat.mod_mod, Nat.mod_eq_of_lt hz]
theorem mx_back (x : Nat) (hx : x < 18446744073709551616) :
    undo3 (undo3 (undo3 (mx x) 2147483648 * 3573116690164977347 % 18446744073709551616) 134217728 * 10871156337175269513 % 18446744073709551616) 1073741824 = x := by
  unfold mx
  have e1 := undo_xs (mstep (mstep x 1073741824 13787848793156543929) 134217728 10723151780598845931) 31 (by decide) (mstep_lt _ _ _)
  have e2 : ∀ y, mstep y 134217728 10723151780598845931 * 3573116690164977347 % 18446744073709551616 = (y ^^^ y / 134217728) % 18446744073709551616 := by
    intro y; unfold mstep
    rw [Nat.mod_mul_mod, Nat.mul_assoc, Nat.mul_mod]
    simp
  have e3 : ∀ y, mstep y 1073741824 13787848793156543929 * 10871156337175269513 % 18446744073709551616 = (y ^^^ y / 1073741824) % 18446744073709551616 := by
    intro y; unfold mstep
    rw [Nat.mod_mul_mod, Nat.mul_assoc, Nat.mul_mod]
    simp
  have u2 := undo_xs (mstep x 1073741824 13787848793156543929) 27 (by decide) (mstep_lt _ _ _)
  have u3 := undo_xs x 30 (by decide) hx
  simp only [Nat.reducePow] at e1 u2 u3
  rw [e1, e2, Nat.mod_eq_of_lt (xs_lt _ _ (mstep_lt _ _ _)), u2, e3, Nat.mod_eq_of_lt (xs_lt _ _ hx), u3]
end Go.Proofs.Ytiogekddoikilaa
