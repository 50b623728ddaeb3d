/- Bits: how many are set; math/bits.OnesCount64; a word with a bit more; the bits of words by their places. -/
import Derived.Test.YtmhmphbicdaobaaMix
import Derived.Laws.Bits128
namespace Go.Proofs.Ytmhmphbicdaobaa
open Go.RowKit

/-- how many of the first n are -/
def cnt (f : Nat → Bool) : Nat → Nat
  | 0 => 0
  | n + 1 => cnt f n + (f n).toNat
theorem cnt_add (f : Nat → Bool) (m : Nat) : ∀ n, cnt f (m + n) = cnt f m + cnt (fun i => f (m + i)) n
  | 0 => rfl
  | n + 1 => by
    show cnt f (m + n) + (f (m + n)).toNat = cnt f m + (cnt (fun i => f (m + i)) n + (f (m + n)).toNat)
    rw [cnt_add f m n]
    omega
theorem cnt_ext {f g : Nat → Bool} : ∀ {n : Nat}, (∀ i, i < n → f i = g i) → cnt f n = cnt g n
  | 0, _ => rfl
  | n + 1, h => by
    show cnt f n + (f n).toNat = cnt g n + (g n).toNat
    rw [cnt_ext (fun i hi => h i (by omega)), h n (by omega)]
theorem cnt_le (f : Nat → Bool) : ∀ n, cnt f n ≤ n
  | 0 => Nat.le_refl _
  | n + 1 => by
    have := cnt_le f n
    have h2 := Bool.toNat_le (f n)
    show cnt f n + (f n).toNat ≤ n + 1
    omega
theorem cnt_none : ∀ n, cnt (fun _ => false) n = 0
  | 0 => rfl
  | n + 1 => by show cnt _ n + 0 = 0; rw [cnt_none n]

/-! ### OnesCount64: by bytes -/
theorem and_split (a b c d : Nat) (hb : b < 256) (hd : d < 256) : (256 * a + b) &&& (256 * c + d) = 256 * (a &&& c) + (b &&& d) := by
  have h1 : ((256 * a + b) &&& (256 * c + d)) % 2 ^ 8 = b &&& d := by
    rw [Nat.and_mod_two_pow, show (256 * a + b) % 2 ^ 8 = b by omega, show (256 * c + d) % 2 ^ 8 = d by omega]
  have h2 : ((256 * a + b) &&& (256 * c + d)) / 2 ^ 8 = a &&& c := by
    rw [Nat.and_div_two_pow, show (256 * a + b) / 2 ^ 8 = a by omega, show (256 * c + d) / 2 ^ 8 = c by omega]
  omega
def S1 (m x : Nat) : Nat := (x / 2 &&& m) + (x &&& m)
def S2 (m x : Nat) : Nat := (x / 4 &&& m) + (x &&& m)
def S3 (m x : Nat) : Nat := (x / 16 + x) &&& m
/-- a byte, so many times -/
def mk (v : Nat) : Nat → Nat
  | 0 => 0
  | n + 1 => 256 * mk v n + v
theorem k1 : ∀ β : Fin 2, ∀ b : Fin 256, (β.val * 128 + b.val / 2) &&& 85 = b.val / 2 &&& 85 := by decide +kernel
theorem k2 : ∀ β : Fin 4, ∀ b : Fin 256, (β.val * 64 + b.val / 4) &&& 51 = b.val / 4 &&& 51 := by decide +kernel
theorem k3 : ∀ b : Fin 256, S1 85 b.val < 256 ∧ S2 51 (S1 85 b.val) ≤ 68 ∧ S2 51 (S1 85 b.val) % 16 ≤ 4 ∧ S3 15 (S2 51 (S1 85 b.val)) = cnt b.val.testBit 8 := by decide +kernel
theorem s1_split (a b c : Nat) (hb : b < 256) : S1 (256 * c + 85) (256 * a + b) = 256 * S1 c a + S1 85 b := by
  unfold S1
  rw [show (256 * a + b) / 2 = 256 * (a / 2) + (a % 2 * 128 + b / 2) by omega, and_split _ _ _ _ (by omega) (by omega), and_split _ _ _ _ hb (by omega)]
  have := k1 ⟨a % 2, Nat.mod_lt _ (by decide)⟩ ⟨b, hb⟩
  simp only at this
  omega
theorem s2_split (a b c : Nat) (hb : b < 256) : S2 (256 * c + 51) (256 * a + b) = 256 * S2 c a + S2 51 b := by
  unfold S2
  rw [show (256 * a + b) / 4 = 256 * (a / 4) + (a % 4 * 64 + b / 4) by omega, and_split _ _ _ _ (by omega) (by omega), and_split _ _ _ _ hb (by omega)]
  have := k2 ⟨a % 4, Nat.mod_lt _ (by decide)⟩ ⟨b, hb⟩
  simp only at this
  omega
theorem s3_split (a b c : Nat) (hb : b ≤ 68) (ha : a % 16 ≤ 4) : S3 (256 * c + 15) (256 * a + b) = 256 * S3 c a + S3 15 b := by
  unfold S3
  rw [show (256 * a + b) / 16 + (256 * a + b) = 256 * (a / 16 + a) + (a % 16 * 16 + b / 16 + b) by omega, and_split _ _ _ _ (by omega) (by omega)]
  have h1 := Nat.and_two_pow_sub_one_eq_mod (a % 16 * 16 + b / 16 + b) 4
  have h2 := Nat.and_two_pow_sub_one_eq_mod (b / 16 + b) 4
  simp only [Nat.reducePow, Nat.reduceSub] at h1 h2
  rw [h1, h2]
  omega
/-- how many bits are set in each byte, byte by byte -/
def dig : Nat → Nat → Nat
  | 0, _ => 0
  | n + 1, x => 256 * dig n (x / 256) + cnt (x % 256).testBit 8
theorem low_four (n x : Nat) : S2 (mk 51 n) (S1 (mk 85 n) x) % 16 ≤ 4 := by
  cases n with
  | zero => simp [mk, S2]
  | succ n =>
    have hb : x % 256 < 256 := Nat.mod_lt _ (by decide)
    have h := k3 ⟨x % 256, hb⟩
    simp only at h
    rw [show x = 256 * (x / 256) + x % 256 by omega]
    simp only [mk]
    rw [s1_split _ _ _ hb, s2_split _ _ _ h.1]
    omega
theorem dig_is : ∀ n x, S3 (mk 15 n) (S2 (mk 51 n) (S1 (mk 85 n) x)) = dig n x
  | 0, x => by simp [mk, S3, dig]
  | n + 1, x => by
    have hb : x % 256 < 256 := Nat.mod_lt _ (by decide)
    have h := k3 ⟨x % 256, hb⟩
    simp only at h
    have e : x = 256 * (x / 256) + x % 256 := by omega
    rw [show S1 (mk 85 (n + 1)) x = 256 * S1 (mk 85 n) (x / 256) + S1 85 (x % 256) by rw [← s1_split _ _ _ hb, ← e]; rfl]
    simp only [mk]
    rw [s2_split _ _ _ h.1, s3_split _ _ _ h.2.1 (low_four n _), h.2.2.2, dig_is n (x / 256)]
    rfl
/-- the bytes' sum -/
def tot : Nat → Nat → Nat
  | 0, _ => 0
  | n + 1, x => tot n (x / 256) + cnt (x % 256).testBit 8
theorem tot_is : ∀ n x, tot n x = cnt x.testBit (8 * n)
  | 0, _ => rfl
  | n + 1, x => by
    rw [show 8 * (n + 1) = 8 + 8 * n by omega, cnt_add, tot, tot_is n (x / 256), Nat.add_comm]
    congr 1
    · apply cnt_ext
      intro i hi
      rw [show (256 : Nat) = 2 ^ 8 from rfl, Nat.testBit_mod_two_pow]
      simp [hi]
    · apply cnt_ext
      intro i hi
      rw [show (256 : Nat) = 2 ^ 8 from rfl, Nat.testBit_div_two_pow, Nat.add_comm]
def b8 (x : Nat) : Nat := cnt (x % 256).testBit 8
theorem b8_le (x : Nat) : b8 x ≤ 8 := cnt_le _ 8
theorem dig_succ (n x : Nat) : dig (n + 1) x = 256 * dig n (x / 256) + b8 x := rfl
theorem tot_succ (n x : Nat) : tot (n + 1) x = tot n (x / 256) + b8 x := rfl
theorem fold_is (x : Nat) : ∃ p0 p1 p2 p3 p4 p5 p6 p7 : Nat, (p0 ≤ 8 ∧ p1 ≤ 8 ∧ p2 ≤ 8 ∧ p3 ≤ 8 ∧ p4 ≤ 8 ∧ p5 ≤ 8 ∧ p6 ≤ 8 ∧ p7 ≤ 8) ∧
    dig 8 x = 256 * (256 * (256 * (256 * (256 * (256 * (256 * p7 + p6) + p5) + p4) + p3) + p2) + p1) + p0 ∧ cnt x.testBit 64 = p7 + p6 + p5 + p4 + p3 + p2 + p1 + p0 := by
  have h := tot_is 8 x
  refine ⟨b8 x, b8 (x / 256), b8 (x / 256 / 256), b8 (x / 256 / 256 / 256), b8 (x / 256 / 256 / 256 / 256), b8 (x / 256 / 256 / 256 / 256 / 256), b8 (x / 256 / 256 / 256 / 256 / 256 / 256), b8 (x / 256 / 256 / 256 / 256 / 256 / 256 / 256), ⟨b8_le _, b8_le _, b8_le _, b8_le _, b8_le _, b8_le _, b8_le _, b8_le _⟩, ?_, ?_⟩
  · rw [dig_succ, dig_succ, dig_succ, dig_succ, dig_succ, dig_succ, dig_succ, dig_succ, dig, Nat.mul_zero, Nat.zero_add]
  · rw [show (64 : Nat) = 8 * 8 from rfl, ← h, tot_succ, tot_succ, tot_succ, tot_succ, tot_succ, tot_succ, tot_succ, tot_succ, tot, Nat.zero_add]
/-- eight digits -/
def num (p0 p1 p2 p3 p4 p5 p6 p7 : Nat) : Nat := 256 * (256 * (256 * (256 * (256 * (256 * (256 * p7 + p6) + p5) + p4) + p3) + p2) + p1) + p0
theorem num_8 (p0 p1 p2 p3 p4 p5 p6 p7 : Nat) (h : p0 < 256) : num p0 p1 p2 p3 p4 p5 p6 p7 / 256 = num p1 p2 p3 p4 p5 p6 p7 0 := by
  have e : num p0 p1 p2 p3 p4 p5 p6 p7 = 256 * num p1 p2 p3 p4 p5 p6 p7 0 + p0 := by unfold num; omega
  rw [e]
  generalize num p1 p2 p3 p4 p5 p6 p7 0 = R
  omega
theorem num_add (p0 p1 p2 p3 p4 p5 p6 p7 q0 q1 q2 q3 q4 q5 q6 q7 : Nat) : num p0 p1 p2 p3 p4 p5 p6 p7 + num q0 q1 q2 q3 q4 q5 q6 q7 = num (p0 + q0) (p1 + q1) (p2 + q2) (p3 + q3) (p4 + q4) (p5 + q5) (p6 + q6) (p7 + q7) := by
  unfold num
  omega
theorem num_lt {p0 p1 p2 p3 p4 p5 p6 p7 : Nat} (h0 : p0 < 128) (h1 : p1 < 128) (h2 : p2 < 128) (h3 : p3 < 128) (h4 : p4 < 128) (h5 : p5 < 128) (h6 : p6 < 128) (h7 : p7 < 128) : num p0 p1 p2 p3 p4 p5 p6 p7 < 9223372036854775808 := by
  unfold num
  omega
theorem num_low (p0 p1 p2 p3 p4 p5 p6 p7 : Nat) (h : p0 < 128) : num p0 p1 p2 p3 p4 p5 p6 p7 % 128 = p0 := by
  unfold num
  generalize 256 * (256 * (256 * (256 * (256 * (256 * p7 + p6) + p5) + p4) + p3) + p2) + p1 = R
  omega
theorem div_65536 (E : Nat) : E / 65536 = E / 256 / 256 := by rw [Nat.div_div_eq_div_mul]
theorem div_4294967296 (E : Nat) : E / 4294967296 = E / 256 / 256 / 256 / 256 := by rw [Nat.div_div_eq_div_mul, Nat.div_div_eq_div_mul, Nat.div_div_eq_div_mul]
theorem fold_sum (x : Nat) : ∃ Y Z U : Nat, dig 8 x + dig 8 x / 256 = Y ∧ Y + Y / 65536 = Z ∧ Z + Z / 4294967296 = U ∧ U % 128 = cnt x.testBit 64 ∧ dig 8 x < 9223372036854775808 ∧ Y < 9223372036854775808 ∧ Z < 9223372036854775808 ∧ U < 9223372036854775808 := by
  obtain ⟨p0, p1, p2, p3, p4, p5, p6, p7, ⟨h0, h1, h2, h3, h4, h5, h6, h7⟩, he, hc⟩ := fold_is x
  have he' : dig 8 x = num p0 p1 p2 p3 p4 p5 p6 p7 := he
  rw [hc, he']
  clear he he' hc
  refine ⟨_, _, _, rfl, rfl, rfl, ?_⟩
  rw [num_8 _ _ _ _ _ _ _ _ (by omega), num_add]
  rw [div_65536, num_8 _ _ _ _ _ _ _ _ (by omega), num_8 _ _ _ _ _ _ _ _ (by omega), num_add]
  rw [div_4294967296, num_8 _ _ _ _ _ _ _ _ (by omega), num_8 _ _ _ _ _ _ _ _ (by omega), num_8 _ _ _ _ _ _ _ _ (by omega), num_8 _ _ _ _ _ _ _ _ (by omega), num_add]
  refine ⟨?_, num_lt (by omega) (by omega) (by omega) (by omega) (by omega) (by omega) (by omega) (by omega), num_lt (by omega) (by omega) (by omega) (by omega) (by omega) (by omega) (by omega) (by omega), num_lt (by omega) (by omega) (by omega) (by omega) (by omega) (by omega) (by omega) (by omega), num_lt (by omega) (by omega) (by omega) (by omega) (by omega) (by omega) (by omega) (by omega)⟩
  rw [num_low _ _ _ _ _ _ _ _ (by omega)]
  omega
theorem add_wrap {a b c : Nat} (h : a + b = c) (hc : c < 18446744073709551616) : IntKind.u64.wrap ((a : Int) + (b : Int)) = (c : Int) := by rw [IntKind.wrap_u64]; omega
/-- each number that OnesCount64 comes to -/
theorem ones_steps (X : Nat) (hX : X < 18446744073709551616) : ∃ A C G E Y Z U R : Nat,
    IntKind.u64.wrap (bits BinOp.and IntKind.u64 ((X : Int) / 2) 6148914691236517205 + bits BinOp.and IntKind.u64 (X : Int) 6148914691236517205) = (A : Int) ∧
    IntKind.u64.wrap (bits BinOp.and IntKind.u64 ((A : Int) / 4) 3689348814741910323 + bits BinOp.and IntKind.u64 (A : Int) 3689348814741910323) = (C : Int) ∧
    IntKind.u64.wrap ((C : Int) / 16 + (C : Int)) = (G : Int) ∧ bits BinOp.and IntKind.u64 (G : Int) 1085102592571150095 = (E : Int) ∧
    IntKind.u64.wrap ((E : Int) + (E : Int) / 256) = (Y : Int) ∧ IntKind.u64.wrap ((Y : Int) + (Y : Int) / 65536) = (Z : Int) ∧ IntKind.u64.wrap ((Z : Int) + (Z : Int) / 4294967296) = (U : Int) ∧
    IntKind.i64.wrap (U : Int) = (U : Int) ∧ bits BinOp.and IntKind.i64 (U : Int) 127 = (R : Int) ∧ R = cnt X.testBit 64 ∧
    A < 18446744073709551616 ∧ C < 18446744073709551616 ∧ G < 18446744073709551616 ∧ E < 9223372036854775808 ∧ Y < 9223372036854775808 ∧ Z < 9223372036854775808 ∧ U < 9223372036854775808 := by
  obtain ⟨Y, Z, U, hy, hz, hu, hr, b1, b2, b3, b4⟩ := fold_sum X
  have hd := dig_is 8 X
  rw [show mk 85 8 = 6148914691236517205 from rfl, show mk 51 8 = 3689348814741910323 from rfl, show mk 15 8 = 1085102592571150095 from rfl] at hd
  have l1 : S1 6148914691236517205 X ≤ 12297829382473034410 := by
    have := Nat.and_le_right (n := X / 2) (m := 6148914691236517205)
    have := Nat.and_le_right (n := X) (m := 6148914691236517205)
    unfold S1; omega
  have l2 : S2 3689348814741910323 (S1 6148914691236517205 X) ≤ 7378697629483820646 := by
    have := Nat.and_le_right (n := S1 6148914691236517205 X / 4) (m := 3689348814741910323)
    have := Nat.and_le_right (n := S1 6148914691236517205 X) (m := 3689348814741910323)
    unfold S2; omega
  have a1 : S1 6148914691236517205 X = (X / 2 &&& 6148914691236517205) + (X &&& 6148914691236517205) := rfl
  have a2 : S2 3689348814741910323 (S1 6148914691236517205 X) = (S1 6148914691236517205 X / 4 &&& 3689348814741910323) + (S1 6148914691236517205 X &&& 3689348814741910323) := rfl
  have a3 : S3 1085102592571150095 (S2 3689348814741910323 (S1 6148914691236517205 X)) = (S2 3689348814741910323 (S1 6148914691236517205 X) / 16 + S2 3689348814741910323 (S1 6148914691236517205 X)) &&& 1085102592571150095 := rfl
  rw [hd] at a3
  generalize S2 3689348814741910323 (S1 6148914691236517205 X) = C at *
  generalize S1 6148914691236517205 X = A at *
  generalize dig 8 X = E at *
  refine ⟨A, C, C / 16 + C, E, Y, Z, U, cnt X.testBit 64, ?_, ?_, ?_, ?_, ?_, ?_, ?_, ?_, ?_, rfl, by omega, by omega, by omega, b1, b2, b3, b4⟩
  · have e1 := u64_and_nat (X / 2) 6148914691236517205 (by omega) (by omega)
    have e2 := u64_and_nat X 6148914691236517205 hX (by omega)
    rw [show ((X : Int) / 2) = ((X / 2 : Nat) : Int) by omega, show (6148914691236517205 : Int) = ((6148914691236517205 : Nat) : Int) from rfl, e1, e2]
    exact add_wrap a1.symm (by omega)
  · have e1 := u64_and_nat (A / 4) 3689348814741910323 (by omega) (by omega)
    have e2 := u64_and_nat A 3689348814741910323 (by omega) (by omega)
    rw [show ((A : Int) / 4) = ((A / 4 : Nat) : Int) by omega, show (3689348814741910323 : Int) = ((3689348814741910323 : Nat) : Int) from rfl, e1, e2]
    exact add_wrap a2.symm (by omega)
  · rw [show ((C : Int) / 16) = ((C / 16 : Nat) : Int) by omega]
    exact add_wrap rfl (by omega)
  · rw [show (1085102592571150095 : Int) = ((1085102592571150095 : Nat) : Int) from rfl, u64_and_nat _ _ (by omega) (by omega), ← a3]
  · rw [show ((E : Int) / 256) = ((E / 256 : Nat) : Int) by omega]
    exact add_wrap hy (by omega)
  · rw [show ((Y : Int) / 65536) = ((Y / 65536 : Nat) : Int) by omega]
    exact add_wrap hz (by omega)
  · rw [show ((Z : Int) / 4294967296) = ((Z / 4294967296 : Nat) : Int) by omega]
    exact add_wrap hu (by omega)
  · rw [IntKind.wrap_i64]; omega
  · rw [i64_and127, ← hr]; omega
set_option maxRecDepth 20000 in
theorem ones_any (X : Nat) (hX : X < 18446744073709551616) (w : World) :
    Calls Try.prog 26 #[.int .u64 (X : Nat)] w fun e w' => e = .returned (.int .i64 (cnt X.testBit 64 : Nat)) ∧ w' = w := by
  obtain ⟨A, C, G, E, Y, Z, U, R, h1, h2, h3, h4, h5, h6, h7, h8, h9, hr, b1, b2, b3, b4, b5, b6, b7⟩ := ones_steps X hX
  rw [← hr]
  clear hr
  go_enter Try.func26, Try.ntmps26
  go_wp2
  go_ret
  exact ⟨rfl, rfl⟩
/-! ### bits of words -/
def upd (c : Nat → Nat) (i v : Nat) : Nat → Nat := fun j => if j = i then v else c j
/-- one more is set -/
def on (b : Nat → Bool) (i : Nat) : Nat → Bool := fun j => if j = i then true else b j
/-- the bit at a place -/
def bt (v : Nat → Nat) (i : Nat) : Bool := (v (i / 64)).testBit (i % 64)
theorem bt_zero (i : Nat) : bt (fun _ => 0) i = false := by simp [bt]
theorem bt_on (v : Nat → Nat) (a i : Nat) : bt (upd v (a / 64) (v (a / 64) ||| 2 ^ (a % 64))) i = on (bt v) a i := by
  unfold bt upd on
  by_cases h : i / 64 = a / 64
  · rw [if_pos h, Nat.testBit_or, Nat.testBit_two_pow]
    by_cases e : i = a
    · subst e; simp
    · rw [if_neg e, show decide (a % 64 = i % 64) = false by simp; omega, Bool.or_false, ← h]
  · rw [if_neg h, if_neg (by rintro rfl; exact h rfl)]
theorem two_pow_lt (a : Nat) : 2 ^ (a % 64) < 18446744073709551616 := by
  have h : 2 ^ (a % 64) < 2 ^ 64 := Nat.pow_lt_pow_right (by omega) (Nat.mod_lt _ (by omega))
  simpa using h
theorem or_lt {x y : Nat} (hx : x < 18446744073709551616) (hy : y < 18446744073709551616) : x ||| y < 18446744073709551616 := Nat.or_lt_two_pow (n := 64) hx hy
theorem and_bit (x i : Nat) : x &&& 2 ^ i = if x.testBit i then 2 ^ i else 0 := by
  apply Nat.eq_of_testBit_eq
  intro j
  rw [Nat.testBit_and, Nat.testBit_two_pow]
  by_cases e : i = j
  · subst e
    cases h : x.testBit i <;> simp
  · cases h : x.testBit i <;> simp [e]
/-- the bits of one word more -/
theorem cnt_word (v : Nat → Nat) (k : Nat) : cnt (bt v) (64 * (k + 1)) = cnt (bt v) (64 * k) + cnt (v k).testBit 64 := by
  rw [show 64 * (k + 1) = 64 * k + 64 by omega, cnt_add]
  congr 1
  apply cnt_ext
  intro i hi
  unfold bt
  rw [show (64 * k + i) / 64 = k by omega, show (64 * k + i) % 64 = i by omega]

/-! ### what keys set -/
def has (b : Nat → Bool) (M : Nat) (k : ByteArray) : Bool := b (hp M k 0) && b (hp M k 1) && b (hp M k 2)
/-- the first j of a key's bits are set -/
def add (b : Nat → Bool) (M : Nat) (k : ByteArray) : Nat → (Nat → Bool)
  | 0 => b
  | j + 1 => on (add b M k j) (hp M k j)
theorem on_up (b : Nat → Bool) (i j : Nat) (h : b j = true) : on b i j = true := by unfold on; split <;> simp [h]
theorem on_at (b : Nat → Bool) (i : Nat) : on b i i = true := by simp [on]
theorem add_up (b : Nat → Bool) (M : Nat) (k : ByteArray) (i : Nat) (h : b i = true) : ∀ j, add b M k j i = true
  | 0 => h
  | j + 1 => on_up _ _ _ (add_up b M k i h j)
theorem has_add (b : Nat → Bool) (M : Nat) (k : ByteArray) : has (add b M k 3) M k = true := by
  have h0 : add b M k 3 (hp M k 0) = true := on_up _ _ _ (on_up _ _ _ (on_at _ _))
  have h1 : add b M k 3 (hp M k 1) = true := on_up _ _ _ (on_at _ _)
  have h2 : add b M k 3 (hp M k 2) = true := on_at _ _
  simp [has, h0, h1, h2]
theorem has_up {b : Nat → Bool} {M : Nat} {z k : ByteArray} (h : has b M z = true) : has (add b M k 3) M z = true := by
  simp only [has, Bool.and_eq_true] at h ⊢
  exact ⟨⟨add_up _ _ _ _ h.1.1 3, add_up _ _ _ _ h.1.2 3⟩, add_up _ _ _ _ h.2 3⟩
theorem has_none (M : Nat) (k : ByteArray) : has (fun _ => false) M k = false := rfl
theorem cnt_on (b : Nat → Bool) (i : Nat) : ∀ n, cnt (on b i) n ≤ cnt b n + if i < n then 1 else 0
  | 0 => by simp [cnt]
  | n + 1 => by
    have h := cnt_on b i n
    show cnt (on b i) n + (on b i n).toNat ≤ cnt b n + (b n).toNat + _
    by_cases e : n = i
    · subst e
      have := Bool.toNat_le (on b n n)
      simp only [Nat.lt_irrefl, if_false] at h
      rw [if_pos (by omega)]
      omega
    · have e2 : on b i n = b n := by simp [on, e]
      rw [e2]
      by_cases hi : i < n
      · rw [if_pos hi] at h
        rw [if_pos (by omega)]
        omega
      · rw [if_neg hi] at h
        rw [if_neg (by omega)]
        omega
theorem cnt_add3 (b : Nat → Bool) (M : Nat) (k : ByteArray) (n : Nat) : cnt (add b M k 3) n ≤ cnt b n + 3 := by
  have h0 := cnt_on b (hp M k 0) n
  have h1 := cnt_on (on b (hp M k 0)) (hp M k 1) n
  have h2 := cnt_on (on (on b (hp M k 0)) (hp M k 1)) (hp M k 2) n
  show cnt (on (on (on b (hp M k 0)) (hp M k 1)) (hp M k 2)) n ≤ _
  split at h0 <;> split at h1 <;> split at h2 <;> omega
theorem on_same {b : Nat → Bool} {i : Nat} (h : b i = true) : on b i = b := by
  funext j
  unfold on
  split
  · rename_i e; rw [e, h]
  · rfl
theorem add_same {b : Nat → Bool} {M : Nat} {k : ByteArray} (h : has b M k = true) : add b M k 3 = b := by
  simp only [has, Bool.and_eq_true] at h
  show on (on (on b (hp M k 0)) (hp M k 1)) (hp M k 2) = b
  rw [on_same h.1.1, on_same h.1.2, on_same h.2]
/-- the bits of some keys -/
def bof (M : Nat) (zs : List ByteArray) : Nat → Bool := fun i => zs.any (fun z => decide (i = hp M z 0) || decide (i = hp M z 1) || decide (i = hp M z 2))
theorem bof_nil (M : Nat) : bof M [] = fun _ => false := rfl
theorem add_bof (M : Nat) (zs : List ByteArray) (z : ByteArray) (i : Nat) : add (bof M zs) M z 3 i = (bof M zs i || (decide (i = hp M z 0) || decide (i = hp M z 1) || decide (i = hp M z 2))) := by
  show on (on (on (bof M zs) (hp M z 0)) (hp M z 1)) (hp M z 2) i = _
  unfold on
  generalize bof M zs i = x
  by_cases h0 : i = hp M z 0 <;> by_cases h1 : i = hp M z 1 <;> by_cases h2 : i = hp M z 2 <;> cases x <;> simp_all
theorem bof_snoc (M : Nat) (zs : List ByteArray) (z : ByteArray) : add (bof M zs) M z 3 = bof M (zs ++ [z]) := by
  funext i
  rw [add_bof]
  simp [bof, List.any_append]
theorem bof_cons (M : Nat) (zs : List ByteArray) (z : ByteArray) : add (bof M zs) M z 3 = bof M (z :: zs) := by
  funext i
  rw [add_bof]
  simp [bof, List.any_cons, Bool.or_comm]

/-! ### how many words there are -/
def nw (r : Int) : Nat := if r ≤ 8 then 1 else if r ≤ 16 then 2 else if r ≤ 32 then 4 else if r ≤ 64 then 8 else if r ≤ 128 then 16 else if r ≤ 256 then 32 else if r ≤ 512 then 64 else 128
def Wn (r : Int) (n : Nat) : Prop := n = 1 ∨ (n = 2 ∧ 8 < r) ∨ (n = 4 ∧ 16 < r) ∨ (n = 8 ∧ 32 < r) ∨ (n = 16 ∧ 64 < r) ∨ (n = 32 ∧ 128 < r) ∨ (n = 64 ∧ 256 < r) ∨ (n = 128 ∧ 512 < r)
theorem Wn.le {r : Int} {n : Nat} (h : Wn r n) : 1 ≤ n ∧ n ≤ 128 := by unfold Wn at h; omega
theorem Wn.next {r : Int} {n : Nat} (h : Wn r n) (h1 : (8 * n : Int) < r) (h2 : n < 128) : Wn r (2 * n) := by unfold Wn at *; omega
theorem Wn.end {r : Int} {n : Nat} (h : Wn r n) (h1 : r ≤ 8 * n ∨ 128 ≤ n) : n = nw r := by
  unfold Wn at h
  unfold nw
  rcases h with h | h | h | h | h | h | h | h <;> (split <;> try omega) <;> (split <;> try omega) <;> (split <;> try omega) <;> (split <;> try omega) <;> (split <;> try omega) <;> (split <;> try omega) <;> (split <;> try omega)
theorem nw_le (r : Int) : 1 ≤ nw r ∧ nw r ≤ 128 := by
  unfold nw
  (split <;> try omega) <;> (split <;> try omega) <;> (split <;> try omega) <;> (split <;> try omega) <;> (split <;> try omega) <;> (split <;> try omega) <;> (split <;> try omega)
end Go.Proofs.Ytmhmphbicdaobaa
