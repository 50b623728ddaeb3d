/- What each function of the program that the laws call answers, and that it leaves the world as it was. -/
import Derived.Test.YtjiiejagnlanoaaRows
import Derived.Test.YtjiiejagnlanoaaPlain
import Derived.WalkKit
import Derived.WalkSpells
import Derived.WalkLawsBesides
namespace Go.Proofs.Ytjiiejagnlanoaa
open Go.RowKit

theorem ret_int {k : IntKind} {a b : Int} (h : a = b) : Ending.returned (.int k a) = .returned (.int k b) := by rw [h]

/-! ### Inc, Clamp, Add -/
def incI (n m : Int) : Int := if n < m then n + 1 else n
theorem inc_any (n m : Int) (w : World) (h0 : -9223372036854775808 ≤ n) (h1 : m ≤ 9223372036854775807) :
    Calls Try.prog 8 #[.int .i64 n, .int .i64 m] w fun e w' => e = .returned (.int .i64 (incI n m)) ∧ w' = w := by
  unfold incI
  by_cases h : n < m
  · rw [if_pos h]
    go_enter Try.func8, Try.ntmps8
    go_wp2
    go_ret
    exact ⟨rfl, rfl⟩
  · rw [if_neg h]
    go_enter Try.func8, Try.ntmps8
    go_wp2
    go_ret
    exact ⟨rfl, rfl⟩
theorem incr_any (n m : Int) (w : World) (h0 : -9223372036854775808 ≤ n) (h1 : m ≤ 9223372036854775807) :
    Calls Try.prog 9 #[.int .i64 n, .int .i64 m] w fun e w' => e = .returned (.int .i64 (incI n m)) ∧ w' = w := by
  unfold incI
  by_cases h : n < m
  · rw [if_pos h]
    go_enter Try.func9, Try.ntmps9
    go_wp2
    go_ret
    exact ⟨rfl, rfl⟩
  · rw [if_neg h]
    go_enter Try.func9, Try.ntmps9
    go_wp2
    go_ret
    exact ⟨rfl, rfl⟩
def clampI (n l h : Int) : Int := min (max n l) h
theorem clamp_any (n l h : Int) (w : World) :
    Calls Try.prog 12 #[.int .i64 n, .int .i64 l, .int .i64 h] w fun e w' => e = .returned (.int .i64 (clampI n l h)) ∧ w' = w := by
  unfold clampI
  go_enter Try.func12, Try.ntmps12
  go_wp2
  all_goals
    go_ret
    refine ⟨ret_int ?_, rfl⟩
    omega
theorem clampr_any (n l h : Int) (w : World) :
    Calls Try.prog 13 #[.int .i64 n, .int .i64 l, .int .i64 h] w fun e w' => e = .returned (.int .i64 (clampI n l h)) ∧ w' = w := by
  unfold clampI
  go_enter Try.func13, Try.ntmps13
  go_wp2
  all_goals
    go_ret
    refine ⟨ret_int ?_, rfl⟩
    omega
def cntI (n : Int) : Int := clampI n 0 1099511627776
theorem cntI_lo (n : Int) : 0 ≤ cntI n := by unfold cntI clampI; omega
theorem cntI_hi (n : Int) : cntI n ≤ 1099511627776 := by unfold cntI clampI; omega
theorem count_any (n : Int) (w : World) :
    Calls Try.prog 19 #[.int .i64 n] w fun e w' => e = .returned (.int .i64 (cntI n)) ∧ w' = w := by
  go_enter Try.func19, Try.ntmps19
  go_wp2_with (go_at_call 12; refine (clamp_any _ _ _ _).mono ?_; rintro e w' ⟨rfl, rfl⟩)
  go_ret
  exact ⟨rfl, rfl⟩
def addI (a b : Int) : Int := min (cntI a + cntI b) 1099511627776
theorem add_any (a b : Int) (w : World) :
    Calls Try.prog 10 #[.int .i64 a, .int .i64 b] w fun e w' => e = .returned (.int .i64 (addI a b)) ∧ w' = w := by
  have a0 := cntI_lo a
  have a1 := cntI_hi a
  have b0 := cntI_lo b
  have b1 := cntI_hi b
  unfold addI
  go_enter Try.func10, Try.ntmps10
  go_wp2_with (go_at_call 19; refine (count_any _ _).mono ?_; rintro e w' ⟨rfl, rfl⟩)
  all_goals
    go_ret
    refine ⟨ret_int ?_, rfl⟩
    omega
theorem addr_any (a b : Int) (w : World) :
    Calls Try.prog 11 #[.int .i64 a, .int .i64 b] w fun e w' => e = .returned (.int .i64 (addI a b)) ∧ w' = w := by
  have a0 := cntI_lo a
  have a1 := cntI_hi a
  have b0 := cntI_lo b
  have b1 := cntI_hi b
  unfold addI cntI at *
  go_enter Try.func11, Try.ntmps11
  go_wp2_with (go_at_call 13; refine (clampr_any _ _ _ _).mono ?_; rintro e w' ⟨rfl, rfl⟩)
  all_goals
    go_ret
    refine ⟨ret_int ?_, rfl⟩
    omega

/-! ### the product of halves -/
theorem low32 (z : Int) (h0 : 0 ≤ z) (h1 : z < 18446744073709551616) : bits .and .u64 z 4294967295 = z % 4294967296 := and_low32 z h0 h1
theorem or_add (k x y : Int) (hk : 0 ≤ k) (hx : x = k * 4294967296) (hx1 : x < 18446744073709551616) (y0 : 0 ≤ y) (y1 : y < 4294967296) : bits .or .u64 x y = x + y := by
  obtain ⟨K, rfl⟩ := Int.eq_ofNat_of_zero_le hk
  obtain ⟨Y, rfl⟩ := Int.eq_ofNat_of_zero_le y0
  have ex : x = ((4294967296 * K : Nat) : Int) := by omega
  rw [ex, u64_or_nat _ _ (by omega) (by omega)]
  have h := Nat.two_pow_add_eq_or_of_lt (i := 32) (b := Y) (by omega) K
  have h2 : 4294967296 * K + Y = 4294967296 * K ||| Y := h
  rw [← h2]
  omega
/-- the upper word, out of the products of halves -/
theorem prod_hi (a b : Int) (ha0 : 0 ≤ a) (ha : a < 18446744073709551616) (hb0 : 0 ≤ b) (hb : b < 18446744073709551616) :
    IntKind.u64.wrap (IntKind.u64.wrap (IntKind.u64.wrap (a / 4294967296 * (b / 4294967296)) +
      IntKind.u64.wrap (IntKind.u64.wrap (a / 4294967296 * bits BinOp.and IntKind.u64 b 4294967295) + IntKind.u64.wrap (bits BinOp.and IntKind.u64 a 4294967295 * bits BinOp.and IntKind.u64 b 4294967295) / 4294967296) / 4294967296) +
      IntKind.u64.wrap (IntKind.u64.wrap (bits BinOp.and IntKind.u64 a 4294967295 * (b / 4294967296)) +
        bits BinOp.and IntKind.u64 (IntKind.u64.wrap (IntKind.u64.wrap (a / 4294967296 * bits BinOp.and IntKind.u64 b 4294967295) + IntKind.u64.wrap (bits BinOp.and IntKind.u64 a 4294967295 * bits BinOp.and IntKind.u64 b 4294967295) / 4294967296)) 4294967295) / 4294967296) = a * b / 18446744073709551616 ∧
    bits BinOp.or IntKind.u64 (IntKind.u64.wrap (IntKind.u64.wrap (IntKind.u64.wrap (bits BinOp.and IntKind.u64 a 4294967295 * (b / 4294967296)) +
        bits BinOp.and IntKind.u64 (IntKind.u64.wrap (IntKind.u64.wrap (a / 4294967296 * bits BinOp.and IntKind.u64 b 4294967295) + IntKind.u64.wrap (bits BinOp.and IntKind.u64 a 4294967295 * bits BinOp.and IntKind.u64 b 4294967295) / 4294967296)) 4294967295) * 4294967296))
      (bits BinOp.and IntKind.u64 (IntKind.u64.wrap (bits BinOp.and IntKind.u64 a 4294967295 * bits BinOp.and IntKind.u64 b 4294967295)) 4294967295) = a * b % 18446744073709551616 := by
  rw [low32 a ha0 ha, low32 b hb0 hb]
  have ex : a = a / 4294967296 * 4294967296 + a % 4294967296 := by omega
  have ey : b = b / 4294967296 * 4294967296 + b % 4294967296 := by omega
  have hxy : a * b = (a / 4294967296 * 4294967296 + a % 4294967296) * (b / 4294967296 * 4294967296 + b % 4294967296) := by rw [← ex, ← ey]
  rw [split_mul] at hxy
  have pA := prod_bound (a / 4294967296) (b / 4294967296) (by omega) (by omega) (by omega) (by omega)
  have pB := prod_bound (a / 4294967296) (b % 4294967296) (by omega) (by omega) (by omega) (by omega)
  have pC := prod_bound (a % 4294967296) (b % 4294967296) (by omega) (by omega) (by omega) (by omega)
  have pD := prod_bound (a % 4294967296) (b / 4294967296) (by omega) (by omega) (by omega) (by omega)
  rw [hxy]
  generalize a / 4294967296 * (b / 4294967296) = A at *
  generalize a / 4294967296 * (b % 4294967296) = B at *
  generalize a % 4294967296 * (b % 4294967296) = C at *
  generalize a % 4294967296 * (b / 4294967296) = D at *
  simp only [IntKind.wrap_u64]
  have eA : A % 18446744073709551616 = A := by omega
  have eB : B % 18446744073709551616 = B := by omega
  have eC : C % 18446744073709551616 = C := by omega
  have eD : D % 18446744073709551616 = D := by omega
  rw [eA, eB, eC, eD]
  have eM : (B + C / 4294967296) % 18446744073709551616 = B + C / 4294967296 := by omega
  rw [eM, low32 _ (by omega) (by omega), low32 C (by omega) (by omega)]
  constructor
  · omega
  · rw [or_add ((D + (B + C / 4294967296) % 4294967296) % 4294967296) _ _ (by omega) (by omega) (by omega) (by omega) (by omega)]
    omega
theorem ret_pair {k : IntKind} {a b c d : Int} (h : a = b) (h2 : c = d) : Ending.returned (.tuple #[.int k a, .int k c]) = .returned (.tuple #[.int k b, .int k d]) := by rw [h, h2]
theorem product_any (a b : Int) (ha0 : 0 ≤ a) (ha : a < 18446744073709551616) (hb0 : 0 ≤ b) (hb : b < 18446744073709551616) (w : World) :
    Calls Try.prog 20 #[.int .u64 a, .int .u64 b] w fun e w' => e = .returned (.tuple #[.int .u64 (a * b / 18446744073709551616), .int .u64 (a * b % 18446744073709551616)]) ∧ w' = w := by
  have h := prod_hi a b ha0 ha hb0 hb
  have H : Hid _ := h
  clear h
  go_enter Try.func20, Try.ntmps20
  go_wp2
  go_ret2
  exact ⟨ret_pair H.out.1 H.out.2, rfl⟩
theorem times_any (a b : Int) (ha0 : 0 ≤ a) (ha : a < 18446744073709551616) (hb0 : 0 ≤ b) (hb : b < 18446744073709551616) (w : World) :
    Calls Try.prog 21 #[.int .u64 a, .int .u64 b] w fun e w' => e = .returned (.tuple #[.int .u64 (a * b / 18446744073709551616), .int .u64 (a * b % 18446744073709551616)]) ∧ w' = w := by
  have h := prod_hi a b ha0 ha hb0 hb
  have H : Hid _ := h
  clear h
  go_enter Try.func21, Try.ntmps21
  go_wp2
  go_ret2
  exact ⟨ret_pair H.out.1 H.out.2, rfl⟩

/-! ### Mul -/
def mulI (a b : Int) : Int := (mulN a.toNat b.toNat : Nat)
theorem mulI_lo (a b : Int) : 0 ≤ mulI a b := Int.natCast_nonneg _
theorem mulI_hi (a b : Int) : mulI a b < 18446744073709551616 := by unfold mulI; have := mulN_lt a.toNat b.toNat; omega
theorem mul_cast (a b : Int) (ha : 0 ≤ a) (hb : 0 ≤ b) : ((a.toNat * b.toNat : Nat) : Int) = a * b := by
  rw [Int.natCast_mul, Int.toNat_of_nonneg ha, Int.toNat_of_nonneg hb]
theorem mulI_eq (a b : Int) (ha : 0 ≤ a) (hb : 0 ≤ b) : mulI a b = min (a * b / 4294967296) 18446744073709551615 := by
  unfold mulI mulN
  rw [← mul_cast a b ha hb]
  omega
theorem mulI_big (a b : Int) (ha : 0 ≤ a) (hb : 0 ≤ b) (h : 4294967295 < a * b / 18446744073709551616) : mulI a b = 18446744073709551615 := by
  rw [mulI_eq a b ha hb]; omega
theorem mulI_fit (a b : Int) (ha : 0 ≤ a) (hb : 0 ≤ b) (h : a * b / 18446744073709551616 ≤ 4294967295) :
    bits BinOp.or IntKind.u64 (a * b / 18446744073709551616 * 4294967296) (a * b % 18446744073709551616 / 4294967296) = mulI a b := by
  rw [mulI_eq a b ha hb]
  have hp : 0 ≤ a * b := Int.mul_nonneg ha hb
  rw [or_add (a * b / 18446744073709551616) _ _ (by omega) rfl (by omega) (by omega) (by omega)]
  omega
theorem mul_any (a b : Int) (ha0 : 0 ≤ a) (ha : a < 18446744073709551616) (hb0 : 0 ≤ b) (hb : b < 18446744073709551616) (w : World) :
    Calls Try.prog 15 #[.int .u64 a, .int .u64 b] w fun e w' => e = .returned (.int .u64 (mulI a b)) ∧ w' = w := by
  have hp : 0 ≤ a * b := Int.mul_nonneg ha0 hb0
  by_cases h : 4294967295 < a * b / 18446744073709551616
  · go_enter Try.func15, Try.ntmps15
    go_wp2_with (go_at_call 20; refine (product_any _ _ ha0 ha hb0 hb _).mono ?_; rintro e w' ⟨rfl, rfl⟩)
    go_ret
    exact ⟨ret_int (mulI_big a b ha0 hb0 h).symm, rfl⟩
  · go_enter Try.func15, Try.ntmps15
    go_wp2_with (go_at_call 20; refine (product_any _ _ ha0 ha hb0 hb _).mono ?_; rintro e w' ⟨rfl, rfl⟩)
    go_ret
    exact ⟨ret_int (mulI_fit a b ha0 hb0 (by omega)), rfl⟩
theorem mulr_any (a b : Int) (ha0 : 0 ≤ a) (ha : a < 18446744073709551616) (hb0 : 0 ≤ b) (hb : b < 18446744073709551616) (w : World) :
    Calls Try.prog 16 #[.int .u64 a, .int .u64 b] w fun e w' => e = .returned (.int .u64 (mulI a b)) ∧ w' = w := by
  have hp : 0 ≤ a * b := Int.mul_nonneg ha0 hb0
  by_cases h : 4294967295 < a * b / 18446744073709551616
  · go_enter Try.func16, Try.ntmps16
    go_wp2_with (go_at_call 21; refine (times_any _ _ ha0 ha hb0 hb _).mono ?_; rintro e w' ⟨rfl, rfl⟩)
    go_ret
    exact ⟨ret_int (mulI_big a b ha0 hb0 h).symm, rfl⟩
  · go_enter Try.func16, Try.ntmps16
    go_wp2_with (go_at_call 21; refine (times_any _ _ ha0 ha hb0 hb _).mono ?_; rintro e w' ⟨rfl, rfl⟩)
    go_ret
    exact ⟨ret_int (mulI_fit a b ha0 hb0 (by omega)), rfl⟩

/-! ### Len64, LeadingZeros64 -/
theorem len_fin (x : Int) (k : Nat) (b : Int) (P : Nat → Prop) (h0 : 1 ≤ x) (h1 : x < 18446744073709551616) (hk : k ≤ 56) (e : b = x / 2 ^ k) (hb : 1 ≤ b) (hb2 : b < 256)
    (hP : P (k + bitLen b.toNat)) : ∃ n : Nat, n ≤ 64 ∧ x.toNat < 2 ^ n ∧ 2 ^ n ≤ 2 * x.toNat ∧ P n := by
  obtain ⟨X, rfl⟩ := Int.eq_ofNat_of_zero_le (show 0 ≤ x by omega)
  have eb : b.toNat = X / 2 ^ k := by
    rw [e]
    have : ((X : Int) / 2 ^ k) = ((X / 2 ^ k : Nat) : Int) := by rw [Int.natCast_ediv]; simp
    rw [this, Int.toNat_natCast]
  have hs := bitLen_shift X k (by omega)
  rw [← eb] at hs
  have sp := bitLen_spec X
  have l8 := bitLen_le8 b.toNat (by omega)
  rw [Int.toNat_natCast]
  refine ⟨k + bitLen b.toNat, by omega, by rw [← hs]; exact sp.1, ?_, hP⟩
  rw [← hs]
  have h2 := sp.2 (by omega)
  have hpos : bitLen X ≠ 0 := by
    intro hz
    have := sp.1
    rw [hz] at this
    simp at this
    omega
  obtain ⟨m, hm⟩ : ∃ m, bitLen X = m + 1 := ⟨bitLen X - 1, by omega⟩
  rw [hm] at h2 ⊢
  rw [Nat.pow_succ]
  simp only [Nat.add_sub_cancel] at h2
  omega
set_option maxHeartbeats 4000000 in
set_option maxRecDepth 100000 in
theorem len64_any (x : Int) (h0 : 1 ≤ x) (h1 : x < 18446744073709551616) (w : World) :
    Calls Try.prog 24 #[.int .u64 x] w fun e w' => ∃ n : Nat, n ≤ 64 ∧ x.toNat < 2 ^ n ∧ 2 ^ n ≤ 2 * x.toNat ∧ e = .returned (.int .i64 n) ∧ w' = w := by
  go_enter Try.func24, Try.ntmps24
  go_wp2
  all_goals go_ret
  all_goals first
    | (refine len_fin x 56 (x / 4294967296 / 65536 / 256) _ h0 h1 (by omega) (by omega) (by omega) (by omega) ?_
       refine ⟨ret_int ?_, rfl⟩
       rw [len8tab_get]
       have l8 := bitLen_le8 (x / 4294967296 / 65536 / 256).toNat (by omega)
       unfold wrap64
       omega)
    | (refine len_fin x 48 (x / 4294967296 / 65536) _ h0 h1 (by omega) (by omega) (by omega) (by omega) ?_
       refine ⟨ret_int ?_, rfl⟩
       rw [len8tab_get]
       have l8 := bitLen_le8 (x / 4294967296 / 65536).toNat (by omega)
       unfold wrap64
       omega)
    | (refine len_fin x 40 (x / 4294967296 / 256) _ h0 h1 (by omega) (by omega) (by omega) (by omega) ?_
       refine ⟨ret_int ?_, rfl⟩
       rw [len8tab_get]
       have l8 := bitLen_le8 (x / 4294967296 / 256).toNat (by omega)
       unfold wrap64
       omega)
    | (refine len_fin x 32 (x / 4294967296) _ h0 h1 (by omega) (by omega) (by omega) (by omega) ?_
       refine ⟨ret_int ?_, rfl⟩
       rw [len8tab_get]
       have l8 := bitLen_le8 (x / 4294967296).toNat (by omega)
       unfold wrap64
       omega)
    | (refine len_fin x 24 (x / 65536 / 256) _ h0 h1 (by omega) (by omega) (by omega) (by omega) ?_
       refine ⟨ret_int ?_, rfl⟩
       rw [len8tab_get]
       have l8 := bitLen_le8 (x / 65536 / 256).toNat (by omega)
       unfold wrap64
       omega)
    | (refine len_fin x 16 (x / 65536) _ h0 h1 (by omega) (by omega) (by omega) (by omega) ?_
       refine ⟨ret_int ?_, rfl⟩
       rw [len8tab_get]
       have l8 := bitLen_le8 (x / 65536).toNat (by omega)
       unfold wrap64
       omega)
    | (refine len_fin x 8 (x / 256) _ h0 h1 (by omega) (by omega) (by omega) (by omega) ?_
       refine ⟨ret_int ?_, rfl⟩
       rw [len8tab_get]
       have l8 := bitLen_le8 (x / 256).toNat (by omega)
       unfold wrap64
       omega)
    | (refine len_fin x 0 (x) _ h0 h1 (by omega) (by omega) (by omega) (by omega) ?_
       refine ⟨ret_int ?_, rfl⟩
       rw [len8tab_get]
       have l8 := bitLen_le8 (x).toNat (by omega)
       unfold wrap64
       omega)
theorem lz64_any (x : Int) (h0 : 1 ≤ x) (h1 : x < 18446744073709551616) (w : World) :
    Calls Try.prog 23 #[.int .u64 x] w fun e w' => ∃ n : Nat, n ≤ 63 ∧ 9223372036854775808 ≤ x.toNat * 2 ^ n ∧ x.toNat * 2 ^ n < 18446744073709551616 ∧ e = .returned (.int .i64 n) ∧ w' = w := by
  go_enter Try.func23, Try.ntmps23
  go_wp2_with (go_at_call 24; refine (len64_any _ h0 h1 _).mono ?_; rintro e w' ⟨n, n1, n2, n3, rfl, rfl⟩)
  go_ret
  have hn : n ≠ 0 := by
    intro hz
    subst hz
    simp at n2
    omega
  have e64 : 2 ^ n * 2 ^ (64 - n) = 18446744073709551616 := by rw [← Nat.pow_add, show n + (64 - n) = 64 by omega]
  refine ⟨64 - n, by omega, ?_, ?_, ret_int (by omega), rfl⟩
  · have := Nat.mul_le_mul_right (2 ^ (64 - n)) n3
    rw [e64, Nat.mul_assoc] at this
    omega
  · have := Nat.mul_lt_mul_of_pos_right n2 (Nat.two_pow_pos (64 - n))
    rw [e64] at this
    exact this
end Go.Proofs.Ytjiiejagnlanoaa
