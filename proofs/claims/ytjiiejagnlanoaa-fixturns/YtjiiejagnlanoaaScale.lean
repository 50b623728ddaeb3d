/- Scale, of the program and of the reference: a times num, by den, held; 'known'. -/
import Derived.Test.YtjiiejagnlanoaaDiv
namespace Go.Proofs.Ytjiiejagnlanoaa
open Go.RowKit

theorem grown_trans {a b c : World} (h : Grown a b) (k : Grown b c) : Grown a c :=
  ⟨World.keptBut_trans h.1 k.1, fun x => (k.2.1 x).trans (h.2.1 x), Nat.le_trans h.2.2 k.2.2⟩
theorem div_any (hi lo y : Int) (h0 : 0 ≤ hi) (h1 : hi < y) (l0 : 0 ≤ lo) (l1 : lo < 18446744073709551616) (y1 : y < 18446744073709551616) (w : World) :
    Calls Try.prog 22 #[.int .u64 hi, .int .u64 lo, .int .u64 y] w fun e w' => ∃ r, e = .returned (.tuple #[.int .u64 ((hi * 18446744073709551616 + lo) / y), r]) ∧ Grown w w' := by
  by_cases h : hi = 0
  · subst h
    have e := div0_any lo y l0 l1 (by omega) y1 w
    rw [Int.zero_mul, Int.zero_add]
    exact e
  · exact div1_any hi lo y (by omega) h1 l0 l1 y1 w

def sclI (a n d : Int) : Int := (sclN a.toNat n.toNat d.toNat : Nat)
theorem sclI_lo (a n d : Int) : 0 ≤ sclI a n d := Int.natCast_nonneg _
theorem sclI_hi (a n d : Int) : sclI a n d < 18446744073709551616 := by unfold sclI; have := sclN_lt a.toNat n.toNat d.toNat; omega
theorem sclI_big (a n d : Int) (ha : 0 ≤ a) (hn : 0 ≤ n) (h : d ≤ a * n / 18446744073709551616) : sclI a n d = 18446744073709551615 := by
  unfold sclI
  rw [sclN_big]
  · rfl
  · have := mul_cast a n ha hn; omega
theorem sclI_small (a n d : Int) (ha : 0 ≤ a) (hn : 0 ≤ n) (hd : 0 ≤ d) (h : a * n / 18446744073709551616 < d) :
    (a * n / 18446744073709551616 * 18446744073709551616 + a * n % 18446744073709551616) / d = sclI a n d := by
  unfold sclI
  have e := mul_cast a n ha hn
  rw [sclN_small _ _ _ (by omega), Int.natCast_ediv, e, Int.toNat_of_nonneg hd]
  congr 1
  omega
theorem scale_any (a n d : Int) (ha0 : 0 ≤ a) (ha : a < 18446744073709551616) (hn0 : 0 ≤ n) (hn : n < 18446744073709551616) (hd0 : 0 ≤ d) (hd : d < 18446744073709551616) (w : World) :
    Calls Try.prog 17 #[.int .u64 a, .int .u64 n, .int .u64 d] w fun e w' => e = .returned (.int .u64 (sclI a n d)) ∧ Grown w w' := by
  have hp : 0 ≤ a * n := Int.mul_nonneg ha0 hn0
  by_cases h : d ≤ a * n / 18446744073709551616
  · have hdec : decide (d ≤ a * n / 18446744073709551616) = true := decide_eq_true h
    go_enter Try.func17, Try.ntmps17
    go_wp2_with (go_at_call 20; refine (product_any _ _ ha0 ha hn0 hn _).mono ?_; rintro e w' ⟨rfl, rfl⟩)
    go_ret
    exact ⟨ret_int (sclI_big a n d ha0 hn0 h).symm, Grown.refl _⟩
  · have hdec : decide (d ≤ a * n / 18446744073709551616) = false := decide_eq_false h
    go_enter Try.func17, Try.ntmps17
    go_wp2_with (first | (go_at_call 20; refine (product_any _ _ ha0 ha hn0 hn _).mono ?_; rintro e w' ⟨rfl, rfl⟩) | (go_at_call 22; refine (div_any _ _ _ (by omega) (by omega) (by omega) (by omega) hd _).mono ?_; rintro e w2 ⟨r, rfl, hg⟩))
    go_ret
    exact ⟨ret_int (sclI_small a n d ha0 hn0 hd0 (by omega)), hg⟩

/-! ### bit by bit -/
theorem and_one (X : Nat) (h : X < 18446744073709551616) : bits .and .u64 (X : Int) 1 = ((X % 2 : Nat) : Int) := by
  rw [u64_and (X : Int) 1 (by omega) (by omega) (by decide) (by decide)]
  have e : (1 : Int).toNat = 1 := rfl
  rw [e, Int.toNat_natCast, Nat.and_one_is_mod]
theorem bit_hi (N j : Nat) (hN : N < 340282366920938463463374607431768211456) (hj : 64 ≤ j) :
    bits BinOp.and IntKind.u64 ((N : Int) / 18446744073709551616 / 2 ^ (j - 64)) 1 = ((N / 2 ^ j % 2 : Nat) : Int) := by
  have e : ((N : Int) / 18446744073709551616 / 2 ^ (j - 64)) = ((N / 2 ^ j : Nat) : Int) := by
    have p : 2 ^ j = 18446744073709551616 * 2 ^ (j - 64) := by
      rw [show (18446744073709551616 : Nat) = 2 ^ 64 from rfl, ← Nat.pow_add, show 64 + (j - 64) = j by omega]
    rw [p, ← Nat.div_div_eq_div_mul, pow_cast, Int.natCast_ediv, Int.natCast_ediv]
    rfl
  rw [e, and_one]
  have p : 2 ^ 64 ≤ 2 ^ j := Nat.pow_le_pow_right (by decide) hj
  have := Nat.div_le_div_left (a := N) p (Nat.two_pow_pos 64)
  omega
theorem bit_lo (N j : Nat) (hj : j < 64) :
    bits BinOp.and IntKind.u64 ((N : Int) % 18446744073709551616 / 2 ^ min (IntKind.u64.wrap (bits BinOp.and IntKind.i64 (j : Int) 63)).toNat 64) 1 = ((N / 2 ^ j % 2 : Nat) : Int) := by
  have e63 : bits BinOp.and IntKind.i64 (j : Int) 63 = (j : Int) := by
    have all : ∀ i : Fin 64, bits BinOp.and IntKind.i64 ((i.val : Nat) : Int) 63 = ((i.val : Nat) : Int) := by decide +kernel
    exact all ⟨j, hj⟩
  rw [e63, wrap_nat j (by omega), Int.toNat_natCast, show min j 64 = j by omega]
  have e : ((N : Int) % 18446744073709551616 / 2 ^ j) = ((N % 18446744073709551616 / 2 ^ j : Nat) : Int) := by
    rw [pow_cast, Int.natCast_ediv, Int.natCast_emod]
    rfl
  rw [e, and_one _ (Nat.lt_of_le_of_lt (Nat.div_le_self _ _) (Nat.mod_lt _ (by decide)))]
  congr 1
  obtain ⟨i, hi⟩ : ∃ i, 63 - j = i := ⟨_, rfl⟩
  have p : (18446744073709551616 : Nat) = 2 ^ j * (2 * 2 ^ i) := by
    rw [← Nat.mul_assoc, ← Nat.pow_succ, ← Nat.pow_add, show (j + 1) + i = 64 by omega]
  rw [p, Nat.mod_mul_right_div_self, Nat.mod_mul_right_mod]
theorem or_bit (R b : Nat) (hb : b < 2) : bits BinOp.or IntKind.u64 (IntKind.u64.wrap ((R : Int) * 2)) (b : Int) = (((2 * R + b) % 18446744073709551616 : Nat) : Int) := by
  have e : ((R : Int) * 2) = ((R * 2 : Nat) : Int) := by rw [Int.natCast_mul]; rfl
  rw [e, wrap_mod]
  have e2 : R * 2 % 18446744073709551616 = 2 ^ 1 * (R % 9223372036854775808) := by omega
  rw [e2, u64_or_nat _ _ (by omega) (by omega), ← Nat.two_pow_add_eq_or_of_lt (by omega)]
  congr 1
  omega
theorem or_one (Q : Nat) (hQ : Q < 9223372036854775808) : bits BinOp.or IntKind.u64 ((Q : Int) * 2) 1 = ((2 * Q + 1 : Nat) : Int) := by
  have h := or_bit Q 1 (by decide)
  rw [show IntKind.u64.wrap ((Q : Int) * 2) = (Q : Int) * 2 from by rw [IntKind.wrap_u64]; omega] at h
  have h2 : bits BinOp.or IntKind.u64 ((Q : Int) * 2) 1 = (((2 * Q + 1) % 18446744073709551616 : Nat) : Int) := h
  rw [h2]
  omega
theorem once (T d : Nat) (h : d ≤ T) (h2 : T < d + d) (hd : 0 < d) : T / d = 1 ∧ T % d = T - d := by
  have z : T = (T - d) + d := by omega
  rw [z, Nat.add_div_right _ hd, Nat.add_mod_right, Nat.div_eq_of_lt (by omega), Nat.mod_eq_of_lt (by omega)]
  omega
theorem bit_yes (N d j : Nat) (hd : 0 < d) (h : d ≤ 2 * (N / 2 ^ (j + 1) % d) + N / 2 ^ j % 2) :
    N / 2 ^ j / d = 2 * (N / 2 ^ (j + 1) / d) + 1 ∧ N / 2 ^ j % d = 2 * (N / 2 ^ (j + 1) % d) + N / 2 ^ j % 2 - d := by
  obtain ⟨e1, e2⟩ := bit_div N d j hd
  have l : N / 2 ^ (j + 1) % d < d := Nat.mod_lt _ hd
  have b : N / 2 ^ j % 2 < 2 := Nat.mod_lt _ (by decide)
  obtain ⟨o1, o2⟩ := once _ d h (by omega) hd
  rw [o1] at e1
  rw [o2] at e2
  exact ⟨e1, e2⟩
theorem bit_no (N d j : Nat) (hd : 0 < d) (h : 2 * (N / 2 ^ (j + 1) % d) + N / 2 ^ j % 2 < d) :
    N / 2 ^ j / d = 2 * (N / 2 ^ (j + 1) / d) ∧ N / 2 ^ j % d = 2 * (N / 2 ^ (j + 1) % d) + N / 2 ^ j % 2 := by
  obtain ⟨e1, e2⟩ := bit_div N d j hd
  rw [e1, e2, Nat.div_eq_of_lt h, Nat.mod_eq_of_lt h]
  exact ⟨by omega, rfl⟩
theorem bit_big (a n d j : Nat) (hd : 0 < d) (h : 9223372036854775808 ≤ a * n / 2 ^ (j + 1) / d) : sclN a n d = 18446744073709551615 := by
  unfold sclN
  rw [if_neg (by omega)]
  rw [Nat.div_div_eq_div_mul, Nat.mul_comm (2 ^ (j + 1)) d, ← Nat.div_div_eq_div_mul] at h
  have p : 2 ^ 1 ≤ 2 ^ (j + 1) := Nat.pow_le_pow_right (by decide) (by omega)
  have := Nat.div_le_div_left (a := a * n / d) p (by decide)
  omega
theorem bit_end (a n d : Nat) (hd : 0 < d) (h : a * n / 2 ^ 0 / d < 18446744073709551616) : sclN a n d = a * n / 2 ^ 0 / d := by
  unfold sclN
  rw [if_neg (by omega)]
  rw [Nat.pow_zero, Nat.div_one] at *
  omega

theorem scaler_nat (a n d : Nat) (ha : a < 18446744073709551616) (hn : n < 18446744073709551616) (hd0 : 1 ≤ d) (hd : d < 18446744073709551616) (w : World) :
    Calls Try.prog 18 #[.int .u64 a, .int .u64 n, .int .u64 d] w fun e w' => e = .returned (.int .u64 (sclN a n d : Nat)) ∧ w' = w := by
  have hdz : ((d : Int) == 0) = false := beq_eq_false_iff_ne.2 (by omega)
  have hN : a * n < 340282366920938463463374607431768211456 := Nat.mul_lt_mul'' ha hn
  obtain ⟨N, hNN⟩ : ∃ N : Nat, Hid (N = a * n) := ⟨_, rfl⟩
  rw [← hNN.out] at hN
  have en : (a : Int) * (n : Int) = (N : Int) := by rw [hNN.out, Int.natCast_mul]
  have hlast : Hid (∀ Q, N / 2 ^ 0 / d = Q → Q < 18446744073709551616 → sclN a n d = Q) := by
    intro Q h1 h2
    rw [hNN.out] at h1
    rw [bit_end a n d hd0 (by omega), h1]
  have hbig : Hid (∀ j Q, N / 2 ^ (j + 1) / d = Q → 9223372036854775808 ≤ Q → sclN a n d = 18446744073709551615) := by
    intro j Q h1 h2
    rw [hNN.out] at h1
    exact bit_big a n d j hd0 (by omega)
  have hstart : Hid (N / 2 ^ 128 = 0) := Nat.div_eq_of_lt hN
  go_enter Try.func18, Try.ntmps18
  go_wp2_with (go_at_call 21; refine (times_any _ _ (by omega) (by omega) (by omega) (by omega) _).mono ?_; rintro e w' ⟨rfl, rfl⟩)
  clear en
  go_loop [9, 10, 11] (fun q r i => ∃ (k Q R : Nat), k ≤ 128 ∧ i = .int .i64 ((k : Int) - 1) ∧ q = .int .u64 Q ∧ r = .int .u64 R ∧ Q < 18446744073709551616 ∧ R < d ∧ Hid (N / 2 ^ k / d = Q ∧ N / 2 ^ k % d = R)) (fun _ _ i => (intOf i + 1).toNat)
  case atStart => exact ⟨128, 0, 0, by omega, rfl, rfl, rfl, by omega, by omega, by rw [hstart.out, Nat.zero_div], by rw [hstart.out, Nat.zero_mod]⟩
  case round =>
    obtain ⟨k, Q, R, hk, rfl, rfl, rfl, hQ, hR, hqr⟩ := hrel
    by_cases hz : k = 0
    · subst hz
      go_wp2
      go_ret
      exact ⟨ret_int (by rw [hlast.out Q hqr.out.1 hQ]), rfl⟩
    · obtain ⟨j, rfl⟩ : ∃ j, k = j + 1 := ⟨k - 1, by omega⟩
      have hb : ∃ b : Nat, b < 2 ∧ Hid (b = N / 2 ^ j % 2) := ⟨_, Nat.mod_lt _ (by decide), rfl⟩
      obtain ⟨b, hb1, hb2⟩ := hb
      have eo := or_bit R b hb1
      obtain ⟨R1, hR1⟩ : ∃ R1 : Nat, Hid (R1 = (2 * R + b) % 18446744073709551616) := ⟨_, rfl⟩
      rw [← hR1.out] at eo
      have r1lt : R1 < 18446744073709551616 := by rw [hR1.out]; omega
      by_cases hq : 9223372036854775808 ≤ Q
      · have hqd : ((Q : Int) / 9223372036854775808 != 0) = true := by rw [bne_iff_ne]; omega
        have fin : Hid _ := hbig.out j Q hqr.out.1 hq
        go_wp2
        all_goals
          go_ret
          exact ⟨ret_int (by rw [fin.out]; rfl), rfl⟩
      · have hqd : ((Q : Int) / 9223372036854775808 != 0) = false := by rw [bne_eq_false_iff_eq]; omega
        have eq1 := or_one Q (by omega)
        have up : Hid (d ≤ 2 * R + b → N / 2 ^ j / d = 2 * Q + 1 ∧ N / 2 ^ j % d = 2 * R + b - d) := by
          intro h
          rw [hb2.out, ← hqr.out.1, ← hqr.out.2] at *
          exact bit_yes N d j hd0 h
        have dn : Hid (2 * R + b < d → N / 2 ^ j / d = 2 * Q ∧ N / 2 ^ j % d = 2 * R + b) := by
          intro h
          rw [hb2.out, ← hqr.out.1, ← hqr.out.2] at *
          exact bit_no N d j hd0 h
        have hlo : Hid (j < 64 → bits BinOp.and IntKind.u64 ((N : Int) % 18446744073709551616 / 2 ^ min (IntKind.u64.wrap (bits BinOp.and IntKind.i64 (j : Int) 63)).toNat 64) 1 = (b : Int)) := by
          intro h
          rw [hb2.out]
          exact bit_lo N j h
        have hhi : Hid (64 ≤ j → bits BinOp.and IntKind.u64 ((N : Int) / 18446744073709551616 / 2 ^ (j - 64)) 1 = (b : Int)) := by
          intro h
          rw [hb2.out]
          exact bit_hi N j hN h
        by_cases h64 : j < 64
        · have hjd : decide ((64 : Int) ≤ (j : Int)) = false := decide_eq_false (by omega)
          have eb := hlo.out h64
          clear hqr
          by_cases ht : 9223372036854775808 ≤ R
          · have htd : ((R : Int) / 9223372036854775808 == 1) = true := beq_iff_eq.2 (by omega)
            have fin := up.out (by omega)
            have Fin : Hid _ := fin
            clear fin
            have ew : IntKind.u64.wrap ((R1 : Int) - (d : Int)) = ((2 * R + b - d : Nat) : Int) := by
              have := hR1.out
              rw [IntKind.wrap_u64]
              omega
            go_wp2
            go_round
            case rel => exact ⟨j, 2 * Q + 1, 2 * R + b - d, by omega, rfl, by congr 1, by congr 1, by omega, by omega, Fin.out⟩
            case measure => simp [intOf]
          · have htd : ((R : Int) / 9223372036854775808 == 1) = false := beq_eq_false_iff_ne.2 (by omega)
            rw [show IntKind.u64.wrap ((R : Int) * 2) = (R : Int) * 2 from by rw [IntKind.wrap_u64]; omega] at eo
            have hr : R1 = 2 * R + b := by rw [hR1.out]; omega
            have Hr : Hid _ := hr
            clear hr
            by_cases hd1 : d ≤ R1
            · have hdd : decide ((d : Int) ≤ (R1 : Int)) = true := decide_eq_true (by omega)
              have fin := up.out (by rw [← Hr.out]; exact hd1)
              have Fin : Hid _ := fin
              clear fin
              go_wp2
              go_round
              case rel => exact ⟨j, 2 * Q + 1, 2 * R + b - d, by omega, rfl, by congr 1, by have := Hr.out; congr 1; omega, by omega, by have := Hr.out; omega, Fin.out⟩
              case measure => simp [intOf]
            · have hdd : decide ((d : Int) ≤ (R1 : Int)) = false := decide_eq_false (by omega)
              have fin := dn.out (by rw [← Hr.out]; omega)
              have Fin : Hid _ := fin
              clear fin
              go_wp2
              go_round
              case rel => exact ⟨j, 2 * Q, 2 * R + b, by omega, rfl, by congr 1; omega, by have := Hr.out; congr 1; omega, by omega, by have := Hr.out; omega, Fin.out⟩
              case measure => simp [intOf]
        · have hjd : decide ((64 : Int) ≤ (j : Int)) = true := decide_eq_true (by omega)
          have eb := hhi.out (by omega)
          clear hqr
          by_cases ht : 9223372036854775808 ≤ R
          · have htd : ((R : Int) / 9223372036854775808 == 1) = true := beq_iff_eq.2 (by omega)
            have fin := up.out (by omega)
            have Fin : Hid _ := fin
            clear fin
            have ew : IntKind.u64.wrap ((R1 : Int) - (d : Int)) = ((2 * R + b - d : Nat) : Int) := by
              have := hR1.out
              rw [IntKind.wrap_u64]
              omega
            go_wp2
            go_round
            case rel => exact ⟨j, 2 * Q + 1, 2 * R + b - d, by omega, rfl, by congr 1, by congr 1, by omega, by omega, Fin.out⟩
            case measure => simp [intOf]
          · have htd : ((R : Int) / 9223372036854775808 == 1) = false := beq_eq_false_iff_ne.2 (by omega)
            rw [show IntKind.u64.wrap ((R : Int) * 2) = (R : Int) * 2 from by rw [IntKind.wrap_u64]; omega] at eo
            have hr : R1 = 2 * R + b := by rw [hR1.out]; omega
            have Hr : Hid _ := hr
            clear hr
            by_cases hd1 : d ≤ R1
            · have hdd : decide ((d : Int) ≤ (R1 : Int)) = true := decide_eq_true (by omega)
              have fin := up.out (by rw [← Hr.out]; exact hd1)
              have Fin : Hid _ := fin
              clear fin
              go_wp2
              go_round
              case rel => exact ⟨j, 2 * Q + 1, 2 * R + b - d, by omega, rfl, by congr 1, by have := Hr.out; congr 1; omega, by omega, by have := Hr.out; omega, Fin.out⟩
              case measure => simp [intOf]
            · have hdd : decide ((d : Int) ≤ (R1 : Int)) = false := decide_eq_false (by omega)
              have fin := dn.out (by rw [← Hr.out]; omega)
              have Fin : Hid _ := fin
              clear fin
              go_wp2
              go_round
              case rel => exact ⟨j, 2 * Q, 2 * R + b, by omega, rfl, by congr 1; omega, by have := Hr.out; congr 1; omega, by omega, by have := Hr.out; omega, Fin.out⟩
              case measure => simp [intOf]
theorem scaler_any (a n d : Int) (ha0 : 0 ≤ a) (ha : a < 18446744073709551616) (hn0 : 0 ≤ n) (hn : n < 18446744073709551616) (hd0 : 0 ≤ d) (hd : d < 18446744073709551616) (w : World) :
    Calls Try.prog 18 #[.int .u64 a, .int .u64 n, .int .u64 d] w fun e w' => e = .returned (.int .u64 (sclI a n d)) ∧ w' = w := by
  by_cases hz : d = 0
  · subst hz
    have e0 : sclI a n 0 = 18446744073709551615 := by
      unfold sclI
      rw [show (0 : Int).toNat = 0 from rfl, sclN_zero]
      rfl
    rw [e0]
    go_enter Try.func18, Try.ntmps18
    go_wp2
    go_ret
    exact ⟨rfl, rfl⟩
  · obtain ⟨A, rfl⟩ := Int.eq_ofNat_of_zero_le ha0
    obtain ⟨B, rfl⟩ := Int.eq_ofNat_of_zero_le hn0
    obtain ⟨C, rfl⟩ := Int.eq_ofNat_of_zero_le hd0
    exact scaler_nat A B C (by omega) (by omega) (by omega) (by omega) w

/-! ### known -/
theorem inc_1515 : incI 15 15 = 15 := by decide
theorem inc_315 : incI 3 15 = 4 := by decide
theorem mul_15 : mulI 4294967296 5 = 5 := by decide +kernel
theorem scl_732 : sclI 7 3 2 = 10 := by decide +kernel
theorem known_any (w : World) : Calls Try.prog 14 #[] w fun e w' => e = .returned (.bool true) ∧ Grown w w' := by
  have a1 := inc_1515
  have a2 := inc_315
  have a3 := mul_15
  have a4 := scl_732
  go_enter Try.func14, Try.ntmps14
  go_wp2_with (first | (go_at_call 15; refine (mul_any _ _ (by decide) (by decide) (by decide) (by decide) _).mono ?_; rintro e w' ⟨rfl, rfl⟩) | (go_at_call 17; refine (scale_any _ _ _ (by decide) (by decide) (by decide) (by decide) (by decide) (by decide) _).mono ?_; rintro e w2 ⟨rfl, hg⟩) | (go_at_call 8; refine (inc_any _ _ _ (by decide) (by decide)).mono ?_; rintro e w' ⟨rfl, rfl⟩))
  go_ret
  exact ⟨rfl, hg⟩
end Go.Proofs.Ytjiiejagnlanoaa
