/- bits.Div64: of two words by one that is greater than the upper one: the quotient; and the world as it was. -/
import Derived.Test.YtjiiejagnlanoaaWalks
import Derived.Test.YtjiiejagnlanoaaNorm
import Derived.Deep.CutBlock
import Derived.Deep.DeepCutAuto
namespace Go.Proofs.Ytjiiejagnlanoaa
open Go.RowKit

theorem ret_fst {k : IntKind} {a b : Int} {r : Value} (h : a = b) : Ending.returned (.tuple #[.int k a, r]) = .returned (.tuple #[.int k b, r]) := by rw [h]
theorem div0_any (lo y : Int) (l0 : 0 ≤ lo) (l1 : lo < 18446744073709551616) (y0 : 1 ≤ y) (y1 : y < 18446744073709551616) (w : World) :
    Calls Try.prog 22 #[.int .u64 0, .int .u64 lo, .int .u64 y] w fun e w' => ∃ r, e = .returned (.tuple #[.int .u64 (lo / y), r]) ∧ Grown w w' := by
  have g0 : (y == 0) = false := beq_eq_false_iff_ne.2 (by omega)
  have g1 : decide (y ≤ 0) = false := decide_eq_false (by omega)
  go_enter Try.func22, Try.ntmps22
  go_wp2
  go_region
  all_goals
    go_wp2
    go_ret2
    exact ⟨_, rfl, (Grown.refl _).drew⟩

/-- the numbers ahead of the first digit, each under a name of its own, as the walk spells them -/
theorem first_facts (hi lo y : Int) (n : Nat) (h0 : 1 ≤ hi) (h1 : hi < y) (l0 : 0 ≤ lo) (l1 : lo < 18446744073709551616) (n1 : n ≤ 63)
    (n2 : 9223372036854775808 ≤ y.toNat * 2 ^ n) (n3 : y.toNat * 2 ^ n < 18446744073709551616) :
    ∃ Y Y1 Y0 U L L1 L0 : Nat, 2147483648 ≤ Y1 ∧ Y1 < 4294967296 ∧ Y0 < 4294967296 ∧ L1 < 4294967296 ∧ L0 < 4294967296 ∧ U < Y ∧ Y < 18446744073709551616 ∧ L < 18446744073709551616 ∧
      IntKind.u64.wrap (y * 2 ^ n) = (Y : Int) ∧ (Y : Int) / 4294967296 = (Y1 : Int) ∧ bits BinOp.and IntKind.u64 (Y : Int) 4294967295 = (Y0 : Int) ∧
      bits BinOp.or IntKind.u64 (IntKind.u64.wrap (hi * 2 ^ n)) (lo / 2 ^ (64 - n)) = (U : Int) ∧
      IntKind.u64.wrap (lo * 2 ^ n) = (L : Int) ∧ (L : Int) / 4294967296 = (L1 : Int) ∧ bits BinOp.and IntKind.u64 (L : Int) 4294967295 = (L0 : Int) ∧
      Hid (Y = Y1 * 4294967296 + Y0) ∧ Hid (L / 4294967296 = L1 ∧ L % 4294967296 = L0 ∧
        (hi * 18446744073709551616 + lo) / y = (((U * 18446744073709551616 + L) / Y : Nat) : Int)) := by
  obtain ⟨Y1, Y0, U, L, b1, b2, b3, b4, b5, e1, e2, e3, e4⟩ := norm_facts hi lo y n h0 h1 l0 l1 n1 n2 n3
  refine ⟨Y1 * 4294967296 + Y0, Y1, Y0, U, L, L / 4294967296, L % 4294967296, b1, b2, b3, by omega, by omega, b5, by omega, b4, e1, by omega, ?_, e2, e3, by omega, ?_, rfl, rfl, rfl, e4⟩
  · rw [low32 _ (by omega) (by omega)]; omega
  · rw [low32 _ (by omega) (by omega)]; omega
/-- a digit's first guess -/
theorem guess_facts (Y Y1 Y0 U u : Nat) (b1 : 2147483648 ≤ Y1) (b3 : Y0 < 4294967296) (hY : Y = Y1 * 4294967296 + Y0) (hU : U < Y) (hu : u < 4294967296) :
    ∃ Q P R : Nat, Q ≤ 4294967297 ∧ R < Y1 ∧ P ≤ U ∧ (U : Int) / (Y1 : Int) = (Q : Int) ∧ (Q : Int) * (Y1 : Int) = (P : Int) ∧
      Hid (Q * Y1 + R = U ∧ P + R = U ∧ (U * 4294967296 + u) / (Y1 * 4294967296 + Y0) ≤ Q) := by
  have d := Nat.div_add_mod U Y1
  rw [Nat.mul_comm] at d
  have dl : U % Y1 < Y1 := Nat.mod_lt _ (by omega)
  refine ⟨U / Y1, U / Y1 * Y1, U % Y1, dig_start U Y1 Y0 b1 b3 (by omega), dl, by omega, ?_, ?_, d, d, dig_ge U Y1 Y0 _ b1 hu⟩
  · rw [Int.natCast_ediv]
  · rw [Int.natCast_mul]
/-- what is left behind the first digit -/
theorem rest_fact (Y U u D : Nat) (hY0 : 0 < Y) (hY : Y < 18446744073709551616) (hD : D = (U * 4294967296 + u) / Y) :
    ∃ U2 : Nat, U2 < Y ∧ IntKind.u64.wrap (IntKind.u64.wrap (IntKind.u64.wrap ((U : Int) * 4294967296) + (u : Int)) - IntKind.u64.wrap ((D : Int) * (Y : Int))) = (U2 : Int) ∧
      Hid (U2 = (U * 4294967296 + u) % Y) := by
  have d := Nat.div_add_mod (U * 4294967296 + u) Y
  have dl : (U * 4294967296 + u) % Y < Y := Nat.mod_lt _ hY0
  rw [← hD] at d
  refine ⟨(U * 4294967296 + u) % Y, dl, ?_, rfl⟩
  have e : ((D : Int) * (Y : Int)) = ((Y * D : Nat) : Int) := by rw [Nat.mul_comm, Int.natCast_mul]
  rw [e]
  simp only [IntKind.wrap_u64]
  omega

set_option maxHeartbeats 2000000 in
set_option maxRecDepth 100000 in
theorem div1_any (hi lo y : Int) (h0 : 1 ≤ hi) (h1 : hi < y) (l0 : 0 ≤ lo) (l1 : lo < 18446744073709551616) (y1 : y < 18446744073709551616) (w : World) :
    Calls Try.prog 22 #[.int .u64 hi, .int .u64 lo, .int .u64 y] w fun e w' => ∃ r, e = .returned (.tuple #[.int .u64 ((hi * 18446744073709551616 + lo) / y), r]) ∧ Grown w w' := by
  have g0 : (y == 0) = false := beq_eq_false_iff_ne.2 (by omega)
  have g1 : decide (y ≤ hi) = false := decide_eq_false (by omega)
  have g2 : (hi == 0) = false := beq_eq_false_iff_ne.2 (by omega)
  go_enter Try.func22, Try.ntmps22
  go_upto_block 0 with (go_at_call 23; refine (lz64_any _ (by omega) y1 _).mono ?_; rintro e w' ⟨n, n1, n2, n3, rfl, rfl⟩; obtain ⟨Y, Y1, Y0, U, L, L1, L0, c1, c2, c3, c4, c5, c6, c7, c8, e1, e2, e3, e4, e5, e6, e7, hYY, hend⟩ := first_facts hi lo y n h0 h1 l0 l1 n1 n2 n3; obtain ⟨Q, P, R, d1, d2, d3, e8, e9, hid⟩ := guess_facts Y Y1 Y0 U L1 c1 c3 hYY.out c6 c4)
  obtain ⟨D, hD⟩ : ∃ D, Hid (D = (U * 4294967296 + L1) / (Y1 * 4294967296 + Y0)) := ⟨_, rfl⟩
  have dlt : D < 4294967296 := by rw [hD.out, ← hYY.out]; exact dig_lt U Y L1 c6 c4
  obtain ⟨U2, f1, f2, f3⟩ := rest_fact Y U L1 D (by omega) c7 (by rw [hD.out, hYY.out])
  obtain ⟨Q2, P2, R2, d4, d5, d6, e10, e11, hid2⟩ := guess_facts Y Y1 Y0 U2 L0 c1 c3 hYY.out f1 c5
  obtain ⟨D2, hD2⟩ : ∃ D2, Hid (D2 = (U2 * 4294967296 + L0) / (Y1 * 4294967296 + Y0)) := ⟨_, rfl⟩
  have dlt2 : D2 < 4294967296 := by rw [hD2.out, ← hYY.out]; exact dig_lt U2 Y L0 f1 c5
  have hfin : Hid ((hi * 18446744073709551616 + lo) / y = (D : Int) * 4294967296 + (D2 : Int)) := by
    have a := hend.out.2.2
    have b := two_digits U L Y (by omega)
    rw [hend.out.1, hend.out.2.1, ← f3.out] at b
    have hd := hD.out
    have hd2 := hD2.out
    rw [← hYY.out] at hd hd2
    rw [← hd, ← hd2] at b
    rw [b] at a
    exact a.trans (by omega)
  go_cut [15, 16] (fun a _ wc => a = .int .u64 (D : Nat) ∧ wc = w')
  case first =>
    go_wp2_with fail
    go_loop [15, 16] (fun a b => ∃ q r : Nat, a = .int .u64 q ∧ b = .int .u64 r ∧ r < 4294967296 ∧ q ≤ 4294967297 ∧ Hid (q * Y1 + r = U ∧ D ≤ q)) (fun a _ => (intOf a).toNat)
    case atStart => exact ⟨Q, R, rfl, by rw [show ((U : Int) - (P : Int)) = (R : Int) from by have := hid.out.2.1; omega], by omega, d1, hid.out.1, by rw [hD.out]; exact hid.out.2.2⟩
    case round =>
      obtain ⟨q, r, rfl, rfl, r1, q1, hq⟩ := hrel
      by_cases hB : 4294967296 ≤ q
      · have hm : D < q := by rw [hD.out]; exact dig_more U Y1 Y0 L1 q r (by rw [← hYY.out]; omega) (by omega) hq.out.1 (Or.inl hB)
        have hBd : decide ((4294967296 : Int) ≤ (q : Int)) = true := decide_eq_true (by omega)
        have hst := dig_step q r Y1 U (by omega) hq.out.1
        have Hst : Hid _ := hst
        clear hst
        by_cases hs : 4294967296 ≤ r + Y1
        · have fin : Hid (D = q - 1) := by rw [hD.out]; exact dig_stop U Y1 Y0 L1 (q - 1) (r + Y1) c1 c3 Hst.out (by rw [← hD.out]; omega) (by omega) hs
          have hsd : decide ((4294967296 : Int) ≤ (r : Int) + (Y1 : Int)) = true := decide_eq_true (by omega)
          go_wp2_with fail
          go_meet
          case rel => exact ⟨by rw [fin.out]; congr 1; omega, rfl⟩
        · have hsd : decide ((4294967296 : Int) ≤ (r : Int) + (Y1 : Int)) = false := decide_eq_false (by omega)
          go_wp2
          go_round
          case rel => exact ⟨q - 1, r + Y1, by congr 1; omega, by congr 1, by omega, by omega, Hst.out, by omega⟩
          case measure => simp [intOf]; omega
      · have pb : q * Y0 < 18446744073709551616 := by
          have := Nat.mul_le_mul (show q ≤ 4294967295 by omega) (show Y0 ≤ 4294967295 by omega)
          omega
        obtain ⟨T, hT⟩ : ∃ T : Nat, T = q * Y0 := ⟨_, rfl⟩
        have eT : (q : Int) * (Y0 : Int) = (T : Int) := by rw [hT, Int.natCast_mul]
        rw [← hT] at pb
        have HT : Hid _ := hT
        clear hT
        have hBd : decide ((4294967296 : Int) ≤ (q : Int)) = false := decide_eq_false (by omega)
        by_cases ht : 4294967296 * r + L1 < T
        · have hm : D < q := by rw [hD.out]; exact dig_more U Y1 Y0 L1 q r (by rw [← hYY.out]; omega) (by omega) hq.out.1 (Or.inr (by rw [← HT.out]; exact ht))
          have hst := dig_step q r Y1 U (by omega) hq.out.1
          have Hst : Hid _ := hst
          clear hst
          by_cases hs : 4294967296 ≤ r + Y1
          · have fin : Hid (D = q - 1) := by rw [hD.out]; exact dig_stop U Y1 Y0 L1 (q - 1) (r + Y1) c1 c3 Hst.out (by rw [← hD.out]; omega) (by omega) hs
            have hsd : decide ((4294967296 : Int) ≤ (r : Int) + (Y1 : Int)) = true := decide_eq_true (by omega)
            go_wp2_with fail
            go_meet
            case rel => exact ⟨by rw [fin.out]; congr 1; omega, rfl⟩
          · have hsd : decide ((4294967296 : Int) ≤ (r : Int) + (Y1 : Int)) = false := decide_eq_false (by omega)
            go_wp2
            go_round
            case rel => exact ⟨q - 1, r + Y1, by congr 1; omega, by congr 1, by omega, by omega, Hst.out, by omega⟩
            case measure => simp [intOf]; omega
        · have fin : Hid (D = q) := by rw [hD.out]; exact dig_done U Y1 Y0 L1 q r c1 hq.out.1 (by rw [← hD.out]; exact hq.out.2) (by rw [← HT.out]; omega)
          go_wp2_with fail
          go_meet
          case rel => exact ⟨by rw [fin.out], rfl⟩
  case rest =>
    obtain ⟨rfl, rfl⟩ := hcut
    go_upto_block 2 with fail
    go_cut [16, 18] (fun _ a w2 => a = .int .u64 (D2 : Nat) ∧ w2 = wc)
    case first =>
      go_wp2_with fail
      go_loop [16, 18] (fun b a => ∃ q r : Nat, a = .int .u64 q ∧ b = .int .u64 r ∧ r < 4294967296 ∧ q ≤ 4294967297 ∧ Hid (q * Y1 + r = U2 ∧ D2 ≤ q)) (fun _ a => (intOf a).toNat)
      case atStart => exact ⟨Q2, R2, rfl, by rw [show ((U2 : Int) - (P2 : Int)) = (R2 : Int) from by have := hid2.out.2.1; omega], by omega, d4, hid2.out.1, by rw [hD2.out]; exact hid2.out.2.2⟩
      case round =>
        obtain ⟨q, r, rfl, rfl, r1, q1, hq⟩ := hrel
        by_cases hB : 4294967296 ≤ q
        · have hm : D2 < q := by rw [hD2.out]; exact dig_more U2 Y1 Y0 L0 q r (by rw [← hYY.out]; omega) (by omega) hq.out.1 (Or.inl hB)
          have hBd : decide ((4294967296 : Int) ≤ (q : Int)) = true := decide_eq_true (by omega)
          have hst := dig_step q r Y1 U2 (by omega) hq.out.1
          have Hst : Hid _ := hst
          clear hst
          by_cases hs : 4294967296 ≤ r + Y1
          · have fin : Hid (D2 = q - 1) := by rw [hD2.out]; exact dig_stop U2 Y1 Y0 L0 (q - 1) (r + Y1) c1 c3 Hst.out (by rw [← hD2.out]; omega) (by omega) hs
            have hsd : decide ((4294967296 : Int) ≤ (r : Int) + (Y1 : Int)) = true := decide_eq_true (by omega)
            go_wp2_with fail
            go_meet
            case rel => exact ⟨by rw [fin.out]; congr 1; omega, rfl⟩
          · have hsd : decide ((4294967296 : Int) ≤ (r : Int) + (Y1 : Int)) = false := decide_eq_false (by omega)
            go_wp2
            go_round
            case rel => exact ⟨q - 1, r + Y1, by congr 1; omega, by congr 1, by omega, by omega, Hst.out, by omega⟩
            case measure => simp [intOf]; omega
        · have pb : q * Y0 < 18446744073709551616 := by
            have := Nat.mul_le_mul (show q ≤ 4294967295 by omega) (show Y0 ≤ 4294967295 by omega)
            omega
          obtain ⟨T, hT⟩ : ∃ T : Nat, T = q * Y0 := ⟨_, rfl⟩
          have eT : (q : Int) * (Y0 : Int) = (T : Int) := by rw [hT, Int.natCast_mul]
          rw [← hT] at pb
          have HT : Hid _ := hT
          clear hT
          have hBd : decide ((4294967296 : Int) ≤ (q : Int)) = false := decide_eq_false (by omega)
          by_cases ht : 4294967296 * r + L0 < T
          · have hm : D2 < q := by rw [hD2.out]; exact dig_more U2 Y1 Y0 L0 q r (by rw [← hYY.out]; omega) (by omega) hq.out.1 (Or.inr (by rw [← HT.out]; exact ht))
            have hst := dig_step q r Y1 U2 (by omega) hq.out.1
            have Hst : Hid _ := hst
            clear hst
            by_cases hs : 4294967296 ≤ r + Y1
            · have fin : Hid (D2 = q - 1) := by rw [hD2.out]; exact dig_stop U2 Y1 Y0 L0 (q - 1) (r + Y1) c1 c3 Hst.out (by rw [← hD2.out]; omega) (by omega) hs
              have hsd : decide ((4294967296 : Int) ≤ (r : Int) + (Y1 : Int)) = true := decide_eq_true (by omega)
              go_wp2_with fail
              go_meet
              case rel => exact ⟨by rw [fin.out]; congr 1; omega, rfl⟩
            · have hsd : decide ((4294967296 : Int) ≤ (r : Int) + (Y1 : Int)) = false := decide_eq_false (by omega)
              go_wp2
              go_round
              case rel => exact ⟨q - 1, r + Y1, by congr 1; omega, by congr 1, by omega, by omega, Hst.out, by omega⟩
              case measure => simp [intOf]; omega
          · have fin : Hid (D2 = q) := by rw [hD2.out]; exact dig_done U2 Y1 Y0 L0 q r c1 hq.out.1 (by rw [← hD2.out]; exact hq.out.2) (by rw [← HT.out]; omega)
            go_wp2_with fail
            go_meet
            case rel => exact ⟨by rw [fin.out], rfl⟩
    case rest =>
      obtain ⟨rfl, rfl⟩ := hcut
      go_wp2
      go_ret2
      exact ⟨_, ret_fst hfin.out.symm, Grown.refl _⟩
end Go.Proofs.Ytjiiejagnlanoaa
