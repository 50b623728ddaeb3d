/- What each function of the program that the laws call answers, and that it leaves the world as it was. -/
import Derived.Test.YtiogekddoikilaaRows
import Derived.Test.YtiogekddoikilaaPlain
import Derived.WalkKit
import Derived.WalkSpells
import Derived.WalkLawsBesides
namespace Go.Proofs.Ytiogekddoikilaa
open Go.RowKit

theorem ret_int {k : IntKind} {a b : Int} (h : a = b) : Ending.returned (.int k a) = .returned (.int k b) := by rw [h]

theorem mx_walk (X : Nat) (hX : X < 18446744073709551616) :
    bits BinOp.xor IntKind.u64 (IntKind.u64.wrap (bits BinOp.xor IntKind.u64 (IntKind.u64.wrap (bits BinOp.xor IntKind.u64 (X : Int) ((X : Int) / 1073741824) * 13787848793156543929)) (IntKind.u64.wrap (bits BinOp.xor IntKind.u64 (X : Int) ((X : Int) / 1073741824) * 13787848793156543929) / 134217728) * 10723151780598845931)) (IntKind.u64.wrap (bits BinOp.xor IntKind.u64 (IntKind.u64.wrap (bits BinOp.xor IntKind.u64 (X : Int) ((X : Int) / 1073741824) * 13787848793156543929)) (IntKind.u64.wrap (bits BinOp.xor IntKind.u64 (X : Int) ((X : Int) / 1073741824) * 13787848793156543929) / 134217728) * 10723151780598845931) / 2147483648) = (mx X : Int) := by
  have e1 : IntKind.u64.wrap (bits BinOp.xor IntKind.u64 (X : Int) ((X : Int) / 1073741824) * 13787848793156543929) = (mstep X 1073741824 13787848793156543929 : Int) := mixStep_u64 X 1073741824 13787848793156543929 hX
  rw [e1]
  have e2 : IntKind.u64.wrap (bits BinOp.xor IntKind.u64 (mstep X 1073741824 13787848793156543929 : Int) ((mstep X 1073741824 13787848793156543929 : Int) / 134217728) * 10723151780598845931) = (mstep (mstep X 1073741824 13787848793156543929) 134217728 10723151780598845931 : Int) := mixStep_u64 (mstep X 1073741824 13787848793156543929) 134217728 10723151780598845931 (mstep_lt _ _ _)
  rw [e2]
  exact xorShift_u64 (mstep (mstep X 1073741824 13787848793156543929) 134217728 10723151780598845931) 2147483648 (mstep_lt _ _ _)

theorem mix_any (X : Nat) (w : World) (hX : X < 18446744073709551616) :
    Calls Try.prog 13 #[.int .u64 X] w fun e w' => e = .returned (.int .u64 (mx X)) ∧ w' = w := by
  go_enter Try.func13, Try.ntmps13
  go_wp2
  go_ret
  exact ⟨ret_int (mx_walk X hX), rfl⟩
theorem mixr_any (X : Nat) (w : World) (hX : X < 18446744073709551616) :
    Calls Try.prog 14 #[.int .u64 X] w fun e w' => e = .returned (.int .u64 (mx X)) ∧ w' = w := by
  go_enter Try.func14, Try.ntmps14
  go_wp2
  go_ret
  exact ⟨ret_int (mx_walk X hX), rfl⟩

/-- Place, as a number -/
def plc (h n : Int) : Int := if n < 1 then 0 else h % n
theorem plc_no {h n : Int} (hn : n < 1) : plc h n = 0 := by simp [plc, hn]
theorem plc_yes {h n : Int} (hn : ¬ n < 1) : plc h n = h % n := by simp [plc, hn]
theorem place_any (h n : Int) (w : World) (h0 : 0 ≤ h) (h1 : h < 18446744073709551616) (hn : n ≤ 9223372036854775807) :
    Calls Try.prog 15 #[.int .u64 h, .int .i64 n] w fun e w' => e = .returned (.int .i64 (plc h n)) ∧ w' = w := by
  by_cases hc : n < 1
  · rw [plc_no hc]
    go_enter Try.func15, Try.ntmps15
    go_wp2
    go_ret
    exact ⟨rfl, rfl⟩
  · rw [plc_yes hc]
    have b0 : 0 ≤ h % n := Int.emod_nonneg _ (by omega)
    have b1 : h % n < n := Int.emod_lt_of_pos _ (by omega)
    go_enter Try.func15, Try.ntmps15
    go_wp2
    go_ret
    exact ⟨rfl, rfl⟩
theorem placer_any (h n : Int) (w : World) (h0 : 0 ≤ h) (h1 : h < 18446744073709551616) (hn : n ≤ 9223372036854775807) :
    Calls Try.prog 16 #[.int .u64 h, .int .i64 n] w fun e w' => e = .returned (.int .i64 (plc h n)) ∧ w' = w := by
  by_cases hc : n < 1
  · rw [plc_no hc]
    go_enter Try.func16, Try.ntmps16
    go_wp2
    go_ret
    exact ⟨rfl, rfl⟩
  · rw [plc_yes hc]
    have b0 : 0 ≤ h % n := Int.emod_nonneg _ (by omega)
    have b1 : h % n < n := Int.emod_lt_of_pos _ (by omega)
    go_enter Try.func16, Try.ntmps16
    go_wp2
    go_ret
    exact ⟨rfl, rfl⟩

/-- Sampled -/
def smp (h r : Int) : Bool := decide (h % 16777216 < r)
theorem sampled_any (h r : Int) (w : World) (h0 : 0 ≤ h) (h1 : h < 18446744073709551616) :
    Calls Try.prog 17 #[.int .u64 h, .int .i64 r] w fun e w' => e = .returned (.bool (smp h r)) ∧ w' = w := by
  go_enter Try.func17, Try.ntmps17
  go_wp2
  go_ret
  exact ⟨rfl, rfl⟩
theorem and24 (h : Int) (h0 : 0 ≤ h) (h1 : h < 18446744073709551616) : bits .and .u64 h 16777215 = h % 16777216 := by
  rw [u64_and h 16777215 h0 h1 (by decide) (by decide)]
  have := Nat.and_two_pow_sub_one_eq_mod h.toNat 24
  simp at this
  have e : (16777215 : Int).toNat = 16777215 := rfl
  rw [e, this]; omega
theorem sampledr_any (h r : Int) (w : World) (h0 : 0 ≤ h) (h1 : h < 18446744073709551616) :
    Calls Try.prog 18 #[.int .u64 h, .int .i64 r] w fun e w' => e = .returned (.bool (smp h r)) ∧ w' = w := by
  have e := and24 h h0 h1
  go_enter Try.func18, Try.ntmps18
  go_wp2
  go_ret
  exact ⟨rfl, rfl⟩

/-! ### undo -/
def und (Y s : Nat) : Nat → Nat
  | 0 => Y
  | j + 1 => Y ^^^ und Y s j / s
theorem und_lt (Y s : Nat) (hY : Y < 18446744073709551616) : ∀ j, und Y s j < 18446744073709551616
  | 0 => hY
  | j + 1 => Nat.xor_lt_two_pow (n := 64) hY (Nat.lt_of_le_of_lt (Nat.div_le_self _ _) (und_lt Y s hY j))
theorem und_step (Y s j : Nat) (hY : Y < 18446744073709551616) : bits BinOp.xor IntKind.u64 (Y : Int) ((und Y s j : Int) / (s : Int)) = (und Y s (j + 1) : Int) := by
  have d : ((und Y s j : Int) / (s : Int)) = ((und Y s j / s : Nat) : Int) := (Int.natCast_ediv _ _).symm
  rw [d, bits_xor_u64_nat _ _ hY (Nat.lt_of_le_of_lt (Nat.div_le_self _ _) (und_lt Y s hY j))]
  rfl
theorem und_3 (Y s : Nat) : und Y s 3 = undo3 Y s := rfl

theorem undo31_any (Y : Nat) (w : World) (hY : Y < 18446744073709551616) :
    Calls Try.prog 19 #[.int .u64 Y, .int .u64 31] w fun e w' => e = .returned (.int .u64 (undo3 Y 2147483648)) ∧ w' = w := by
  go_enter Try.func19, Try.ntmps19
  go_wp2
  go_loop [5, 6] (fun x i => ∃ j : Nat, j ≤ 3 ∧ i = .int .u64 (31 * (j : Int)) ∧ x = .int .u64 (und Y 2147483648 j)) (fun _ i => (100 - intOf i).toNat)
  case atStart => exact ⟨0, by omega, rfl, rfl⟩
  case round =>
    obtain ⟨j, hj, rfl, rfl⟩ := hrel
    have hb := und_lt Y 2147483648 hY j
    have hs : Hid (bits BinOp.xor IntKind.u64 (Y : Int) ((und Y 2147483648 j : Int) / 2147483648) = (und Y 2147483648 (j + 1) : Int)) := und_step Y 2147483648 j hY
    by_cases hlt : j < 3
    · go_wp2
      go_round
      case rel => exact ⟨j + 1, by omega, by go_num, by rw [hs.out]⟩
      case measure => simp [intOf]; omega
    · have ej : j = 3 := by omega
      subst ej
      go_wp2
      go_ret
      exact ⟨rfl, rfl⟩

theorem undo27_any (Y : Nat) (w : World) (hY : Y < 18446744073709551616) :
    Calls Try.prog 19 #[.int .u64 Y, .int .u64 27] w fun e w' => e = .returned (.int .u64 (undo3 Y 134217728)) ∧ w' = w := by
  go_enter Try.func19, Try.ntmps19
  go_wp2
  go_loop [5, 6] (fun x i => ∃ j : Nat, j ≤ 3 ∧ i = .int .u64 (27 * (j : Int)) ∧ x = .int .u64 (und Y 134217728 j)) (fun _ i => (100 - intOf i).toNat)
  case atStart => exact ⟨0, by omega, rfl, rfl⟩
  case round =>
    obtain ⟨j, hj, rfl, rfl⟩ := hrel
    have hb := und_lt Y 134217728 hY j
    have hs : Hid (bits BinOp.xor IntKind.u64 (Y : Int) ((und Y 134217728 j : Int) / 134217728) = (und Y 134217728 (j + 1) : Int)) := und_step Y 134217728 j hY
    by_cases hlt : j < 3
    · go_wp2
      go_round
      case rel => exact ⟨j + 1, by omega, by go_num, by rw [hs.out]⟩
      case measure => simp [intOf]; omega
    · have ej : j = 3 := by omega
      subst ej
      go_wp2
      go_ret
      exact ⟨rfl, rfl⟩

theorem undo30_any (Y : Nat) (w : World) (hY : Y < 18446744073709551616) :
    Calls Try.prog 19 #[.int .u64 Y, .int .u64 30] w fun e w' => e = .returned (.int .u64 (undo3 Y 1073741824)) ∧ w' = w := by
  go_enter Try.func19, Try.ntmps19
  go_wp2
  go_loop [5, 6] (fun x i => ∃ j : Nat, j ≤ 3 ∧ i = .int .u64 (30 * (j : Int)) ∧ x = .int .u64 (und Y 1073741824 j)) (fun _ i => (100 - intOf i).toNat)
  case atStart => exact ⟨0, by omega, rfl, rfl⟩
  case round =>
    obtain ⟨j, hj, rfl, rfl⟩ := hrel
    have hb := und_lt Y 1073741824 hY j
    have hs : Hid (bits BinOp.xor IntKind.u64 (Y : Int) ((und Y 1073741824 j : Int) / 1073741824) = (und Y 1073741824 (j + 1) : Int)) := und_step Y 1073741824 j hY
    by_cases hlt : j < 3
    · go_wp2
      go_round
      case rel => exact ⟨j + 1, by omega, by go_num, by rw [hs.out]⟩
      case measure => simp [intOf]; omega
    · have ej : j = 3 := by omega
      subst ej
      go_wp2
      go_ret
      exact ⟨rfl, rfl⟩

/-! ### Hash -/
theorem take_snoc (s : ByteArray) (k : Nat) (h : k < s.size) : s.data.toList.take (k + 1) = s.data.toList.take k ++ [s[k]] := by
  rw [List.take_succ_eq_append_getElem (by simpa using h)]; rfl
theorem hstep_walk (H : Nat) (c : UInt8) (hH : H < 18446744073709551616) :
    ∃ X : Nat, X < 18446744073709551616 ∧ IntKind.u64.wrap (bits BinOp.xor IntKind.u64 (H : Int) (c.toNat : Int) + 11400714819323198485) = (X : Int) ∧ hstep H c = mx X := by
  refine ⟨((H ^^^ c.toNat) + 11400714819323198485) % 18446744073709551616, Nat.mod_lt _ (by decide), ?_, by rw [hstep]⟩
  rw [bits_xor_u64_nat _ _ hH (Nat.lt_trans c.toNat_lt (by decide)), IntKind.wrap_u64]
  omega

theorem hash_any (S : Nat) (s : ByteArray) (w : World) (hS : S < 18446744073709551616) (hs : s.size ≤ maxLen) :
    Calls Try.prog 11 #[.int .u64 S, .string s] w fun e w' => e = .returned (.int .u64 (hsh S s.size s.data.toList)) ∧ w' = w := by
  unfold maxLen at hs
  have hx : S ^^^ s.size < 18446744073709551616 := Nat.xor_lt_two_pow (n := 64) hS (by omega)
  have e0 := bits_xor_u64_nat S s.size hS (by omega)
  go_enter Try.func11, Try.ntmps11
  go_wp2_with (go_at_call 13; refine (mix_any _ _ hx).mono ?_; rintro e w' ⟨rfl, rfl⟩)
  clear e0
  go_loop [5, 15] (fun h i => ∃ k : Nat, k ≤ s.size ∧ i = .int .i64 k ∧ h = .int .u64 (hsh S s.size (s.data.toList.take k))) (fun _ i => s.size - (intOf i).toNat)
  case atStart => exact ⟨0, Nat.zero_le _, rfl, by rw [hsh_nil]⟩
  case round =>
    obtain ⟨k, hk, rfl, rfl⟩ := hrel
    have hH := hsh_lt S s.size (s.data.toList.take k)
    by_cases hlt : k < s.size
    · have HS : Hid (hsh S s.size (s.data.toList.take (k + 1)) = hstep (hsh S s.size (s.data.toList.take k)) s[k]) := by rw [take_snoc s k hlt]; exact hsh_snoc _ _ _ _
      generalize hsh S s.size (s.data.toList.take k) = H at *
      obtain ⟨X, hml, hst, hX⟩ := hstep_walk H s[k] hH
      rw [hX] at HS
      clear hX
      have hc : s[k].toNat < 256 := s[k].toNat_lt
      go_wp2_with (go_at_call 13; refine (mix_any X _ hml).mono ?_; rintro e w' ⟨rfl, rfl⟩)
      go_round
      case rel => exact ⟨k + 1, by omega, by go_num, by rw [HS.out]⟩
      case measure => simp [intOf]; omega
    · go_wp2
      go_ret
      exact ⟨ret_int (by rw [List.take_of_length_le (by simp; omega)]), rfl⟩

theorem hashr_any (S : Nat) (s : ByteArray) (w : World) (hS : S < 18446744073709551616) (hs : s.size ≤ maxLen) :
    Calls Try.prog 12 #[.int .u64 S, .string s] w fun e w' => e = .returned (.int .u64 (hsh S s.size s.data.toList)) ∧ w' = w := by
  unfold maxLen at hs
  have hx : S ^^^ s.size < 18446744073709551616 := Nat.xor_lt_two_pow (n := 64) hS (by omega)
  have e0 := bits_xor_u64_nat S s.size hS (by omega)
  go_enter Try.func12, Try.ntmps12
  go_wp2_with (go_at_call 14; refine (mixr_any _ _ hx).mono ?_; rintro e w' ⟨rfl, rfl⟩)
  clear e0
  go_loop [5, 6] (fun h i => ∃ k : Nat, k ≤ s.size ∧ i = .int .i64 k ∧ h = .int .u64 (hsh S s.size (s.data.toList.take k))) (fun _ i => s.size - (intOf i).toNat)
  case atStart => exact ⟨0, Nat.zero_le _, rfl, by rw [hsh_nil]⟩
  case round =>
    obtain ⟨k, hk, rfl, rfl⟩ := hrel
    have hH := hsh_lt S s.size (s.data.toList.take k)
    by_cases hlt : k < s.size
    · have HS : Hid (hsh S s.size (s.data.toList.take (k + 1)) = hstep (hsh S s.size (s.data.toList.take k)) s[k]) := by rw [take_snoc s k hlt]; exact hsh_snoc _ _ _ _
      generalize hsh S s.size (s.data.toList.take k) = H at *
      obtain ⟨X, hml, hst, hX⟩ := hstep_walk H s[k] hH
      rw [hX] at HS
      clear hX
      have hc : s[k].toNat < 256 := s[k].toNat_lt
      go_wp2_with (go_at_call 14; refine (mixr_any X _ hml).mono ?_; rintro e w' ⟨rfl, rfl⟩)
      go_round
      case rel => exact ⟨k + 1, by omega, by go_num, by rw [HS.out]⟩
      case measure => simp [intOf]; omega
    · go_wp2
      go_ret
      exact ⟨ret_int (by rw [List.take_of_length_le (by simp; omega)]), rfl⟩

/-! ### Key -/
/-- a byte that a key may have -/
def kb (n : Int) : Bool := decide ((97 ≤ n ∧ n ≤ 122) ∨ (65 ≤ n ∧ n ≤ 90) ∨ (48 ≤ n ∧ n ≤ 57) ∨ n = 95 ∨ n = 45 ∨ n = 46 ∨ n = 47 ∨ n = 58)
theorem ret_bool {a b : Bool} (h : a = b) : Ending.returned (.bool a) = .returned (.bool b) := by rw [h]
theorem kb_t {n : Int} (h : (97 ≤ n ∧ n ≤ 122) ∨ (65 ≤ n ∧ n ≤ 90) ∨ (48 ≤ n ∧ n ≤ 57) ∨ n = 95 ∨ n = 45 ∨ n = 46 ∨ n = 47 ∨ n = 58) : kb n = true := decide_eq_true h
theorem kb_f {n : Int} (h : ¬ ((97 ≤ n ∧ n ≤ 122) ∨ (65 ≤ n ∧ n ≤ 90) ∨ (48 ≤ n ∧ n ≤ 57) ∨ n = 95 ∨ n = 45 ∨ n = 46 ∨ n = 47 ∨ n = 58)) : kb n = false := decide_eq_false h
theorem keyByte_any (n : Int) (w : World) (h0 : 0 ≤ n) (h1 : n ≤ 255) :
    Calls Try.prog 20 #[.int .u8 n] w fun e w' => e = .returned (.bool (kb n)) ∧ w' = w := by
  go_enter Try.func20, Try.ntmps20
  go_wp2
  all_goals
    go_ret
    refine ⟨?_, rfl⟩
    first
      | refine ret_bool (kb_t ?_).symm
      | refine ret_bool (kb_f ?_).symm
    try simp only [beq_iff_eq, beq_eq_false_iff_ne, ne_eq] at *
    omega

def allk (l : List UInt8) : Bool := l.all fun c => kb c.toNat
def keyB (s : ByteArray) : Bool := decide (1 ≤ s.size ∧ s.size ≤ 24) && allk s.data.toList
theorem keyB_no {s : ByteArray} (h : ¬ (1 ≤ s.size ∧ s.size ≤ 24)) : keyB s = false := by
  unfold keyB; rw [decide_eq_false h]; rfl
theorem keyB_bad {s : ByteArray} {k : Nat} (hk : k < s.size) (h : kb s[k].toNat = false) : keyB s = false := by
  unfold keyB
  have : allk s.data.toList = false := by
    unfold allk
    rw [List.all_eq_false]
    exact ⟨s[k], List.getElem_mem (by simpa using hk), by simp [h]⟩
  rw [this, Bool.and_false]
theorem keyB_yes {s : ByteArray} (h : 1 ≤ s.size ∧ s.size ≤ 24) (ha : allk (s.data.toList.take s.size) = true) : keyB s = true := by
  rw [List.take_of_length_le (by simp)] at ha
  unfold keyB; rw [decide_eq_true h, ha]; rfl
theorem allk_snoc {s : ByteArray} {k : Nat} (hk : k < s.size) (ha : allk (s.data.toList.take k) = true) (h : kb s[k].toNat = true) : allk (s.data.toList.take (k + 1)) = true := by
  rw [take_snoc s k hk]; unfold allk at *; simp [List.all_append, ha, h]

theorem key_any (s : ByteArray) (w : World) (hs : s.size ≤ maxLen) :
    Calls Try.prog 8 #[.string s] w fun e w' => e = .returned (.bool (keyB s)) ∧ w' = w := by
  unfold maxLen at hs
  by_cases hz : s.size < 1
  · go_enter Try.func8, Try.ntmps8
    go_wp2
    go_ret
    exact ⟨ret_bool (keyB_no (by omega)).symm, rfl⟩
  by_cases hl : 24 < s.size
  · go_enter Try.func8, Try.ntmps8
    go_wp2
    go_ret
    exact ⟨ret_bool (keyB_no (by omega)).symm, rfl⟩
  have hz' : decide ((s.size : Int) < 1) = false := decide_eq_false (by omega)
  have hl' : decide (24 < (s.size : Int)) = false := decide_eq_false (by omega)
  go_enter Try.func8, Try.ntmps8
  go_wp2
  clear hz' hl'
  go_loop [14] (fun i => ∃ k : Nat, k ≤ s.size ∧ i = .int .i64 k ∧ Hid (allk (s.data.toList.take k) = true)) (fun i => s.size - (intOf i).toNat)
  case atStart => exact ⟨0, Nat.zero_le _, rfl, rfl⟩
  case round =>
    obtain ⟨k, hk, rfl, ha⟩ := hrel
    by_cases hlt : k < s.size
    · have hc : s[k].toNat < 256 := s[k].toNat_lt
      by_cases hkb : kb s[k].toNat = true
      · go_wp2_with (go_at_call 20; refine (keyByte_any _ _ (by omega) (by omega)).mono ?_; rintro e w' ⟨rfl, rfl⟩)
        go_round
        case rel => exact ⟨k + 1, by omega, by go_num, allk_snoc hlt ha hkb⟩
        case measure => simp [intOf]; omega
      · simp only [Bool.not_eq_true] at hkb
        go_wp2_with (go_at_call 20; refine (keyByte_any _ _ (by omega) (by omega)).mono ?_; rintro e w' ⟨rfl, rfl⟩)
        go_ret
        exact ⟨ret_bool (keyB_bad hlt hkb).symm, rfl⟩
    · have ek : Hid (k = s.size) := show k = s.size by omega
      go_wp2
      go_ret
      exact ⟨ret_bool (keyB_yes (by omega) (by rw [← ek.out]; exact ha)).symm, rfl⟩

set_option linter.unusedSimpArgs false in
set_option maxHeartbeats 1000000 in
theorem keyr_any (s : ByteArray) (w : World) (hs : s.size ≤ maxLen) :
    Calls Try.prog 9 #[.string s] w fun e w' => e = .returned (.bool (keyB s)) ∧ w' = w := by
  unfold maxLen at hs
  go_enter Try.func9, Try.ntmps9
  go_wp2
  go_loop [3] (fun i => ∃ k : Nat, k ≤ s.size ∧ k ≤ 25 ∧ i = .int .i64 k ∧ Hid (allk (s.data.toList.take k) = true)) (fun i => s.size - (intOf i).toNat)
  case atStart => exact ⟨0, Nat.zero_le _, by omega, rfl, rfl⟩
  case round =>
    obtain ⟨k, hk, hk2, rfl, ha⟩ := hrel
    by_cases hlt : k < s.size
    · by_cases h25 : k ≤ 24
      · have hc : s[k].toNat < 256 := s[k].toNat_lt
        have fin : Hid (∀ n : Int, n = s[k].toNat → kb n = true → allk (s.data.toList.take (k + 1)) = true) := fun n hn h => allk_snoc hlt ha (by rw [← hn]; exact h)
        have bad : Hid (∀ n : Int, n = s[k].toNat → kb n = false → keyB s = false) := fun n hn h => keyB_bad hlt (by rw [← hn]; exact h)
        go_wp2
        all_goals first
          | (go_ret
             refine ⟨ret_bool (bad.out _ rfl (kb_f ?_)).symm, rfl⟩
             simp only [Bool.not_eq_true', Bool.not_eq_false', decide_eq_true_eq, decide_eq_false_iff_not, bne_iff_ne, ne_eq] at *
             omega)
          | (go_round
             case rel =>
               refine ⟨k + 1, by omega, by omega, by go_num, fin.out _ rfl (kb_t ?_)⟩
               try simp only [Bool.not_eq_true', Bool.not_eq_false', decide_eq_true_eq, decide_eq_false_iff_not, bne_iff_ne, bne_eq_false_iff_eq, ne_eq] at *
               omega
             case measure => simp [intOf]; omega)
      · go_wp2
        all_goals first
          | (go_ret; exact ⟨ret_bool (keyB_no (by omega)).symm, rfl⟩)
          | (go_ret; exact ⟨ret_bool ((decide_eq_false (by omega)).trans (keyB_no (by omega)).symm), rfl⟩)
    · have ek : Hid (k = s.size) := show k = s.size by omega
      by_cases hin1 : 1 ≤ s.size
      · by_cases hin2 : s.size ≤ 24
        · go_wp2
          go_ret
          exact ⟨ret_bool ((decide_eq_true (by omega)).trans (keyB_yes (by omega) (by rw [← ek.out]; exact ha)).symm), rfl⟩
        · go_wp2
          go_ret
          exact ⟨ret_bool ((decide_eq_false (by omega)).trans (keyB_no (by omega)).symm), rfl⟩
      · go_wp2
        go_ret
        exact ⟨ret_bool (keyB_no (by omega)).symm, rfl⟩

end Go.Proofs.Ytiogekddoikilaa
