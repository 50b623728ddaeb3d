/- Mix, Hash, Sampled, Clamp, Inc, Scale, the program's and the document's: what they answer. -/
import Derived.Test.YtfpndmgihhgjhaaRows
import Derived.WalkKit
import Derived.WalkSpells
import Derived.WalkLawsBesides
import Derived.Laws.BitsAllLaws
import Derived.Laws.MathBits
import Derived.Below
namespace Go.Proofs.Ytfpndmgihhgjhaa
open Go.RowKit

/-- one step of Mix -/
def mstep (X s C : Nat) : Nat := (X ^^^ X / s) * C % 18446744073709551616
/-- Mix -/
def mx (X : Nat) : Nat :=
  mstep (mstep X 1073741824 13787848793156543929) 134217728 10723151780598845931 ^^^ mstep (mstep X 1073741824 13787848793156543929) 134217728 10723151780598845931 / 2147483648
theorem mstep_lt (X s C : Nat) : mstep X s C < 18446744073709551616 := Nat.mod_lt _ (by decide)
theorem xs_lt (X s : Nat) (h : X < 18446744073709551616) : X ^^^ X / s < 18446744073709551616 :=
  Nat.xor_lt_two_pow (n := 64) h (Nat.lt_of_le_of_lt (Nat.div_le_self _ _) h)
theorem mx_lt (X : Nat) : mx X < 18446744073709551616 := xs_lt _ _ (mstep_lt _ _ _)
/-- one byte more in Hash -/
def hstep (h : Nat) (c : UInt8) : Nat := mx (((h ^^^ c.toNat) + 11400714819323198485) % 18446744073709551616)
/-- Hash -/
def hsh (seed n : Nat) (l : List UInt8) : Nat := l.foldl hstep (mx (seed ^^^ n))
theorem hstep_lt (h : Nat) (c : UInt8) : hstep h c < 18446744073709551616 := mx_lt _
theorem foldl_lt (l : List UInt8) : ∀ h, h < 18446744073709551616 → l.foldl hstep h < 18446744073709551616 := by
  induction l with
  | nil => intro h hh; exact hh
  | cons c r ih => intro h _; exact ih _ (hstep_lt _ _)
theorem hsh_lt (seed n : Nat) (l : List UInt8) : hsh seed n l < 18446744073709551616 := foldl_lt _ _ (mx_lt _)
theorem hsh_snoc (seed n : Nat) (l : List UInt8) (c : UInt8) : hsh seed n (l ++ [c]) = hstep (hsh seed n l) c := by
  unfold hsh; rw [List.foldl_append, List.foldl_cons, List.foldl_nil]
theorem hsh_nil (seed n : Nat) (l : List UInt8) : hsh seed n (l.take 0) = mx (seed ^^^ n) := by
  unfold hsh; rw [List.take_zero, List.foldl_nil]
theorem ret_int {k : IntKind} {a b : Int} (h : a = b) : Ending.returned (.int k a) = .returned (.int k b) := by rw [h]

theorem mx_walk (X : Nat) (hX : X < 18446744073709551616) :
    bits BinOp.xor IntKind.u64 (IntKind.u64.wrap (bits BinOp.xor IntKind.u64 (IntKind.u64.wrap (bits BinOp.xor IntKind.u64 (X : Int) ((X : Int) / 1073741824) * 13787848793156543929)) (IntKind.u64.wrap (bits BinOp.xor IntKind.u64 (X : Int) ((X : Int) / 1073741824) * 13787848793156543929) / 134217728) * 10723151780598845931)) (IntKind.u64.wrap (bits BinOp.xor IntKind.u64 (IntKind.u64.wrap (bits BinOp.xor IntKind.u64 (X : Int) ((X : Int) / 1073741824) * 13787848793156543929)) (IntKind.u64.wrap (bits BinOp.xor IntKind.u64 (X : Int) ((X : Int) / 1073741824) * 13787848793156543929) / 134217728) * 10723151780598845931) / 2147483648) = (mx X : Int) := by
  have e1 : IntKind.u64.wrap (bits BinOp.xor IntKind.u64 (X : Int) ((X : Int) / 1073741824) * 13787848793156543929) = (mstep X 1073741824 13787848793156543929 : Int) := mixStep_u64 X 1073741824 13787848793156543929 hX
  rw [e1]
  have e2 : IntKind.u64.wrap (bits BinOp.xor IntKind.u64 (mstep X 1073741824 13787848793156543929 : Int) ((mstep X 1073741824 13787848793156543929 : Int) / 134217728) * 10723151780598845931) = (mstep (mstep X 1073741824 13787848793156543929) 134217728 10723151780598845931 : Int) := mixStep_u64 (mstep X 1073741824 13787848793156543929) 134217728 10723151780598845931 (mstep_lt _ _ _)
  rw [e2]
  exact xorShift_u64 (mstep (mstep X 1073741824 13787848793156543929) 134217728 10723151780598845931) 2147483648 (mstep_lt _ _ _)

theorem mix_any (X : Nat) (w : World) (hX : X < 18446744073709551616) :
    Calls Try.prog 27 #[.int .u64 X] w fun e w' => e = .returned (.int .u64 (mx X)) ∧ w' = w := by
  go_enter Try.func27, Try.ntmps27
  go_wp2
  go_ret
  exact ⟨ret_int (mx_walk X hX), rfl⟩

theorem take_snoc (s : ByteArray) (k : Nat) (h : k < s.size) : s.data.toList.take (k + 1) = s.data.toList.take k ++ [s[k]] := by
  rw [List.take_succ_eq_append_getElem (by simpa using h)]; rfl
theorem hstep_walk (H : Nat) (c : UInt8) (hH : H < 18446744073709551616) :
    ∃ X : Nat, X < 18446744073709551616 ∧ IntKind.u64.wrap (bits BinOp.xor IntKind.u64 (H : Int) (c.toNat : Int) + 11400714819323198485) = (X : Int) ∧ hstep H c = mx X := by
  refine ⟨((H ^^^ c.toNat) + 11400714819323198485) % 18446744073709551616, Nat.mod_lt _ (by decide), ?_, by rw [hstep]⟩
  rw [bits_xor_u64_nat _ _ hH (Nat.lt_trans c.toNat_lt (by decide)), IntKind.wrap_u64]
  omega

theorem hash_any (S : Nat) (s : ByteArray) (w : World) (hS : S < 18446744073709551616) (hs : s.size ≤ maxLen) :
    Calls Try.prog 22 #[.int .u64 S, .string s] w fun e w' => e = .returned (.int .u64 (hsh S s.size s.data.toList)) ∧ w' = w := by
  unfold maxLen at hs
  have hx : S ^^^ s.size < 18446744073709551616 := Nat.xor_lt_two_pow (n := 64) hS (by omega)
  have e0 := bits_xor_u64_nat S s.size hS (by omega)
  go_enter Try.func22, Try.ntmps22
  go_wp2_with (go_at_call 27; refine (mix_any _ _ hx).mono ?_; rintro e w' ⟨rfl, rfl⟩)
  clear e0
  go_loop [5, 15] (fun h i => ∃ k : Nat, k ≤ s.size ∧ i = .int .i64 k ∧ h = .int .u64 (hsh S s.size (s.data.toList.take k))) (fun _ i => s.size - (intOf i).toNat)
  case atStart => exact ⟨0, Nat.zero_le _, rfl, by rw [hsh_nil]⟩
  case round =>
    obtain ⟨k, hk, rfl, rfl⟩ := hrel
    have hH := hsh_lt S s.size (s.data.toList.take k)
    by_cases hlt : k < s.size
    · have HS : Hid (hsh S s.size (s.data.toList.take (k + 1)) = hstep (hsh S s.size (s.data.toList.take k)) s[k]) := by rw [take_snoc s k hlt]; exact hsh_snoc _ _ _ _
      generalize hsh S s.size (s.data.toList.take k) = H at *
      obtain ⟨X, hml, hst, hX⟩ := hstep_walk H s[k] hH
      rw [hX] at HS
      clear hX
      have hc : s[k].toNat < 256 := s[k].toNat_lt
      go_wp2_with (go_at_call 27; refine (mix_any X _ hml).mono ?_; rintro e w' ⟨rfl, rfl⟩)
      go_round
      case rel => exact ⟨k + 1, by omega, by go_num, by rw [HS.out]⟩
      case measure => simp [intOf]; omega
    · go_wp2
      go_ret
      exact ⟨ret_int (by rw [List.take_of_length_le (by simp; omega)]), rfl⟩
/-! ### the document's -/
theorem mixr_any (X : Nat) (w : World) (hX : X < 18446744073709551616) :
    Calls Try.prog 28 #[.int .u64 X] w fun e w' => e = .returned (.int .u64 (mx X)) ∧ w' = w := by
  go_enter Try.func28, Try.ntmps28
  go_wp2
  go_ret
  exact ⟨ret_int (mx_walk X hX), rfl⟩

theorem hashr_any (S : Nat) (s : ByteArray) (w : World) (hS : S < 18446744073709551616) (hs : s.size ≤ maxLen) :
    Calls Try.prog 24 #[.int .u64 S, .string s] w fun e w' => e = .returned (.int .u64 (hsh S s.size s.data.toList)) ∧ w' = w := by
  unfold maxLen at hs
  have hx : S ^^^ s.size < 18446744073709551616 := Nat.xor_lt_two_pow (n := 64) hS (by omega)
  have e0 := bits_xor_u64_nat S s.size hS (by omega)
  go_enter Try.func24, Try.ntmps24
  go_wp2_with (go_at_call 28; refine (mixr_any _ _ hx).mono ?_; rintro e w' ⟨rfl, rfl⟩)
  clear e0
  go_loop [5, 6] (fun h i => ∃ k : Nat, k ≤ s.size ∧ i = .int .i64 k ∧ h = .int .u64 (hsh S s.size (s.data.toList.take k))) (fun _ i => s.size - (intOf i).toNat)
  case atStart => exact ⟨0, Nat.zero_le _, rfl, by rw [hsh_nil]⟩
  case round =>
    obtain ⟨k, hk, rfl, rfl⟩ := hrel
    have hH := hsh_lt S s.size (s.data.toList.take k)
    by_cases hlt : k < s.size
    · have HS : Hid (hsh S s.size (s.data.toList.take (k + 1)) = hstep (hsh S s.size (s.data.toList.take k)) s[k]) := by rw [take_snoc s k hlt]; exact hsh_snoc _ _ _ _
      generalize hsh S s.size (s.data.toList.take k) = H at *
      obtain ⟨X, hml, hst, hX⟩ := hstep_walk H s[k] hH
      rw [hX] at HS
      clear hX
      have hc : s[k].toNat < 256 := s[k].toNat_lt
      go_wp2_with (go_at_call 28; refine (mixr_any X _ hml).mono ?_; rintro e w' ⟨rfl, rfl⟩)
      go_round
      case rel => exact ⟨k + 1, by omega, by go_num, by rw [HS.out]⟩
      case measure => simp [intOf]; omega
    · go_wp2
      go_ret
      exact ⟨ret_int (by rw [List.take_of_length_le (by simp; omega)]), rfl⟩
/-- a key's number -/
def hs (seed : Nat) (k : ByteArray) : Nat := hsh seed k.size k.data.toList
theorem hs_lt (seed : Nat) (k : ByteArray) : hs seed k < 18446744073709551616 := hsh_lt _ _ _
theorem hash_key (k : ByteArray) (w : World) (hk : k.size ≤ 1000) :
    Calls Try.prog 22 #[.int .u64 21, .string k] w fun e w' => e = .returned (.int .u64 (hs 21 k : Nat)) ∧ w' = w := hash_any 21 k w (by omega) (by unfold maxLen; omega)
theorem hashr_key (k : ByteArray) (w : World) (hk : k.size ≤ 1000) :
    Calls Try.prog 24 #[.int .u64 21, .string k] w fun e w' => e = .returned (.int .u64 (hs 21 k : Nat)) ∧ w' = w := hashr_any 21 k w (by omega) (by unfold maxLen; omega)

/-! ### Sampled -/
/-- whether a key is taken by a rate -/
def tk (R : Nat) (k : ByteArray) : Bool := decide (hs 21 k % 16777216 < R)
theorem tk_mod (R : Nat) (k : ByteArray) : tk R k = decide (((hs 21 k : Nat) : Int) % 16777216 < (R : Int)) := by
  unfold tk
  by_cases h : hs 21 k % 16777216 < R
  · rw [decide_eq_true h, decide_eq_true (by omega)]
  · rw [decide_eq_false h, decide_eq_false (by omega)]
theorem tk_all (k : ByteArray) : tk 16777216 k = true := by unfold tk; simp; omega
theorem tk_none (k : ByteArray) : tk 0 k = false := by unfold tk; simp
theorem tk_up {R S : Nat} (h : R ≤ S) {k : ByteArray} (ht : tk R k = true) : tk S k = true := by unfold tk at *; simp at *; omega
theorem sampled_any (k : ByteArray) (R : Nat) (w : World) :
    Calls Try.prog 21 #[.int .u64 (hs 21 k : Nat), .int .i64 (R : Nat)] w fun e w' => e = .returned (.bool (tk R k)) ∧ w' = w := by
  have h1 := hs_lt 21 k
  rw [tk_mod]
  generalize hs 21 k = h at *
  go_enter Try.func21, Try.ntmps21
  go_wp2
  go_ret
  exact ⟨rfl, rfl⟩
theorem and24 (h : Int) (h0 : 0 ≤ h) (h1 : h < 18446744073709551616) : bits .and .u64 h 16777215 = h % 16777216 := by
  rw [u64_and h 16777215 h0 h1 (by decide) (by decide)]
  have := Nat.and_two_pow_sub_one_eq_mod h.toNat 24
  simp at this
  have e : (16777215 : Int).toNat = 16777215 := rfl
  rw [e, this]; omega
theorem sampledr_any (k : ByteArray) (R : Nat) (w : World) :
    Calls Try.prog 23 #[.int .u64 (hs 21 k : Nat), .int .i64 (R : Nat)] w fun e w' => e = .returned (.bool (tk R k)) ∧ w' = w := by
  have h1 := hs_lt 21 k
  rw [tk_mod]
  generalize hs 21 k = h at *
  have e := and24 h (by omega) (by omega)
  go_enter Try.func23, Try.ntmps23
  go_wp2
  go_ret
  exact ⟨rfl, rfl⟩

/-! ### Clamp, Inc -/
/-- a number, held within 0 and M -/
def held (M : Nat) (r : Int) : Nat := (min (max r 0) (M : Int)).toNat
theorem held_le (M : Nat) (r : Int) : held M r ≤ M := by unfold held; omega
theorem held_cast (M : Nat) (r : Int) : ((held M r : Nat) : Int) = min (max r 0) (M : Int) := by unfold held; omega
theorem clamp_any (M : Nat) (n : Int) (w : World) :
    Calls Try.prog 18 #[.int .i64 n, .int .i64 0, .int .i64 (M : Nat)] w fun e w' => e = .returned (.int .i64 (held M n : Nat)) ∧ w' = w := by
  rw [held_cast]
  go_enter Try.func18, Try.ntmps18
  go_wp2
  all_goals
    go_ret
    refine ⟨ret_int ?_, rfl⟩
    omega
theorem clampr_any (M : Nat) (n : Int) (w : World) :
    Calls Try.prog 19 #[.int .i64 n, .int .i64 0, .int .i64 (M : Nat)] w fun e w' => e = .returned (.int .i64 (held M n : Nat)) ∧ w' = w := by
  rw [held_cast]
  go_enter Try.func19, Try.ntmps19
  go_wp2
  all_goals
    go_ret
    refine ⟨ret_int ?_, rfl⟩
    omega
/-- one more, at most MaxCount -/
def up (n : Nat) : Nat := if n < 1099511627776 then n + 1 else n
theorem up_cast (n : Nat) : ((up n : Nat) : Int) = if (n : Int) < 1099511627776 then (n : Int) + 1 else (n : Int) := by unfold up; split <;> split <;> omega
theorem up_le {n : Nat} (h : n ≤ 1099511627776) : up n ≤ 1099511627776 := by unfold up; split <;> omega
theorem inc_gen (n m : Int) (w : World) (h0 : 0 ≤ n) (h1 : m ≤ 9223372036854775807) :
    Calls Try.prog 20 #[.int .i64 n, .int .i64 m] w fun e w' => e = .returned (.int .i64 (if n < m then n + 1 else n)) ∧ w' = w := by
  by_cases h : n < m
  · rw [if_pos h]
    go_enter Try.func20, Try.ntmps20
    go_wp2
    go_ret
    exact ⟨rfl, rfl⟩
  · rw [if_neg h]
    go_enter Try.func20, Try.ntmps20
    go_wp2
    go_ret
    exact ⟨rfl, rfl⟩
theorem inc_any (n : Nat) (w : World) :
    Calls Try.prog 20 #[.int .i64 (n : Nat), .int .i64 1099511627776] w fun e w' => e = .returned (.int .i64 (up n : Nat)) ∧ w' = w := by
  have h := inc_gen (n : Int) 1099511627776 w (by omega) (by omega)
  rw [← up_cast] at h
  exact h
theorem incr_gen (n m : Int) (w : World) (h0 : 0 ≤ n) (h1 : m ≤ 9223372036854775807) :
    Calls Try.prog 25 #[.int .i64 n, .int .i64 m] w fun e w' => e = .returned (.int .i64 (if n < m then n + 1 else n)) ∧ w' = w := by
  by_cases h : n < m
  · rw [if_pos h]
    go_enter Try.func25, Try.ntmps25
    go_wp2
    go_ret
    exact ⟨rfl, rfl⟩
  · rw [if_neg h]
    go_enter Try.func25, Try.ntmps25
    go_wp2
    go_ret
    exact ⟨rfl, rfl⟩
theorem incr_any (n : Nat) (w : World) :
    Calls Try.prog 25 #[.int .i64 (n : Nat), .int .i64 1099511627776] w fun e w' => e = .returned (.int .i64 (up n : Nat)) ∧ w' = w := by
  have h := incr_gen (n : Int) 1099511627776 w (by omega) (by omega)
  rw [← up_cast] at h
  exact h

/-! ### Scale, of numbers whose product is one word -/
theorem low32 (z : Int) (h0 : 0 ≤ z) (h1 : z < 18446744073709551616) : bits .and .u64 z 4294967295 = z % 4294967296 := and_low32 z h0 h1
theorem or_add (k x y : Int) (hk : 0 ≤ k) (hx : x = k * 4294967296) (hx1 : x < 18446744073709551616) (y0 : 0 ≤ y) (y1 : y < 4294967296) : bits .or .u64 x y = x + y := by
  obtain ⟨K, rfl⟩ := Int.eq_ofNat_of_zero_le hk
  obtain ⟨Y, rfl⟩ := Int.eq_ofNat_of_zero_le y0
  have ex : x = ((4294967296 * K : Nat) : Int) := by omega
  rw [ex, u64_or_nat _ _ (by omega) (by omega)]
  have h := Nat.two_pow_add_eq_or_of_lt (i := 32) (b := Y) (by omega) K
  have h2 : 4294967296 * K + Y = 4294967296 * K ||| Y := h
  rw [← h2]
  omega
/-- the upper word, out of the products of halves -/
theorem prod_hi (a b : Int) (ha0 : 0 ≤ a) (ha : a < 18446744073709551616) (hb0 : 0 ≤ b) (hb : b < 18446744073709551616) :
    IntKind.u64.wrap (IntKind.u64.wrap (IntKind.u64.wrap (a / 4294967296 * (b / 4294967296)) +
      IntKind.u64.wrap (IntKind.u64.wrap (a / 4294967296 * bits BinOp.and IntKind.u64 b 4294967295) + IntKind.u64.wrap (bits BinOp.and IntKind.u64 a 4294967295 * bits BinOp.and IntKind.u64 b 4294967295) / 4294967296) / 4294967296) +
      IntKind.u64.wrap (IntKind.u64.wrap (bits BinOp.and IntKind.u64 a 4294967295 * (b / 4294967296)) +
        bits BinOp.and IntKind.u64 (IntKind.u64.wrap (IntKind.u64.wrap (a / 4294967296 * bits BinOp.and IntKind.u64 b 4294967295) + IntKind.u64.wrap (bits BinOp.and IntKind.u64 a 4294967295 * bits BinOp.and IntKind.u64 b 4294967295) / 4294967296)) 4294967295) / 4294967296) = a * b / 18446744073709551616 ∧
    bits BinOp.or IntKind.u64 (IntKind.u64.wrap (IntKind.u64.wrap (IntKind.u64.wrap (bits BinOp.and IntKind.u64 a 4294967295 * (b / 4294967296)) +
        bits BinOp.and IntKind.u64 (IntKind.u64.wrap (IntKind.u64.wrap (a / 4294967296 * bits BinOp.and IntKind.u64 b 4294967295) + IntKind.u64.wrap (bits BinOp.and IntKind.u64 a 4294967295 * bits BinOp.and IntKind.u64 b 4294967295) / 4294967296)) 4294967295) * 4294967296))
      (bits BinOp.and IntKind.u64 (IntKind.u64.wrap (bits BinOp.and IntKind.u64 a 4294967295 * bits BinOp.and IntKind.u64 b 4294967295)) 4294967295) = a * b % 18446744073709551616 := by
  rw [low32 a ha0 ha, low32 b hb0 hb]
  have ex : a = a / 4294967296 * 4294967296 + a % 4294967296 := by omega
  have ey : b = b / 4294967296 * 4294967296 + b % 4294967296 := by omega
  have hxy : a * b = (a / 4294967296 * 4294967296 + a % 4294967296) * (b / 4294967296 * 4294967296 + b % 4294967296) := by rw [← ex, ← ey]
  rw [split_mul] at hxy
  have pA := prod_bound (a / 4294967296) (b / 4294967296) (by omega) (by omega) (by omega) (by omega)
  have pB := prod_bound (a / 4294967296) (b % 4294967296) (by omega) (by omega) (by omega) (by omega)
  have pC := prod_bound (a % 4294967296) (b % 4294967296) (by omega) (by omega) (by omega) (by omega)
  have pD := prod_bound (a % 4294967296) (b / 4294967296) (by omega) (by omega) (by omega) (by omega)
  rw [hxy]
  generalize a / 4294967296 * (b / 4294967296) = A at *
  generalize a / 4294967296 * (b % 4294967296) = B at *
  generalize a % 4294967296 * (b % 4294967296) = C at *
  generalize a % 4294967296 * (b / 4294967296) = D at *
  simp only [IntKind.wrap_u64]
  have eA : A % 18446744073709551616 = A := by omega
  have eB : B % 18446744073709551616 = B := by omega
  have eC : C % 18446744073709551616 = C := by omega
  have eD : D % 18446744073709551616 = D := by omega
  rw [eA, eB, eC, eD]
  have eM : (B + C / 4294967296) % 18446744073709551616 = B + C / 4294967296 := by omega
  rw [eM, low32 _ (by omega) (by omega), low32 C (by omega) (by omega)]
  constructor
  · omega
  · rw [or_add ((D + (B + C / 4294967296) % 4294967296) % 4294967296) _ _ (by omega) (by omega) (by omega) (by omega) (by omega)]
    omega
theorem ret_pair {k : IntKind} {a b c d : Int} (h : a = b) (h2 : c = d) : Ending.returned (.tuple #[.int k a, .int k c]) = .returned (.tuple #[.int k b, .int k d]) := by rw [h, h2]
theorem product_any (a b : Int) (ha0 : 0 ≤ a) (ha : a < 18446744073709551616) (hb0 : 0 ≤ b) (hb : b < 18446744073709551616) (w : World) :
    Calls Try.prog 29 #[.int .u64 a, .int .u64 b] w fun e w' => e = .returned (.tuple #[.int .u64 (a * b / 18446744073709551616), .int .u64 (a * b % 18446744073709551616)]) ∧ w' = w := by
  have h := prod_hi a b ha0 ha hb0 hb
  have H : Hid _ := h
  clear h
  go_enter Try.func29, Try.ntmps29
  go_wp2
  go_ret2
  exact ⟨ret_pair H.out.1 H.out.2, rfl⟩
theorem div_small (lo y : Int) (l0 : 0 ≤ lo) (l1 : lo < 18446744073709551616) (y0 : 1 ≤ y) (y1 : y < 18446744073709551616) (w : World) :
    Calls Try.prog 30 #[.int .u64 0, .int .u64 lo, .int .u64 y] w fun e w' => ∃ r, e = .returned (.tuple #[.int .u64 (lo / y), r]) ∧ Below w.heap.size w w' := by
  have g0 : (y == 0) = false := beq_eq_false_iff_ne.2 (by omega)
  have g1 : decide (y ≤ 0) = false := decide_eq_false (by omega)
  go_enter Try.func30, Try.ntmps30
  go_wp2
  go_region
  all_goals
    go_wp2
    go_ret2
    exact ⟨_, rfl, (Below.refl _ _).drew⟩
theorem scale_any (A R : Nat) (hA : A ≤ 1024) (hR : R ≤ 16777216) (w : World) :
    Calls Try.prog 26 #[.int .u64 (A : Nat), .int .u64 (R : Nat), .int .u64 16777216] w fun e w' => e = .returned (.int .u64 (A * R / 16777216 : Nat)) ∧ Below w.heap.size w w' := by
  have hp : A * R ≤ 1024 * 16777216 := Nat.mul_le_mul hA hR
  have hpr := fun W => product_any (A : Nat) (R : Nat) (by omega) (by omega) (by omega) (by omega) W
  rw [← Int.natCast_mul] at hpr
  generalize A * R = N at *
  have e1 : ((N : Nat) : Int) / 18446744073709551616 = 0 := by omega
  have e2 : ((N : Nat) : Int) % 18446744073709551616 = (N : Int) := by omega
  rw [e1, e2] at hpr
  have e3 : ((N / 16777216 : Nat) : Int) = (N : Int) / 16777216 := by omega
  rw [e3]
  go_enter Try.func26, Try.ntmps26
  go_wp2_with (first
    | (go_at_call 29; refine (hpr _).mono ?_; rintro e w1 ⟨rfl, rfl⟩; clear hpr)
    | (go_at_call 30; refine (div_small _ _ (by omega) (by omega) (by omega) (by omega) _).mono ?_; rintro e w2 ⟨r, rfl, hb⟩))
  go_ret
  exact ⟨rfl, hb⟩
end Go.Proofs.Ytfpndmgihhgjhaa
