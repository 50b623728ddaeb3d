/- The program's door, whole: what is kept, what it holds, what each call answers. -/
import Derived.Test.YtcphhlfbjkeikabGreatLm
import Derived.WalkKit
import Derived.WalkSpells
import Derived.WalkLawsBesides
import Derived.Laws.BitsAllLaws
import Derived.Laws.Bits128
import Derived.WalkSmall
import Derived.Deep.OwnRows
import Derived.Deep.QuietTactic
import Derived.BigQuiet
import Derived.Deep.RegionHeld3
/- Mix, Hash and Place, the program's and the document's: what they answer; where a key's bits lie. -/
namespace Go.Proofs.YtcphhlfbjkeikabGreat.Dr
open Go.RowKit

/-- one step of Mix -/
def mstep (X s C : Nat) : Nat := (X ^^^ X / s) * C % 18446744073709551616
/-- Mix -/
def mx (X : Nat) : Nat :=
  mstep (mstep X 1073741824 13787848793156543929) 134217728 10723151780598845931 ^^^ mstep (mstep X 1073741824 13787848793156543929) 134217728 10723151780598845931 / 2147483648
theorem mstep_lt (X s C : Nat) : mstep X s C < 18446744073709551616 := Nat.mod_lt _ (by decide)
theorem xs_lt (X s : Nat) (h : X < 18446744073709551616) : X ^^^ X / s < 18446744073709551616 :=
  Nat.xor_lt_two_pow (n := 64) h (Nat.lt_of_le_of_lt (Nat.div_le_self _ _) h)
theorem mx_lt (X : Nat) : mx X < 18446744073709551616 := xs_lt _ _ (mstep_lt _ _ _)
/-- one byte more in Hash -/
def hstep (h : Nat) (c : UInt8) : Nat := mx (((h ^^^ c.toNat) + 11400714819323198485) % 18446744073709551616)
/-- Hash -/
def hsh (seed n : Nat) (l : List UInt8) : Nat := l.foldl hstep (mx (seed ^^^ n))
theorem hstep_lt (h : Nat) (c : UInt8) : hstep h c < 18446744073709551616 := mx_lt _
theorem foldl_lt (l : List UInt8) : ∀ h, h < 18446744073709551616 → l.foldl hstep h < 18446744073709551616 := by
  induction l with
  | nil => intro h hh; exact hh
  | cons c r ih => intro h _; exact ih _ (hstep_lt _ _)
theorem hsh_lt (seed n : Nat) (l : List UInt8) : hsh seed n l < 18446744073709551616 := foldl_lt _ _ (mx_lt _)
theorem hsh_snoc (seed n : Nat) (l : List UInt8) (c : UInt8) : hsh seed n (l ++ [c]) = hstep (hsh seed n l) c := by
  unfold hsh; rw [List.foldl_append, List.foldl_cons, List.foldl_nil]
theorem hsh_nil (seed n : Nat) (l : List UInt8) : hsh seed n (l.take 0) = mx (seed ^^^ n) := by
  unfold hsh; rw [List.take_zero, List.foldl_nil]
theorem ret_int {k : IntKind} {a b : Int} (h : a = b) : Ending.returned (.int k a) = .returned (.int k b) := by rw [h]

theorem mx_walk (X : Nat) (hX : X < 18446744073709551616) :
    bits BinOp.xor IntKind.u64 (IntKind.u64.wrap (bits BinOp.xor IntKind.u64 (IntKind.u64.wrap (bits BinOp.xor IntKind.u64 (X : Int) ((X : Int) / 1073741824) * 13787848793156543929)) (IntKind.u64.wrap (bits BinOp.xor IntKind.u64 (X : Int) ((X : Int) / 1073741824) * 13787848793156543929) / 134217728) * 10723151780598845931)) (IntKind.u64.wrap (bits BinOp.xor IntKind.u64 (IntKind.u64.wrap (bits BinOp.xor IntKind.u64 (X : Int) ((X : Int) / 1073741824) * 13787848793156543929)) (IntKind.u64.wrap (bits BinOp.xor IntKind.u64 (X : Int) ((X : Int) / 1073741824) * 13787848793156543929) / 134217728) * 10723151780598845931) / 2147483648) = (mx X : Int) := by
  have e1 : IntKind.u64.wrap (bits BinOp.xor IntKind.u64 (X : Int) ((X : Int) / 1073741824) * 13787848793156543929) = (mstep X 1073741824 13787848793156543929 : Int) := mixStep_u64 X 1073741824 13787848793156543929 hX
  rw [e1]
  have e2 : IntKind.u64.wrap (bits BinOp.xor IntKind.u64 (mstep X 1073741824 13787848793156543929 : Int) ((mstep X 1073741824 13787848793156543929 : Int) / 134217728) * 10723151780598845931) = (mstep (mstep X 1073741824 13787848793156543929) 134217728 10723151780598845931 : Int) := mixStep_u64 (mstep X 1073741824 13787848793156543929) 134217728 10723151780598845931 (mstep_lt _ _ _)
  rw [e2]
  exact xorShift_u64 (mstep (mstep X 1073741824 13787848793156543929) 134217728 10723151780598845931) 2147483648 (mstep_lt _ _ _)

theorem mix_any (X : Nat) (w : World) (hX : X < 18446744073709551616) :
    Calls Tryz.prog 109 #[.int .u64 X] w fun e w' => e = .returned (.int .u64 (mx X)) ∧ w' = w := by
  go_enter Tryz.func109, Tryz.ntmps109
  go_wp2
  go_ret
  exact ⟨ret_int (mx_walk X hX), rfl⟩

/-- Place, as a number -/
def plc (h n : Int) : Int := if n < 1 then 0 else h % n
theorem plc_no {h n : Int} (hn : n < 1) : plc h n = 0 := by simp [plc, hn]
theorem plc_yes {h n : Int} (hn : ¬ n < 1) : plc h n = h % n := by simp [plc, hn]
theorem place_any (h n : Int) (w : World) (h0 : 0 ≤ h) (h1 : h < 18446744073709551616) (hn : n ≤ 9223372036854775807) :
    Calls Tryz.prog 83 #[.int .u64 h, .int .i64 n] w fun e w' => e = .returned (.int .i64 (plc h n)) ∧ w' = w := by
  by_cases hc : n < 1
  · rw [plc_no hc]
    go_enter Tryz.func83, Tryz.ntmps83
    go_wp2
    go_ret
    exact ⟨rfl, rfl⟩
  · rw [plc_yes hc]
    have b0 : 0 ≤ h % n := Int.emod_nonneg _ (by omega)
    have b1 : h % n < n := Int.emod_lt_of_pos _ (by omega)
    go_enter Tryz.func83, Tryz.ntmps83
    go_wp2
    go_ret
    exact ⟨rfl, rfl⟩

theorem take_snoc (s : ByteArray) (k : Nat) (h : k < s.size) : s.data.toList.take (k + 1) = s.data.toList.take k ++ [s[k]] := by
  rw [List.take_succ_eq_append_getElem (by simpa using h)]; rfl
theorem hstep_walk (H : Nat) (c : UInt8) (hH : H < 18446744073709551616) :
    ∃ X : Nat, X < 18446744073709551616 ∧ IntKind.u64.wrap (bits BinOp.xor IntKind.u64 (H : Int) (c.toNat : Int) + 11400714819323198485) = (X : Int) ∧ hstep H c = mx X := by
  refine ⟨((H ^^^ c.toNat) + 11400714819323198485) % 18446744073709551616, Nat.mod_lt _ (by decide), ?_, by rw [hstep]⟩
  rw [bits_xor_u64_nat _ _ hH (Nat.lt_trans c.toNat_lt (by decide)), IntKind.wrap_u64]
  omega

theorem hash_any (S : Nat) (s : ByteArray) (w : World) (hS : S < 18446744073709551616) (hs : s.size ≤ maxLen) :
    Calls Tryz.prog 84 #[.int .u64 S, .string s] w fun e w' => e = .returned (.int .u64 (hsh S s.size s.data.toList)) ∧ w' = w := by
  unfold maxLen at hs
  have hx : S ^^^ s.size < 18446744073709551616 := Nat.xor_lt_two_pow (n := 64) hS (by omega)
  have e0 := bits_xor_u64_nat S s.size hS (by omega)
  go_enter Tryz.func84, Tryz.ntmps84
  go_wp2_with (go_at_call 109; refine (mix_any _ _ hx).mono ?_; rintro e w' ⟨rfl, rfl⟩)
  clear e0
  go_loop [5, 15] (fun h i => ∃ k : Nat, k ≤ s.size ∧ i = .int .i64 k ∧ h = .int .u64 (hsh S s.size (s.data.toList.take k))) (fun _ i => s.size - (intOf i).toNat)
  case atStart => exact ⟨0, Nat.zero_le _, rfl, by rw [hsh_nil]⟩
  case round =>
    obtain ⟨k, hk, rfl, rfl⟩ := hrel
    have hH := hsh_lt S s.size (s.data.toList.take k)
    by_cases hlt : k < s.size
    · have HS : Hid (hsh S s.size (s.data.toList.take (k + 1)) = hstep (hsh S s.size (s.data.toList.take k)) s[k]) := by rw [take_snoc s k hlt]; exact hsh_snoc _ _ _ _
      generalize hsh S s.size (s.data.toList.take k) = H at *
      obtain ⟨X, hml, hst, hX⟩ := hstep_walk H s[k] hH
      rw [hX] at HS
      clear hX
      have hc : s[k].toNat < 256 := s[k].toNat_lt
      go_wp2_with (go_at_call 109; refine (mix_any X _ hml).mono ?_; rintro e w' ⟨rfl, rfl⟩)
      go_round
      case rel => exact ⟨k + 1, by omega, by go_num, by rw [HS.out]⟩
      case measure => simp [intOf]; omega
    · go_wp2
      go_ret
      exact ⟨ret_int (by rw [List.take_of_length_le (by simp; omega)]), rfl⟩
/-! ### the document's -/
theorem mixr_any (X : Nat) (w : World) (hX : X < 18446744073709551616) :
    Calls Tryz.prog 118 #[.int .u64 X] w fun e w' => e = .returned (.int .u64 (mx X)) ∧ w' = w := by
  go_enter Tryz.func118, Tryz.ntmps118
  go_wp2
  go_ret
  exact ⟨ret_int (mx_walk X hX), rfl⟩

theorem placer_any (h n : Int) (w : World) (h0 : 0 ≤ h) (h1 : h < 18446744073709551616) (hn : n ≤ 9223372036854775807) :
    Calls Tryz.prog 115 #[.int .u64 h, .int .i64 n] w fun e w' => e = .returned (.int .i64 (plc h n)) ∧ w' = w := by
  by_cases hc : n < 1
  · rw [plc_no hc]
    go_enter Tryz.func115, Tryz.ntmps115
    go_wp2
    go_ret
    exact ⟨rfl, rfl⟩
  · rw [plc_yes hc]
    have b0 : 0 ≤ h % n := Int.emod_nonneg _ (by omega)
    have b1 : h % n < n := Int.emod_lt_of_pos _ (by omega)
    go_enter Tryz.func115, Tryz.ntmps115
    go_wp2
    go_ret
    exact ⟨rfl, rfl⟩

theorem hashr_any (S : Nat) (s : ByteArray) (w : World) (hS : S < 18446744073709551616) (hs : s.size ≤ maxLen) :
    Calls Tryz.prog 116 #[.int .u64 S, .string s] w fun e w' => e = .returned (.int .u64 (hsh S s.size s.data.toList)) ∧ w' = w := by
  unfold maxLen at hs
  have hx : S ^^^ s.size < 18446744073709551616 := Nat.xor_lt_two_pow (n := 64) hS (by omega)
  have e0 := bits_xor_u64_nat S s.size hS (by omega)
  go_enter Tryz.func116, Tryz.ntmps116
  go_wp2_with (go_at_call 118; refine (mixr_any _ _ hx).mono ?_; rintro e w' ⟨rfl, rfl⟩)
  clear e0
  go_loop [5, 6] (fun h i => ∃ k : Nat, k ≤ s.size ∧ i = .int .i64 k ∧ h = .int .u64 (hsh S s.size (s.data.toList.take k))) (fun _ i => s.size - (intOf i).toNat)
  case atStart => exact ⟨0, Nat.zero_le _, rfl, by rw [hsh_nil]⟩
  case round =>
    obtain ⟨k, hk, rfl, rfl⟩ := hrel
    have hH := hsh_lt S s.size (s.data.toList.take k)
    by_cases hlt : k < s.size
    · have HS : Hid (hsh S s.size (s.data.toList.take (k + 1)) = hstep (hsh S s.size (s.data.toList.take k)) s[k]) := by rw [take_snoc s k hlt]; exact hsh_snoc _ _ _ _
      generalize hsh S s.size (s.data.toList.take k) = H at *
      obtain ⟨X, hml, hst, hX⟩ := hstep_walk H s[k] hH
      rw [hX] at HS
      clear hX
      have hc : s[k].toNat < 256 := s[k].toNat_lt
      go_wp2_with (go_at_call 118; refine (mixr_any X _ hml).mono ?_; rintro e w' ⟨rfl, rfl⟩)
      go_round
      case rel => exact ⟨k + 1, by omega, by go_num, by rw [HS.out]⟩
      case measure => simp [intOf]; omega
    · go_wp2
      go_ret
      exact ⟨ret_int (by rw [List.take_of_length_le (by simp; omega)]), rfl⟩
/-- a key's number -/
def hs (seed : Nat) (k : ByteArray) : Nat := hsh seed k.size k.data.toList
theorem hs_lt (seed : Nat) (k : ByteArray) : hs seed k < 18446744073709551616 := hsh_lt _ _ _
/-- where a key's bit number r lies among M -/
def hp (M : Nat) (k : ByteArray) (r : Nat) : Nat := hs (11 + r) k % M
theorem hp_lt {M : Nat} (hM : 64 ≤ M) (k : ByteArray) (r : Nat) : hp M k r < M := Nat.mod_lt _ (by omega)
theorem plc_hp {M : Nat} (hM : 64 ≤ M) (k : ByteArray) (r : Nat) : plc (hs (11 + r) k : Nat) (M : Nat) = (hp M k r : Nat) := by
  rw [plc_yes (by omega)]
  unfold hp
  omega
theorem hash_row (k : ByteArray) (r : Nat) (hr : r < 3) (w : World) (hk : k.size ≤ 1000) :
    Calls Tryz.prog 84 #[.int .u64 (11 + (r : Int)), .string k] w fun e w' => e = .returned (.int .u64 (hs (11 + r) k : Nat)) ∧ w' = w := by
  have := hash_any (11 + r) k w (by omega) (by unfold maxLen; omega)
  simpa [hs] using this
theorem place_row {M : Nat} (hM : 64 ≤ M) (hM2 : M ≤ 8192) (k : ByteArray) (r : Nat) (w : World) :
    Calls Tryz.prog 83 #[.int .u64 (hs (11 + r) k : Nat), .int .i64 (M : Nat)] w fun e w' => e = .returned (.int .i64 (hp M k r : Nat)) ∧ w' = w := by
  have := place_any (hs (11 + r) k : Nat) (M : Nat) w (by omega) (by have := hs_lt (11 + r) k; omega) (by omega)
  rw [plc_hp hM] at this
  exact this
theorem hashr_row (k : ByteArray) (r : Nat) (hr : r < 3) (w : World) (hk : k.size ≤ 1000) :
    Calls Tryz.prog 116 #[.int .u64 (11 + (r : Int)), .string k] w fun e w' => e = .returned (.int .u64 (hs (11 + r) k : Nat)) ∧ w' = w := by
  have := hashr_any (11 + r) k w (by omega) (by unfold maxLen; omega)
  simpa [hs] using this
theorem placer_row {M : Nat} (hM : 64 ≤ M) (hM2 : M ≤ 8192) (k : ByteArray) (r : Nat) (w : World) :
    Calls Tryz.prog 115 #[.int .u64 (hs (11 + r) k : Nat), .int .i64 (M : Nat)] w fun e w' => e = .returned (.int .i64 (hp M k r : Nat)) ∧ w' = w := by
  have := placer_any (hs (11 + r) k : Nat) (M : Nat) w (by omega) (by have := hs_lt (11 + r) k; omega) (by omega)
  rw [plc_hp hM] at this
  exact this
end Go.Proofs.YtcphhlfbjkeikabGreat.Dr
/- Bits: how many are set; math/bits.OnesCount64; a word with a bit more; the bits of words by their places. -/
namespace Go.Proofs.YtcphhlfbjkeikabGreat.Dr
open Go.RowKit

/-- how many of the first n are -/
def cnt (f : Nat → Bool) : Nat → Nat
  | 0 => 0
  | n + 1 => cnt f n + (f n).toNat
theorem cnt_add (f : Nat → Bool) (m : Nat) : ∀ n, cnt f (m + n) = cnt f m + cnt (fun i => f (m + i)) n
  | 0 => rfl
  | n + 1 => by
    show cnt f (m + n) + (f (m + n)).toNat = cnt f m + (cnt (fun i => f (m + i)) n + (f (m + n)).toNat)
    rw [cnt_add f m n]
    omega
theorem cnt_ext {f g : Nat → Bool} : ∀ {n : Nat}, (∀ i, i < n → f i = g i) → cnt f n = cnt g n
  | 0, _ => rfl
  | n + 1, h => by
    show cnt f n + (f n).toNat = cnt g n + (g n).toNat
    rw [cnt_ext (fun i hi => h i (by omega)), h n (by omega)]
theorem cnt_le (f : Nat → Bool) : ∀ n, cnt f n ≤ n
  | 0 => Nat.le_refl _
  | n + 1 => by
    have := cnt_le f n
    have h2 := Bool.toNat_le (f n)
    show cnt f n + (f n).toNat ≤ n + 1
    omega
theorem cnt_none : ∀ n, cnt (fun _ => false) n = 0
  | 0 => rfl
  | n + 1 => by show cnt _ n + 0 = 0; rw [cnt_none n]

/-! ### OnesCount64: by bytes -/
def upd (c : Nat → Nat) (i v : Nat) : Nat → Nat := fun j => if j = i then v else c j
/-- one more is set -/
def on (b : Nat → Bool) (i : Nat) : Nat → Bool := fun j => if j = i then true else b j
/-- the bit at a place -/
def bt (v : Nat → Nat) (i : Nat) : Bool := (v (i / 64)).testBit (i % 64)
theorem bt_zero (i : Nat) : bt (fun _ => 0) i = false := by simp [bt]
theorem bt_on (v : Nat → Nat) (a i : Nat) : bt (upd v (a / 64) (v (a / 64) ||| 2 ^ (a % 64))) i = on (bt v) a i := by
  unfold bt upd on
  by_cases h : i / 64 = a / 64
  · rw [if_pos h, Nat.testBit_or, Nat.testBit_two_pow]
    by_cases e : i = a
    · subst e; simp
    · rw [if_neg e, show decide (a % 64 = i % 64) = false by simp; omega, Bool.or_false, ← h]
  · rw [if_neg h, if_neg (by rintro rfl; exact h rfl)]
theorem two_pow_lt (a : Nat) : 2 ^ (a % 64) < 18446744073709551616 := by
  have h : 2 ^ (a % 64) < 2 ^ 64 := Nat.pow_lt_pow_right (by omega) (Nat.mod_lt _ (by omega))
  simpa using h
theorem or_lt {x y : Nat} (hx : x < 18446744073709551616) (hy : y < 18446744073709551616) : x ||| y < 18446744073709551616 := Nat.or_lt_two_pow (n := 64) hx hy
theorem and_bit (x i : Nat) : x &&& 2 ^ i = if x.testBit i then 2 ^ i else 0 := by
  apply Nat.eq_of_testBit_eq
  intro j
  rw [Nat.testBit_and, Nat.testBit_two_pow]
  by_cases e : i = j
  · subst e
    cases h : x.testBit i <;> simp
  · cases h : x.testBit i <;> simp [e]
/-! ### what keys set -/
def has (b : Nat → Bool) (M : Nat) (k : ByteArray) : Bool := b (hp M k 0) && b (hp M k 1) && b (hp M k 2)
/-- the first j of a key's bits are set -/
def add (b : Nat → Bool) (M : Nat) (k : ByteArray) : Nat → (Nat → Bool)
  | 0 => b
  | j + 1 => on (add b M k j) (hp M k j)
theorem on_up (b : Nat → Bool) (i j : Nat) (h : b j = true) : on b i j = true := by unfold on; split <;> simp [h]
theorem on_at (b : Nat → Bool) (i : Nat) : on b i i = true := by simp [on]
theorem add_up (b : Nat → Bool) (M : Nat) (k : ByteArray) (i : Nat) (h : b i = true) : ∀ j, add b M k j i = true
  | 0 => h
  | j + 1 => on_up _ _ _ (add_up b M k i h j)
theorem has_add (b : Nat → Bool) (M : Nat) (k : ByteArray) : has (add b M k 3) M k = true := by
  have h0 : add b M k 3 (hp M k 0) = true := on_up _ _ _ (on_up _ _ _ (on_at _ _))
  have h1 : add b M k 3 (hp M k 1) = true := on_up _ _ _ (on_at _ _)
  have h2 : add b M k 3 (hp M k 2) = true := on_at _ _
  simp [has, h0, h1, h2]
theorem has_up {b : Nat → Bool} {M : Nat} {z k : ByteArray} (h : has b M z = true) : has (add b M k 3) M z = true := by
  simp only [has, Bool.and_eq_true] at h ⊢
  exact ⟨⟨add_up _ _ _ _ h.1.1 3, add_up _ _ _ _ h.1.2 3⟩, add_up _ _ _ _ h.2 3⟩
theorem has_none (M : Nat) (k : ByteArray) : has (fun _ => false) M k = false := rfl
theorem cnt_on (b : Nat → Bool) (i : Nat) : ∀ n, cnt (on b i) n ≤ cnt b n + if i < n then 1 else 0
  | 0 => by simp [cnt]
  | n + 1 => by
    have h := cnt_on b i n
    show cnt (on b i) n + (on b i n).toNat ≤ cnt b n + (b n).toNat + _
    by_cases e : n = i
    · subst e
      have := Bool.toNat_le (on b n n)
      simp only [Nat.lt_irrefl, if_false] at h
      rw [if_pos (by omega)]
      omega
    · have e2 : on b i n = b n := by simp [on, e]
      rw [e2]
      by_cases hi : i < n
      · rw [if_pos hi] at h
        rw [if_pos (by omega)]
        omega
      · rw [if_neg hi] at h
        rw [if_neg (by omega)]
        omega
theorem cnt_add3 (b : Nat → Bool) (M : Nat) (k : ByteArray) (n : Nat) : cnt (add b M k 3) n ≤ cnt b n + 3 := by
  have h0 := cnt_on b (hp M k 0) n
  have h1 := cnt_on (on b (hp M k 0)) (hp M k 1) n
  have h2 := cnt_on (on (on b (hp M k 0)) (hp M k 1)) (hp M k 2) n
  show cnt (on (on (on b (hp M k 0)) (hp M k 1)) (hp M k 2)) n ≤ _
  split at h0 <;> split at h1 <;> split at h2 <;> omega
theorem on_same {b : Nat → Bool} {i : Nat} (h : b i = true) : on b i = b := by
  funext j
  unfold on
  split
  · rename_i e; rw [e, h]
  · rfl
theorem add_same {b : Nat → Bool} {M : Nat} {k : ByteArray} (h : has b M k = true) : add b M k 3 = b := by
  simp only [has, Bool.and_eq_true] at h
  show on (on (on b (hp M k 0)) (hp M k 1)) (hp M k 2) = b
  rw [on_same h.1.1, on_same h.1.2, on_same h.2]
/-- the bits of some keys -/
def bof (M : Nat) (zs : List ByteArray) : Nat → Bool := fun i => zs.any (fun z => decide (i = hp M z 0) || decide (i = hp M z 1) || decide (i = hp M z 2))
theorem bof_nil (M : Nat) : bof M [] = fun _ => false := rfl
theorem add_bof (M : Nat) (zs : List ByteArray) (z : ByteArray) (i : Nat) : add (bof M zs) M z 3 i = (bof M zs i || (decide (i = hp M z 0) || decide (i = hp M z 1) || decide (i = hp M z 2))) := by
  show on (on (on (bof M zs) (hp M z 0)) (hp M z 1)) (hp M z 2) i = _
  unfold on
  generalize bof M zs i = x
  by_cases h0 : i = hp M z 0 <;> by_cases h1 : i = hp M z 1 <;> by_cases h2 : i = hp M z 2 <;> cases x <;> simp_all
theorem bof_snoc (M : Nat) (zs : List ByteArray) (z : ByteArray) : add (bof M zs) M z 3 = bof M (zs ++ [z]) := by
  funext i
  rw [add_bof]
  simp [bof, List.any_append]
theorem bof_cons (M : Nat) (zs : List ByteArray) (z : ByteArray) : add (bof M zs) M z 3 = bof M (z :: zs) := by
  funext i
  rw [add_bof]
  simp [bof, List.any_cons, Bool.or_comm]

/-! ### how many words there are -/
def nw (r : Int) : Nat := if r ≤ 8 then 1 else if r ≤ 16 then 2 else if r ≤ 32 then 4 else if r ≤ 64 then 8 else if r ≤ 128 then 16 else if r ≤ 256 then 32 else if r ≤ 512 then 64 else 128
def Wn (r : Int) (n : Nat) : Prop := n = 1 ∨ (n = 2 ∧ 8 < r) ∨ (n = 4 ∧ 16 < r) ∨ (n = 8 ∧ 32 < r) ∨ (n = 16 ∧ 64 < r) ∨ (n = 32 ∧ 128 < r) ∨ (n = 64 ∧ 256 < r) ∨ (n = 128 ∧ 512 < r)
theorem Wn.le {r : Int} {n : Nat} (h : Wn r n) : 1 ≤ n ∧ n ≤ 128 := by unfold Wn at h; omega
theorem Wn.next {r : Int} {n : Nat} (h : Wn r n) (h1 : (8 * n : Int) < r) (h2 : n < 128) : Wn r (2 * n) := by unfold Wn at *; omega
theorem Wn.end {r : Int} {n : Nat} (h : Wn r n) (h1 : r ≤ 8 * n ∨ 128 ≤ n) : n = nw r := by
  unfold Wn at h
  unfold nw
  rcases h with h | h | h | h | h | h | h | h <;> (split <;> try omega) <;> (split <;> try omega) <;> (split <;> try omega) <;> (split <;> try omega) <;> (split <;> try omega) <;> (split <;> try omega) <;> (split <;> try omega)
theorem nw_le (r : Int) : 1 ≤ nw r ∧ nw r ≤ 128 := by
  unfold nw
  (split <;> try omega) <;> (split <;> try omega) <;> (split <;> try omega) <;> (split <;> try omega) <;> (split <;> try omega) <;> (split <;> try omega) <;> (split <;> try omega)
end Go.Proofs.YtcphhlfbjkeikabGreat.Dr
/- Blocks of memory, and what is kept; a door in memory, the program's (words) and the document's (bools): its bits are one function of their places. -/
namespace Go.Proofs.YtcphhlfbjkeikabGreat.Dr
open Go.RowKit

theorem block_setCell {w : World} {p j : Nat} {cs : Array Value} {t : TypeId} {u : Value} (h : w.heap[p]? = some (.cells cs t (0, 0))) :
    (w.setCell ⟨p, j, none⟩ u).heap[p]? = some (.cells (cs.set! j u) t (0, 0)) := by
  have hlt := lt_of_block h
  have h' : w.heap[p] = .cells cs t (0, 0) := by simpa [Array.getElem?_eq_getElem hlt] using h
  show (w.heap.modify p _)[p]? = _
  rw [Array.getElem?_eq_getElem (by simpa using hlt), Array.getElem_modify_self, h']
  rfl
theorem cell_setCell_far {w : World} {a b : Addr} {u : Value} (h : b.block ≠ a.block) : (w.setCell a u).cell? b = w.cell? b :=
  World.cell?_of_block (w := w) (Below.heap_setCell _ _ _ _ h)
theorem frozen_of_block {w : World} {p j : Nat} {cs : Array Value} {t : TypeId} (h : w.heap[p]? = some (.cells cs t (0, 0))) : w.frozen? ⟨p, j, none⟩ = false := by
  simp [World.frozen?, h]
theorem cell_of_block {w : World} {p j : Nat} {cs : Array Value} {t : TypeId} (h : w.heap[p]? = some (.cells cs t (0, 0))) : w.cell? ⟨p, j, none⟩ = cs[j]? := by
  simp [World.cell?, h]

theorem made_list (z : Value) (n : Nat) : madeCells #[z] n = (List.replicate n z).toArray := by
  rw [← toList_madeCells_one]
theorem cells_of_three {w : World} {p : Nat} {a b c : Value} {t : TypeId} (h : w.heap[p]? = some (.cells #[a, b, c] t (0, 0))) :
    w.cell? ⟨p, 0, none⟩ = some a ∧ w.cell? ⟨p, 1, none⟩ = some b ∧ w.cell? ⟨p, 2, none⟩ = some c ∧
    w.frozen? ⟨p, 0, none⟩ = false ∧ w.frozen? ⟨p, 1, none⟩ = false ∧ w.frozen? ⟨p, 2, none⟩ = false := by
  simp [World.cell?, World.frozen?, h]
theorem cells_of_four {w : World} {p : Nat} {a b c d : Value} {t : TypeId} (h : w.heap[p]? = some (.cells #[a, b, c, d] t (0, 0))) :
    w.cell? ⟨p, 0, none⟩ = some a ∧ w.cell? ⟨p, 1, none⟩ = some b ∧ w.cell? ⟨p, 2, none⟩ = some c ∧ w.cell? ⟨p, 3, none⟩ = some d ∧
    w.frozen? ⟨p, 0, none⟩ = false ∧ w.frozen? ⟨p, 1, none⟩ = false ∧ w.frozen? ⟨p, 2, none⟩ = false ∧ w.frozen? ⟨p, 3, none⟩ = false := by
  simp [World.cell?, World.frozen?, h]
theorem set_range {n j : Nat} {f g : Nat → Value} (h : ∀ i, i < n → i ≠ j → g i = f i) (v : Value) (hv : j < n → g j = v) : ((List.range n).map f).set j v = (List.range n).map g := by
  apply List.ext_getElem?
  intro i
  by_cases hi : i < n
  · by_cases hj : i = j
    · subst hj
      simp [hi, hv hi]
    · simp [hi, Ne.symm hj, h i hi hj]
  · simp [hi]

theorem cells_of_one {w : World} {p : Nat} {a : Value} {t : TypeId} (h : w.heap[p]? = some (.cells #[a] t (0, 0))) :
    w.cell? ⟨p, 0, none⟩ = some a ∧ w.frozen? ⟨p, 0, none⟩ = false := by
  simp [World.cell?, World.frozen?, h]

/-! ### rows by their places -/
def u64s (v : Nat → Nat) (n : Nat) : List Value := (List.range n).map (fun k => .int .u64 (v k : Nat))
def bls (b : Nat → Bool) (n : Nat) : List Value := (List.range n).map (fun k => .bool (b k))
theorem u64s_at (v : Nat → Nat) {n k : Nat} (h : k < n) : (u64s v n)[k]? = some (.int .u64 (v k : Nat)) := by simp [u64s, h]
theorem bls_at (b : Nat → Bool) {n k : Nat} (h : k < n) : (bls b n)[k]? = some (.bool (b k)) := by simp [bls, h]
theorem u64s_made (n : Nat) : madeCells #[.int .u64 0] n = (u64s (fun _ => 0) n).toArray := by
  rw [made_list]
  congr 1
  apply List.ext_getElem?
  intro i
  by_cases h : i < n
  · simp [u64s, h]
  · simp [u64s, h]
theorem bls_made (n : Nat) : madeCells #[.bool false] n = (bls (fun _ => false) n).toArray := by
  rw [made_list]
  congr 1
  apply List.ext_getElem?
  intro i
  by_cases h : i < n
  · simp [bls, h]
  · simp [bls, h]
theorem u64s_set (v : Nat → Nat) (n i x : Nat) : (u64s v n).set i (.int .u64 (x : Nat)) = u64s (upd v i x) n := by
  unfold u64s
  refine set_range (fun k _ hk => ?_) _ (fun _ => ?_)
  · simp [upd, hk]
  · simp [upd]
theorem bls_set (b : Nat → Bool) (n i : Nat) : (bls b n).set i (.bool true) = bls (on b i) n := by
  unfold bls
  refine set_range (fun k _ hk => ?_) _ (fun _ => ?_)
  · simp [on, hk]
  · simp [on]
theorem u64s_ext {c d : Nat → Nat} {n : Nat} (h : ∀ i, i < n → c i = d i) : u64s c n = u64s d n := by
  unfold u64s
  apply List.map_congr_left
  intro k hk
  simp at hk
  rw [h _ hk]
/-- the first j words are 0 -/
def clr (v : Nat → Nat) (j : Nat) : Nat → Nat := fun i => if i < j then 0 else v i
theorem clr_zero (v : Nat → Nat) : clr v 0 = v := by funext i; simp [clr]
theorem u64s_clr (v : Nat → Nat) (n j : Nat) : (u64s (clr v j) n).set j (.int .u64 ((0 : Nat) : Int)) = u64s (clr v (j + 1)) n := by
  unfold u64s
  refine set_range (fun k _ hk => ?_) _ (fun _ => ?_)
  · have : clr v (j + 1) k = clr v j k := by
      unfold clr
      by_cases h : k < j
      · rw [if_pos h, if_pos (by omega)]
      · rw [if_neg h, if_neg (by omega)]
    rw [this]
  · rw [show clr v (j + 1) j = 0 by unfold clr; rw [if_pos (by omega)]]

/-! ### a door in memory -/
structure Fit (K : Nat) (v : Nat → Nat) : Prop where
  lo : 1 ≤ K
  hi : K ≤ 128
  word : ∀ i, v i < 18446744073709551616
/-- the program's: its struct, its words -/
def DrIn (D : Nat → Prop) (w : World) (p g K : Nat) (v : Nat → Nat) : Prop :=
  D p ∧ D g ∧ g ≠ p ∧ w.heap[p]? = some (.cells #[.slice (some ⟨g, 0, none⟩) K K] 86 (0, 0)) ∧ w.heap[g]? = some (.cells (u64s v K).toArray 45 (0, 0))
/-- the document's: its struct, its bools -/
def RfIn (D : Nat → Prop) (w : World) (p g M : Nat) (b : Nat → Bool) : Prop :=
  D p ∧ D g ∧ g ≠ p ∧ w.heap[p]? = some (.cells #[.slice (some ⟨g, 0, none⟩) M M] 100 (0, 0)) ∧ w.heap[g]? = some (.cells (bls b M).toArray 4 (0, 0))
section
variable {D : Nat → Prop} {w w' : World} {p g K M : Nat} {v : Nat → Nat} {b : Nat → Bool}
theorem DrIn.top (h : DrIn D w p g K v) : w.cell? ⟨p, 0, none⟩ = some (.slice (some ⟨g, 0, none⟩) K K) ∧ w.frozen? ⟨p, 0, none⟩ = false := cells_of_one h.2.2.2.1
theorem DrIn.at (h : DrIn D w p g K v) {k : Nat} (hk : k < K) : w.cell? ⟨g, k, none⟩ = some (.int .u64 (v k : Nat)) ∧ w.frozen? ⟨g, k, none⟩ = false :=
  ⟨by rw [cell_of_block h.2.2.2.2, List.getElem?_toArray, u64s_at v hk], frozen_of_block h.2.2.2.2⟩
theorem RfIn.top (h : RfIn D w p g M b) : w.cell? ⟨p, 0, none⟩ = some (.slice (some ⟨g, 0, none⟩) M M) ∧ w.frozen? ⟨p, 0, none⟩ = false := cells_of_one h.2.2.2.1
theorem RfIn.at (h : RfIn D w p g M b) {k : Nat} (hk : k < M) : w.cell? ⟨g, k, none⟩ = some (.bool (b k)) ∧ w.frozen? ⟨g, k, none⟩ = false :=
  ⟨by rw [cell_of_block h.2.2.2.2, List.getElem?_toArray, bls_at b hk], frozen_of_block h.2.2.2.2⟩
theorem DrIn.set (h : DrIn D w p g K v) {k x : Nat} {u : Nat → Nat} (e : (u64s v K).set k (.int .u64 (x : Nat)) = u64s u K) : DrIn D (w.setCell ⟨g, k, none⟩ (.int .u64 (x : Nat))) p g K u := by
  obtain ⟨h1, h2, h3, h4, h5⟩ := h
  refine ⟨h1, h2, h3, ?_, ?_⟩
  · rw [Below.heap_setCell _ _ _ _ (by exact Ne.symm h3)]; exact h4
  · rw [block_setCell h5]
    simp only [Array.set!_eq_setIfInBounds, List.setIfInBounds_toArray]
    rw [e]
theorem RfIn.set (h : RfIn D w p g M b) (k : Nat) : RfIn D (w.setCell ⟨g, k, none⟩ (.bool true)) p g M (on b k) := by
  obtain ⟨h1, h2, h3, h4, h5⟩ := h
  refine ⟨h1, h2, h3, ?_, ?_⟩
  · rw [Below.heap_setCell _ _ _ _ (by exact Ne.symm h3)]; exact h4
  · rw [block_setCell h5]
    simp only [Array.set!_eq_setIfInBounds, List.setIfInBounds_toArray]
    rw [bls_set]
theorem DrIn.kept {D' : Nat → Prop} (h : DrIn D w p g K v) (hk : Keeps D' w w') (hd : ∀ k, D k → ¬ D' k) : DrIn D w' p g K v := by
  obtain ⟨h1, h2, h3, h4, h5⟩ := h
  exact ⟨h1, h2, h3, (hk.block p (lt_of_block h4) (hd _ h1)).trans h4, (hk.block g (lt_of_block h5) (hd _ h2)).trans h5⟩
theorem RfIn.kept {D' : Nat → Prop} (h : RfIn D w p g M b) (hk : Keeps D' w w') (hd : ∀ k, D k → ¬ D' k) : RfIn D w' p g M b := by
  obtain ⟨h1, h2, h3, h4, h5⟩ := h
  exact ⟨h1, h2, h3, (hk.block p (lt_of_block h4) (hd _ h1)).trans h4, (hk.block g (lt_of_block h5) (hd _ h2)).trans h5⟩
theorem DrIn.below (h : DrIn D w p g K v) (hb : Below w.heap.size w w') : DrIn D w' p g K v := h.kept (D' := fun _ => False) (.of_below hb) (fun _ _ e => e)
theorem RfIn.below (h : RfIn D w p g M b) (hb : Below w.heap.size w w') : RfIn D w' p g M b := h.kept (D' := fun _ => False) (.of_below hb) (fun _ _ e => e)
theorem DrIn.wide {D' : Nat → Prop} (h : DrIn D w p g K v) (hD : ∀ k, D k → D' k) : DrIn D' w p g K v := ⟨hD _ h.1, hD _ h.2.1, h.2.2⟩
theorem RfIn.wide {D' : Nat → Prop} (h : RfIn D w p g M b) (hD : ∀ k, D k → D' k) : RfIn D' w p g M b := ⟨hD _ h.1, hD _ h.2.1, h.2.2⟩
theorem DrIn.narrow (h : DrIn D w p g K v) : DrIn (fun k => D k ∧ k < w.heap.size) w p g K v := ⟨⟨h.1, lt_of_block h.2.2.2.1⟩, ⟨h.2.1, lt_of_block h.2.2.2.2⟩, h.2.2⟩
theorem RfIn.narrow (h : RfIn D w p g M b) : RfIn (fun k => D k ∧ k < w.heap.size) w p g M b := ⟨⟨h.1, lt_of_block h.2.2.2.1⟩, ⟨h.2.1, lt_of_block h.2.2.2.2⟩, h.2.2⟩
theorem DrIn.ext {u : Nat → Nat} (h : DrIn D w p g K v) (e : ∀ i, i < K → v i = u i) : DrIn D w p g K u := by
  obtain ⟨h1, h2, h3, h4, h5⟩ := h
  exact ⟨h1, h2, h3, h4, by rw [← u64s_ext e]; exact h5⟩
end
/-- a door: how many words, which bits -/
def DR (p K : Nat) (b : Nat → Bool) (D : Nat → Prop) (w : World) : Prop := ∃ v, Fit K v ∧ bt v = b ∧ ∃ g, DrIn D w p g K v
def RF (p K : Nat) (b : Nat → Bool) (D : Nat → Prop) (w : World) : Prop := (1 ≤ K ∧ K ≤ 128) ∧ ∃ g, RfIn D w p g (64 * K) b
section
variable {D : Nat → Prop} {w w' : World} {p K : Nat} {b : Nat → Bool}
theorem DR.below (h : DR p K b D w) (hb : Below w.heap.size w w') : DR p K b D w' := by obtain ⟨v, f, e, g, h⟩ := h; exact ⟨v, f, e, g, h.below hb⟩
theorem RF.below (h : RF p K b D w) (hb : Below w.heap.size w w') : RF p K b D w' := by obtain ⟨f, g, h⟩ := h; exact ⟨f, g, h.below hb⟩
theorem DR.size (h : DR p K b D w) : 1 ≤ K ∧ K ≤ 128 := by obtain ⟨v, f, -⟩ := h; exact ⟨f.lo, f.hi⟩
end
end Go.Proofs.YtcphhlfbjkeikabGreat.Dr
/- The program's door: how many bits there are, New, whether it is blank, a bit within its word. -/
namespace Go.Proofs.YtcphhlfbjkeikabGreat.Dr
open Go.RowKit

theorem bitsFor_any (r : Int) (w : World) (h0 : -9223372036854775808 ≤ r) (h1 : r ≤ 9223372036854775807) :
    Calls Tryz.prog 43 #[.int .i64 r] w fun e w' => e = .returned (.int .i64 ((64 * nw r : Nat) : Int)) ∧ w' = w := by
  go_enter Tryz.func43, Tryz.ntmps43
  go_wp2
  go_loop [3] (fun i => ∃ n : Nat, i = .int .i64 ((64 * n : Nat) : Int) ∧ Wn r n) (fun i => 8192 - (intOf i).toNat)
  case atStart => exact ⟨1, rfl, .inl rfl⟩
  case round =>
    obtain ⟨n, rfl, hW⟩ := hrel
    have HW : Hid (Wn r n) := hW
    obtain ⟨n0, n1⟩ := hW.le
    clear hW
    have e8 : ((64 * n : Nat) : Int) / 8 = 8 * (n : Int) := by omega
    obtain ⟨m, hm⟩ : ∃ m, 64 * n = m := ⟨_, rfl⟩
    rw [hm] at e8 ⊢
    have HM : Hid (64 * n = m) := hm
    have m1 : m ≤ 8192 := by omega
    have m0 : 64 ≤ m := by omega
    clear hm
    by_cases hr : r ≤ 1024
    · by_cases hn : 8 * (n : Int) < r
      · go_wp2
        go_round
        case rel => exact ⟨2 * n, by have := HM.out; go_num, HW.out.next hn (by omega)⟩
        case measure => have := HM.out; simp [intOf]; omega
      · go_wp2
        go_ret
        exact ⟨ret_int (by rw [← HW.out.end (.inl (by omega))]; have := HM.out; omega), rfl⟩
    · have hr' : (1024 : Int) < r := by omega
      have hr2 : ¬ (r < (1024 : Int)) := by omega
      by_cases hn : 8 * (n : Int) < 1024
      · go_wp2
        go_round
        case rel => exact ⟨2 * n, by have := HM.out; go_num, HW.out.next (by omega) (by omega)⟩
        case measure => have := HM.out; simp [intOf]; omega
      · go_wp2
        go_ret
        exact ⟨ret_int (by rw [← HW.out.end (.inr (by omega))]; have := HM.out; omega), rfl⟩
theorem mask_any (a : Nat) (ha : a ≤ 1000000) (w : World) :
    Calls Tryz.prog 89 #[.int .i64 (a : Nat)] w fun e w' => e = .returned (.int .u64 ((2 ^ (a % 64) : Nat) : Int)) ∧ w' = w := by
  have hp := two_pow_lt a
  have e : IntKind.u64.wrap (2 ^ (a % 64)) = ((2 ^ (a % 64) : Nat) : Int) := by
    rw [IntKind.wrap_u64, show ((2 : Int) ^ (a % 64)) = ((2 ^ (a % 64) : Nat) : Int) by simp]
    generalize 2 ^ (a % 64) = y at *
    omega
  generalize 2 ^ (a % 64) = y at e hp ⊢
  go_enter Tryz.func89, Tryz.ntmps89
  go_wp2
  go_ret
  exact ⟨ret_int e, rfl⟩
theorem blank_nil (w : World) : Calls Tryz.prog 86 #[.pointer none] w fun e w' => e = .returned (.bool true) ∧ w' = w := by
  go_enter Tryz.func86, Tryz.ntmps86
  go_wp2
  go_ret
  exact ⟨rfl, rfl⟩
theorem info41 : (Tryz.prog.info? 45).map (fun i => (i.zero, i.size, i.bytes)) = some (some (.int .u64 0), 1, 8) := by kernel_rfl
theorem info4 : (Tryz.prog.info? 4).map (fun i => (i.zero, i.size, i.bytes)) = some (some (.bool false), 1, 1) := by kernel_rfl
section
variable {D : Nat → Prop} {w : World} {p g K : Nat} {v : Nat → Nat}
theorem blank_any (H : DrIn D w p g K v) (hK : 1 ≤ K) : Calls Tryz.prog 86 #[.pointer (some ⟨p, 0, none⟩)] w fun e w' => e = .returned (.bool false) ∧ w' = w := by
  obtain ⟨c0, -⟩ := H.top
  have hK' : ((K : Int) == 0) = false := by simp; omega
  clear H
  go_enter Tryz.func86, Tryz.ntmps86
  go_wp2
  go_ret
  exact ⟨rfl, rfl⟩
theorem dr_made (hD : ∀ k, w.heap.size ≤ k → D k) :
    DrIn D ((w.alloc (.cells (u64s (fun _ => 0) K).toArray 45)).alloc (.cells #[.slice (some ⟨w.heap.size, 0, none⟩) K K] 86)) (w.heap.size + 1) w.heap.size K (fun _ => 0) := by
  have h := heap_alloc_new (w.alloc (.cells (u64s (fun _ => 0) K).toArray 45)) (.cells #[.slice (some ⟨w.heap.size, 0, none⟩) K K] 86)
  rw [World.size_alloc] at h
  refine ⟨hD _ (by omega), hD _ (Nat.le_refl _), by omega, h, ?_⟩
  rw [Below.heap_alloc _ _ _ (by simp)]
  exact heap_alloc_new _ _
theorem new_any (r : Int) (h0 : -9223372036854775808 ≤ r) (h1 : r ≤ 9223372036854775807) (hD : ∀ k, w.heap.size ≤ k → D k) :
    Calls Tryz.prog 21 #[.int .i64 r] w fun e w' => ∃ p, e = .returned (.pointer (some ⟨p, 0, none⟩)) ∧ DR p (nw r) (fun _ => false) D w' ∧ Keeps D w w' := by
  obtain ⟨w0, w1⟩ := nw_le r
  have hw := bitsFor_any r w h0 h1
  generalize nw r = K at w0 w1 hw ⊢
  have hmk := run_make_row' (P := Tryz.prog) 83 45 (.int .u64 0) 8 Tryz.underlying83 info41 rfl .i64 .i64 K (by omega) (by omega)
  rw [u64s_made] at hmk
  have e64 : ((64 * K : Nat) : Int) / 64 = (K : Int) := by omega
  obtain ⟨m, hm⟩ : ∃ m, 64 * K = m := ⟨_, rfl⟩
  rw [hm] at hw e64
  have m1 : m ≤ 8192 := by omega
  clear hm
  go_enter Tryz.func21, Tryz.ntmps21
  go_wp2_with (go_at_call 43; refine hw.mono ?_; rintro e w1 ⟨rfl, rfl⟩)
  go_ret
  exact ⟨_, rfl, ⟨_, ⟨w0, by assumption, fun _ => by omega⟩, funext bt_zero, _, dr_made hD⟩, ((Keeps.refl D _).alloc _).alloc _⟩
end
end Go.Proofs.YtcphhlfbjkeikabGreat.Dr
/- The program's door: where a key's bits lie; whether they are all set; Has. -/
namespace Go.Proofs.YtcphhlfbjkeikabGreat.Dr
open Go.RowKit

/-- the first j places of a key's bits -/
def plv (M : Nat) (k : ByteArray) (j r : Nat) : Value := .int .i64 ((if r < j then hp M k r else 0 : Nat) : Int)
def plArr (M : Nat) (k : ByteArray) (j : Nat) : Array Value := #[plv M k j 0, plv M k j 1, plv M k j 2]
def plAll (M : Nat) (k : ByteArray) : Array Value := #[.int .i64 (hp M k 0 : Nat), .int .i64 (hp M k 1 : Nat), .int .i64 (hp M k 2 : Nat)]
theorem plArr_all (M : Nat) (k : ByteArray) : plArr M k 3 = plAll M k := by simp [plArr, plAll, plv]
theorem plArr_zero (M : Nat) (k : ByteArray) : plArr M k 0 = #[.int .i64 0, .int .i64 0, .int .i64 0] := by simp [plArr, plv]
theorem plArr_set (M : Nat) (k : ByteArray) {j : Nat} (hj : j < 3) : (plArr M k j).set! j (.int .i64 (hp M k j : Nat)) = plArr M k (j + 1) := by
  have : j = 0 ∨ j = 1 ∨ j = 2 := by omega
  rcases this with rfl | rfl | rfl <;> simp [plArr, plv]
theorem plArr_at (M : Nat) (k : ByteArray) {j : Nat} (hj : j < 3) : (plArr M k j)[j]? = some (plv M k j j) := by
  have : j = 0 ∨ j = 1 ∨ j = 2 := by omega
  rcases this with rfl | rfl | rfl <;> rfl
/-- places of a key in memory that was made -/
def PlIn (w wr : World) (M : Nat) (k : ByteArray) (j : Nat) : Prop :=
  Below w.heap.size w wr ∧ wr.heap[w.heap.size]? = some (.cells (plArr M k 0) 123 (0, 0)) ∧ wr.heap[w.heap.size + 1]? = some (.cells (plArr M k j) 123 (0, 0))
theorem plIn_start (w : World) (M : Nat) (k : ByteArray) : PlIn w ((w.alloc (.cells #[.int .i64 0, .int .i64 0, .int .i64 0] 123)).alloc (.cells #[.int .i64 0, .int .i64 0, .int .i64 0] 123)) M k 0 := by
  have h := heap_alloc_new (w.alloc (.cells #[.int .i64 0, .int .i64 0, .int .i64 0] 123)) (.cells #[.int .i64 0, .int .i64 0, .int .i64 0] 123)
  rw [World.size_alloc] at h
  refine ⟨((Below.refl _ w).alloc (Nat.le_refl _) _).alloc (by simp) _, ?_, ?_⟩
  · rw [Below.heap_alloc _ _ _ (by simp), plArr_zero]
    exact heap_alloc_new _ _
  · rw [plArr_zero]; exact h
theorem PlIn.next {w wr : World} {M : Nat} {k : ByteArray} {j : Nat} (h : PlIn w wr M k j) (hj : j < 3) (q : Nat) : PlIn w ((wr.drewN q).setCell ⟨w.heap.size + 1, j, none⟩ (.int .i64 (hp M k j : Nat))) M k (j + 1) := by
  obtain ⟨h1, h2, h3⟩ := h
  refine ⟨(below_drewN h1 q).setCell (by simp) _, ?_, ?_⟩
  · rw [Below.heap_setCell _ _ _ _ (by simp)]; exact h2
  · rw [block_setCell (w := wr.drewN q) h3, plArr_set M k hj]
section
variable {D : Nat → Prop} {w : World} {p g K : Nat} {v : Nat → Nat}
set_option maxHeartbeats 4000000 in
theorem places_any (H : DrIn D w p g K v) (hK : 1 ≤ K) (hK2 : K ≤ 128) (k : ByteArray) (hk : k.size ≤ 1000) :
    Calls Tryz.prog 87 #[.pointer (some ⟨p, 0, none⟩), .string k] w fun e w' => e = .returned (.agg (plAll (64 * K) k)) ∧ Below w.heap.size w w' := by
  have HH : Hid (DrIn D w p g K v) := H
  clear H
  obtain ⟨M, hM⟩ : ∃ M, 64 * K = M := ⟨_, rfl⟩
  rw [hM]
  have hM1 : 64 ≤ M := by omega
  have hM2 : M ≤ 8192 := by omega
  have w5 : IntKind.i64.wrap (64 * (K : Int)) = (M : Int) := by rw [IntKind.wrap_i64]; omega
  clear hM
  go_enter Tryz.func87, Tryz.ntmps87
  go_wp2_with fail
  have h0 := plIn_start w M k
  have hsz : (w.alloc (.cells #[.int .i64 0, .int .i64 0, .int .i64 0] 123)).heap.size = w.heap.size + 1 := World.size_alloc _ _
  go_loopw [7] (fun i wr => ∃ j : Nat, j ≤ 3 ∧ i = .int .i64 j ∧ PlIn w wr M k j) (fun i _ => 3 - (intOf i).toNat)
  case atStart => exact ⟨0, by omega, rfl, h0⟩
  case round =>
    clear h0
    obtain ⟨j, hj, rfl, hP⟩ := hrel
    have hpw := lt_of_block HH.out.2.2.2.1
    rcases Nat.lt_or_ge j 3 with hlt | hge
    · obtain ⟨c0, -⟩ := (HH.out.below hP.1).top
      have HX : Hid (PlIn w ((wr.drewN 1).setCell ⟨w.heap.size + 1, j, none⟩ (.int .i64 (hp M k j : Nat))) M k (j + 1)) := hP.next hlt 1
      have hx := hp_lt hM1 k j
      have hash := fun W => hash_row k j hlt W hk
      have place := fun W => place_row hM1 hM2 k j W
      generalize hp M k j = X at HX hx place
      have w4 : IntKind.u64.wrap (11 + (j : Int)) = 11 + (j : Int) := by rw [IntKind.wrap_u64]; omega
      have w3 : IntKind.u64.wrap (j : Int) = (j : Int) := by rw [IntKind.wrap_u64]; omega
      have jI : (j : Int) < 3 := by omega
      have j0 : (0 : Int) ≤ (j : Int) := by omega
      have f0 : wr.frozen? ⟨w.heap.size + 1, j, none⟩ = false := frozen_of_block hP.2.2
      have b0 : wr.cell? ⟨w.heap.size + 1, j, none⟩ = some (plv M k j j) := by rw [cell_of_block hP.2.2, plArr_at M k hlt]
      have cS : (wr.setCell ⟨w.heap.size + 1, j, none⟩ (.int .i64 (X : Nat))).drew.cell? ⟨p, 0, none⟩ = some (.slice (some ⟨g, 0, none⟩) K K) := (cell_setCell_far (w := wr) (by show p ≠ w.heap.size + 1; omega)).trans c0
      clear hP
      go_wp2_with fail
      go_region_held3 (fun W => W.cell? ⟨p, 0, none⟩ = some (.slice (some ⟨g, 0, none⟩) K K)) (first | go_keep | exact cS)
       (first
        | (go_at_call 84; refine (hash _).mono ?_; rintro e w1 ⟨rfl, rfl⟩)
        | (go_at_call 83; refine (place _).mono ?_; rintro e w1 ⟨rfl, rfl⟩))
      go_wp2_with fail
      go_roundw
      case rel => exact ⟨j + 1, hlt, by go_num, HX.out⟩
      case measure => simp [intOf]; omega
    · have hj3 : j = 3 := by omega
      subst hj3
      obtain ⟨hb, hp0, hp1⟩ := hP
      rw [plArr_all] at hp1
      obtain ⟨d0, d1, d2, -⟩ := cells_of_three hp1
      obtain ⟨c0, c1, c2, f0, f1, f2⟩ := cells_of_three hp0
      clear hp1
      go_wp2_with fail
      refine bodyPost_ret (v := .agg (plAll M k)) (by simp [results, Tryz.results87, go_sem, plAll, c0, c1, c2]) rfl ⟨rfl, ((hb.setCell (Nat.le_refl _) _).setCell (Nat.le_refl _) _).setCell (Nat.le_refl _) _⟩
end
end Go.Proofs.YtcphhlfbjkeikabGreat.Dr
/- The program's door: whether a key's bits are all set; Has. -/
namespace Go.Proofs.YtcphhlfbjkeikabGreat.Dr
open Go.RowKit

theorem ret_bool {a b : Bool} (h : a = b) : Ending.returned (.bool a) = .returned (.bool b) := by rw [h]
theorem index_0 (a0 a1 a2 : Int) (W : World) : (Instr.index 123 (.agg #[.int .i64 a0, .int .i64 a1, .int .i64 a2]) (.int .i64 0)).run Tryz.prog W = .ok (.int .i64 a0) W := by kernel_rfl
theorem index_1 (a0 a1 a2 : Int) (W : World) : (Instr.index 123 (.agg #[.int .i64 a0, .int .i64 a1, .int .i64 a2]) (.int .i64 1)).run Tryz.prog W = .ok (.int .i64 a1) W := by kernel_rfl
theorem index_2 (a0 a1 a2 : Int) (W : World) : (Instr.index 123 (.agg #[.int .i64 a0, .int .i64 a1, .int .i64 a2]) (.int .i64 2)).run Tryz.prog W = .ok (.int .i64 a2) W := by kernel_rfl
theorem index_pl (M : Nat) (k : ByteArray) {j : Nat} (hj : j < 3) (W : World) : (Instr.index 123 (.agg #[.int .i64 (hp M k 0 : Nat), .int .i64 (hp M k 1 : Nat), .int .i64 (hp M k 2 : Nat)]) (.int .i64 (j : Nat))).run Tryz.prog W = .ok (.int .i64 (hp M k j : Nat)) W := by
  have : j = 0 ∨ j = 1 ∨ j = 2 := by omega
  rcases this with rfl | rfl | rfl
  · exact index_0 _ _ _ W
  · exact index_1 _ _ _ W
  · exact index_2 _ _ _ W
/-- the first j of a key's bits are set -/
def Set (b : Nat → Bool) (M : Nat) (k : ByteArray) (j : Nat) : Prop := ∀ r, r < j → b (hp M k r) = true
theorem Set.more {b : Nat → Bool} {M : Nat} {k : ByteArray} {j : Nat} (h : Set b M k j) (hj : b (hp M k j) = true) : Set b M k (j + 1) := by
  intro r hr
  rcases Nat.lt_or_ge r j with c | c
  · exact h r c
  · rw [show r = j by omega]; exact hj
theorem Set.all {b : Nat → Bool} {M : Nat} {k : ByteArray} (h : Set b M k 3) : has b M k = true := by
  unfold has
  rw [h 0 (by omega), h 1 (by omega), h 2 (by omega)]
  rfl
theorem has_not {b : Nat → Bool} {M : Nat} {k : ByteArray} {j : Nat} (hj : j < 3) (h : b (hp M k j) = false) : has b M k = false := by
  have : j = 0 ∨ j = 1 ∨ j = 2 := by omega
  unfold has
  rcases this with rfl | rfl | rfl <;> simp [h]
section
variable {D : Nat → Prop} {w : World} {p g K : Nat} {v : Nat → Nat}
set_option maxHeartbeats 1000000 in
theorem all_any (H : DrIn D w p g K v) (f : Fit K v) (k : ByteArray) :
    Calls Tryz.prog 88 #[.pointer (some ⟨p, 0, none⟩), .agg (plAll (64 * K) k)] w fun e w' => e = .returned (.bool (has (bt v) (64 * K) k)) ∧ Below w.heap.size w w' := by
  have HH : Hid (DrIn D w p g K v) := H
  have HF : Hid (Fit K v) := f
  obtain ⟨M, hM⟩ : ∃ M, 64 * K = M := ⟨_, rfl⟩
  rw [hM]
  have hlo := f.lo
  have hhi := f.hi
  have hM1 : 64 ≤ M := by omega
  have hM2 : M ≤ 8192 := by omega
  have HI : Hid (∀ {j : Nat} (_ : j < 3) (W : World), (Instr.index 123 (.agg #[.int .i64 (hp M k 0 : Nat), .int .i64 (hp M k 1 : Nat), .int .i64 (hp M k 2 : Nat)]) (.int .i64 (j : Nat))).run Tryz.prog W = .ok (.int .i64 (hp M k j : Nat)) W) := fun hj W => index_pl M k hj W
  have HM : Hid (64 * K = M) := hM
  clear H f hM
  unfold plAll
  go_enter Tryz.func88, Tryz.ntmps88
  go_wp2_with fail
  go_loopw [8] (fun i wr => ∃ j : Nat, j ≤ 3 ∧ i = .int .i64 j ∧ Set (bt v) M k j ∧ Below w.heap.size w wr) (fun i _ => 3 - (intOf i).toNat)
  case atStart => exact ⟨0, by omega, rfl, fun r hr => by omega, (Below.refl _ w).alloc (Nat.le_refl _) _⟩
  case round =>
    obtain ⟨j, hj, rfl, hS, hb⟩ := hrel
    have HS : Hid (Set (bt v) M k j) := hS
    clear hS
    have hs := hb.size
    rcases Nat.lt_or_ge j 3 with hlt | hge
    · have hidx := fun W => HI.out hlt W
      obtain ⟨c0, -⟩ := (HH.out.below hb).top
      have hx := hp_lt hM1 k j
      have HMore : Hid (bt v (hp M k j) = true → Set (bt v) M k (j + 1)) := fun h => HS.out.more h
      have HNot : Hid (bt v (hp M k j) = false → has (bt v) M k = false) := fun h => has_not hlt h
      generalize hp M k j = P at hidx hx HMore HNot
      have hP6 : P ≤ 1000000 := by omega
      have hmask := fun W => mask_any P hP6 W
      have hy := two_pow_lt P
      have hab := and_bit (v (P / 64)) (P % 64)
      have hQ : P / 64 < K := by have := HM.out; omega
      obtain ⟨d0, -⟩ := (HH.out.below hb).at hQ
      have hv := HF.out.word (P / 64)
      have hbt : bt v P = (v (P / 64)).testBit (P % 64) := rfl
      have hpos : 0 < 2 ^ (P % 64) := Nat.two_pow_pos _
      rw [hbt] at HMore HNot
      have eQ : (P : Int) / 64 = ((P / 64 : Nat) : Int) := by omega
      clear hbt
      generalize v (P / 64) = V at *
      generalize 2 ^ (P % 64) = y at *
      generalize P / 64 = Q at *
      have hQ6 : Q ≤ 1000000 := by omega
      have hQI : (Q : Int) < (K : Int) := by omega
      have ha := u64_and_nat V y hv hy
      cases ht : V.testBit (P % 64)
      · rw [ht] at HNot hab
        simp only [Bool.false_eq_true, if_false] at hab
        rw [hab] at ha
        clear hab ht HMore
        go_wp2_with fail
        go_quiet ((go_at_call 89; refine Calls.quiet_of_same (hmask _)))
        go_wp2_with fail
        go_ret
        exact ⟨ret_bool (HNot.out trivial).symm, below_drewN hb _⟩
      · rw [ht] at HMore hab
        simp only [if_true] at hab
        rw [hab] at ha
        have hyB : ((y : Int) == 0) = false := by simp; omega
        clear hab ht HNot
        go_wp2_with fail
        go_quiet ((go_at_call 89; refine Calls.quiet_of_same (hmask _)))
        go_wp2_with fail
        go_roundw
        case rel => exact ⟨j + 1, hlt, by go_num, HMore.out trivial, below_drewN hb _⟩
        case measure => simp [intOf]; omega
    · have hj3 : j = 3 := by omega
      subst hj3
      go_wp2_with fail
      go_ret
      exact ⟨ret_bool HS.out.all.symm, hb⟩
theorem has_any {b : Nat → Bool} (H : DR p K b D w) (k : ByteArray) (hk : k.size ≤ 1000) :
    Calls Tryz.prog 101 #[.pointer (some ⟨p, 0, none⟩), .string k] w fun e w' => e = .returned (.bool (has b (64 * K) k)) ∧ Below w.heap.size w w' := by
  obtain ⟨v, f, rfl, g, H⟩ := H
  have hbl := blank_any H f.lo
  have hpl := places_any H f.lo f.hi k hk
  have HH : Hid (DrIn D w p g K v) := H
  have HF : Hid (Fit K v) := f
  clear H f
  go_enter Tryz.func101, Tryz.ntmps101
  go_wp2_with (first
    | (go_at_call 86; refine hbl.mono ?_; rintro e w1 ⟨rfl, rfl⟩; clear hbl)
    | (go_at_call 87; refine hpl.mono ?_; rintro e w2 ⟨rfl, hb2⟩; have hls := all_any (HH.out.below hb2) HF.out k; have hs2 := hb2.size; clear hpl)
    | (go_at_call 88; refine hls.mono ?_; rintro e w3 ⟨rfl, hb3⟩))
  go_ret
  exact ⟨rfl, hb2.trans (hb3.mono hs2)⟩
end
end Go.Proofs.YtcphhlfbjkeikabGreat.Dr
/- The program's door: Add. -/
namespace Go.Proofs.YtcphhlfbjkeikabGreat.Dr
open Go.RowKit

section
variable {D : Nat → Prop} {w : World} {p g K : Nat} {v : Nat → Nat}
theorem box_later {w2 w4 : World} {M : Nat} {k : ByteArray} (hb : Below (w2.alloc (.cells (plAll M k) 123)).heap.size (w2.alloc (.cells (plAll M k) 123)) w4) :
    w4.cell? ⟨w2.heap.size, 0, none⟩ = some (.int .i64 (hp M k 0 : Nat)) ∧ w4.cell? ⟨w2.heap.size, 1, none⟩ = some (.int .i64 (hp M k 1 : Nat)) ∧ w4.cell? ⟨w2.heap.size, 2, none⟩ = some (.int .i64 (hp M k 2 : Nat)) := by
  have h := (hb.block w2.heap.size (by simp)).trans (heap_alloc_new w2 _)
  obtain ⟨d0, d1, d2, -⟩ := cells_of_three (w := w4) h
  exact ⟨d0, d1, d2⟩
theorem Fit.set (f : Fit K v) (i : Nat) {x : Nat} (hx : x < 18446744073709551616) : Fit K (upd v i x) :=
  ⟨f.lo, f.hi, fun j => by unfold upd; have := f.word j; split <;> omega⟩
/-- one bit more in a word -/
theorem or_end {a q R : Nat} (H : DrIn D w p g K v) (e : v (a / 64) ||| 2 ^ (a % 64) = R) :
    DrIn D ((w.drewN q).setCell ⟨g, a / 64, none⟩ (.int .u64 (R : Nat))) p g K (upd v (a / 64) (v (a / 64) ||| 2 ^ (a % 64))) := by
  have h := (H.below (below_drewN (Below.refl _ _) q)).set (u64s_set v K (a / 64) R)
  rw [e]
  exact h
set_option maxHeartbeats 2000000 in
theorem add_any {b : Nat → Bool} (H : DR p K b D w) (k : ByteArray) (hk : k.size ≤ 1000) :
    Calls Tryz.prog 66 #[.pointer (some ⟨p, 0, none⟩), .string k] w fun e w' => e = .returned (.bool (has b (64 * K) k)) ∧ DR p K (add b (64 * K) k 3) D w' ∧ Keeps D w w' := by
  obtain ⟨v, f, rfl, g, H⟩ := H
  have hbl := blank_any H f.lo
  have hpl := places_any H f.lo f.hi k hk
  have hle := fun {w' : World} (hb : Below w.heap.size w w') => all_any (H.below hb) f k
  have HH : Hid (DrIn D w p g K v) := H
  have HF : Hid (Fit K v) := f
  obtain ⟨M, hM⟩ : ∃ M, 64 * K = M := ⟨_, rfl⟩
  rw [hM] at hpl hle ⊢
  have hlo := f.lo
  have hhi := f.hi
  have hM1 : 64 ≤ M := by omega
  have hM2 : M ≤ 8192 := by omega
  have HI : Hid (∀ {j : Nat} (_ : j < 3) (W : World), (Instr.index 123 (.agg #[.int .i64 (hp M k 0 : Nat), .int .i64 (hp M k 1 : Nat), .int .i64 (hp M k 2 : Nat)]) (.int .i64 (j : Nat))).run Tryz.prog W = .ok (.int .i64 (hp M k j : Nat)) W) := fun hj W => index_pl M k hj W
  have HM : Hid (64 * K = M) := hM
  clear H f hM
  generalize has (bt v) M k = was at hle ⊢
  go_enter Tryz.func66, Tryz.ntmps66
  go_wp2_with (first
    | (go_at_call 86; refine hbl.mono ?_; rintro e w1 ⟨rfl, rfl⟩; clear hbl)
    | (go_at_call 87; refine hpl.mono ?_; unfold plAll; rintro e w2 ⟨rfl, hb2⟩; have hs2 := hb2.size; have hb3 := hb2.alloc hs2 (.cells (plAll M k) 123); have hls := hle hb3; clear hpl)
    | (go_at_call 88; refine hls.mono ?_; rintro e w4 ⟨rfl, hb4⟩; obtain ⟨d0, d1, d2⟩ := box_later hb4; clear hls))
  have hb5 : Below w1.heap.size w1 w4 := hb3.trans (hb4.mono (by have := hb3.size; omega))
  have h4 := HH.out.below hb5
  clear hb2 hb3 hb4 d0 d1 d2 hle hs2
  go_loopw [18] (fun i wr => ∃ (j : Nat) (u : Nat → Nat), j ≤ 3 ∧ i = .int .i64 j ∧ Fit K u ∧ bt u = add (bt v) M k j ∧ DrIn D wr p g K u ∧ Keeps D w1 wr) (fun i _ => 3 - (intOf i).toNat)
  case atStart => exact ⟨0, v, by omega, rfl, HF.out, rfl, h4, .of_below hb5⟩
  case round =>
    clear h4 hb5
    obtain ⟨j, u, hj, rfl, hf, hbu, HJ, hk5⟩ := hrel
    have HFU : Hid (Fit K u) := hf
    have HBU : Hid (bt u = add (bt v) M k j) := hbu
    have HR : Hid (DrIn D wr p g K u) := HJ
    have HK : Hid (Keeps D w1 wr) := hk5
    clear hf hbu
    rcases Nat.lt_or_ge j 3 with hlt | hge
    · have hidx := fun W => HI.out hlt W
      obtain ⟨c0, -⟩ := HJ.top
      have hx := hp_lt hM1 k j
      have HE : Hid (add (bt v) M k (j + 1) = on (bt u) (hp M k j)) := by
        show Hid (on (add (bt v) M k j) (hp M k j) = _)
        rw [← HBU.out]
        exact rfl
      generalize hp M k j = P at hidx hx HE
      have hP6 : P ≤ 1000000 := by omega
      have hmask := fun W => mask_any P hP6 W
      have hy := two_pow_lt P
      have hQ : P / 64 < K := by have := HM.out; omega
      obtain ⟨d0, e0⟩ := HJ.at hQ
      have hv := HFU.out.word (P / 64)
      have hor := or_lt hv hy
      have ho := u64_or_nat (u (P / 64)) (2 ^ (P % 64)) hv hy
      obtain ⟨R, hR⟩ : ∃ R, u (P / 64) ||| 2 ^ (P % 64) = R := ⟨_, rfl⟩
      have HX : Hid (∀ q, DrIn D ((wr.drewN q).setCell ⟨g, P / 64, none⟩ (.int .u64 (R : Nat))) p g K (upd u (P / 64) (u (P / 64) ||| 2 ^ (P % 64)))) := fun q => or_end HR.out hR
      have HFX : Hid (Fit K (upd u (P / 64) (u (P / 64) ||| 2 ^ (P % 64)))) := HFU.out.set _ hor
      have HBX : Hid (bt (upd u (P / 64) (u (P / 64) ||| 2 ^ (P % 64))) = on (bt u) P) := funext (bt_on u P)
      have HKX : Hid (∀ q x, Keeps D w1 ((wr.drewN q).setCell ⟨g, P / 64, none⟩ x)) := fun q x => (HK.out.drewN q).setCell HR.out.2.1 x
      have eQ : (P : Int) / 64 = ((P / 64 : Nat) : Int) := by omega
      rw [hR] at ho
      generalize upd u (P / 64) (u (P / 64) ||| 2 ^ (P % 64)) = u' at HX HFX HBX
      rw [hR] at hor
      generalize u (P / 64) = V at d0 hv ho
      generalize 2 ^ (P % 64) = y at hmask ho hy
      generalize P / 64 = Q at *
      have hQI : (Q : Int) < (K : Int) := by omega
      have hQ0 : (0 : Int) ≤ (Q : Int) := by omega
      have hwr : IntKind.i64.wrap (Q : Int) = (Q : Int) := by rw [IntKind.wrap_i64]; omega
      clear HJ hk5 hR
      go_wp2_with fail
      go_region_with (go_at_call 89; refine (hmask _).mono ?_; rintro e w5 ⟨rfl, rfl⟩)
      all_goals
        go_wp2_with fail
        go_roundw
        case rel => exact ⟨j + 1, _, hlt, by go_num, HFX.out, by rw [HE.out]; exact HBX.out, HX.out _, HKX.out _ _⟩
        case measure => simp [intOf]; omega
    · have hj3 : j = 3 := by omega
      subst hj3
      clear HJ hk5
      go_wp2_with fail
      go_ret
      exact ⟨rfl, ⟨u, HFU.out, HBU.out, g, HR.out⟩, HK.out⟩
end
end Go.Proofs.YtcphhlfbjkeikabGreat.Dr
/- The program's door: Clear, Ones; a nil one; known. -/
namespace Go.Proofs.YtcphhlfbjkeikabGreat.Dr
open Go.RowKit

section
variable {D : Nat → Prop} {w : World} {p K : Nat} {b : Nat → Bool}
theorem zero_fits {v : Nat → Nat} (f : Fit K v) : Fit K (fun _ => 0) := ⟨f.lo, f.hi, fun _ => by omega⟩
theorem DrIn.cleared {g : Nat} {v : Nat → Nat} (H : DrIn D w p g K (clr v K)) : DrIn D w p g K (fun _ => 0) := H.ext (fun i hi => by unfold clr; rw [if_pos hi])
set_option maxHeartbeats 1000000 in
theorem clear_any (H : DR p K b D w) :
    Calls Tryz.prog 69 #[.pointer (some ⟨p, 0, none⟩)] w fun e w' => e = .returned (.tuple #[]) ∧ DR p K (fun _ => false) D w' ∧ Keeps D w w' := by
  obtain ⟨v, f, rfl, g, H⟩ := H
  have hbl := blank_any H f.lo
  obtain ⟨c0, -⟩ := H.top
  have HH : Hid (DrIn D w p g K v) := H
  have HF : Hid (Fit K v) := f
  have hlo := f.lo
  have hhi := f.hi
  clear H f
  go_enter Tryz.func69, Tryz.ntmps69
  go_wp2_with (go_at_call 86; refine hbl.mono ?_; rintro e w1 ⟨rfl, rfl⟩)
  clear hbl c0
  go_loopw [10] (fun i wr => ∃ j : Nat, j ≤ K ∧ i = .int .i64 j ∧ DrIn D wr p g K (clr v j) ∧ Keeps D w1 wr) (fun i _ => K - (intOf i).toNat)
  case atStart => exact ⟨0, Nat.zero_le _, rfl, by rw [clr_zero]; exact HH.out, Keeps.refl _ _⟩
  case round =>
    obtain ⟨j, hj, rfl, HJ, hk⟩ := hrel
    obtain ⟨c0, -⟩ := HJ.top
    have HR : Hid (DrIn D wr p g K (clr v j)) := HJ
    have HK : Hid (Keeps D w1 wr) := hk
    rcases Nat.lt_or_ge j K with hlt | hge
    · obtain ⟨b0, e0⟩ := HJ.at hlt
      have HX : Hid (DrIn D (wr.setCell ⟨g, j, none⟩ (.int .u64 0)) p g K (clr v (j + 1))) := HR.out.set (u64s_clr v K j)
      have HKX : Hid (∀ u, Keeps D w1 (wr.setCell ⟨g, j, none⟩ u)) := fun u => HK.out.setCell HR.out.2.1 u
      have jI : (j : Int) < (K : Int) := by omega
      clear HJ hk
      go_wp2_with fail
      go_roundw
      case rel => exact ⟨j + 1, hlt, by go_num, HX.out, HKX.out _⟩
      case measure => simp [intOf]; omega
    · have hj' : j = K := by omega
      subst hj'
      clear HJ hk hge
      go_wp2_with fail
      go_end0
      exact ⟨rfl, ⟨_, zero_fits HF.out, funext bt_zero, g, HR.out.cleared⟩, HK.out⟩
end
end Go.Proofs.YtcphhlfbjkeikabGreat.Dr
