/- Mix, Hash and Place: what they answer. -/
import Derived.Test.YtdiggfiapbifpaaTx
import Derived.WalkKit
import Derived.WalkSpells
import Derived.WalkLawsBesides
import Derived.Laws.BitsAllLaws
namespace Go.Proofs.Ytdiggfiapbifpaa.Ix
open Go.RowKit

/-- one step of Mix -/
def mstep (X s C : Nat) : Nat := (X ^^^ X / s) * C % 18446744073709551616
/-- Mix -/
def mx (X : Nat) : Nat :=
  mstep (mstep X 1073741824 13787848793156543929) 134217728 10723151780598845931 ^^^ mstep (mstep X 1073741824 13787848793156543929) 134217728 10723151780598845931 / 2147483648
theorem mstep_lt (X s C : Nat) : mstep X s C < 18446744073709551616 := Nat.mod_lt _ (by decide)
theorem xs_lt (X s : Nat) (h : X < 18446744073709551616) : X ^^^ X / s < 18446744073709551616 :=
  Nat.xor_lt_two_pow (n := 64) h (Nat.lt_of_le_of_lt (Nat.div_le_self _ _) h)
theorem mx_lt (X : Nat) : mx X < 18446744073709551616 := xs_lt _ _ (mstep_lt _ _ _)
/-- one byte more in Hash -/
def hstep (h : Nat) (c : UInt8) : Nat := mx (((h ^^^ c.toNat) + 11400714819323198485) % 18446744073709551616)
/-- Hash -/
def hsh (seed n : Nat) (l : List UInt8) : Nat := l.foldl hstep (mx (seed ^^^ n))
theorem hstep_lt (h : Nat) (c : UInt8) : hstep h c < 18446744073709551616 := mx_lt _
theorem foldl_lt (l : List UInt8) : ∀ h, h < 18446744073709551616 → l.foldl hstep h < 18446744073709551616 := by
  induction l with
  | nil => intro h hh; exact hh
  | cons c r ih => intro h _; exact ih _ (hstep_lt _ _)
theorem hsh_lt (seed n : Nat) (l : List UInt8) : hsh seed n l < 18446744073709551616 := foldl_lt _ _ (mx_lt _)
theorem hsh_snoc (seed n : Nat) (l : List UInt8) (c : UInt8) : hsh seed n (l ++ [c]) = hstep (hsh seed n l) c := by
  unfold hsh; rw [List.foldl_append, List.foldl_cons, List.foldl_nil]
theorem hsh_nil (seed n : Nat) (l : List UInt8) : hsh seed n (l.take 0) = mx (seed ^^^ n) := by
  unfold hsh; rw [List.take_zero, List.foldl_nil]

theorem mx_walk (X : Nat) (hX : X < 18446744073709551616) :
    bits BinOp.xor IntKind.u64 (IntKind.u64.wrap (bits BinOp.xor IntKind.u64 (IntKind.u64.wrap (bits BinOp.xor IntKind.u64 (X : Int) ((X : Int) / 1073741824) * 13787848793156543929)) (IntKind.u64.wrap (bits BinOp.xor IntKind.u64 (X : Int) ((X : Int) / 1073741824) * 13787848793156543929) / 134217728) * 10723151780598845931)) (IntKind.u64.wrap (bits BinOp.xor IntKind.u64 (IntKind.u64.wrap (bits BinOp.xor IntKind.u64 (X : Int) ((X : Int) / 1073741824) * 13787848793156543929)) (IntKind.u64.wrap (bits BinOp.xor IntKind.u64 (X : Int) ((X : Int) / 1073741824) * 13787848793156543929) / 134217728) * 10723151780598845931) / 2147483648) = (mx X : Int) := by
  have e1 : IntKind.u64.wrap (bits BinOp.xor IntKind.u64 (X : Int) ((X : Int) / 1073741824) * 13787848793156543929) = (mstep X 1073741824 13787848793156543929 : Int) := mixStep_u64 X 1073741824 13787848793156543929 hX
  rw [e1]
  have e2 : IntKind.u64.wrap (bits BinOp.xor IntKind.u64 (mstep X 1073741824 13787848793156543929 : Int) ((mstep X 1073741824 13787848793156543929 : Int) / 134217728) * 10723151780598845931) = (mstep (mstep X 1073741824 13787848793156543929) 134217728 10723151780598845931 : Int) := mixStep_u64 (mstep X 1073741824 13787848793156543929) 134217728 10723151780598845931 (mstep_lt _ _ _)
  rw [e2]
  exact xorShift_u64 (mstep (mstep X 1073741824 13787848793156543929) 134217728 10723151780598845931) 2147483648 (mstep_lt _ _ _)

theorem mix_any (X : Nat) (w : World) (hX : X < 18446744073709551616) :
    Calls Try.prog 44 #[.int .u64 X] w fun e w' => e = .returned (.int .u64 (mx X)) ∧ w' = w := by
  go_enter Try.func44, Try.ntmps44
  go_wp2
  go_ret
  exact ⟨ret_int (mx_walk X hX), rfl⟩

/-- Place, as a number -/
def plc (h n : Int) : Int := if n < 1 then 0 else h % n
theorem plc_no {h n : Int} (hn : n < 1) : plc h n = 0 := by simp [plc, hn]
theorem plc_yes {h n : Int} (hn : ¬ n < 1) : plc h n = h % n := by simp [plc, hn]
theorem place_any (h n : Int) (w : World) (h0 : 0 ≤ h) (h1 : h < 18446744073709551616) (hn : n ≤ 9223372036854775807) :
    Calls Try.prog 41 #[.int .u64 h, .int .i64 n] w fun e w' => e = .returned (.int .i64 (plc h n)) ∧ w' = w := by
  by_cases hc : n < 1
  · rw [plc_no hc]
    go_enter Try.func41, Try.ntmps41
    go_wp2
    go_ret
    exact ⟨rfl, rfl⟩
  · rw [plc_yes hc]
    have b0 : 0 ≤ h % n := Int.emod_nonneg _ (by omega)
    have b1 : h % n < n := Int.emod_lt_of_pos _ (by omega)
    go_enter Try.func41, Try.ntmps41
    go_wp2
    go_ret
    exact ⟨rfl, rfl⟩

theorem take_snoc (s : ByteArray) (k : Nat) (h : k < s.size) : s.data.toList.take (k + 1) = s.data.toList.take k ++ [s[k]] := by
  rw [List.take_succ_eq_append_getElem (by simpa using h)]; rfl
theorem hstep_walk (H : Nat) (c : UInt8) (hH : H < 18446744073709551616) :
    ∃ X : Nat, X < 18446744073709551616 ∧ IntKind.u64.wrap (bits BinOp.xor IntKind.u64 (H : Int) (c.toNat : Int) + 11400714819323198485) = (X : Int) ∧ hstep H c = mx X := by
  refine ⟨((H ^^^ c.toNat) + 11400714819323198485) % 18446744073709551616, Nat.mod_lt _ (by decide), ?_, by rw [hstep]⟩
  rw [bits_xor_u64_nat _ _ hH (Nat.lt_trans c.toNat_lt (by decide)), IntKind.wrap_u64]
  omega

theorem hash_any (S : Nat) (s : ByteArray) (w : World) (hS : S < 18446744073709551616) (hs : s.size ≤ maxLen) :
    Calls Try.prog 42 #[.int .u64 S, .string s] w fun e w' => e = .returned (.int .u64 (hsh S s.size s.data.toList)) ∧ w' = w := by
  unfold maxLen at hs
  have hx : S ^^^ s.size < 18446744073709551616 := Nat.xor_lt_two_pow (n := 64) hS (by omega)
  have e0 := bits_xor_u64_nat S s.size hS (by omega)
  go_enter Try.func42, Try.ntmps42
  go_wp2_with (go_at_call 44; refine (mix_any _ _ hx).mono ?_; rintro e w' ⟨rfl, rfl⟩)
  clear e0
  go_loop [5, 15] (fun h i => ∃ k : Nat, k ≤ s.size ∧ i = .int .i64 k ∧ h = .int .u64 (hsh S s.size (s.data.toList.take k))) (fun _ i => s.size - (intOf i).toNat)
  case atStart => exact ⟨0, Nat.zero_le _, rfl, by rw [hsh_nil]⟩
  case round =>
    obtain ⟨k, hk, rfl, rfl⟩ := hrel
    have hH := hsh_lt S s.size (s.data.toList.take k)
    by_cases hlt : k < s.size
    · have HS : Hid (hsh S s.size (s.data.toList.take (k + 1)) = hstep (hsh S s.size (s.data.toList.take k)) s[k]) := by rw [take_snoc s k hlt]; exact hsh_snoc _ _ _ _
      generalize hsh S s.size (s.data.toList.take k) = H at *
      obtain ⟨X, hml, hst, hX⟩ := hstep_walk H s[k] hH
      rw [hX] at HS
      clear hX
      have hc : s[k].toNat < 256 := s[k].toNat_lt
      go_wp2_with (go_at_call 44; refine (mix_any X _ hml).mono ?_; rintro e w' ⟨rfl, rfl⟩)
      go_round
      case rel => exact ⟨k + 1, by omega, by go_num, by rw [HS.out]⟩
      case measure => simp [intOf]; omega
    · go_wp2
      go_ret
      exact ⟨ret_int (by rw [List.take_of_length_le (by simp; omega)]), rfl⟩


end Go.Proofs.Ytdiggfiapbifpaa.Ix
