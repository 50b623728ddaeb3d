/- The program's sketch, whole: what is kept, what it holds, what each call answers. -/
import Derived.Test.YtcphhlfbjkeikabGreatLm
import Derived.WalkKit
import Derived.WalkSpells
import Derived.WalkLawsBesides
import Derived.Laws.BitsAllLaws
import Derived.WalkSmall
import Derived.Deep.OwnRows
import Derived.Deep.QuietTactic
import Derived.BigQuiet
import Derived.Deep.RegionHeld3
/- Mix, Hash and Place, the program's and the document's: what they answer; where a key's cells lie. -/
namespace Go.Proofs.YtcphhlfbjkeikabGreat.Sk
open Go.RowKit

/-- one step of Mix -/
def mstep (X s C : Nat) : Nat := (X ^^^ X / s) * C % 18446744073709551616
/-- Mix -/
def mx (X : Nat) : Nat :=
  mstep (mstep X 1073741824 13787848793156543929) 134217728 10723151780598845931 ^^^ mstep (mstep X 1073741824 13787848793156543929) 134217728 10723151780598845931 / 2147483648
theorem mstep_lt (X s C : Nat) : mstep X s C < 18446744073709551616 := Nat.mod_lt _ (by decide)
theorem xs_lt (X s : Nat) (h : X < 18446744073709551616) : X ^^^ X / s < 18446744073709551616 :=
  Nat.xor_lt_two_pow (n := 64) h (Nat.lt_of_le_of_lt (Nat.div_le_self _ _) h)
theorem mx_lt (X : Nat) : mx X < 18446744073709551616 := xs_lt _ _ (mstep_lt _ _ _)
/-- one byte more in Hash -/
def hstep (h : Nat) (c : UInt8) : Nat := mx (((h ^^^ c.toNat) + 11400714819323198485) % 18446744073709551616)
/-- Hash -/
def hsh (seed n : Nat) (l : List UInt8) : Nat := l.foldl hstep (mx (seed ^^^ n))
theorem hstep_lt (h : Nat) (c : UInt8) : hstep h c < 18446744073709551616 := mx_lt _
theorem foldl_lt (l : List UInt8) : ∀ h, h < 18446744073709551616 → l.foldl hstep h < 18446744073709551616 := by
  induction l with
  | nil => intro h hh; exact hh
  | cons c r ih => intro h _; exact ih _ (hstep_lt _ _)
theorem hsh_lt (seed n : Nat) (l : List UInt8) : hsh seed n l < 18446744073709551616 := foldl_lt _ _ (mx_lt _)
theorem hsh_snoc (seed n : Nat) (l : List UInt8) (c : UInt8) : hsh seed n (l ++ [c]) = hstep (hsh seed n l) c := by
  unfold hsh; rw [List.foldl_append, List.foldl_cons, List.foldl_nil]
theorem hsh_nil (seed n : Nat) (l : List UInt8) : hsh seed n (l.take 0) = mx (seed ^^^ n) := by
  unfold hsh; rw [List.take_zero, List.foldl_nil]
theorem ret_int {k : IntKind} {a b : Int} (h : a = b) : Ending.returned (.int k a) = .returned (.int k b) := by rw [h]

theorem mx_walk (X : Nat) (hX : X < 18446744073709551616) :
    bits BinOp.xor IntKind.u64 (IntKind.u64.wrap (bits BinOp.xor IntKind.u64 (IntKind.u64.wrap (bits BinOp.xor IntKind.u64 (X : Int) ((X : Int) / 1073741824) * 13787848793156543929)) (IntKind.u64.wrap (bits BinOp.xor IntKind.u64 (X : Int) ((X : Int) / 1073741824) * 13787848793156543929) / 134217728) * 10723151780598845931)) (IntKind.u64.wrap (bits BinOp.xor IntKind.u64 (IntKind.u64.wrap (bits BinOp.xor IntKind.u64 (X : Int) ((X : Int) / 1073741824) * 13787848793156543929)) (IntKind.u64.wrap (bits BinOp.xor IntKind.u64 (X : Int) ((X : Int) / 1073741824) * 13787848793156543929) / 134217728) * 10723151780598845931) / 2147483648) = (mx X : Int) := by
  have e1 : IntKind.u64.wrap (bits BinOp.xor IntKind.u64 (X : Int) ((X : Int) / 1073741824) * 13787848793156543929) = (mstep X 1073741824 13787848793156543929 : Int) := mixStep_u64 X 1073741824 13787848793156543929 hX
  rw [e1]
  have e2 : IntKind.u64.wrap (bits BinOp.xor IntKind.u64 (mstep X 1073741824 13787848793156543929 : Int) ((mstep X 1073741824 13787848793156543929 : Int) / 134217728) * 10723151780598845931) = (mstep (mstep X 1073741824 13787848793156543929) 134217728 10723151780598845931 : Int) := mixStep_u64 (mstep X 1073741824 13787848793156543929) 134217728 10723151780598845931 (mstep_lt _ _ _)
  rw [e2]
  exact xorShift_u64 (mstep (mstep X 1073741824 13787848793156543929) 134217728 10723151780598845931) 2147483648 (mstep_lt _ _ _)

theorem mix_any (X : Nat) (w : World) (hX : X < 18446744073709551616) :
    Calls Tryz.prog 109 #[.int .u64 X] w fun e w' => e = .returned (.int .u64 (mx X)) ∧ w' = w := by
  go_enter Tryz.func109, Tryz.ntmps109
  go_wp2
  go_ret
  exact ⟨ret_int (mx_walk X hX), rfl⟩

/-- Place, as a number -/
def plc (h n : Int) : Int := if n < 1 then 0 else h % n
theorem plc_no {h n : Int} (hn : n < 1) : plc h n = 0 := by simp [plc, hn]
theorem plc_yes {h n : Int} (hn : ¬ n < 1) : plc h n = h % n := by simp [plc, hn]
theorem place_any (h n : Int) (w : World) (h0 : 0 ≤ h) (h1 : h < 18446744073709551616) (hn : n ≤ 9223372036854775807) :
    Calls Tryz.prog 83 #[.int .u64 h, .int .i64 n] w fun e w' => e = .returned (.int .i64 (plc h n)) ∧ w' = w := by
  by_cases hc : n < 1
  · rw [plc_no hc]
    go_enter Tryz.func83, Tryz.ntmps83
    go_wp2
    go_ret
    exact ⟨rfl, rfl⟩
  · rw [plc_yes hc]
    have b0 : 0 ≤ h % n := Int.emod_nonneg _ (by omega)
    have b1 : h % n < n := Int.emod_lt_of_pos _ (by omega)
    go_enter Tryz.func83, Tryz.ntmps83
    go_wp2
    go_ret
    exact ⟨rfl, rfl⟩

theorem take_snoc (s : ByteArray) (k : Nat) (h : k < s.size) : s.data.toList.take (k + 1) = s.data.toList.take k ++ [s[k]] := by
  rw [List.take_succ_eq_append_getElem (by simpa using h)]; rfl
theorem hstep_walk (H : Nat) (c : UInt8) (hH : H < 18446744073709551616) :
    ∃ X : Nat, X < 18446744073709551616 ∧ IntKind.u64.wrap (bits BinOp.xor IntKind.u64 (H : Int) (c.toNat : Int) + 11400714819323198485) = (X : Int) ∧ hstep H c = mx X := by
  refine ⟨((H ^^^ c.toNat) + 11400714819323198485) % 18446744073709551616, Nat.mod_lt _ (by decide), ?_, by rw [hstep]⟩
  rw [bits_xor_u64_nat _ _ hH (Nat.lt_trans c.toNat_lt (by decide)), IntKind.wrap_u64]
  omega

theorem hash_any (S : Nat) (s : ByteArray) (w : World) (hS : S < 18446744073709551616) (hs : s.size ≤ maxLen) :
    Calls Tryz.prog 84 #[.int .u64 S, .string s] w fun e w' => e = .returned (.int .u64 (hsh S s.size s.data.toList)) ∧ w' = w := by
  unfold maxLen at hs
  have hx : S ^^^ s.size < 18446744073709551616 := Nat.xor_lt_two_pow (n := 64) hS (by omega)
  have e0 := bits_xor_u64_nat S s.size hS (by omega)
  go_enter Tryz.func84, Tryz.ntmps84
  go_wp2_with (go_at_call 109; refine (mix_any _ _ hx).mono ?_; rintro e w' ⟨rfl, rfl⟩)
  clear e0
  go_loop [5, 15] (fun h i => ∃ k : Nat, k ≤ s.size ∧ i = .int .i64 k ∧ h = .int .u64 (hsh S s.size (s.data.toList.take k))) (fun _ i => s.size - (intOf i).toNat)
  case atStart => exact ⟨0, Nat.zero_le _, rfl, by rw [hsh_nil]⟩
  case round =>
    obtain ⟨k, hk, rfl, rfl⟩ := hrel
    have hH := hsh_lt S s.size (s.data.toList.take k)
    by_cases hlt : k < s.size
    · have HS : Hid (hsh S s.size (s.data.toList.take (k + 1)) = hstep (hsh S s.size (s.data.toList.take k)) s[k]) := by rw [take_snoc s k hlt]; exact hsh_snoc _ _ _ _
      generalize hsh S s.size (s.data.toList.take k) = H at *
      obtain ⟨X, hml, hst, hX⟩ := hstep_walk H s[k] hH
      rw [hX] at HS
      clear hX
      have hc : s[k].toNat < 256 := s[k].toNat_lt
      go_wp2_with (go_at_call 109; refine (mix_any X _ hml).mono ?_; rintro e w' ⟨rfl, rfl⟩)
      go_round
      case rel => exact ⟨k + 1, by omega, by go_num, by rw [HS.out]⟩
      case measure => simp [intOf]; omega
    · go_wp2
      go_ret
      exact ⟨ret_int (by rw [List.take_of_length_le (by simp; omega)]), rfl⟩
/-! ### the document's -/
theorem mixr_any (X : Nat) (w : World) (hX : X < 18446744073709551616) :
    Calls Tryz.prog 118 #[.int .u64 X] w fun e w' => e = .returned (.int .u64 (mx X)) ∧ w' = w := by
  go_enter Tryz.func118, Tryz.ntmps118
  go_wp2
  go_ret
  exact ⟨ret_int (mx_walk X hX), rfl⟩

theorem placer_any (h n : Int) (w : World) (h0 : 0 ≤ h) (h1 : h < 18446744073709551616) (hn : n ≤ 9223372036854775807) :
    Calls Tryz.prog 115 #[.int .u64 h, .int .i64 n] w fun e w' => e = .returned (.int .i64 (plc h n)) ∧ w' = w := by
  by_cases hc : n < 1
  · rw [plc_no hc]
    go_enter Tryz.func115, Tryz.ntmps115
    go_wp2
    go_ret
    exact ⟨rfl, rfl⟩
  · rw [plc_yes hc]
    have b0 : 0 ≤ h % n := Int.emod_nonneg _ (by omega)
    have b1 : h % n < n := Int.emod_lt_of_pos _ (by omega)
    go_enter Tryz.func115, Tryz.ntmps115
    go_wp2
    go_ret
    exact ⟨rfl, rfl⟩

theorem hashr_any (S : Nat) (s : ByteArray) (w : World) (hS : S < 18446744073709551616) (hs : s.size ≤ maxLen) :
    Calls Tryz.prog 116 #[.int .u64 S, .string s] w fun e w' => e = .returned (.int .u64 (hsh S s.size s.data.toList)) ∧ w' = w := by
  unfold maxLen at hs
  have hx : S ^^^ s.size < 18446744073709551616 := Nat.xor_lt_two_pow (n := 64) hS (by omega)
  have e0 := bits_xor_u64_nat S s.size hS (by omega)
  go_enter Tryz.func116, Tryz.ntmps116
  go_wp2_with (go_at_call 118; refine (mixr_any _ _ hx).mono ?_; rintro e w' ⟨rfl, rfl⟩)
  clear e0
  go_loop [5, 6] (fun h i => ∃ k : Nat, k ≤ s.size ∧ i = .int .i64 k ∧ h = .int .u64 (hsh S s.size (s.data.toList.take k))) (fun _ i => s.size - (intOf i).toNat)
  case atStart => exact ⟨0, Nat.zero_le _, rfl, by rw [hsh_nil]⟩
  case round =>
    obtain ⟨k, hk, rfl, rfl⟩ := hrel
    have hH := hsh_lt S s.size (s.data.toList.take k)
    by_cases hlt : k < s.size
    · have HS : Hid (hsh S s.size (s.data.toList.take (k + 1)) = hstep (hsh S s.size (s.data.toList.take k)) s[k]) := by rw [take_snoc s k hlt]; exact hsh_snoc _ _ _ _
      generalize hsh S s.size (s.data.toList.take k) = H at *
      obtain ⟨X, hml, hst, hX⟩ := hstep_walk H s[k] hH
      rw [hX] at HS
      clear hX
      have hc : s[k].toNat < 256 := s[k].toNat_lt
      go_wp2_with (go_at_call 118; refine (mixr_any X _ hml).mono ?_; rintro e w' ⟨rfl, rfl⟩)
      go_round
      case rel => exact ⟨k + 1, by omega, by go_num, by rw [HS.out]⟩
      case measure => simp [intOf]; omega
    · go_wp2
      go_ret
      exact ⟨ret_int (by rw [List.take_of_length_le (by simp; omega)]), rfl⟩
/-- a key's number -/
def hs (seed : Nat) (k : ByteArray) : Nat := hsh seed k.size k.data.toList
theorem hs_lt (seed : Nat) (k : ByteArray) : hs seed k < 18446744073709551616 := hsh_lt _ _ _
/-- where a key's cell lies within row r -/
def hp (N : Nat) (k : ByteArray) (r : Nat) : Nat := hs (r + 1) k % N
theorem hp_lt {N : Nat} (hN : 8 ≤ N) (k : ByteArray) (r : Nat) : hp N k r < N := Nat.mod_lt _ (by omega)
theorem plc_hp {N : Nat} (hN : 8 ≤ N) (k : ByteArray) (r : Nat) : plc (hs (r + 1) k : Nat) (N : Nat) = (hp N k r : Nat) := by
  rw [plc_yes (by omega)]
  unfold hp
  omega
theorem hash_row (k : ByteArray) (r : Nat) (hr : r < 4) (w : World) (hk : k.size ≤ 1000) :
    Calls Tryz.prog 84 #[.int .u64 ((r : Int) + 1), .string k] w fun e w' => e = .returned (.int .u64 (hs (r + 1) k : Nat)) ∧ w' = w := by
  have := hash_any (r + 1) k w (by omega) (by unfold maxLen; omega)
  simpa [hs] using this
theorem place_row {N : Nat} (hN : 8 ≤ N) (hN2 : N ≤ 1024) (k : ByteArray) (r : Nat) (w : World) :
    Calls Tryz.prog 83 #[.int .u64 (hs (r + 1) k : Nat), .int .i64 (N : Nat)] w fun e w' => e = .returned (.int .i64 (hp N k r : Nat)) ∧ w' = w := by
  have := place_any (hs (r + 1) k : Nat) (N : Nat) w (by omega) (by have := hs_lt (r + 1) k; omega) (by omega)
  rw [plc_hp hN] at this
  exact this
theorem hashr_row (k : ByteArray) (r : Nat) (hr : r < 4) (w : World) (hk : k.size ≤ 1000) :
    Calls Tryz.prog 116 #[.int .u64 ((r : Int) + 1), .string k] w fun e w' => e = .returned (.int .u64 (hs (r + 1) k : Nat)) ∧ w' = w := by
  have := hashr_any (r + 1) k w (by omega) (by unfold maxLen; omega)
  simpa [hs] using this
theorem placer_row {N : Nat} (hN : 8 ≤ N) (hN2 : N ≤ 1024) (k : ByteArray) (r : Nat) (w : World) :
    Calls Tryz.prog 115 #[.int .u64 (hs (r + 1) k : Nat), .int .i64 (N : Nat)] w fun e w' => e = .returned (.int .i64 (hp N k r : Nat)) ∧ w' = w := by
  have := placer_any (hs (r + 1) k : Nat) (N : Nat) w (by omega) (by have := hs_lt (r + 1) k; omega) (by omega)
  rw [plc_hp hN] at this
  exact this
end Go.Proofs.YtcphhlfbjkeikabGreat.Sk
/- Blocks of memory, and what is kept; a sketch in memory, the program's and the document's: its cells are one function of their places. -/
namespace Go.Proofs.YtcphhlfbjkeikabGreat.Sk
open Go.RowKit

theorem block_setCell {w : World} {p j : Nat} {cs : Array Value} {t : TypeId} {u : Value} (h : w.heap[p]? = some (.cells cs t (0, 0))) :
    (w.setCell ⟨p, j, none⟩ u).heap[p]? = some (.cells (cs.set! j u) t (0, 0)) := by
  have hlt := lt_of_block h
  have h' : w.heap[p] = .cells cs t (0, 0) := by simpa [Array.getElem?_eq_getElem hlt] using h
  show (w.heap.modify p _)[p]? = _
  rw [Array.getElem?_eq_getElem (by simpa using hlt), Array.getElem_modify_self, h']
  rfl
theorem cell_setCell_far {w : World} {a b : Addr} {u : Value} (h : b.block ≠ a.block) : (w.setCell a u).cell? b = w.cell? b :=
  World.cell?_of_block (w := w) (Below.heap_setCell _ _ _ _ h)
theorem frozen_of_block {w : World} {p j : Nat} {cs : Array Value} {t : TypeId} (h : w.heap[p]? = some (.cells cs t (0, 0))) : w.frozen? ⟨p, j, none⟩ = false := by
  simp [World.frozen?, h]
theorem cell_of_block {w : World} {p j : Nat} {cs : Array Value} {t : TypeId} (h : w.heap[p]? = some (.cells cs t (0, 0))) : w.cell? ⟨p, j, none⟩ = cs[j]? := by
  simp [World.cell?, h]

theorem made_list (z : Value) (n : Nat) : madeCells #[z] n = (List.replicate n z).toArray := by
  rw [← toList_madeCells_one]
theorem cells_of_three {w : World} {p : Nat} {a b c : Value} {t : TypeId} (h : w.heap[p]? = some (.cells #[a, b, c] t (0, 0))) :
    w.cell? ⟨p, 0, none⟩ = some a ∧ w.cell? ⟨p, 1, none⟩ = some b ∧ w.cell? ⟨p, 2, none⟩ = some c ∧
    w.frozen? ⟨p, 0, none⟩ = false ∧ w.frozen? ⟨p, 1, none⟩ = false ∧ w.frozen? ⟨p, 2, none⟩ = false := by
  simp [World.cell?, World.frozen?, h]
theorem cells_of_four {w : World} {p : Nat} {a b c d : Value} {t : TypeId} (h : w.heap[p]? = some (.cells #[a, b, c, d] t (0, 0))) :
    w.cell? ⟨p, 0, none⟩ = some a ∧ w.cell? ⟨p, 1, none⟩ = some b ∧ w.cell? ⟨p, 2, none⟩ = some c ∧ w.cell? ⟨p, 3, none⟩ = some d ∧
    w.frozen? ⟨p, 0, none⟩ = false ∧ w.frozen? ⟨p, 1, none⟩ = false ∧ w.frozen? ⟨p, 2, none⟩ = false ∧ w.frozen? ⟨p, 3, none⟩ = false := by
  simp [World.cell?, World.frozen?, h]
theorem set_range {n j : Nat} {f g : Nat → Value} (h : ∀ i, i < n → i ≠ j → g i = f i) (v : Value) (hv : j < n → g j = v) : ((List.range n).map f).set j v = (List.range n).map g := by
  apply List.ext_getElem?
  intro i
  by_cases hi : i < n
  · by_cases hj : i = j
    · subst hj
      simp [hi, hv hi]
    · simp [hi, Ne.symm hj, h i hi hj]
  · simp [hi]

/-! ### cells by their places -/
def upd (c : Nat → Nat) (i v : Nat) : Nat → Nat := fun j => if j = i then v else c j
/-- a byte: two cells -/
def byt (c : Nat → Nat) (k : Nat) : Nat := c (2 * k) + 16 * c (2 * k + 1)
theorem byt_lt {c : Nat → Nat} (h : ∀ i, c i ≤ 15) (k : Nat) : byt c k < 256 := by
  have h0 := h (2 * k)
  have h1 := h (2 * k + 1)
  unfold byt
  omega
def u8s (c : Nat → Nat) (n : Nat) : List Value := (List.range n).map (fun k => .int .u8 (byt c k : Nat))
def i64s (c : Nat → Nat) (n : Nat) : List Value := (List.range n).map (fun k => .int .i64 (c k : Nat))
theorem u8s_at (c : Nat → Nat) {n k : Nat} (h : k < n) : (u8s c n)[k]? = some (.int .u8 (byt c k : Nat)) := by simp [u8s, h]
theorem i64s_at (c : Nat → Nat) {n k : Nat} (h : k < n) : (i64s c n)[k]? = some (.int .i64 (c k : Nat)) := by simp [i64s, h]
theorem u8s_made (n : Nat) : madeCells #[.int .u8 0] n = (u8s (fun _ => 0) n).toArray := by
  rw [made_list]
  congr 1
  apply List.ext_getElem?
  intro i
  by_cases h : i < n
  · simp [u8s, h, byt]
  · simp [u8s, h]
theorem i64s_made (n : Nat) : madeCells #[.int .i64 0] n = (i64s (fun _ => 0) n).toArray := by
  rw [made_list]
  congr 1
  apply List.ext_getElem?
  intro i
  by_cases h : i < n
  · simp [i64s, h]
  · simp [i64s, h]
theorem byt_far {c : Nat → Nat} {i v k : Nat} (h : k ≠ i / 2) : byt (upd c i v) k = byt c k := by
  unfold byt upd
  rw [if_neg (by omega), if_neg (by omega)]
theorem u8s_set (c : Nat → Nat) (n i v : Nat) : (u8s c n).set (i / 2) (.int .u8 (byt (upd c i v) (i / 2) : Nat)) = u8s (upd c i v) n := by
  unfold u8s
  exact set_range (fun k _ hk => by rw [byt_far hk]) _ (fun _ => rfl)
theorem i64s_set (c : Nat → Nat) (n i v : Nat) : (i64s c n).set i (.int .i64 (v : Nat)) = i64s (upd c i v) n := by
  unfold i64s
  refine set_range (fun k _ hk => ?_) _ (fun _ => ?_)
  · simp [upd, hk]
  · simp [upd]
/-- the cell in a byte -/
theorem byt_half (c : Nat → Nat) (h : ∀ i, c i ≤ 15) (i : Nat) : byt c (i / 2) / 2 ^ (i % 2 * 4) % 16 = c i := by
  unfold byt
  have h0 := h (2 * (i / 2))
  have h1 := h (2 * (i / 2) + 1)
  rcases Nat.mod_two_eq_zero_or_one i with e | e
  · have e2 : 2 * (i / 2) = i := by omega
    rw [e2] at h0 h1 ⊢
    rw [e]
    simp
    omega
  · have e2 : 2 * (i / 2) + 1 = i := by omega
    rw [e2] at h1 ⊢
    rw [e]
    simp
    omega
theorem byt_raise (c : Nat → Nat) (i : Nat) : byt (upd c i (c i + 1)) (i / 2) = byt c (i / 2) + 2 ^ (i % 2 * 4) := by
  unfold byt upd
  rcases Nat.mod_two_eq_zero_or_one i with e | e
  · rw [e, if_pos (by omega), if_neg (by omega), show 2 * (i / 2) = i by omega]
    simp
    omega
  · rw [e, if_neg (by omega), if_pos (by omega), show 2 * (i / 2) + 1 = i by omega]
    simp
    omega

/-- the first j bytes are halved -/
def hvj (c : Nat → Nat) (j : Nat) : Nat → Nat := fun i => if i < j then c i / 2 else c i
def hv (c : Nat → Nat) : Nat → Nat := fun i => c i / 2
theorem and77 : ∀ a : Fin 16, ∀ b : Fin 16, (a.val + 16 * b.val) / 2 &&& 119 = a.val / 2 + 16 * (b.val / 2) := by decide +kernel
theorem byt_and {c : Nat → Nat} (h : ∀ i, c i ≤ 15) (k : Nat) : byt c k / 2 &&& 119 = byt (hv c) k := by
  have := and77 ⟨c (2 * k), by have := h (2 * k); omega⟩ ⟨c (2 * k + 1), by have := h (2 * k + 1); omega⟩
  exact this
theorem byt_hvj (c : Nat → Nat) (j : Nat) : byt (hvj c (2 * j)) j = byt c j ∧ byt (hvj c (2 * (j + 1))) j = byt (hv c) j := by
  unfold byt hvj hv
  constructor
  · rw [if_neg (by omega), if_neg (by omega)]
  · rw [if_pos (by omega), if_pos (by omega)]
theorem u8s_halve (c : Nat → Nat) (n j : Nat) : (u8s (hvj c (2 * j)) n).set j (.int .u8 (byt (hv c) j : Nat)) = u8s (hvj c (2 * (j + 1))) n := by
  unfold u8s
  refine set_range (fun k _ hk => ?_) _ (fun _ => by rw [(byt_hvj c j).2])
  have : byt (hvj c (2 * (j + 1))) k = byt (hvj c (2 * j)) k := by
    unfold byt hvj
    by_cases h : k < j
    · rw [if_pos (by omega), if_pos (by omega), if_pos (by omega), if_pos (by omega)]
    · rw [if_neg (by omega), if_neg (by omega), if_neg (by omega), if_neg (by omega)]
  rw [this]
theorem i64s_halve (c : Nat → Nat) (n j : Nat) : (i64s (hvj c j) n).set j (.int .i64 ((c j / 2 : Nat) : Int)) = i64s (hvj c (j + 1)) n := by
  unfold i64s
  refine set_range (fun k _ hk => ?_) _ (fun _ => ?_)
  · have : hvj c (j + 1) k = hvj c j k := by
      unfold hvj
      by_cases h : k < j
      · rw [if_pos h, if_pos (by omega)]
      · rw [if_neg h, if_neg (by omega)]
    rw [this]
  · rw [show hvj c (j + 1) j = c j / 2 by unfold hvj; rw [if_pos (by omega)]]
theorem hvj_zero (c : Nat → Nat) : hvj c 0 = c := by funext i; simp [hvj]
theorem u8s_ext {c d : Nat → Nat} {n : Nat} (h : ∀ i, i < 2 * n → c i = d i) : u8s c n = u8s d n := by
  unfold u8s
  apply List.map_congr_left
  intro k hk
  simp at hk
  unfold byt
  rw [h _ (by omega), h _ (by omega)]
theorem i64s_ext {c d : Nat → Nat} {n : Nat} (h : ∀ i, i < n → c i = d i) : i64s c n = i64s d n := by
  unfold i64s
  apply List.map_congr_left
  intro k hk
  simp at hk
  rw [h _ hk]

/-! ### where a key's cells lie, and the least of them -/
def pl (N : Nat) (k : ByteArray) (r : Nat) : Nat := r * N + hp N k r
theorem pl_lt {N : Nat} (hN : 8 ≤ N) (k : ByteArray) {r : Nat} (hr : r < 4) : pl N k r < 4 * N := by
  have := hp_lt hN k r
  unfold pl
  have : r = 0 ∨ r = 1 ∨ r = 2 ∨ r = 3 := by omega
  rcases this with rfl | rfl | rfl | rfl <;> omega
def lw (c : Nat → Nat) (N : Nat) (k : ByteArray) : Nat := min (min (min (c (pl N k 0)) (c (pl N k 1))) (c (pl N k 2))) (c (pl N k 3))
theorem lw_le {c : Nat → Nat} {N : Nat} {k : ByteArray} {r : Nat} (hr : r < 4) : lw c N k ≤ c (pl N k r) := by
  unfold lw
  have : r = 0 ∨ r = 1 ∨ r = 2 ∨ r = 3 := by omega
  rcases this with rfl | rfl | rfl | rfl <;> omega
theorem lw_at (c : Nat → Nat) (N : Nat) (k : ByteArray) : ∃ r, r < 4 ∧ c (pl N k r) = lw c N k := by
  unfold lw
  have h : ∀ a b d e : Nat, min (min (min a b) d) e = a ∨ min (min (min a b) d) e = b ∨ min (min (min a b) d) e = d ∨ min (min (min a b) d) e = e := by intros; omega
  rcases h (c (pl N k 0)) (c (pl N k 1)) (c (pl N k 2)) (c (pl N k 3)) with h | h | h | h
  · exact ⟨0, by omega, h.symm⟩
  · exact ⟨1, by omega, h.symm⟩
  · exact ⟨2, by omega, h.symm⟩
  · exact ⟨3, by omega, h.symm⟩
theorem le_lw {c : Nat → Nat} {N m : Nat} {k : ByteArray} (h : ∀ r, r < 4 → m ≤ c (pl N k r)) : m ≤ lw c N k := by
  obtain ⟨r, hr, e⟩ := lw_at c N k
  rw [← e]
  exact h r hr
theorem lw_hv (c : Nat → Nat) (N : Nat) (k : ByteArray) : lw (hv c) N k = lw c N k / 2 := by
  unfold lw hv
  omega
/-- one cell more, if it is the least -/
def one (low : Nat) (c : Nat → Nat) (i : Nat) : Nat → Nat := if c i = low then upd c i (low + 1) else c
/-- the first j of a key's cells -/
def adds (c : Nat → Nat) (N : Nat) (k : ByteArray) (low : Nat) : Nat → (Nat → Nat)
  | 0 => c
  | j + 1 => one low (adds c N k low j) (pl N k j)
theorem one_mono (low : Nat) (c : Nat → Nat) (i j : Nat) : c j ≤ one low c i j ∧ one low c i j ≤ max (c j) (low + 1) := by
  unfold one upd
  by_cases h : c i = low
  · rw [if_pos h]
    by_cases hj : j = i
    · simp only [hj, if_true]; omega
    · simp only [hj, if_false]; omega
  · rw [if_neg h]; omega
theorem adds_mono (c : Nat → Nat) (N : Nat) (k : ByteArray) (low i : Nat) : ∀ j, c i ≤ adds c N k low j i ∧ adds c N k low j i ≤ max (c i) (low + 1)
  | 0 => by simp only [adds]; omega
  | j + 1 => by
    have h := adds_mono c N k low i j
    have h' := one_mono low (adds c N k low j) (pl N k j) i
    simp only [adds]
    omega
theorem adds_up {c : Nat → Nat} {N : Nat} {k : ByteArray} {low r : Nat} (hl : low ≤ c (pl N k r)) : ∀ j, r < j → low + 1 ≤ adds c N k low j (pl N k r)
  | 0, h => by omega
  | j + 1, h => by
    rcases Nat.lt_or_ge r j with hj | hj
    · have h1 := adds_up hl j hj
      have h2 := (one_mono low (adds c N k low j) (pl N k j) (pl N k r)).1
      simp only [adds]
      omega
    · have e : r = j := by omega
      subst e
      have h1 := (adds_mono c N k low (pl N k r) r).1
      simp only [adds]
      unfold one upd
      by_cases h : adds c N k low r (pl N k r) = low
      · rw [if_pos h]; simp
      · rw [if_neg h]; omega
theorem adds_le {c : Nat → Nat} {N : Nat} {k : ByteArray} {low : Nat} (h : ∀ i, c i ≤ 15) (hl : low < 15) (j i : Nat) : adds c N k low j i ≤ 15 := by
  have h1 := (adds_mono c N k low i j).2
  have h2 := h i
  omega
theorem lw_adds (c : Nat → Nat) (N : Nat) (k : ByteArray) : lw (adds c N k (lw c N k) 4) N k = lw c N k + 1 := by
  apply Nat.le_antisymm
  · obtain ⟨r, hr, e⟩ := lw_at c N k
    have h1 := (adds_mono c N k (lw c N k) (pl N k r) 4).2
    have h2 := lw_le (c := adds c N k (lw c N k) 4) (N := N) (k := k) hr
    omega
  · exact le_lw (fun r hr => adds_up (lw_le hr) 4 hr)

/-! ### how many cells a row has -/
def wd (r : Int) : Nat := if r ≤ 8 then 8 else if r ≤ 16 then 16 else if r ≤ 32 then 32 else if r ≤ 64 then 64 else if r ≤ 128 then 128 else if r ≤ 256 then 256 else if r ≤ 512 then 512 else 1024
def Wd (r : Int) (n : Nat) : Prop := n = 8 ∨ (n = 16 ∧ 8 < r) ∨ (n = 32 ∧ 16 < r) ∨ (n = 64 ∧ 32 < r) ∨ (n = 128 ∧ 64 < r) ∨ (n = 256 ∧ 128 < r) ∨ (n = 512 ∧ 256 < r) ∨ (n = 1024 ∧ 512 < r)
theorem Wd.le {r : Int} {n : Nat} (h : Wd r n) : 8 ≤ n ∧ n ≤ 1024 := by unfold Wd at h; omega
theorem Wd.next {r : Int} {n : Nat} (h : Wd r n) (h1 : (n : Int) < r) (h2 : n < 1024) : Wd r (2 * n) := by unfold Wd at *; omega
theorem Wd.end {r : Int} {n : Nat} (h : Wd r n) (h1 : r ≤ n ∨ 1024 ≤ n) : n = wd r := by
  unfold Wd at h
  unfold wd
  rcases h with h | h | h | h | h | h | h | h <;> (split <;> try omega) <;> (split <;> try omega) <;> (split <;> try omega) <;> (split <;> try omega) <;> (split <;> try omega) <;> (split <;> try omega) <;> (split <;> try omega)
theorem Wd.wd (r : Int) : Wd r (wd r) := by
  unfold Wd YtcphhlfbjkeikabGreat.Sk.wd
  (split <;> try omega) <;> (split <;> try omega) <;> (split <;> try omega) <;> (split <;> try omega) <;> (split <;> try omega) <;> (split <;> try omega) <;> (split <;> try omega)
theorem wd_le (r : Int) : 8 ≤ wd r ∧ wd r ≤ 1024 := (Wd.wd r).le

/-! ### a sketch in memory -/
/-- what a sketch's numbers keep -/
structure Fit (N : Nat) (c : Nat → Nat) (s : Nat) : Prop where
  lo : 8 ≤ N
  hi : N ≤ 1024
  cell : ∀ i, c i ≤ 15
  sum : s < 10 * N
/-- the program's: its struct, its bytes -/
def SkIn (D : Nat → Prop) (w : World) (p g N : Nat) (c : Nat → Nat) (s : Nat) : Prop :=
  D p ∧ D g ∧ g ≠ p ∧ w.heap[p]? = some (.cells #[.int .i64 (N : Nat), .slice (some ⟨g, 0, none⟩) (2 * N) (2 * N), .int .i64 (s : Nat)] 88 (0, 0)) ∧ w.heap[g]? = some (.cells (u8s c (2 * N)).toArray 5 (0, 0))
/-- the document's: its struct, its numbers -/
def RfIn (D : Nat → Prop) (w : World) (p g N : Nat) (c : Nat → Nat) (s : Nat) : Prop :=
  D p ∧ D g ∧ g ≠ p ∧ w.heap[p]? = some (.cells #[.slice (some ⟨g, 0, none⟩) (4 * N) (4 * N), .int .i64 (N : Nat), .int .i64 (s : Nat)] 97 (0, 0)) ∧ w.heap[g]? = some (.cells (i64s c (4 * N)).toArray 3 (0, 0))
section
variable {D : Nat → Prop} {w w' : World} {p g N : Nat} {c : Nat → Nat} {s : Nat}
theorem SkIn.top (h : SkIn D w p g N c s) : w.cell? ⟨p, 0, none⟩ = some (.int .i64 (N : Nat)) ∧ w.cell? ⟨p, 1, none⟩ = some (.slice (some ⟨g, 0, none⟩) (2 * N) (2 * N)) ∧ w.cell? ⟨p, 2, none⟩ = some (.int .i64 (s : Nat)) ∧
    w.frozen? ⟨p, 0, none⟩ = false ∧ w.frozen? ⟨p, 1, none⟩ = false ∧ w.frozen? ⟨p, 2, none⟩ = false := cells_of_three h.2.2.2.1
theorem SkIn.at (h : SkIn D w p g N c s) {k : Nat} (hk : k < 2 * N) : w.cell? ⟨g, k, none⟩ = some (.int .u8 (byt c k : Nat)) ∧ w.frozen? ⟨g, k, none⟩ = false :=
  ⟨by rw [cell_of_block h.2.2.2.2, List.getElem?_toArray, u8s_at c hk], frozen_of_block h.2.2.2.2⟩
theorem RfIn.top (h : RfIn D w p g N c s) : w.cell? ⟨p, 0, none⟩ = some (.slice (some ⟨g, 0, none⟩) (4 * N) (4 * N)) ∧ w.cell? ⟨p, 1, none⟩ = some (.int .i64 (N : Nat)) ∧ w.cell? ⟨p, 2, none⟩ = some (.int .i64 (s : Nat)) ∧
    w.frozen? ⟨p, 0, none⟩ = false ∧ w.frozen? ⟨p, 1, none⟩ = false ∧ w.frozen? ⟨p, 2, none⟩ = false := cells_of_three h.2.2.2.1
theorem RfIn.at (h : RfIn D w p g N c s) {k : Nat} (hk : k < 4 * N) : w.cell? ⟨g, k, none⟩ = some (.int .i64 (c k : Nat)) ∧ w.frozen? ⟨g, k, none⟩ = false :=
  ⟨by rw [cell_of_block h.2.2.2.2, List.getElem?_toArray, i64s_at c hk], frozen_of_block h.2.2.2.2⟩
/-- other bytes -/
theorem SkIn.set (h : SkIn D w p g N c s) {k b : Nat} {d : Nat → Nat} (e : (u8s c (2 * N)).set k (.int .u8 (b : Nat)) = u8s d (2 * N)) : SkIn D (w.setCell ⟨g, k, none⟩ (.int .u8 (b : Nat))) p g N d s := by
  obtain ⟨h1, h2, h3, h4, h5⟩ := h
  refine ⟨h1, h2, h3, ?_, ?_⟩
  · rw [Below.heap_setCell _ _ _ _ (by exact Ne.symm h3)]; exact h4
  · rw [block_setCell h5]
    simp only [Array.set!_eq_setIfInBounds, List.setIfInBounds_toArray]
    rw [e]
theorem RfIn.set (h : RfIn D w p g N c s) {k b : Nat} {d : Nat → Nat} (e : (i64s c (4 * N)).set k (.int .i64 (b : Nat)) = i64s d (4 * N)) : RfIn D (w.setCell ⟨g, k, none⟩ (.int .i64 (b : Nat))) p g N d s := by
  obtain ⟨h1, h2, h3, h4, h5⟩ := h
  refine ⟨h1, h2, h3, ?_, ?_⟩
  · rw [Below.heap_setCell _ _ _ _ (by exact Ne.symm h3)]; exact h4
  · rw [block_setCell h5]
    simp only [Array.set!_eq_setIfInBounds, List.setIfInBounds_toArray]
    rw [e]
theorem SkIn.setSum (h : SkIn D w p g N c s) (t : Nat) : SkIn D (w.setCell ⟨p, 2, none⟩ (.int .i64 (t : Nat))) p g N c t := by
  obtain ⟨h1, h2, h3, h4, h5⟩ := h
  refine ⟨h1, h2, h3, by rw [block_setCell h4]; rfl, ?_⟩
  rw [Below.heap_setCell _ _ _ _ (by exact h3)]; exact h5
theorem RfIn.setSum (h : RfIn D w p g N c s) (t : Nat) : RfIn D (w.setCell ⟨p, 2, none⟩ (.int .i64 (t : Nat))) p g N c t := by
  obtain ⟨h1, h2, h3, h4, h5⟩ := h
  refine ⟨h1, h2, h3, by rw [block_setCell h4]; rfl, ?_⟩
  rw [Below.heap_setCell _ _ _ _ (by exact h3)]; exact h5
theorem SkIn.kept {D' : Nat → Prop} (h : SkIn D w p g N c s) (hk : Keeps D' w w') (hd : ∀ k, D k → ¬ D' k) : SkIn D w' p g N c s := by
  obtain ⟨h1, h2, h3, h4, h5⟩ := h
  exact ⟨h1, h2, h3, (hk.block p (lt_of_block h4) (hd _ h1)).trans h4, (hk.block g (lt_of_block h5) (hd _ h2)).trans h5⟩
theorem RfIn.kept {D' : Nat → Prop} (h : RfIn D w p g N c s) (hk : Keeps D' w w') (hd : ∀ k, D k → ¬ D' k) : RfIn D w' p g N c s := by
  obtain ⟨h1, h2, h3, h4, h5⟩ := h
  exact ⟨h1, h2, h3, (hk.block p (lt_of_block h4) (hd _ h1)).trans h4, (hk.block g (lt_of_block h5) (hd _ h2)).trans h5⟩
theorem SkIn.below (h : SkIn D w p g N c s) (hb : Below w.heap.size w w') : SkIn D w' p g N c s := h.kept (D' := fun _ => False) (.of_below hb) (fun _ _ e => e)
theorem RfIn.below (h : RfIn D w p g N c s) (hb : Below w.heap.size w w') : RfIn D w' p g N c s := h.kept (D' := fun _ => False) (.of_below hb) (fun _ _ e => e)
theorem SkIn.wide {D' : Nat → Prop} (h : SkIn D w p g N c s) (hD : ∀ k, D k → D' k) : SkIn D' w p g N c s := ⟨hD _ h.1, hD _ h.2.1, h.2.2⟩
theorem RfIn.wide {D' : Nat → Prop} (h : RfIn D w p g N c s) (hD : ∀ k, D k → D' k) : RfIn D' w p g N c s := ⟨hD _ h.1, hD _ h.2.1, h.2.2⟩
theorem SkIn.narrow (h : SkIn D w p g N c s) : SkIn (fun k => D k ∧ k < w.heap.size) w p g N c s := ⟨⟨h.1, lt_of_block h.2.2.2.1⟩, ⟨h.2.1, lt_of_block h.2.2.2.2⟩, h.2.2⟩
theorem RfIn.narrow (h : RfIn D w p g N c s) : RfIn (fun k => D k ∧ k < w.heap.size) w p g N c s := ⟨⟨h.1, lt_of_block h.2.2.2.1⟩, ⟨h.2.1, lt_of_block h.2.2.2.2⟩, h.2.2⟩
theorem SkIn.ext {d : Nat → Nat} (h : SkIn D w p g N c s) (e : ∀ i, i < 4 * N → c i = d i) : SkIn D w p g N d s := by
  obtain ⟨h1, h2, h3, h4, h5⟩ := h
  exact ⟨h1, h2, h3, h4, by rw [← u8s_ext (c := c) (d := d) (fun i hi => e i (by omega))]; exact h5⟩
theorem RfIn.ext {d : Nat → Nat} (h : RfIn D w p g N c s) (e : ∀ i, i < 4 * N → c i = d i) : RfIn D w p g N d s := by
  obtain ⟨h1, h2, h3, h4, h5⟩ := h
  exact ⟨h1, h2, h3, h4, by rw [← i64s_ext (c := c) (d := d) e]; exact h5⟩
end
/-- a sketch: how many cells a row has, what they are, the sum -/
def SK (p N : Nat) (c : Nat → Nat) (s : Nat) (D : Nat → Prop) (w : World) : Prop := Fit N c s ∧ ∃ g, SkIn D w p g N c s
def RF (p N : Nat) (c : Nat → Nat) (s : Nat) (D : Nat → Prop) (w : World) : Prop := Fit N c s ∧ ∃ g, RfIn D w p g N c s
section
variable {D : Nat → Prop} {w w' : World} {p N : Nat} {c : Nat → Nat} {s : Nat}
theorem SK.below (h : SK p N c s D w) (hb : Below w.heap.size w w') : SK p N c s D w' := by obtain ⟨f, g, h⟩ := h; exact ⟨f, g, h.below hb⟩
theorem RF.below (h : RF p N c s D w) (hb : Below w.heap.size w w') : RF p N c s D w' := by obtain ⟨f, g, h⟩ := h; exact ⟨f, g, h.below hb⟩
end
end Go.Proofs.YtcphhlfbjkeikabGreat.Sk
/- The program's sketch: how many cells a row has, New, whether it is blank, half, cell, raise, Sum. -/
namespace Go.Proofs.YtcphhlfbjkeikabGreat.Sk
open Go.RowKit

theorem width_any (r : Int) (w : World) (h0 : -9223372036854775808 ≤ r) (h1 : r ≤ 9223372036854775807) :
    Calls Tryz.prog 44 #[.int .i64 r] w fun e w' => e = .returned (.int .i64 (wd r : Nat)) ∧ w' = w := by
  go_enter Tryz.func44, Tryz.ntmps44
  go_wp2
  go_loop [3] (fun i => ∃ n : Nat, i = .int .i64 n ∧ Wd r n) (fun i => 1024 - (intOf i).toNat)
  case atStart => exact ⟨8, rfl, .inl rfl⟩
  case round =>
    obtain ⟨n, rfl, hW⟩ := hrel
    have HW : Hid (Wd r n) := hW
    obtain ⟨n0, n1⟩ := hW.le
    clear hW
    by_cases hr : r ≤ 1024
    · by_cases hn : (n : Int) < r
      · go_wp2
        go_round
        case rel => exact ⟨2 * n, by go_num, HW.out.next hn (by omega)⟩
        case measure => simp [intOf]; omega
      · go_wp2
        go_ret
        exact ⟨ret_int (by rw [← HW.out.end (.inl (by omega))]), rfl⟩
    · have hr' : (1024 : Int) < r := by omega
      have hr2 : ¬ (r < (1024 : Int)) := by omega
      by_cases hn : (n : Int) < 1024
      · go_wp2
        go_round
        case rel => exact ⟨2 * n, by go_num, HW.out.next (by omega) (by omega)⟩
        case measure => simp [intOf]; omega
      · go_wp2
        go_ret
        exact ⟨ret_int (by rw [← HW.out.end (.inr (by omega))]), rfl⟩
theorem half_any (i : Nat) (hi : i ≤ 1000000) (w : World) :
    Calls Tryz.prog 110 #[.int .i64 (i : Nat)] w fun e w' => e = .returned (.int .i64 ((i % 2 * 4 : Nat) : Int)) ∧ w' = w := by
  go_enter Tryz.func110, Tryz.ntmps110
  go_wp2
  go_ret
  exact ⟨ret_int (by omega), rfl⟩
theorem blank_nil (w : World) : Calls Tryz.prog 90 #[.pointer none] w fun e w' => e = .returned (.bool true) ∧ w' = w := by
  go_enter Tryz.func90, Tryz.ntmps90
  go_wp2
  go_ret
  exact ⟨rfl, rfl⟩
section
variable {D : Nat → Prop} {w : World} {p g N : Nat} {c : Nat → Nat} {s : Nat}
theorem blank_any (H : SkIn D w p g N c s) (hN : 8 ≤ N) : Calls Tryz.prog 90 #[.pointer (some ⟨p, 0, none⟩)] w fun e w' => e = .returned (.bool false) ∧ w' = w := by
  obtain ⟨c0, -⟩ := H.top
  have hN' : ((N : Int) == 0) = false := by simp; omega
  clear H
  go_enter Tryz.func90, Tryz.ntmps90
  go_wp2
  go_ret
  exact ⟨rfl, rfl⟩
theorem info5 : (Tryz.prog.info? 5).map (fun i => (i.zero, i.size, i.bytes)) = some (some (.int .u8 0), 1, 1) := by kernel_rfl
theorem info3 : (Tryz.prog.info? 3).map (fun i => (i.zero, i.size, i.bytes)) = some (some (.int .i64 0), 1, 8) := by kernel_rfl
theorem sum_any (H : SK p N c s D w) : Calls Tryz.prog 67 #[.pointer (some ⟨p, 0, none⟩)] w fun e w' => e = .returned (.int .i64 (s : Nat)) ∧ w' = w := by
  obtain ⟨f, g, H⟩ := H
  obtain ⟨c0, c1, c2, -⟩ := H.top
  have hb := blank_any H f.lo
  clear H f
  go_enter Tryz.func67, Tryz.ntmps67
  go_wp2_with (go_at_call 90; refine hb.mono ?_; rintro e w1 ⟨rfl, rfl⟩)
  go_ret
  exact ⟨rfl, rfl⟩
theorem sk_made (hD : ∀ k, w.heap.size ≤ k → D k) :
    SkIn D ((w.alloc (.cells (u8s (fun _ => 0) (2 * N)).toArray 5)).alloc (.cells #[.int .i64 (N : Nat), .slice (some ⟨w.heap.size, 0, none⟩) (2 * N) (2 * N), .int .i64 0] 88)) (w.heap.size + 1) w.heap.size N (fun _ => 0) 0 := by
  have h := heap_alloc_new (w.alloc (.cells (u8s (fun _ => 0) (2 * N)).toArray 5)) (.cells #[.int .i64 (N : Nat), .slice (some ⟨w.heap.size, 0, none⟩) (2 * N) (2 * N), .int .i64 0] 88)
  rw [World.size_alloc] at h
  refine ⟨hD _ (by omega), hD _ (Nat.le_refl _), by omega, h, ?_⟩
  rw [Below.heap_alloc _ _ _ (by simp)]
  exact heap_alloc_new _ _
theorem new_any (r : Int) (h0 : -9223372036854775808 ≤ r) (h1 : r ≤ 9223372036854775807) (hD : ∀ k, w.heap.size ≤ k → D k) :
    Calls Tryz.prog 22 #[.int .i64 r] w fun e w' => ∃ p, e = .returned (.pointer (some ⟨p, 0, none⟩)) ∧ SK p (wd r) (fun _ => 0) 0 D w' ∧ Keeps D w w' := by
  obtain ⟨w0, w1⟩ := wd_le r
  have hw := width_any r w h0 h1
  generalize wd r = N at w0 w1 hw ⊢
  have hmk := run_make_row' (P := Tryz.prog) 71 5 (.int .u8 0) 1 Tryz.underlying71 info5 rfl .i64 .i64 (2 * N) (by omega) (by omega)
  rw [show ((2 * N : Nat) : Int) = 4 * (N : Int) / 2 by omega, u8s_made] at hmk
  go_enter Tryz.func22, Tryz.ntmps22
  go_wp2_with (go_at_call 44; refine hw.mono ?_; rintro e w1 ⟨rfl, rfl⟩)
  go_ret
  exact ⟨_, rfl, ⟨⟨w0, by assumption, fun _ => Nat.zero_le _, by omega⟩, _, sk_made hD⟩, ((Keeps.refl D _).alloc _).alloc _⟩
end
end Go.Proofs.YtcphhlfbjkeikabGreat.Sk
/- The program's sketch: a cell, one more in a cell. -/
namespace Go.Proofs.YtcphhlfbjkeikabGreat.Sk
open Go.RowKit

section
variable {D : Nat → Prop} {w : World} {p g N : Nat} {c : Nat → Nat} {s : Nat}
theorem half_even {i : Nat} (hi : i ≤ 1000000) (h : i % 2 = 0) (w : World) : Calls Tryz.prog 110 #[.int .i64 (i : Nat)] w fun e w' => e = .returned (.int .i64 0) ∧ w' = w := by
  have := half_any i hi w
  rw [h] at this
  exact this
theorem half_odd {i : Nat} (hi : i ≤ 1000000) (h : i % 2 = 1) (w : World) : Calls Tryz.prog 110 #[.int .i64 (i : Nat)] w fun e w' => e = .returned (.int .i64 4) ∧ w' = w := by
  have := half_any i hi w
  rw [h] at this
  exact this
set_option maxHeartbeats 1000000 in
theorem cell_any (H : SkIn D w p g N c s) (f : Fit N c s) {i : Nat} (hi : i < 4 * N) :
    Calls Tryz.prog 93 #[.pointer (some ⟨p, 0, none⟩), .int .i64 (i : Nat)] w fun e w' => e = .returned (.int .i64 (c i : Nat)) ∧ ∃ q, w' = w.drewN q := by
  obtain ⟨c0, c1, c2, -⟩ := H.top
  obtain ⟨b0, -⟩ := H.at (k := i / 2) (by omega)
  have hbl := byt_lt f.cell (i / 2)
  have hv := byt_half c f.cell i
  have hN := f.hi
  have hk : i / 2 < 2 * N := by omega
  have ek : (i : Int) / 2 = ((i / 2 : Nat) : Int) := by omega
  have hi6 : i ≤ 1000000 := by omega
  have hk6 : i / 2 ≤ 1000000 := by omega
  have hkI : ((i / 2 : Nat) : Int) < 2 * (N : Int) := by omega
  generalize byt c (i / 2) = b at b0 hbl hv
  generalize c i = v at hv ⊢
  generalize i / 2 = K at *
  clear H f
  rcases Nat.mod_two_eq_zero_or_one i with e | e
  · have hh := half_even hi6 e
    rw [e] at hv
    have ea : bits .and .u8 (b : Int) 15 = (v : Int) := by rw [show (15 : Int) = ((15 : Nat) : Int) from rfl, u8_and_nat _ _ hbl (by omega), Nat.and_two_pow_sub_one_eq_mod b 4, ← hv]; simp
    have hv15 : v ≤ 15 := by omega
    clear hv e
    go_enter Tryz.func93, Tryz.ntmps93
    go_wp2_with fail
    go_quiet ((go_at_call 110; refine Calls.quiet_of_same (hh _)))
    go_wp2_with fail
    go_ret
    exact ⟨rfl, _, rfl⟩
  · have hh := half_odd hi6 e
    rw [e] at hv
    obtain ⟨X, hX⟩ : ∃ X, b / 16 = X := ⟨_, rfl⟩
    have ed : (b : Int) / 16 = (X : Int) := by omega
    have ea : bits .and .u8 (X : Int) 15 = (v : Int) := by
      rw [show (15 : Int) = ((15 : Nat) : Int) from rfl, u8_and_nat _ _ (by omega) (by omega), Nat.and_two_pow_sub_one_eq_mod X 4, ← hv, ← hX]
    have hv15 : v ≤ 15 := by omega
    have hX15 : X ≤ 15 := by omega
    clear hv e hX
    go_enter Tryz.func93, Tryz.ntmps93
    go_wp2_with fail
    go_quiet ((go_at_call 110; refine Calls.quiet_of_same (hh _)))
    go_wp2_with fail
    go_ret
    exact ⟨rfl, _, rfl⟩
theorem raise_end {q b' : Nat} {i : Nat} (H : SkIn D w p g N c s) (e : byt (upd c i (c i + 1)) (i / 2) = b') :
    SkIn D ((w.drewN q).setCell ⟨g, i / 2, none⟩ (.int .u8 (b' : Nat))) p g N (upd c i (c i + 1)) s ∧ Keeps D w ((w.drewN q).setCell ⟨g, i / 2, none⟩ (.int .u8 (b' : Nat))) := by
  have h := (H.below (below_drewN (Below.refl _ _) q)).set (u8s_set c (2 * N) i (c i + 1))
  rw [e] at h
  exact ⟨h, ((Keeps.refl D w).drewN q).setCell H.2.1 _⟩
set_option maxHeartbeats 1000000 in
theorem raise_any (H : SkIn D w p g N c s) (f : Fit N c s) {i : Nat} (hi : i < 4 * N) (hc : c i < 15) :
    Calls Tryz.prog 94 #[.pointer (some ⟨p, 0, none⟩), .int .i64 (i : Nat)] w fun e w' => e = .returned (.tuple #[]) ∧ SkIn D w' p g N (upd c i (c i + 1)) s ∧ Keeps D w w' := by
  obtain ⟨c0, c1, c2, -⟩ := H.top
  obtain ⟨b0, f0⟩ := H.at (k := i / 2) (by omega)
  have hb1 : byt c (i / 2) + 2 ^ (i % 2 * 4) < 256 := by
    rw [← byt_raise]
    apply byt_lt
    intro j
    unfold upd
    have := f.cell j
    split <;> omega
  have hN := f.hi
  have hk : i / 2 < 2 * N := by omega
  have ek : (i : Int) / 2 = ((i / 2 : Nat) : Int) := by omega
  have hi6 : i ≤ 1000000 := by omega
  have hk6 : i / 2 ≤ 1000000 := by omega
  have HE : Hid (∀ q b' : Nat, b' = byt c (i / 2) + 2 ^ (i % 2 * 4) → SkIn D ((w.drewN q).setCell ⟨g, i / 2, none⟩ (.int .u8 (b' : Nat))) p g N (upd c i (c i + 1)) s ∧ Keeps D w ((w.drewN q).setCell ⟨g, i / 2, none⟩ (.int .u8 (b' : Nat)))) :=
    fun q b' e => raise_end H (by rw [byt_raise, e])
  generalize byt c (i / 2) = b at b0 hb1 HE
  generalize i / 2 = K at *
  generalize hLL : 2 * N = L at c1 hk
  have hkJ : (K : Int) < (L : Int) := by omega
  have hk0 : (0 : Int) ≤ (K : Int) := by omega
  have hwr : IntKind.i64.wrap (K : Int) = (K : Int) := by rw [IntKind.wrap_i64]; omega
  clear H f hLL
  rcases Nat.mod_two_eq_zero_or_one i with e | e
  · have hh := half_even hi6 e
    rw [e] at hb1 HE
    have HE' := HE.out 1 (b + 1) rfl
    have HX : Hid _ := HE'
    have hu1 : IntKind.u8.wrap 1 = 1 := rfl
    have hu2 : IntKind.u8.wrap ((b : Int) + 1) = ((b + 1 : Nat) : Int) := by rw [IntKind.wrap_u8]; omega
    generalize b + 1 = b' at hu2 HX
    clear HE HE' hb1 e
    go_enter Tryz.func94, Tryz.ntmps94
    go_wp2_with fail
    go_region_with (go_at_call 110; refine (hh _).mono ?_; rintro e w1 ⟨rfl, rfl⟩)
    all_goals
      go_wp2_with fail
      go_end0
      exact ⟨rfl, HX.out⟩
  · have hh := half_odd hi6 e
    rw [e] at hb1 HE
    have HE' := HE.out 1 (b + 16) rfl
    have HX : Hid _ := HE'
    have hu1 : IntKind.u8.wrap 16 = 16 := rfl
    have hu2 : IntKind.u8.wrap ((b : Int) + 16) = ((b + 16 : Nat) : Int) := by rw [IntKind.wrap_u8]; omega
    generalize b + 16 = b' at hu2 HX
    clear HE HE' hb1 e
    go_enter Tryz.func94, Tryz.ntmps94
    go_wp2_with fail
    go_region_with (go_at_call 110; refine (hh _).mono ?_; rintro e w1 ⟨rfl, rfl⟩)
    all_goals
      go_wp2_with fail
      go_end0
      exact ⟨rfl, HX.out⟩
end
end Go.Proofs.YtcphhlfbjkeikabGreat.Sk
/- The program's sketch: where a key's cells lie; the least of them; Count. -/
namespace Go.Proofs.YtcphhlfbjkeikabGreat.Sk
open Go.RowKit

/-- the first j places of a key's cells -/
def plv (N : Nat) (k : ByteArray) (j r : Nat) : Value := .int .i64 ((if r < j then pl N k r else 0 : Nat) : Int)
def plArr (N : Nat) (k : ByteArray) (j : Nat) : Array Value := #[plv N k j 0, plv N k j 1, plv N k j 2, plv N k j 3]
def plAll (N : Nat) (k : ByteArray) : Array Value := #[.int .i64 (pl N k 0 : Nat), .int .i64 (pl N k 1 : Nat), .int .i64 (pl N k 2 : Nat), .int .i64 (pl N k 3 : Nat)]
theorem plArr_all (N : Nat) (k : ByteArray) : plArr N k 4 = plAll N k := by simp [plArr, plAll, plv]
theorem plArr_zero (N : Nat) (k : ByteArray) : plArr N k 0 = #[.int .i64 0, .int .i64 0, .int .i64 0, .int .i64 0] := by simp [plArr, plv]
theorem plArr_set (N : Nat) (k : ByteArray) {j : Nat} (hj : j < 4) : (plArr N k j).set! j (.int .i64 (pl N k j : Nat)) = plArr N k (j + 1) := by
  have : j = 0 ∨ j = 1 ∨ j = 2 ∨ j = 3 := by omega
  rcases this with rfl | rfl | rfl | rfl <;> simp [plArr, plv]
theorem plArr_at (N : Nat) (k : ByteArray) {j : Nat} (hj : j < 4) : (plArr N k j)[j]? = some (plv N k j j) := by
  have : j = 0 ∨ j = 1 ∨ j = 2 ∨ j = 3 := by omega
  rcases this with rfl | rfl | rfl | rfl <;> rfl
theorem wrap_mul {j N A : Nat} (h : j * N = A) (hA : A ≤ 1000000) : IntKind.i64.wrap ((j : Int) * (N : Int)) = (A : Int) := by
  have e : (j : Int) * (N : Int) = (A : Int) := by rw [← h]; simp
  rw [e, IntKind.wrap_i64]
  omega
/-- places of a key in memory that was made -/
def PlIn (w wr : World) (N : Nat) (k : ByteArray) (j : Nat) : Prop :=
  Below w.heap.size w wr ∧ wr.heap[w.heap.size]? = some (.cells (plArr N k 0) 127 (0, 0)) ∧ wr.heap[w.heap.size + 1]? = some (.cells (plArr N k j) 127 (0, 0))
theorem plIn_start (w : World) (N : Nat) (k : ByteArray) : PlIn w ((w.alloc (.cells #[.int .i64 0, .int .i64 0, .int .i64 0, .int .i64 0] 127)).alloc (.cells #[.int .i64 0, .int .i64 0, .int .i64 0, .int .i64 0] 127)) N k 0 := by
  have h := heap_alloc_new (w.alloc (.cells #[.int .i64 0, .int .i64 0, .int .i64 0, .int .i64 0] 127)) (.cells #[.int .i64 0, .int .i64 0, .int .i64 0, .int .i64 0] 127)
  rw [World.size_alloc] at h
  refine ⟨((Below.refl _ w).alloc (Nat.le_refl _) _).alloc (by simp) _, ?_, ?_⟩
  · rw [Below.heap_alloc _ _ _ (by simp), plArr_zero]
    exact heap_alloc_new _ _
  · rw [plArr_zero]; exact h
theorem PlIn.next {w wr : World} {N : Nat} {k : ByteArray} {j : Nat} (h : PlIn w wr N k j) (hj : j < 4) (q : Nat) : PlIn w ((wr.drewN q).setCell ⟨w.heap.size + 1, j, none⟩ (.int .i64 (pl N k j : Nat))) N k (j + 1) := by
  obtain ⟨h1, h2, h3⟩ := h
  refine ⟨(below_drewN h1 q).setCell (by simp) _, ?_, ?_⟩
  · rw [Below.heap_setCell _ _ _ _ (by simp)]; exact h2
  · rw [block_setCell (w := wr.drewN q) h3, plArr_set N k hj]
section
variable {D : Nat → Prop} {w : World} {p g N : Nat} {c : Nat → Nat} {s : Nat}
set_option maxHeartbeats 4000000 in
theorem places_any (H : SkIn D w p g N c s) (hN : 8 ≤ N) (hN2 : N ≤ 1024) (k : ByteArray) (hk : k.size ≤ 1000) :
    Calls Tryz.prog 91 #[.pointer (some ⟨p, 0, none⟩), .string k] w fun e w' => e = .returned (.agg (plAll N k)) ∧ Below w.heap.size w w' := by
  have HH : Hid (SkIn D w p g N c s) := H
  clear H
  go_enter Tryz.func91, Tryz.ntmps91
  go_wp2_with fail
  have h0 := plIn_start w N k
  have hsz : (w.alloc (.cells #[.int .i64 0, .int .i64 0, .int .i64 0, .int .i64 0] 127)).heap.size = w.heap.size + 1 := World.size_alloc _ _
  go_loopw [7] (fun i wr => ∃ j : Nat, j ≤ 4 ∧ i = .int .i64 j ∧ PlIn w wr N k j) (fun i _ => 4 - (intOf i).toNat)
  case atStart => exact ⟨0, by omega, rfl, h0⟩
  case round =>
    clear h0
    obtain ⟨j, hj, rfl, hP⟩ := hrel
    have hpw := lt_of_block HH.out.2.2.2.1
    rcases Nat.lt_or_ge j 4 with hlt | hge
    · obtain ⟨c0, -⟩ := (HH.out.below hP.1).top
      have HX : Hid (PlIn w ((wr.drewN 1).setCell ⟨w.heap.size + 1, j, none⟩ (.int .i64 (pl N k j : Nat))) N k (j + 1)) := hP.next hlt 1
      have hpl : pl N k j = j * N + hp N k j := rfl
      have hx := hp_lt hN k j
      have hp4 := pl_lt hN k hlt
      obtain ⟨A, hA⟩ : ∃ A, j * N = A := ⟨_, rfl⟩
      have hA4 : A ≤ 4096 := by omega
      have w1 := wrap_mul hA (by omega)
      have hash := fun W => hash_row k j hlt W hk
      have place := fun W => place_row hN hN2 k j W
      rw [hA] at hpl
      generalize pl N k j = P at HX hpl hp4
      generalize hp N k j = X at hpl hx place
      have w2 : IntKind.i64.wrap ((A : Int) + (X : Int)) = (P : Int) := by rw [IntKind.wrap_i64]; omega
      have w4 : IntKind.u64.wrap ((j : Int) + 1) = (j : Int) + 1 := by rw [IntKind.wrap_u64]; omega
      have w3 : IntKind.u64.wrap (j : Int) = (j : Int) := by rw [IntKind.wrap_u64]; omega
      have jI : (j : Int) < 4 := by omega
      have j0 : (0 : Int) ≤ (j : Int) := by omega
      have f0 : wr.frozen? ⟨w.heap.size + 1, j, none⟩ = false := frozen_of_block hP.2.2
      have b0 : wr.cell? ⟨w.heap.size + 1, j, none⟩ = some (plv N k j j) := by rw [cell_of_block hP.2.2, plArr_at N k hlt]
      have cS : (wr.setCell ⟨w.heap.size + 1, j, none⟩ (.int .i64 (P : Nat))).drew.cell? ⟨p, 0, none⟩ = some (.int .i64 (N : Nat)) := (cell_setCell_far (w := wr) (by show p ≠ w.heap.size + 1; omega)).trans c0
      clear hpl hA hP
      go_wp2_with fail
      go_region_held3 (fun W => W.cell? ⟨p, 0, none⟩ = some (.int .i64 (N : Nat))) (first | go_keep | exact cS)
       (first
        | (go_at_call 84; refine (hash _).mono ?_; rintro e w1 ⟨rfl, rfl⟩)
        | (go_at_call 83; refine (place _).mono ?_; rintro e w1 ⟨rfl, rfl⟩))
      go_wp2_with fail
      go_roundw
      case rel => exact ⟨j + 1, hlt, by go_num, HX.out⟩
      case measure => simp [intOf]; omega
    · have hj4 : j = 4 := by omega
      subst hj4
      obtain ⟨hb, hp0, hp1⟩ := hP
      rw [plArr_all] at hp1
      obtain ⟨d0, d1, d2, d3, -⟩ := cells_of_four hp1
      obtain ⟨c0, c1, c2, c3, f0, f1, f2, f3⟩ := cells_of_four hp0
      clear hp1
      go_wp2_with fail
      refine bodyPost_ret (v := .agg (plAll N k)) (by simp [results, Tryz.results91, go_sem, plAll, c0, c1, c2, c3]) rfl ⟨rfl, (((hb.setCell (Nat.le_refl _) _).setCell (Nat.le_refl _) _).setCell (Nat.le_refl _) _).setCell (Nat.le_refl _) _⟩
/-- the least of the first j cells -/
def lwj (c : Nat → Nat) (N : Nat) (k : ByteArray) : Nat → Nat
  | 0 => 15
  | j + 1 => min (lwj c N k j) (c (pl N k j))
theorem lwj_le (c : Nat → Nat) (N : Nat) (k : ByteArray) : ∀ j, lwj c N k j ≤ 15
  | 0 => Nat.le_refl _
  | j + 1 => Nat.le_trans (Nat.min_le_left _ _) (lwj_le c N k j)
theorem lwj_all {c : Nat → Nat} (h : ∀ i, c i ≤ 15) (N : Nat) (k : ByteArray) : lwj c N k 4 = lw c N k := by
  have h0 := h (pl N k 0)
  have h1 := h (pl N k 1)
  have h2 := h (pl N k 2)
  have h3 := h (pl N k 3)
  unfold lw
  simp only [lwj]
  omega
theorem index_0 (a0 a1 a2 a3 : Int) (W : World) : (Instr.index 127 (.agg #[.int .i64 a0, .int .i64 a1, .int .i64 a2, .int .i64 a3]) (.int .i64 0)).run Tryz.prog W = .ok (.int .i64 a0) W := by kernel_rfl
theorem index_1 (a0 a1 a2 a3 : Int) (W : World) : (Instr.index 127 (.agg #[.int .i64 a0, .int .i64 a1, .int .i64 a2, .int .i64 a3]) (.int .i64 1)).run Tryz.prog W = .ok (.int .i64 a1) W := by kernel_rfl
theorem index_2 (a0 a1 a2 a3 : Int) (W : World) : (Instr.index 127 (.agg #[.int .i64 a0, .int .i64 a1, .int .i64 a2, .int .i64 a3]) (.int .i64 2)).run Tryz.prog W = .ok (.int .i64 a2) W := by kernel_rfl
theorem index_3 (a0 a1 a2 a3 : Int) (W : World) : (Instr.index 127 (.agg #[.int .i64 a0, .int .i64 a1, .int .i64 a2, .int .i64 a3]) (.int .i64 3)).run Tryz.prog W = .ok (.int .i64 a3) W := by kernel_rfl
theorem index_pl (N : Nat) (k : ByteArray) {j : Nat} (hj : j < 4) (W : World) : (Instr.index 127 (.agg #[.int .i64 (pl N k 0 : Nat), .int .i64 (pl N k 1 : Nat), .int .i64 (pl N k 2 : Nat), .int .i64 (pl N k 3 : Nat)]) (.int .i64 (j : Nat))).run Tryz.prog W = .ok (.int .i64 (pl N k j : Nat)) W := by
  have : j = 0 ∨ j = 1 ∨ j = 2 ∨ j = 3 := by omega
  rcases this with rfl | rfl | rfl | rfl
  · exact index_0 _ _ _ _ W
  · exact index_1 _ _ _ _ W
  · exact index_2 _ _ _ _ W
  · exact index_3 _ _ _ _ W
set_option maxHeartbeats 1000000 in
theorem least_any (H : SkIn D w p g N c s) (f : Fit N c s) (k : ByteArray) :
    Calls Tryz.prog 92 #[.pointer (some ⟨p, 0, none⟩), .agg (plAll N k)] w fun e w' => e = .returned (.int .i64 (lw c N k : Nat)) ∧ Below w.heap.size w w' := by
  have HH : Hid (SkIn D w p g N c s) := H
  have HF : Hid (Fit N c s) := f
  have HI : Hid (∀ {j : Nat} (_ : j < 4) (W : World), (Instr.index 127 (.agg #[.int .i64 (pl N k 0 : Nat), .int .i64 (pl N k 1 : Nat), .int .i64 (pl N k 2 : Nat), .int .i64 (pl N k 3 : Nat)]) (.int .i64 (j : Nat))).run Tryz.prog W = .ok (.int .i64 (pl N k j : Nat)) W) := fun hj W => index_pl N k hj W
  clear H f
  unfold plAll
  go_enter Tryz.func92, Tryz.ntmps92
  go_wp2_with fail
  go_loopw [5, 9] (fun m i wr => ∃ j : Nat, j ≤ 4 ∧ i = .int .i64 j ∧ m = .int .i64 (lwj c N k j : Nat) ∧ Below w.heap.size w wr) (fun _ i _ => 4 - (intOf i).toNat)
  case atStart => exact ⟨0, by omega, rfl, rfl, (Below.refl _ w).alloc (Nat.le_refl _) _⟩
  case round =>
    obtain ⟨j, hj, rfl, rfl, hb⟩ := hrel
    have hm15 := lwj_le c N k j
    have hs := hb.size
    rcases Nat.lt_or_ge j 4 with hlt | hge
    · have hidx := fun W => HI.out hlt W
      have hcl := cell_any (w := wr) (HH.out.below hb) HF.out (pl_lt HF.out.lo k hlt)
      have hv15 := HF.out.cell (pl N k j)
      have hp4 := pl_lt HF.out.lo k hlt
      have hNhi := HF.out.hi
      have HE : Hid (lwj c N k (j + 1) = min (lwj c N k j) (c (pl N k j))) := rfl
      generalize lwj c N k j = m at hm15 HE ⊢
      generalize c (pl N k j) = v at hcl hv15 HE
      generalize pl N k j = P at hidx hcl hp4
      by_cases hvm : v < m
      · have hmin : min m v = v := by omega
        rw [hmin] at HE
        have hvmI : (v : Int) < (m : Int) := by omega
        clear hmin
        go_wp2_with (go_at_call 93; refine hcl.mono ?_; rintro e w1 ⟨rfl, q, rfl⟩)
        go_roundw
        case rel => exact ⟨j + 1, hlt, by go_num, by rw [HE.out], below_drewN hb _⟩
        case measure => simp [intOf]; omega
      · have hmin : min m v = m := by omega
        rw [hmin] at HE
        have hvmI : ¬ ((v : Int) < (m : Int)) := by omega
        clear hmin
        go_wp2_with (go_at_call 93; refine hcl.mono ?_; rintro e w1 ⟨rfl, q, rfl⟩)
        go_roundw
        case rel => exact ⟨j + 1, hlt, by go_num, by rw [HE.out], below_drewN hb _⟩
        case measure => simp [intOf]; omega
    · have hj4 : j = 4 := by omega
      subst hj4
      rw [lwj_all HF.out.cell]
      go_wp2_with fail
      go_ret
      exact ⟨rfl, hb⟩
theorem count_any (H : SK p N c s D w) (k : ByteArray) (hk : k.size ≤ 1000) :
    Calls Tryz.prog 100 #[.pointer (some ⟨p, 0, none⟩), .string k] w fun e w' => e = .returned (.int .i64 (lw c N k : Nat)) ∧ Below w.heap.size w w' := by
  obtain ⟨f, g, H⟩ := H
  have hbl := blank_any H f.lo
  have hpl := places_any H f.lo f.hi k hk
  have HH : Hid (SkIn D w p g N c s) := H
  have HF : Hid (Fit N c s) := f
  clear H f
  go_enter Tryz.func100, Tryz.ntmps100
  go_wp2_with (first
    | (go_at_call 90; refine hbl.mono ?_; rintro e w1 ⟨rfl, rfl⟩; clear hbl)
    | (go_at_call 91; refine hpl.mono ?_; rintro e w2 ⟨rfl, hb2⟩; have hls := least_any (HH.out.below hb2) HF.out k; have hs2 := hb2.size; clear hpl)
    | (go_at_call 92; refine hls.mono ?_; rintro e w3 ⟨rfl, hb3⟩))
  go_ret
  exact ⟨rfl, hb2.trans (hb3.mono hs2)⟩
end
end Go.Proofs.YtcphhlfbjkeikabGreat.Sk
/- The program's sketch: Halve, Cells. -/
namespace Go.Proofs.YtcphhlfbjkeikabGreat.Sk
open Go.RowKit

section
variable {D : Nat → Prop} {w : World} {p g N : Nat} {c : Nat → Nat} {s : Nat}
theorem fit_halve (h0 : 8 ≤ N) (h1 : N ≤ 1024) (hc : ∀ i, c i ≤ 15) (hs : s ≤ 10 * N) : Fit N (hv c) (s / 2) :=
  ⟨h0, h1, fun i => by have := hc i; unfold hv; omega, by omega⟩
theorem SkIn.halved (H : SkIn D w p g N (hvj c (2 * (2 * N))) s) : SkIn D w p g N (hv c) s := H.ext (fun i hi => by unfold hvj hv; rw [if_pos (by omega)])
set_option maxHeartbeats 1000000 in
theorem halve_in (H : SkIn D w p g N c s) (h0 : 8 ≤ N) (h1 : N ≤ 1024) (hc : ∀ i, c i ≤ 15) (hsum : s ≤ 10 * N) :
    Calls Tryz.prog 95 #[.pointer (some ⟨p, 0, none⟩)] w fun e w' => e = .returned (.tuple #[]) ∧ SK p N (hv c) (s / 2) D w' ∧ Keeps D w w' := by
  have hbl := blank_any H h0
  obtain ⟨c0, c1, c2, -⟩ := H.top
  have HH : Hid (SkIn D w p g N c s) := H
  have HF : Hid (Fit N (hv c) (s / 2)) := fit_halve h0 h1 hc hsum
  have HCL : Hid (∀ i, c i ≤ 15) := hc
  clear H hc
  go_enter Tryz.func95, Tryz.ntmps95
  go_wp2_with (go_at_call 90; refine hbl.mono ?_; rintro e w1 ⟨rfl, rfl⟩)
  clear hbl c0 c1 c2
  go_loopw [11] (fun i wr => ∃ j : Nat, j ≤ 2 * N ∧ i = .int .i64 j ∧ SkIn D wr p g N (hvj c (2 * j)) s ∧ Keeps D w1 wr) (fun i _ => 2 * N - (intOf i).toNat)
  case atStart => exact ⟨0, Nat.zero_le _, rfl, by rw [hvj_zero]; exact HH.out, Keeps.refl _ _⟩
  case round =>
    obtain ⟨j, hj, rfl, HJ, hk⟩ := hrel
    obtain ⟨c0, c1, c2, f0, f1, f2⟩ := HJ.top
    have HR : Hid (SkIn D wr p g N (hvj c (2 * j)) s) := HJ
    rcases Nat.lt_or_ge j (2 * N) with hlt | hge
    · obtain ⟨b0, e0⟩ := HJ.at hlt
      rw [(byt_hvj c j).1] at b0
      have hbl := byt_lt HCL.out j
      have hba := byt_and HCL.out j
      have HX : Hid (∀ y : Nat, y = byt (hv c) j → SkIn D (wr.setCell ⟨g, j, none⟩ (.int .u8 (y : Nat))) p g N (hvj c (2 * (j + 1))) s) := by
        rintro y rfl
        exact HR.out.set (u8s_halve c (2 * N) j)
      have HK : Hid (∀ u, Keeps D w1 (wr.setCell ⟨g, j, none⟩ u)) := fun u => hk.setCell HR.out.2.1 u
      generalize byt c j = b at b0 hbl hba
      generalize byt (hv c) j = y at hba HX
      obtain ⟨x, hx⟩ : ∃ x, b / 2 = x := ⟨_, rfl⟩
      have hxI : (b : Int) / 2 = (x : Int) := by omega
      rw [hx] at hba
      have hxl : x < 256 := by omega
      have ha : bits .and .u8 (x : Int) 119 = (y : Int) := by rw [show (119 : Int) = ((119 : Nat) : Int) from rfl, u8_and_nat _ _ hxl (by omega), hba]
      have jI : (j : Int) < 2 * (N : Int) := by omega
      clear HJ hba hx hk
      go_wp2_with fail
      go_roundw
      case rel => exact ⟨j + 1, hlt, by go_num, HX.out _ rfl, HK.out _⟩
      case measure => simp [intOf]; omega
    · have hj' : j = 2 * N := by omega
      subst hj'
      have HX : Hid (∀ t : Nat, s / 2 = t → SK p N (hv c) (s / 2) D (wr.setCell ⟨p, 2, none⟩ (.int .i64 (t : Nat)))) := by
        rintro t rfl
        exact ⟨HF.out, g, HJ.halved.setSum (s / 2)⟩
      have HK : Hid (∀ u, Keeps D w1 (wr.setCell ⟨p, 2, none⟩ u)) := fun u => hk.setCell HR.out.1 u
      obtain ⟨t, ht⟩ : ∃ t, s / 2 = t := ⟨_, rfl⟩
      have htI : (s : Int) / 2 = (t : Int) := by omega
      have HT : Hid (s / 2 = t) := ht
      clear HJ hk ht hge
      go_wp2_with fail
      go_end0
      exact ⟨rfl, HX.out t HT.out, HK.out _⟩
theorem halve_any (H : SK p N c s D w) :
    Calls Tryz.prog 95 #[.pointer (some ⟨p, 0, none⟩)] w fun e w' => e = .returned (.tuple #[]) ∧ SK p N (hv c) (s / 2) D w' ∧ Keeps D w w' := by
  obtain ⟨f, g, H⟩ := H
  exact halve_in H f.lo f.hi f.cell (by have := f.sum; omega)
end
end Go.Proofs.YtcphhlfbjkeikabGreat.Sk
/- The program's sketch: Add; a nil one. -/
namespace Go.Proofs.YtcphhlfbjkeikabGreat.Sk
open Go.RowKit

/-- what an Add makes of the cells, and of the sum -/
def adC (c : Nat → Nat) (N : Nat) (k : ByteArray) (s : Nat) : Nat → Nat :=
  if 15 ≤ lw c N k then c else if s + 1 = 10 * N then hv (adds c N k (lw c N k) 4) else adds c N k (lw c N k) 4
def adS (c : Nat → Nat) (N : Nat) (k : ByteArray) (s : Nat) : Nat :=
  if 15 ≤ lw c N k then s else if s + 1 = 10 * N then (s + 1) / 2 else s + 1
section
variable {D : Nat → Prop} {w : World} {p g N : Nat} {c : Nat → Nat} {s : Nat}
theorem Fit.adds (f : Fit N c s) (k : ByteArray) (hl : lw c N k < 15) (j : Nat) : Fit N (adds c N k (lw c N k) j) s :=
  ⟨f.lo, f.hi, fun i => adds_le f.cell hl j i, f.sum⟩
theorem box_later {w2 w4 : World} {N : Nat} {k : ByteArray} (hb : Below (w2.alloc (.cells (plAll N k) 127)).heap.size (w2.alloc (.cells (plAll N k) 127)) w4) :
    w4.cell? ⟨w2.heap.size, 0, none⟩ = some (.int .i64 (pl N k 0 : Nat)) ∧ w4.cell? ⟨w2.heap.size, 1, none⟩ = some (.int .i64 (pl N k 1 : Nat)) ∧ w4.cell? ⟨w2.heap.size, 2, none⟩ = some (.int .i64 (pl N k 2 : Nat)) ∧ w4.cell? ⟨w2.heap.size, 3, none⟩ = some (.int .i64 (pl N k 3 : Nat)) := by
  have h := (hb.block w2.heap.size (by simp)).trans (heap_alloc_new w2 _)
  obtain ⟨d0, d1, d2, d3, -⟩ := cells_of_four (w := w4) h
  exact ⟨d0, d1, d2, d3⟩
/-- behind the loop: one more in the sum; halved, or not -/
theorem add_end {c' : Nat → Nat} (h : SkIn D w p g N c' s) (f : Fit N c' s) (h1 : s + 1 < 10 * N) : SK p N c' (s + 1) D (w.setCell ⟨p, 2, none⟩ (.int .i64 ((s : Int) + 1))) :=
  ⟨⟨f.lo, f.hi, f.cell, h1⟩, g, by have := h.setSum (s + 1); rwa [show ((s + 1 : Nat) : Int) = (s : Int) + 1 by omega] at this⟩
set_option maxHeartbeats 2000000 in
theorem add_any (H : SK p N c s D w) (hD : ∀ k, w.heap.size ≤ k → D k) (k : ByteArray) (hk : k.size ≤ 1000) :
    Calls Tryz.prog 68 #[.pointer (some ⟨p, 0, none⟩), .string k] w fun e w' => e = .returned (.tuple #[]) ∧ SK p N (adC c N k s) (adS c N k s) D w' ∧ Keeps D w w' := by
  obtain ⟨f, g, H⟩ := H
  have hbl := blank_any H f.lo
  have hpl := places_any H f.lo f.hi k hk
  have HH : Hid (SkIn D w p g N c s) := H
  have HF : Hid (Fit N c s) := f
  have HI : Hid (∀ {j : Nat} (_ : j < 4) (W : World), (Instr.index 127 (.agg #[.int .i64 (pl N k 0 : Nat), .int .i64 (pl N k 1 : Nat), .int .i64 (pl N k 2 : Nat), .int .i64 (pl N k 3 : Nat)]) (.int .i64 (j : Nat))).run Tryz.prog W = .ok (.int .i64 (pl N k j : Nat)) W) := fun hj W => index_pl N k hj W
  have HLO : Hid (lw c N k ≤ 15) := Nat.le_trans (lw_le (r := 0) (by omega)) (f.cell _)
  have hN := f.hi
  have hsum := f.sum
  have hle := fun {w' : World} (hb : Below w.heap.size w w') => least_any (H.below hb) f k
  clear H f
  rcases Nat.lt_or_ge (lw c N k) 15 with hl | hl
  · have HA : Hid (∀ j, Fit N (adds c N k (lw c N k) j) s) := fun j => HF.out.adds k hl j
    have HC : Hid (¬ s + 1 = 10 * N → adC c N k s = adds c N k (lw c N k) 4 ∧ adS c N k s = s + 1) := fun h => ⟨by unfold adC; rw [if_neg (by omega), if_neg h], by unfold adS; rw [if_neg (by omega), if_neg h]⟩
    have HC2 : Hid (s + 1 = 10 * N → adC c N k s = hv (adds c N k (lw c N k) 4) ∧ adS c N k s = (s + 1) / 2) := fun h => ⟨by unfold adC; rw [if_neg (by omega), if_pos h], by unfold adS; rw [if_neg (by omega), if_pos h]⟩
    generalize lw c N k = low at *
    have hlI : ¬ ((15 : Int) ≤ (low : Int)) := by omega
    go_enter Tryz.func68, Tryz.ntmps68
    go_wp2_with (first
      | (go_at_call 90; refine hbl.mono ?_; rintro e w1 ⟨rfl, rfl⟩; clear hbl)
      | (go_at_call 91; refine hpl.mono ?_; unfold plAll; rintro e w2 ⟨rfl, hb2⟩; have hs2 := hb2.size; have hb3 := hb2.alloc hs2 (.cells (plAll N k) 127); have hls := hle hb3; clear hpl)
      | (go_at_call 92; refine hls.mono ?_; rintro e w4 ⟨rfl, hb4⟩; obtain ⟨d0, d1, d2, d3⟩ := box_later hb4; clear hls))
    have hb5 : Below w1.heap.size w1 w4 := hb3.trans (hb4.mono (by have := hb3.size; omega))
    have h4 := HH.out.below hb5
    clear hb2 hb3 hb4 d0 d1 d2 d3 hle hs2
    go_loopw [19] (fun i wr => ∃ j : Nat, j ≤ 4 ∧ i = .int .i64 j ∧ SkIn D wr p g N (adds c N k low j) s ∧ Keeps D w1 wr) (fun i _ => 4 - (intOf i).toNat)
    case atStart => exact ⟨0, by omega, rfl, h4, .of_below hb5⟩
    case round =>
      clear h4 hb5
      obtain ⟨j, hj, rfl, HJ, hk5⟩ := hrel
      have HR : Hid (SkIn D wr p g N (adds c N k low j) s) := HJ
      have HK : Hid (Keeps D w1 wr) := hk5
      rcases Nat.lt_or_ge j 4 with hlt | hge
      · have hidx := fun W => HI.out hlt W
        have hp4 := pl_lt HF.out.lo k hlt
        have hcl := cell_any HJ (HA.out j) hp4
        by_cases hv : adds c N k low j (pl N k j) = low
        · have hrs := fun q => raise_any (w := wr.drewN q) (HJ.below (below_drewN (Below.refl _ _) q)) (HA.out j) hp4 (by omega)
          have HE : Hid (adds c N k low (j + 1) = upd (adds c N k low j) (pl N k j) (adds c N k low j (pl N k j) + 1)) := by
            show Hid (one low _ _ = _)
            unfold one
            rw [if_pos hv, hv]
            exact rfl
          rw [hv] at hcl
          clear HJ hk5 hv
          go_wp2_with (first
            | (go_at_call 93; refine hcl.mono ?_; rintro e w5 ⟨rfl, q, rfl⟩; clear hcl)
            | (go_at_call 94; refine (hrs q).mono ?_; rintro e w6 ⟨rfl, H6, hk6⟩; clear hrs))
          go_roundw
          case rel => exact ⟨j + 1, hlt, by go_num, by rw [HE.out]; exact H6, (HK.out.drewN q).trans hk6⟩
          case measure => simp [intOf]; omega
        · have HE : Hid (adds c N k low (j + 1) = adds c N k low j) := by
            show Hid (one low _ _ = _)
            unfold one
            rw [if_neg hv]
            exact rfl
          have hvI : ¬ ((adds c N k low j (pl N k j) : Int) = (low : Int)) := by omega
          have hvB : ((adds c N k low j (pl N k j) : Int) == (low : Int)) = false := by simp; omega
          have hvl := (HA.out j).cell (pl N k j)
          clear HJ hk5 hv
          generalize adds c N k low j (pl N k j) = v at *
          go_wp2_with (go_at_call 93; refine hcl.mono ?_; rintro e w5 ⟨rfl, q, rfl⟩; clear hcl)
          go_roundw
          case rel => exact ⟨j + 1, hlt, by go_num, by rw [HE.out]; exact HR.out.below (below_drewN (Below.refl _ _) q), HK.out.drewN q⟩
          case measure => simp [intOf]; omega
      · have hj4 : j = 4 := by omega
        subst hj4
        obtain ⟨c0, c1, c2, f0, f1, f2⟩ := HJ.top
        have hsI : IntKind.i64.wrap ((s : Int) + 1) = (s : Int) + 1 := by rw [IntKind.wrap_i64]; omega
        have hNI : IntKind.i64.wrap (10 * (N : Int)) = 10 * (N : Int) := by rw [IntKind.wrap_i64]; omega
        clear HJ hk5 hge
        by_cases h10 : s + 1 = 10 * N
        · have HX : Hid (SkIn D (wr.setCell ⟨p, 2, none⟩ (.int .i64 ((s : Int) + 1))) p g N (adds c N k low 4) (s + 1)) := by have := HR.out.setSum (s + 1); rwa [show ((s + 1 : Nat) : Int) = (s : Int) + 1 by omega] at this
          have hhv := fun q => halve_in (w := (wr.setCell ⟨p, 2, none⟩ (.int .i64 ((s : Int) + 1))).drewN q) (HX.out.below (below_drewN (Below.refl _ _) q)) HF.out.lo HF.out.hi (HA.out 4).cell (by omega)
          have hB : (((s : Int) + 1) == 10 * (N : Int)) = true := by simp; omega
          go_wp2_with fail
          go_quiet (fail)
          go_wp2_with (go_at_call 95; refine (hhv _).mono ?_; rintro e w6 ⟨rfl, H6, hk6⟩; clear hhv)
          go_end0
          rw [(HC2.out h10).1, (HC2.out h10).2]
          exact ⟨rfl, H6, ((HK.out.setCell HR.out.1 _).drewN _).trans hk6⟩
        · have HX : Hid (SK p N (adds c N k low 4) (s + 1) D (wr.setCell ⟨p, 2, none⟩ (.int .i64 ((s : Int) + 1)))) := add_end HR.out (HA.out 4) (by omega)
          have hB : (((s : Int) + 1) == 10 * (N : Int)) = false := by simp; omega
          go_wp2_with fail
          go_quiet (fail)
          go_wp2_with fail
          go_end0
          rw [(HC.out h10).1, (HC.out h10).2]
          exact ⟨rfl, HX.out.below (below_drewN (Below.refl _ _) _), (HK.out.setCell HR.out.1 _).drewN _⟩
  · rw [show adC c N k s = c by unfold adC; rw [if_pos hl], show adS c N k s = s by unfold adS; rw [if_pos hl]]
    generalize lw c N k = low at *
    have hlI : (15 : Int) ≤ (low : Int) := by omega
    go_enter Tryz.func68, Tryz.ntmps68
    go_wp2_with (first
      | (go_at_call 90; refine hbl.mono ?_; rintro e w1 ⟨rfl, rfl⟩; clear hbl)
      | (go_at_call 91; refine hpl.mono ?_; unfold plAll; rintro e w2 ⟨rfl, hb2⟩; have hs2 := hb2.size; have hb3 := hb2.alloc hs2 (.cells (plAll N k) 127); have hls := hle hb3; clear hpl)
      | (go_at_call 92; refine hls.mono ?_; rintro e w4 ⟨rfl, hb4⟩; clear hls))
    have hs4 := hb4.size
    have hb5 : Below w1.heap.size w1 w4 := hb3.trans (hb4.mono (by have := hb3.size; omega))
    refine bodyPost_ret (results_none rfl _ _ _) rfl ⟨rfl, ⟨HF.out, g, HH.out.below hb5⟩, .of_below hb5⟩
theorem lw_ad {k : ByteArray} (h : lw c N k < 15) (h1 : s + 1 < 10 * N) : lw (adC c N k s) N k = lw c N k + 1 ∧ adS c N k s = s + 1 := by
  refine ⟨?_, ?_⟩
  · unfold adC
    rw [if_neg (by omega), if_neg (by omega)]
    exact lw_adds c N k
  · unfold adS
    rw [if_neg (by omega), if_neg (by omega)]
theorem lw_zero (N : Nat) (k : ByteArray) : lw (fun _ => 0) N k = 0 := by simp [lw]
end
end Go.Proofs.YtcphhlfbjkeikabGreat.Sk
