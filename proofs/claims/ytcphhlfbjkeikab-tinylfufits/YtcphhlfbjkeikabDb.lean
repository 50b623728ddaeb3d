/- Bits: how many are set; math/bits.OnesCount64; a word with a bit more; the bits of words by their places. -/
import Derived.Test.YtcphhlfbjkeikabDa
import Derived.Laws.Bits128
namespace Go.Proofs.Ytcphhlfbjkeikab.Dr
open Go.RowKit

/-- how many of the first n are -/
def cnt (f : Nat → Bool) : Nat → Nat
  | 0 => 0
  | n + 1 => cnt f n + (f n).toNat
theorem cnt_add (f : Nat → Bool) (m : Nat) : ∀ n, cnt f (m + n) = cnt f m + cnt (fun i => f (m + i)) n
  | 0 => rfl
  | n + 1 => by
    show cnt f (m + n) + (f (m + n)).toNat = cnt f m + (cnt (fun i => f (m + i)) n + (f (m + n)).toNat)
    rw [cnt_add f m n]
    omega
theorem cnt_ext {f g : Nat → Bool} : ∀ {n : Nat}, (∀ i, i < n → f i = g i) → cnt f n = cnt g n
  | 0, _ => rfl
  | n + 1, h => by
    show cnt f n + (f n).toNat = cnt g n + (g n).toNat
    rw [cnt_ext (fun i hi => h i (by omega)), h n (by omega)]
theorem cnt_le (f : Nat → Bool) : ∀ n, cnt f n ≤ n
  | 0 => Nat.le_refl _
  | n + 1 => by
    have := cnt_le f n
    have h2 := Bool.toNat_le (f n)
    show cnt f n + (f n).toNat ≤ n + 1
    omega
theorem cnt_none : ∀ n, cnt (fun _ => false) n = 0
  | 0 => rfl
  | n + 1 => by show cnt _ n + 0 = 0; rw [cnt_none n]

/-! ### OnesCount64: by bytes -/
def upd (c : Nat → Nat) (i v : Nat) : Nat → Nat := fun j => if j = i then v else c j
/-- one more is set -/
def on (b : Nat → Bool) (i : Nat) : Nat → Bool := fun j => if j = i then true else b j
/-- the bit at a place -/
def bt (v : Nat → Nat) (i : Nat) : Bool := (v (i / 64)).testBit (i % 64)
theorem bt_zero (i : Nat) : bt (fun _ => 0) i = false := by simp [bt]
theorem bt_on (v : Nat → Nat) (a i : Nat) : bt (upd v (a / 64) (v (a / 64) ||| 2 ^ (a % 64))) i = on (bt v) a i := by
  unfold bt upd on
  by_cases h : i / 64 = a / 64
  · rw [if_pos h, Nat.testBit_or, Nat.testBit_two_pow]
    by_cases e : i = a
    · subst e; simp
    · rw [if_neg e, show decide (a % 64 = i % 64) = false by simp; omega, Bool.or_false, ← h]
  · rw [if_neg h, if_neg (by rintro rfl; exact h rfl)]
theorem two_pow_lt (a : Nat) : 2 ^ (a % 64) < 18446744073709551616 := by
  have h : 2 ^ (a % 64) < 2 ^ 64 := Nat.pow_lt_pow_right (by omega) (Nat.mod_lt _ (by omega))
  simpa using h
theorem or_lt {x y : Nat} (hx : x < 18446744073709551616) (hy : y < 18446744073709551616) : x ||| y < 18446744073709551616 := Nat.or_lt_two_pow (n := 64) hx hy
theorem and_bit (x i : Nat) : x &&& 2 ^ i = if x.testBit i then 2 ^ i else 0 := by
  apply Nat.eq_of_testBit_eq
  intro j
  rw [Nat.testBit_and, Nat.testBit_two_pow]
  by_cases e : i = j
  · subst e
    cases h : x.testBit i <;> simp
  · cases h : x.testBit i <;> simp [e]
/-! ### what keys set -/
def has (b : Nat → Bool) (M : Nat) (k : ByteArray) : Bool := b (hp M k 0) && b (hp M k 1) && b (hp M k 2)
/-- the first j of a key's bits are set -/
def add (b : Nat → Bool) (M : Nat) (k : ByteArray) : Nat → (Nat → Bool)
  | 0 => b
  | j + 1 => on (add b M k j) (hp M k j)
theorem on_up (b : Nat → Bool) (i j : Nat) (h : b j = true) : on b i j = true := by unfold on; split <;> simp [h]
theorem on_at (b : Nat → Bool) (i : Nat) : on b i i = true := by simp [on]
theorem add_up (b : Nat → Bool) (M : Nat) (k : ByteArray) (i : Nat) (h : b i = true) : ∀ j, add b M k j i = true
  | 0 => h
  | j + 1 => on_up _ _ _ (add_up b M k i h j)
theorem has_add (b : Nat → Bool) (M : Nat) (k : ByteArray) : has (add b M k 3) M k = true := by
  have h0 : add b M k 3 (hp M k 0) = true := on_up _ _ _ (on_up _ _ _ (on_at _ _))
  have h1 : add b M k 3 (hp M k 1) = true := on_up _ _ _ (on_at _ _)
  have h2 : add b M k 3 (hp M k 2) = true := on_at _ _
  simp [has, h0, h1, h2]
theorem has_up {b : Nat → Bool} {M : Nat} {z k : ByteArray} (h : has b M z = true) : has (add b M k 3) M z = true := by
  simp only [has, Bool.and_eq_true] at h ⊢
  exact ⟨⟨add_up _ _ _ _ h.1.1 3, add_up _ _ _ _ h.1.2 3⟩, add_up _ _ _ _ h.2 3⟩
theorem has_none (M : Nat) (k : ByteArray) : has (fun _ => false) M k = false := rfl
theorem cnt_on (b : Nat → Bool) (i : Nat) : ∀ n, cnt (on b i) n ≤ cnt b n + if i < n then 1 else 0
  | 0 => by simp [cnt]
  | n + 1 => by
    have h := cnt_on b i n
    show cnt (on b i) n + (on b i n).toNat ≤ cnt b n + (b n).toNat + _
    by_cases e : n = i
    · subst e
      have := Bool.toNat_le (on b n n)
      simp only [Nat.lt_irrefl, if_false] at h
      rw [if_pos (by omega)]
      omega
    · have e2 : on b i n = b n := by simp [on, e]
      rw [e2]
      by_cases hi : i < n
      · rw [if_pos hi] at h
        rw [if_pos (by omega)]
        omega
      · rw [if_neg hi] at h
        rw [if_neg (by omega)]
        omega
theorem cnt_add3 (b : Nat → Bool) (M : Nat) (k : ByteArray) (n : Nat) : cnt (add b M k 3) n ≤ cnt b n + 3 := by
  have h0 := cnt_on b (hp M k 0) n
  have h1 := cnt_on (on b (hp M k 0)) (hp M k 1) n
  have h2 := cnt_on (on (on b (hp M k 0)) (hp M k 1)) (hp M k 2) n
  show cnt (on (on (on b (hp M k 0)) (hp M k 1)) (hp M k 2)) n ≤ _
  split at h0 <;> split at h1 <;> split at h2 <;> omega
theorem on_same {b : Nat → Bool} {i : Nat} (h : b i = true) : on b i = b := by
  funext j
  unfold on
  split
  · rename_i e; rw [e, h]
  · rfl
theorem add_same {b : Nat → Bool} {M : Nat} {k : ByteArray} (h : has b M k = true) : add b M k 3 = b := by
  simp only [has, Bool.and_eq_true] at h
  show on (on (on b (hp M k 0)) (hp M k 1)) (hp M k 2) = b
  rw [on_same h.1.1, on_same h.1.2, on_same h.2]
/-- the bits of some keys -/
def bof (M : Nat) (zs : List ByteArray) : Nat → Bool := fun i => zs.any (fun z => decide (i = hp M z 0) || decide (i = hp M z 1) || decide (i = hp M z 2))
theorem bof_nil (M : Nat) : bof M [] = fun _ => false := rfl
theorem add_bof (M : Nat) (zs : List ByteArray) (z : ByteArray) (i : Nat) : add (bof M zs) M z 3 i = (bof M zs i || (decide (i = hp M z 0) || decide (i = hp M z 1) || decide (i = hp M z 2))) := by
  show on (on (on (bof M zs) (hp M z 0)) (hp M z 1)) (hp M z 2) i = _
  unfold on
  generalize bof M zs i = x
  by_cases h0 : i = hp M z 0 <;> by_cases h1 : i = hp M z 1 <;> by_cases h2 : i = hp M z 2 <;> cases x <;> simp_all
theorem bof_snoc (M : Nat) (zs : List ByteArray) (z : ByteArray) : add (bof M zs) M z 3 = bof M (zs ++ [z]) := by
  funext i
  rw [add_bof]
  simp [bof, List.any_append]
theorem bof_cons (M : Nat) (zs : List ByteArray) (z : ByteArray) : add (bof M zs) M z 3 = bof M (z :: zs) := by
  funext i
  rw [add_bof]
  simp [bof, List.any_cons, Bool.or_comm]

/-! ### how many words there are -/
def nw (r : Int) : Nat := if r ≤ 8 then 1 else if r ≤ 16 then 2 else if r ≤ 32 then 4 else if r ≤ 64 then 8 else if r ≤ 128 then 16 else if r ≤ 256 then 32 else if r ≤ 512 then 64 else 128
def Wn (r : Int) (n : Nat) : Prop := n = 1 ∨ (n = 2 ∧ 8 < r) ∨ (n = 4 ∧ 16 < r) ∨ (n = 8 ∧ 32 < r) ∨ (n = 16 ∧ 64 < r) ∨ (n = 32 ∧ 128 < r) ∨ (n = 64 ∧ 256 < r) ∨ (n = 128 ∧ 512 < r)
theorem Wn.le {r : Int} {n : Nat} (h : Wn r n) : 1 ≤ n ∧ n ≤ 128 := by unfold Wn at h; omega
theorem Wn.next {r : Int} {n : Nat} (h : Wn r n) (h1 : (8 * n : Int) < r) (h2 : n < 128) : Wn r (2 * n) := by unfold Wn at *; omega
theorem Wn.end {r : Int} {n : Nat} (h : Wn r n) (h1 : r ≤ 8 * n ∨ 128 ≤ n) : n = nw r := by
  unfold Wn at h
  unfold nw
  rcases h with h | h | h | h | h | h | h | h <;> (split <;> try omega) <;> (split <;> try omega) <;> (split <;> try omega) <;> (split <;> try omega) <;> (split <;> try omega) <;> (split <;> try omega) <;> (split <;> try omega)
theorem nw_le (r : Int) : 1 ≤ nw r ∧ nw r ≤ 128 := by
  unfold nw
  (split <;> try omega) <;> (split <;> try omega) <;> (split <;> try omega) <;> (split <;> try omega) <;> (split <;> try omega) <;> (split <;> try omega) <;> (split <;> try omega)
end Go.Proofs.Ytcphhlfbjkeikab.Dr
