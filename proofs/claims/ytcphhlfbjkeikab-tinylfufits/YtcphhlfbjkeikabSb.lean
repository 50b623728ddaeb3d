/- Blocks of memory, and what is kept; a sketch in memory, the program's and the document's: its cells are one function of their places. -/
import Derived.Test.YtcphhlfbjkeikabSa
import Derived.WalkSmall
import Derived.Deep.OwnRows
import Derived.Deep.QuietTactic
import Derived.BigQuiet
namespace Go.Proofs.Ytcphhlfbjkeikab.Sk
open Go.RowKit

theorem block_setCell {w : World} {p j : Nat} {cs : Array Value} {t : TypeId} {u : Value} (h : w.heap[p]? = some (.cells cs t (0, 0))) :
    (w.setCell ⟨p, j, none⟩ u).heap[p]? = some (.cells (cs.set! j u) t (0, 0)) := by
  have hlt := lt_of_block h
  have h' : w.heap[p] = .cells cs t (0, 0) := by simpa [Array.getElem?_eq_getElem hlt] using h
  show (w.heap.modify p _)[p]? = _
  rw [Array.getElem?_eq_getElem (by simpa using hlt), Array.getElem_modify_self, h']
  rfl
theorem cell_setCell_far {w : World} {a b : Addr} {u : Value} (h : b.block ≠ a.block) : (w.setCell a u).cell? b = w.cell? b :=
  World.cell?_of_block (w := w) (Below.heap_setCell _ _ _ _ h)
theorem frozen_of_block {w : World} {p j : Nat} {cs : Array Value} {t : TypeId} (h : w.heap[p]? = some (.cells cs t (0, 0))) : w.frozen? ⟨p, j, none⟩ = false := by
  simp [World.frozen?, h]
theorem cell_of_block {w : World} {p j : Nat} {cs : Array Value} {t : TypeId} (h : w.heap[p]? = some (.cells cs t (0, 0))) : w.cell? ⟨p, j, none⟩ = cs[j]? := by
  simp [World.cell?, h]

theorem made_list (z : Value) (n : Nat) : madeCells #[z] n = (List.replicate n z).toArray := by
  rw [← toList_madeCells_one]
theorem cells_of_three {w : World} {p : Nat} {a b c : Value} {t : TypeId} (h : w.heap[p]? = some (.cells #[a, b, c] t (0, 0))) :
    w.cell? ⟨p, 0, none⟩ = some a ∧ w.cell? ⟨p, 1, none⟩ = some b ∧ w.cell? ⟨p, 2, none⟩ = some c ∧
    w.frozen? ⟨p, 0, none⟩ = false ∧ w.frozen? ⟨p, 1, none⟩ = false ∧ w.frozen? ⟨p, 2, none⟩ = false := by
  simp [World.cell?, World.frozen?, h]
theorem cells_of_four {w : World} {p : Nat} {a b c d : Value} {t : TypeId} (h : w.heap[p]? = some (.cells #[a, b, c, d] t (0, 0))) :
    w.cell? ⟨p, 0, none⟩ = some a ∧ w.cell? ⟨p, 1, none⟩ = some b ∧ w.cell? ⟨p, 2, none⟩ = some c ∧ w.cell? ⟨p, 3, none⟩ = some d ∧
    w.frozen? ⟨p, 0, none⟩ = false ∧ w.frozen? ⟨p, 1, none⟩ = false ∧ w.frozen? ⟨p, 2, none⟩ = false ∧ w.frozen? ⟨p, 3, none⟩ = false := by
  simp [World.cell?, World.frozen?, h]
theorem set_range {n j : Nat} {f g : Nat → Value} (h : ∀ i, i < n → i ≠ j → g i = f i) (v : Value) (hv : j < n → g j = v) : ((List.range n).map f).set j v = (List.range n).map g := by
  apply List.ext_getElem?
  intro i
  by_cases hi : i < n
  · by_cases hj : i = j
    · subst hj
      simp [hi, hv hi]
    · simp [hi, Ne.symm hj, h i hi hj]
  · simp [hi]

/-! ### cells by their places -/
def upd (c : Nat → Nat) (i v : Nat) : Nat → Nat := fun j => if j = i then v else c j
/-- a byte: two cells -/
def byt (c : Nat → Nat) (k : Nat) : Nat := c (2 * k) + 16 * c (2 * k + 1)
theorem byt_lt {c : Nat → Nat} (h : ∀ i, c i ≤ 15) (k : Nat) : byt c k < 256 := by
  have h0 := h (2 * k)
  have h1 := h (2 * k + 1)
  unfold byt
  omega
def u8s (c : Nat → Nat) (n : Nat) : List Value := (List.range n).map (fun k => .int .u8 (byt c k : Nat))
def i64s (c : Nat → Nat) (n : Nat) : List Value := (List.range n).map (fun k => .int .i64 (c k : Nat))
theorem u8s_at (c : Nat → Nat) {n k : Nat} (h : k < n) : (u8s c n)[k]? = some (.int .u8 (byt c k : Nat)) := by simp [u8s, h]
theorem i64s_at (c : Nat → Nat) {n k : Nat} (h : k < n) : (i64s c n)[k]? = some (.int .i64 (c k : Nat)) := by simp [i64s, h]
theorem u8s_made (n : Nat) : madeCells #[.int .u8 0] n = (u8s (fun _ => 0) n).toArray := by
  rw [made_list]
  congr 1
  apply List.ext_getElem?
  intro i
  by_cases h : i < n
  · simp [u8s, h, byt]
  · simp [u8s, h]
theorem i64s_made (n : Nat) : madeCells #[.int .i64 0] n = (i64s (fun _ => 0) n).toArray := by
  rw [made_list]
  congr 1
  apply List.ext_getElem?
  intro i
  by_cases h : i < n
  · simp [i64s, h]
  · simp [i64s, h]
theorem byt_far {c : Nat → Nat} {i v k : Nat} (h : k ≠ i / 2) : byt (upd c i v) k = byt c k := by
  unfold byt upd
  rw [if_neg (by omega), if_neg (by omega)]
theorem u8s_set (c : Nat → Nat) (n i v : Nat) : (u8s c n).set (i / 2) (.int .u8 (byt (upd c i v) (i / 2) : Nat)) = u8s (upd c i v) n := by
  unfold u8s
  exact set_range (fun k _ hk => by rw [byt_far hk]) _ (fun _ => rfl)
theorem i64s_set (c : Nat → Nat) (n i v : Nat) : (i64s c n).set i (.int .i64 (v : Nat)) = i64s (upd c i v) n := by
  unfold i64s
  refine set_range (fun k _ hk => ?_) _ (fun _ => ?_)
  · simp [upd, hk]
  · simp [upd]
/-- the cell in a byte -/
theorem byt_half (c : Nat → Nat) (h : ∀ i, c i ≤ 15) (i : Nat) : byt c (i / 2) / 2 ^ (i % 2 * 4) % 16 = c i := by
  unfold byt
  have h0 := h (2 * (i / 2))
  have h1 := h (2 * (i / 2) + 1)
  rcases Nat.mod_two_eq_zero_or_one i with e | e
  · have e2 : 2 * (i / 2) = i := by omega
    rw [e2] at h0 h1 ⊢
    rw [e]
    simp
    omega
  · have e2 : 2 * (i / 2) + 1 = i := by omega
    rw [e2] at h1 ⊢
    rw [e]
    simp
    omega
theorem byt_raise (c : Nat → Nat) (i : Nat) : byt (upd c i (c i + 1)) (i / 2) = byt c (i / 2) + 2 ^ (i % 2 * 4) := by
  unfold byt upd
  rcases Nat.mod_two_eq_zero_or_one i with e | e
  · rw [e, if_pos (by omega), if_neg (by omega), show 2 * (i / 2) = i by omega]
    simp
    omega
  · rw [e, if_neg (by omega), if_pos (by omega), show 2 * (i / 2) + 1 = i by omega]
    simp
    omega

/-- the first j bytes are halved -/
def hvj (c : Nat → Nat) (j : Nat) : Nat → Nat := fun i => if i < j then c i / 2 else c i
def hv (c : Nat → Nat) : Nat → Nat := fun i => c i / 2
theorem and77 : ∀ a : Fin 16, ∀ b : Fin 16, (a.val + 16 * b.val) / 2 &&& 119 = a.val / 2 + 16 * (b.val / 2) := by decide +kernel
theorem byt_and {c : Nat → Nat} (h : ∀ i, c i ≤ 15) (k : Nat) : byt c k / 2 &&& 119 = byt (hv c) k := by
  have := and77 ⟨c (2 * k), by have := h (2 * k); omega⟩ ⟨c (2 * k + 1), by have := h (2 * k + 1); omega⟩
  exact this
theorem byt_hvj (c : Nat → Nat) (j : Nat) : byt (hvj c (2 * j)) j = byt c j ∧ byt (hvj c (2 * (j + 1))) j = byt (hv c) j := by
  unfold byt hvj hv
  constructor
  · rw [if_neg (by omega), if_neg (by omega)]
  · rw [if_pos (by omega), if_pos (by omega)]
theorem u8s_halve (c : Nat → Nat) (n j : Nat) : (u8s (hvj c (2 * j)) n).set j (.int .u8 (byt (hv c) j : Nat)) = u8s (hvj c (2 * (j + 1))) n := by
  unfold u8s
  refine set_range (fun k _ hk => ?_) _ (fun _ => by rw [(byt_hvj c j).2])
  have : byt (hvj c (2 * (j + 1))) k = byt (hvj c (2 * j)) k := by
    unfold byt hvj
    by_cases h : k < j
    · rw [if_pos (by omega), if_pos (by omega), if_pos (by omega), if_pos (by omega)]
    · rw [if_neg (by omega), if_neg (by omega), if_neg (by omega), if_neg (by omega)]
  rw [this]
theorem i64s_halve (c : Nat → Nat) (n j : Nat) : (i64s (hvj c j) n).set j (.int .i64 ((c j / 2 : Nat) : Int)) = i64s (hvj c (j + 1)) n := by
  unfold i64s
  refine set_range (fun k _ hk => ?_) _ (fun _ => ?_)
  · have : hvj c (j + 1) k = hvj c j k := by
      unfold hvj
      by_cases h : k < j
      · rw [if_pos h, if_pos (by omega)]
      · rw [if_neg h, if_neg (by omega)]
    rw [this]
  · rw [show hvj c (j + 1) j = c j / 2 by unfold hvj; rw [if_pos (by omega)]]
theorem hvj_zero (c : Nat → Nat) : hvj c 0 = c := by funext i; simp [hvj]
theorem u8s_ext {c d : Nat → Nat} {n : Nat} (h : ∀ i, i < 2 * n → c i = d i) : u8s c n = u8s d n := by
  unfold u8s
  apply List.map_congr_left
  intro k hk
  simp at hk
  unfold byt
  rw [h _ (by omega), h _ (by omega)]
theorem i64s_ext {c d : Nat → Nat} {n : Nat} (h : ∀ i, i < n → c i = d i) : i64s c n = i64s d n := by
  unfold i64s
  apply List.map_congr_left
  intro k hk
  simp at hk
  rw [h _ hk]

/-! ### where a key's cells lie, and the least of them -/
def pl (N : Nat) (k : ByteArray) (r : Nat) : Nat := r * N + hp N k r
theorem pl_lt {N : Nat} (hN : 8 ≤ N) (k : ByteArray) {r : Nat} (hr : r < 4) : pl N k r < 4 * N := by
  have := hp_lt hN k r
  unfold pl
  have : r = 0 ∨ r = 1 ∨ r = 2 ∨ r = 3 := by omega
  rcases this with rfl | rfl | rfl | rfl <;> omega
def lw (c : Nat → Nat) (N : Nat) (k : ByteArray) : Nat := min (min (min (c (pl N k 0)) (c (pl N k 1))) (c (pl N k 2))) (c (pl N k 3))
theorem lw_le {c : Nat → Nat} {N : Nat} {k : ByteArray} {r : Nat} (hr : r < 4) : lw c N k ≤ c (pl N k r) := by
  unfold lw
  have : r = 0 ∨ r = 1 ∨ r = 2 ∨ r = 3 := by omega
  rcases this with rfl | rfl | rfl | rfl <;> omega
theorem lw_at (c : Nat → Nat) (N : Nat) (k : ByteArray) : ∃ r, r < 4 ∧ c (pl N k r) = lw c N k := by
  unfold lw
  have h : ∀ a b d e : Nat, min (min (min a b) d) e = a ∨ min (min (min a b) d) e = b ∨ min (min (min a b) d) e = d ∨ min (min (min a b) d) e = e := by intros; omega
  rcases h (c (pl N k 0)) (c (pl N k 1)) (c (pl N k 2)) (c (pl N k 3)) with h | h | h | h
  · exact ⟨0, by omega, h.symm⟩
  · exact ⟨1, by omega, h.symm⟩
  · exact ⟨2, by omega, h.symm⟩
  · exact ⟨3, by omega, h.symm⟩
theorem le_lw {c : Nat → Nat} {N m : Nat} {k : ByteArray} (h : ∀ r, r < 4 → m ≤ c (pl N k r)) : m ≤ lw c N k := by
  obtain ⟨r, hr, e⟩ := lw_at c N k
  rw [← e]
  exact h r hr
theorem lw_hv (c : Nat → Nat) (N : Nat) (k : ByteArray) : lw (hv c) N k = lw c N k / 2 := by
  unfold lw hv
  omega
/-- one cell more, if it is the least -/
def one (low : Nat) (c : Nat → Nat) (i : Nat) : Nat → Nat := if c i = low then upd c i (low + 1) else c
/-- the first j of a key's cells -/
def adds (c : Nat → Nat) (N : Nat) (k : ByteArray) (low : Nat) : Nat → (Nat → Nat)
  | 0 => c
  | j + 1 => one low (adds c N k low j) (pl N k j)
theorem one_mono (low : Nat) (c : Nat → Nat) (i j : Nat) : c j ≤ one low c i j ∧ one low c i j ≤ max (c j) (low + 1) := by
  unfold one upd
  by_cases h : c i = low
  · rw [if_pos h]
    by_cases hj : j = i
    · simp only [hj, if_true]; omega
    · simp only [hj, if_false]; omega
  · rw [if_neg h]; omega
theorem adds_mono (c : Nat → Nat) (N : Nat) (k : ByteArray) (low i : Nat) : ∀ j, c i ≤ adds c N k low j i ∧ adds c N k low j i ≤ max (c i) (low + 1)
  | 0 => by simp only [adds]; omega
  | j + 1 => by
    have h := adds_mono c N k low i j
    have h' := one_mono low (adds c N k low j) (pl N k j) i
    simp only [adds]
    omega
theorem adds_up {c : Nat → Nat} {N : Nat} {k : ByteArray} {low r : Nat} (hl : low ≤ c (pl N k r)) : ∀ j, r < j → low + 1 ≤ adds c N k low j (pl N k r)
  | 0, h => by omega
  | j + 1, h => by
    rcases Nat.lt_or_ge r j with hj | hj
    · have h1 := adds_up hl j hj
      have h2 := (one_mono low (adds c N k low j) (pl N k j) (pl N k r)).1
      simp only [adds]
      omega
    · have e : r = j := by omega
      subst e
      have h1 := (adds_mono c N k low (pl N k r) r).1
      simp only [adds]
      unfold one upd
      by_cases h : adds c N k low r (pl N k r) = low
      · rw [if_pos h]; simp
      · rw [if_neg h]; omega
theorem adds_le {c : Nat → Nat} {N : Nat} {k : ByteArray} {low : Nat} (h : ∀ i, c i ≤ 15) (hl : low < 15) (j i : Nat) : adds c N k low j i ≤ 15 := by
  have h1 := (adds_mono c N k low i j).2
  have h2 := h i
  omega
theorem lw_adds (c : Nat → Nat) (N : Nat) (k : ByteArray) : lw (adds c N k (lw c N k) 4) N k = lw c N k + 1 := by
  apply Nat.le_antisymm
  · obtain ⟨r, hr, e⟩ := lw_at c N k
    have h1 := (adds_mono c N k (lw c N k) (pl N k r) 4).2
    have h2 := lw_le (c := adds c N k (lw c N k) 4) (N := N) (k := k) hr
    omega
  · exact le_lw (fun r hr => adds_up (lw_le hr) 4 hr)

/-! ### how many cells a row has -/
def wd (r : Int) : Nat := if r ≤ 8 then 8 else if r ≤ 16 then 16 else if r ≤ 32 then 32 else if r ≤ 64 then 64 else if r ≤ 128 then 128 else if r ≤ 256 then 256 else if r ≤ 512 then 512 else 1024
def Wd (r : Int) (n : Nat) : Prop := n = 8 ∨ (n = 16 ∧ 8 < r) ∨ (n = 32 ∧ 16 < r) ∨ (n = 64 ∧ 32 < r) ∨ (n = 128 ∧ 64 < r) ∨ (n = 256 ∧ 128 < r) ∨ (n = 512 ∧ 256 < r) ∨ (n = 1024 ∧ 512 < r)
theorem Wd.le {r : Int} {n : Nat} (h : Wd r n) : 8 ≤ n ∧ n ≤ 1024 := by unfold Wd at h; omega
theorem Wd.next {r : Int} {n : Nat} (h : Wd r n) (h1 : (n : Int) < r) (h2 : n < 1024) : Wd r (2 * n) := by unfold Wd at *; omega
theorem Wd.end {r : Int} {n : Nat} (h : Wd r n) (h1 : r ≤ n ∨ 1024 ≤ n) : n = wd r := by
  unfold Wd at h
  unfold wd
  rcases h with h | h | h | h | h | h | h | h <;> (split <;> try omega) <;> (split <;> try omega) <;> (split <;> try omega) <;> (split <;> try omega) <;> (split <;> try omega) <;> (split <;> try omega) <;> (split <;> try omega)
theorem Wd.wd (r : Int) : Wd r (wd r) := by
  unfold Wd Ytcphhlfbjkeikab.Sk.wd
  (split <;> try omega) <;> (split <;> try omega) <;> (split <;> try omega) <;> (split <;> try omega) <;> (split <;> try omega) <;> (split <;> try omega) <;> (split <;> try omega)
theorem wd_le (r : Int) : 8 ≤ wd r ∧ wd r ≤ 1024 := (Wd.wd r).le

/-! ### a sketch in memory -/
/-- what a sketch's numbers keep -/
structure Fit (N : Nat) (c : Nat → Nat) (s : Nat) : Prop where
  lo : 8 ≤ N
  hi : N ≤ 1024
  cell : ∀ i, c i ≤ 15
  sum : s < 10 * N
/-- the program's: its struct, its bytes -/
def SkIn (D : Nat → Prop) (w : World) (p g N : Nat) (c : Nat → Nat) (s : Nat) : Prop :=
  D p ∧ D g ∧ g ≠ p ∧ w.heap[p]? = some (.cells #[.int .i64 (N : Nat), .slice (some ⟨g, 0, none⟩) (2 * N) (2 * N), .int .i64 (s : Nat)] 94 (0, 0)) ∧ w.heap[g]? = some (.cells (u8s c (2 * N)).toArray 5 (0, 0))
section
variable {D : Nat → Prop} {w w' : World} {p g N : Nat} {c : Nat → Nat} {s : Nat}
theorem SkIn.top (h : SkIn D w p g N c s) : w.cell? ⟨p, 0, none⟩ = some (.int .i64 (N : Nat)) ∧ w.cell? ⟨p, 1, none⟩ = some (.slice (some ⟨g, 0, none⟩) (2 * N) (2 * N)) ∧ w.cell? ⟨p, 2, none⟩ = some (.int .i64 (s : Nat)) ∧
    w.frozen? ⟨p, 0, none⟩ = false ∧ w.frozen? ⟨p, 1, none⟩ = false ∧ w.frozen? ⟨p, 2, none⟩ = false := cells_of_three h.2.2.2.1
theorem SkIn.at (h : SkIn D w p g N c s) {k : Nat} (hk : k < 2 * N) : w.cell? ⟨g, k, none⟩ = some (.int .u8 (byt c k : Nat)) ∧ w.frozen? ⟨g, k, none⟩ = false :=
  ⟨by rw [cell_of_block h.2.2.2.2, List.getElem?_toArray, u8s_at c hk], frozen_of_block h.2.2.2.2⟩
/-- other bytes -/
theorem SkIn.set (h : SkIn D w p g N c s) {k b : Nat} {d : Nat → Nat} (e : (u8s c (2 * N)).set k (.int .u8 (b : Nat)) = u8s d (2 * N)) : SkIn D (w.setCell ⟨g, k, none⟩ (.int .u8 (b : Nat))) p g N d s := by
  obtain ⟨h1, h2, h3, h4, h5⟩ := h
  refine ⟨h1, h2, h3, ?_, ?_⟩
  · rw [Below.heap_setCell _ _ _ _ (by exact Ne.symm h3)]; exact h4
  · rw [block_setCell h5]
    simp only [Array.set!_eq_setIfInBounds, List.setIfInBounds_toArray]
    rw [e]
theorem SkIn.setSum (h : SkIn D w p g N c s) (t : Nat) : SkIn D (w.setCell ⟨p, 2, none⟩ (.int .i64 (t : Nat))) p g N c t := by
  obtain ⟨h1, h2, h3, h4, h5⟩ := h
  refine ⟨h1, h2, h3, by rw [block_setCell h4]; rfl, ?_⟩
  rw [Below.heap_setCell _ _ _ _ (by exact h3)]; exact h5
theorem SkIn.kept {D' : Nat → Prop} (h : SkIn D w p g N c s) (hk : Keeps D' w w') (hd : ∀ k, D k → ¬ D' k) : SkIn D w' p g N c s := by
  obtain ⟨h1, h2, h3, h4, h5⟩ := h
  exact ⟨h1, h2, h3, (hk.block p (lt_of_block h4) (hd _ h1)).trans h4, (hk.block g (lt_of_block h5) (hd _ h2)).trans h5⟩
theorem SkIn.below (h : SkIn D w p g N c s) (hb : Below w.heap.size w w') : SkIn D w' p g N c s := h.kept (D' := fun _ => False) (.of_below hb) (fun _ _ e => e)
theorem SkIn.wide {D' : Nat → Prop} (h : SkIn D w p g N c s) (hD : ∀ k, D k → D' k) : SkIn D' w p g N c s := ⟨hD _ h.1, hD _ h.2.1, h.2.2⟩
theorem SkIn.narrow (h : SkIn D w p g N c s) : SkIn (fun k => D k ∧ k < w.heap.size) w p g N c s := ⟨⟨h.1, lt_of_block h.2.2.2.1⟩, ⟨h.2.1, lt_of_block h.2.2.2.2⟩, h.2.2⟩
theorem SkIn.ext {d : Nat → Nat} (h : SkIn D w p g N c s) (e : ∀ i, i < 4 * N → c i = d i) : SkIn D w p g N d s := by
  obtain ⟨h1, h2, h3, h4, h5⟩ := h
  exact ⟨h1, h2, h3, h4, by rw [← u8s_ext (c := c) (d := d) (fun i hi => e i (by omega))]; exact h5⟩
end
/-- a sketch: how many cells a row has, what they are, the sum -/
def SK (p N : Nat) (c : Nat → Nat) (s : Nat) (D : Nat → Prop) (w : World) : Prop := Fit N c s ∧ ∃ g, SkIn D w p g N c s
section
variable {D : Nat → Prop} {w w' : World} {p N : Nat} {c : Nat → Nat} {s : Nat}
theorem SK.below (h : SK p N c s D w) (hb : Below w.heap.size w w') : SK p N c s D w' := by obtain ⟨f, g, h⟩ := h; exact ⟨f, g, h.below hb⟩
end
end Go.Proofs.Ytcphhlfbjkeikab.Sk
