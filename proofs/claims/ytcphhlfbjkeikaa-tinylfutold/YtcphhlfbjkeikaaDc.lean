/- Blocks of memory, and what is kept; a door in memory, the program's (words) and the document's (bools): its bits are one function of their places. -/
import Derived.Test.YtcphhlfbjkeikaaDb
import Derived.WalkSmall
import Derived.Deep.OwnRows
import Derived.Deep.QuietTactic
import Derived.BigQuiet
namespace Go.Proofs.Ytcphhlfbjkeikaa.Dr
open Go.RowKit

theorem block_setCell {w : World} {p j : Nat} {cs : Array Value} {t : TypeId} {u : Value} (h : w.heap[p]? = some (.cells cs t (0, 0))) :
    (w.setCell ⟨p, j, none⟩ u).heap[p]? = some (.cells (cs.set! j u) t (0, 0)) := by
  have hlt := lt_of_block h
  have h' : w.heap[p] = .cells cs t (0, 0) := by simpa [Array.getElem?_eq_getElem hlt] using h
  show (w.heap.modify p _)[p]? = _
  rw [Array.getElem?_eq_getElem (by simpa using hlt), Array.getElem_modify_self, h']
  rfl
theorem cell_setCell_far {w : World} {a b : Addr} {u : Value} (h : b.block ≠ a.block) : (w.setCell a u).cell? b = w.cell? b :=
  World.cell?_of_block (w := w) (Below.heap_setCell _ _ _ _ h)
theorem frozen_of_block {w : World} {p j : Nat} {cs : Array Value} {t : TypeId} (h : w.heap[p]? = some (.cells cs t (0, 0))) : w.frozen? ⟨p, j, none⟩ = false := by
  simp [World.frozen?, h]
theorem cell_of_block {w : World} {p j : Nat} {cs : Array Value} {t : TypeId} (h : w.heap[p]? = some (.cells cs t (0, 0))) : w.cell? ⟨p, j, none⟩ = cs[j]? := by
  simp [World.cell?, h]

theorem made_list (z : Value) (n : Nat) : madeCells #[z] n = (List.replicate n z).toArray := by
  rw [← toList_madeCells_one]
theorem cells_of_three {w : World} {p : Nat} {a b c : Value} {t : TypeId} (h : w.heap[p]? = some (.cells #[a, b, c] t (0, 0))) :
    w.cell? ⟨p, 0, none⟩ = some a ∧ w.cell? ⟨p, 1, none⟩ = some b ∧ w.cell? ⟨p, 2, none⟩ = some c ∧
    w.frozen? ⟨p, 0, none⟩ = false ∧ w.frozen? ⟨p, 1, none⟩ = false ∧ w.frozen? ⟨p, 2, none⟩ = false := by
  simp [World.cell?, World.frozen?, h]
theorem cells_of_four {w : World} {p : Nat} {a b c d : Value} {t : TypeId} (h : w.heap[p]? = some (.cells #[a, b, c, d] t (0, 0))) :
    w.cell? ⟨p, 0, none⟩ = some a ∧ w.cell? ⟨p, 1, none⟩ = some b ∧ w.cell? ⟨p, 2, none⟩ = some c ∧ w.cell? ⟨p, 3, none⟩ = some d ∧
    w.frozen? ⟨p, 0, none⟩ = false ∧ w.frozen? ⟨p, 1, none⟩ = false ∧ w.frozen? ⟨p, 2, none⟩ = false ∧ w.frozen? ⟨p, 3, none⟩ = false := by
  simp [World.cell?, World.frozen?, h]
theorem set_range {n j : Nat} {f g : Nat → Value} (h : ∀ i, i < n → i ≠ j → g i = f i) (v : Value) (hv : j < n → g j = v) : ((List.range n).map f).set j v = (List.range n).map g := by
  apply List.ext_getElem?
  intro i
  by_cases hi : i < n
  · by_cases hj : i = j
    · subst hj
      simp [hi, hv hi]
    · simp [hi, Ne.symm hj, h i hi hj]
  · simp [hi]

theorem cells_of_one {w : World} {p : Nat} {a : Value} {t : TypeId} (h : w.heap[p]? = some (.cells #[a] t (0, 0))) :
    w.cell? ⟨p, 0, none⟩ = some a ∧ w.frozen? ⟨p, 0, none⟩ = false := by
  simp [World.cell?, World.frozen?, h]

/-! ### rows by their places -/
def u64s (v : Nat → Nat) (n : Nat) : List Value := (List.range n).map (fun k => .int .u64 (v k : Nat))
def bls (b : Nat → Bool) (n : Nat) : List Value := (List.range n).map (fun k => .bool (b k))
theorem u64s_at (v : Nat → Nat) {n k : Nat} (h : k < n) : (u64s v n)[k]? = some (.int .u64 (v k : Nat)) := by simp [u64s, h]
theorem bls_at (b : Nat → Bool) {n k : Nat} (h : k < n) : (bls b n)[k]? = some (.bool (b k)) := by simp [bls, h]
theorem u64s_made (n : Nat) : madeCells #[.int .u64 0] n = (u64s (fun _ => 0) n).toArray := by
  rw [made_list]
  congr 1
  apply List.ext_getElem?
  intro i
  by_cases h : i < n
  · simp [u64s, h]
  · simp [u64s, h]
theorem bls_made (n : Nat) : madeCells #[.bool false] n = (bls (fun _ => false) n).toArray := by
  rw [made_list]
  congr 1
  apply List.ext_getElem?
  intro i
  by_cases h : i < n
  · simp [bls, h]
  · simp [bls, h]
theorem u64s_set (v : Nat → Nat) (n i x : Nat) : (u64s v n).set i (.int .u64 (x : Nat)) = u64s (upd v i x) n := by
  unfold u64s
  refine set_range (fun k _ hk => ?_) _ (fun _ => ?_)
  · simp [upd, hk]
  · simp [upd]
theorem bls_set (b : Nat → Bool) (n i : Nat) : (bls b n).set i (.bool true) = bls (on b i) n := by
  unfold bls
  refine set_range (fun k _ hk => ?_) _ (fun _ => ?_)
  · simp [on, hk]
  · simp [on]
theorem u64s_ext {c d : Nat → Nat} {n : Nat} (h : ∀ i, i < n → c i = d i) : u64s c n = u64s d n := by
  unfold u64s
  apply List.map_congr_left
  intro k hk
  simp at hk
  rw [h _ hk]
/-- the first j words are 0 -/
def clr (v : Nat → Nat) (j : Nat) : Nat → Nat := fun i => if i < j then 0 else v i
theorem clr_zero (v : Nat → Nat) : clr v 0 = v := by funext i; simp [clr]
theorem u64s_clr (v : Nat → Nat) (n j : Nat) : (u64s (clr v j) n).set j (.int .u64 ((0 : Nat) : Int)) = u64s (clr v (j + 1)) n := by
  unfold u64s
  refine set_range (fun k _ hk => ?_) _ (fun _ => ?_)
  · have : clr v (j + 1) k = clr v j k := by
      unfold clr
      by_cases h : k < j
      · rw [if_pos h, if_pos (by omega)]
      · rw [if_neg h, if_neg (by omega)]
    rw [this]
  · rw [show clr v (j + 1) j = 0 by unfold clr; rw [if_pos (by omega)]]

/-! ### a door in memory -/
structure Fit (K : Nat) (v : Nat → Nat) : Prop where
  lo : 1 ≤ K
  hi : K ≤ 128
  word : ∀ i, v i < 18446744073709551616
/-- the program's: its struct, its words -/
def DrIn (D : Nat → Prop) (w : World) (p g K : Nat) (v : Nat → Nat) : Prop :=
  D p ∧ D g ∧ g ≠ p ∧ w.heap[p]? = some (.cells #[.slice (some ⟨g, 0, none⟩) K K] 62 (0, 0)) ∧ w.heap[g]? = some (.cells (u64s v K).toArray 38 (0, 0))
section
variable {D : Nat → Prop} {w w' : World} {p g K M : Nat} {v : Nat → Nat} {b : Nat → Bool}
theorem DrIn.top (h : DrIn D w p g K v) : w.cell? ⟨p, 0, none⟩ = some (.slice (some ⟨g, 0, none⟩) K K) ∧ w.frozen? ⟨p, 0, none⟩ = false := cells_of_one h.2.2.2.1
theorem DrIn.at (h : DrIn D w p g K v) {k : Nat} (hk : k < K) : w.cell? ⟨g, k, none⟩ = some (.int .u64 (v k : Nat)) ∧ w.frozen? ⟨g, k, none⟩ = false :=
  ⟨by rw [cell_of_block h.2.2.2.2, List.getElem?_toArray, u64s_at v hk], frozen_of_block h.2.2.2.2⟩
theorem DrIn.set (h : DrIn D w p g K v) {k x : Nat} {u : Nat → Nat} (e : (u64s v K).set k (.int .u64 (x : Nat)) = u64s u K) : DrIn D (w.setCell ⟨g, k, none⟩ (.int .u64 (x : Nat))) p g K u := by
  obtain ⟨h1, h2, h3, h4, h5⟩ := h
  refine ⟨h1, h2, h3, ?_, ?_⟩
  · rw [Below.heap_setCell _ _ _ _ (by exact Ne.symm h3)]; exact h4
  · rw [block_setCell h5]
    simp only [Array.set!_eq_setIfInBounds, List.setIfInBounds_toArray]
    rw [e]
theorem DrIn.kept {D' : Nat → Prop} (h : DrIn D w p g K v) (hk : Keeps D' w w') (hd : ∀ k, D k → ¬ D' k) : DrIn D w' p g K v := by
  obtain ⟨h1, h2, h3, h4, h5⟩ := h
  exact ⟨h1, h2, h3, (hk.block p (lt_of_block h4) (hd _ h1)).trans h4, (hk.block g (lt_of_block h5) (hd _ h2)).trans h5⟩
theorem DrIn.below (h : DrIn D w p g K v) (hb : Below w.heap.size w w') : DrIn D w' p g K v := h.kept (D' := fun _ => False) (.of_below hb) (fun _ _ e => e)
theorem DrIn.wide {D' : Nat → Prop} (h : DrIn D w p g K v) (hD : ∀ k, D k → D' k) : DrIn D' w p g K v := ⟨hD _ h.1, hD _ h.2.1, h.2.2⟩
theorem DrIn.narrow (h : DrIn D w p g K v) : DrIn (fun k => D k ∧ k < w.heap.size) w p g K v := ⟨⟨h.1, lt_of_block h.2.2.2.1⟩, ⟨h.2.1, lt_of_block h.2.2.2.2⟩, h.2.2⟩
theorem DrIn.ext {u : Nat → Nat} (h : DrIn D w p g K v) (e : ∀ i, i < K → v i = u i) : DrIn D w p g K u := by
  obtain ⟨h1, h2, h3, h4, h5⟩ := h
  exact ⟨h1, h2, h3, h4, by rw [← u64s_ext e]; exact h5⟩
end
/-- a door: how many words, which bits -/
def DR (p K : Nat) (b : Nat → Bool) (D : Nat → Prop) (w : World) : Prop := ∃ v, Fit K v ∧ bt v = b ∧ ∃ g, DrIn D w p g K v
section
variable {D : Nat → Prop} {w w' : World} {p K : Nat} {b : Nat → Bool}
theorem DR.below (h : DR p K b D w) (hb : Below w.heap.size w w') : DR p K b D w' := by obtain ⟨v, f, e, g, h⟩ := h; exact ⟨v, f, e, g, h.below hb⟩
theorem DR.size (h : DR p K b D w) : 1 ≤ K ∧ K ≤ 128 := by obtain ⟨v, f, -⟩ := h; exact ⟨f.lo, f.hi⟩
end
end Go.Proofs.Ytcphhlfbjkeikaa.Dr
