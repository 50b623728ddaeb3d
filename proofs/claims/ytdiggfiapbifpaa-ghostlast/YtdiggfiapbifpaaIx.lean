/- An index of numbers in memory: its struct, its slots of three cells. -/
import Derived.Test.YtdiggfiapbifpaaTx
import Derived.Test.YtdiggfiapbifpaaLm
namespace Go.Proofs.Ytdiggfiapbifpaa.Ix
open Go.RowKit

/-! ### an index in memory -/
/-- a slot: 0 empty, 1 gone, 2 taken -/
structure Sl (α : Type) where
  st : Nat
  key : ByteArray
  val : α
section
variable {α : Type}
def Sl.cells (V : α → Value) (s : Sl α) : List Value := [.int .u8 (s.st : Nat), .string s.key, V s.val]
def rowOf (V : α → Value) (sl : List (Sl α)) : List Value := sl.flatMap (Sl.cells V)
theorem rowOf_nil (V : α → Value) : rowOf V [] = [] := rfl
theorem rowOf_cons (V : α → Value) (s : Sl α) (sl : List (Sl α)) : rowOf V (s :: sl) = .int .u8 (s.st : Nat) :: .string s.key :: V s.val :: rowOf V sl := rfl
theorem rowOf_len (V : α → Value) (sl : List (Sl α)) : (rowOf V sl).length = sl.length * 3 := by
  induction sl with
  | nil => rfl
  | cons s sl ih => rw [rowOf_cons]; simp [ih]; omega
theorem rowOf_at (V : α → Value) : ∀ (sl : List (Sl α)) (i : Nat) (s : Sl α), sl[i]? = some s →
    (rowOf V sl)[i * 3]? = some (.int .u8 (s.st : Nat)) ∧ (rowOf V sl)[i * 3 + 1]? = some (.string s.key) ∧ (rowOf V sl)[i * 3 + 2]? = some (V s.val)
  | s :: sl, 0, t, h => by
    simp at h
    subst h
    simp [rowOf_cons]
  | s :: sl, i + 1, t, h => by
    rw [show (i + 1) * 3 = i * 3 + 1 + 1 + 1 by omega]
    simp only [rowOf_cons, List.getElem?_cons_succ]
    exact rowOf_at V sl i t (by simpa using h)
theorem rowOf_set (V : α → Value) : ∀ (sl : List (Sl α)) (i : Nat) (s : Sl α),
    (((rowOf V sl).set (i * 3) (.int .u8 (s.st : Nat))).set (i * 3 + 1) (.string s.key)).set (i * 3 + 2) (V s.val) = rowOf V (sl.set i s)
  | [], i, s => rfl
  | t :: sl, 0, s => by simp [rowOf_cons]
  | t :: sl, i + 1, s => by
    rw [show (i + 1) * 3 = i * 3 + 1 + 1 + 1 by omega]
    simp only [rowOf_cons, List.set_cons_succ]
    rw [rowOf_set V sl i s]
theorem rowOf_setVal (V : α → Value) : ∀ (sl : List (Sl α)) (i : Nat) (t : Sl α) (v : α), sl[i]? = some t →
    (rowOf V sl).set (i * 3 + 2) (V v) = rowOf V (sl.set i { t with val := v })
  | t :: sl, 0, u, v, h => by
    simp at h
    subst h
    simp [rowOf_cons]
  | t :: sl, i + 1, u, v, h => by
    rw [show (i + 1) * 3 = i * 3 + 1 + 1 + 1 by omega]
    simp only [rowOf_cons, List.set_cons_succ]
    rw [rowOf_setVal V sl i u v (by simpa using h)]
def Sl.none (z : α) : Sl α := ⟨0, ⟨#[]⟩, z⟩
theorem rowOf_made (V : α → Value) (z : α) (n : Nat) : madeCells #[.int .u8 0, .string ⟨#[]⟩, V z] (n * 3) = (rowOf V (List.replicate n (Sl.none z))).toArray := by
  apply Array.ext'
  rw [List.toList_toArray]
  apply List.ext_getElem?
  intro j
  have hl := rowOf_len V (List.replicate n (Sl.none z))
  rw [List.length_replicate] at hl
  rcases Nat.lt_or_ge j (n * 3) with h | h
  · have hs : (List.replicate n (Sl.none z))[j / 3]? = some (Sl.none z) := by rw [List.getElem?_replicate, if_pos (by omega)]
    obtain ⟨h0, h1, h2⟩ := rowOf_at V _ _ _ hs
    have hm : (madeCells #[.int .u8 0, .string ⟨#[]⟩, V z] (n * 3)).toList[j]? = some (#[.int .u8 0, .string ⟨#[]⟩, V z][j % 3]!) := by
      simp [madeCells, h]
    rw [hm]
    have : j % 3 = 0 ∨ j % 3 = 1 ∨ j % 3 = 2 := by omega
    rcases this with e | e | e
    · rw [e, show j = j / 3 * 3 by omega, h0]; rfl
    · rw [e, show j = j / 3 * 3 + 1 by omega, h1]; rfl
    · rw [e, show j = j / 3 * 3 + 2 by omega, h2]; rfl
  · rw [List.getElem?_eq_none (by simp [madeCells]; omega)]
    exact (List.getElem?_eq_none (l := rowOf V (List.replicate n (Sl.none z))) (by omega)).symm

def IndexIn (V : α → Value) (te tl : TypeId) (D : Nat → Prop) (w : World) (p : Nat) (seed : Nat) (sl : List (Sl α)) (used count : Nat) (ad : Option Addr) : Prop :=
  D p ∧ w.heap[p]? = some (.cells #[.int .u64 (seed : Nat), .slice ad sl.length sl.length, .int .i64 (used : Nat), .int .i64 (count : Nat)] tl (0, 0)) ∧
  (sl = [] ∨ ∃ g, ad = some ⟨g, 0, none⟩ ∧ g ≠ p ∧ D g ∧ w.heap[g]? = some (.cells (rowOf V sl).toArray te (0, 0)))
theorem cells_of_four {w : World} {p : Nat} {a b c d : Value} {t : TypeId} (h : w.heap[p]? = some (.cells #[a, b, c, d] t (0, 0))) :
    w.cell? ⟨p, 0, none⟩ = some a ∧ w.cell? ⟨p, 1, none⟩ = some b ∧ w.cell? ⟨p, 2, none⟩ = some c ∧ w.cell? ⟨p, 3, none⟩ = some d ∧
    w.frozen? ⟨p, 0, none⟩ = false ∧ w.frozen? ⟨p, 1, none⟩ = false ∧ w.frozen? ⟨p, 2, none⟩ = false ∧ w.frozen? ⟨p, 3, none⟩ = false := by
  simp [World.cell?, World.frozen?, h]

variable {V : α → Value} {te tl : TypeId} {D : Nat → Prop} {w w' : World} {p g seed : Nat} {sl : List (Sl α)} {used count : Nat} {ad : Option Addr}
theorem IndexIn.top (h : IndexIn V te tl D w p seed sl used count ad) :
    w.cell? ⟨p, 0, none⟩ = some (.int .u64 (seed : Nat)) ∧ w.cell? ⟨p, 1, none⟩ = some (.slice ad sl.length sl.length) ∧ w.cell? ⟨p, 2, none⟩ = some (.int .i64 (used : Nat)) ∧ w.cell? ⟨p, 3, none⟩ = some (.int .i64 (count : Nat)) ∧
    w.frozen? ⟨p, 0, none⟩ = false ∧ w.frozen? ⟨p, 1, none⟩ = false ∧ w.frozen? ⟨p, 2, none⟩ = false ∧ w.frozen? ⟨p, 3, none⟩ = false := cells_of_four h.2.1
/-- the three cells of a slot in a block -/
theorem slot_cells {te : TypeId} (hg : w.heap[g]? = some (.cells (rowOf V sl).toArray te (0, 0))) {i : Nat} {s : Sl α} (hi : sl[i]? = some s) :
    w.cell? ⟨g, i * 3, none⟩ = some (.int .u8 (s.st : Nat)) ∧ w.cell? ⟨g, i * 3 + 1, none⟩ = some (.string s.key) ∧ w.cell? ⟨g, i * 3 + 2, none⟩ = some (V s.val) ∧
    w.frozen? ⟨g, i * 3, none⟩ = false ∧ w.frozen? ⟨g, i * 3 + 1, none⟩ = false ∧ w.frozen? ⟨g, i * 3 + 2, none⟩ = false := by
  obtain ⟨h0, h1, h2⟩ := rowOf_at V sl i s hi
  refine ⟨?_, ?_, ?_, frozen_of_block hg, frozen_of_block hg, frozen_of_block hg⟩
  · rw [cell_of_block hg, List.getElem?_toArray]; exact h0
  · rw [cell_of_block hg, List.getElem?_toArray]; exact h1
  · rw [cell_of_block hg, List.getElem?_toArray]; exact h2
theorem IndexIn.block (h : IndexIn V te tl D w p seed sl used count ad) (hs : 0 < sl.length) : ∃ g, ad = some ⟨g, 0, none⟩ ∧ g ≠ p ∧ D g ∧ w.heap[g]? = some (.cells (rowOf V sl).toArray te (0, 0)) := by
  rcases h.2.2 with h0 | h
  · subst h0; simp at hs
  · exact h
theorem IndexIn.setSlot (h : IndexIn V te tl D w p seed sl used count (some ⟨g, 0, none⟩)) (hs : 0 < sl.length) (i : Nat) (s : Sl α) :
    IndexIn V te tl D (((w.setCell ⟨g, i * 3, none⟩ (.int .u8 (s.st : Nat))).setCell ⟨g, i * 3 + 1, none⟩ (.string s.key)).setCell ⟨g, i * 3 + 2, none⟩ (V s.val)) p seed (sl.set i s) used count (some ⟨g, 0, none⟩) := by
  obtain ⟨hD, hp, h0 | ⟨g', e, hgp, hDg, hg⟩⟩ := h
  · subst h0; simp at hs
  · cases e
    refine ⟨hD, ?_, .inr ⟨g, rfl, hgp, hDg, ?_⟩⟩
    · rw [Below.heap_setCell _ _ _ _ (by exact Ne.symm hgp), Below.heap_setCell _ _ _ _ (by exact Ne.symm hgp), Below.heap_setCell _ _ _ _ (by exact Ne.symm hgp), List.length_set]
      exact hp
    · rw [block_setCell (block_setCell (block_setCell hg))]
      simp only [Array.set!_eq_setIfInBounds, List.setIfInBounds_toArray]
      rw [rowOf_set]
theorem IndexIn.setVal (h : IndexIn V te tl D w p seed sl used count (some ⟨g, 0, none⟩)) {i : Nat} {t : Sl α} (ht : sl[i]? = some t) (v : α) :
    IndexIn V te tl D (w.setCell ⟨g, i * 3 + 2, none⟩ (V v)) p seed (sl.set i { t with val := v }) used count (some ⟨g, 0, none⟩) := by
  obtain ⟨hD, hp, h0 | ⟨g', e, hgp, hDg, hg⟩⟩ := h
  · subst h0; simp at ht
  · cases e
    refine ⟨hD, ?_, .inr ⟨g, rfl, hgp, hDg, ?_⟩⟩
    · rw [Below.heap_setCell _ _ _ _ (by exact Ne.symm hgp), List.length_set]
      exact hp
    · rw [block_setCell hg]
      simp only [Array.set!_eq_setIfInBounds, List.setIfInBounds_toArray]
      rw [rowOf_setVal V sl i t v ht]
theorem IndexIn.setUsed (h : IndexIn V te tl D w p seed sl used count ad) (u : Nat) : IndexIn V te tl D (w.setCell ⟨p, 2, none⟩ (.int .i64 (u : Nat))) p seed sl u count ad := by
  obtain ⟨hD, hp, h2⟩ := h
  refine ⟨hD, by rw [block_setCell hp]; rfl, ?_⟩
  rcases h2 with h0 | ⟨g, e, hgp, hDg, hg⟩
  · exact .inl h0
  · exact .inr ⟨g, e, hgp, hDg, by rw [Below.heap_setCell _ _ _ _ (by exact hgp)]; exact hg⟩
theorem IndexIn.setCount (h : IndexIn V te tl D w p seed sl used count ad) (u : Nat) : IndexIn V te tl D (w.setCell ⟨p, 3, none⟩ (.int .i64 (u : Nat))) p seed sl used u ad := by
  obtain ⟨hD, hp, h2⟩ := h
  refine ⟨hD, by rw [block_setCell hp]; rfl, ?_⟩
  rcases h2 with h0 | ⟨g, e, hgp, hDg, hg⟩
  · exact .inl h0
  · exact .inr ⟨g, e, hgp, hDg, by rw [Below.heap_setCell _ _ _ _ (by exact hgp)]; exact hg⟩
/-- other slots -/
theorem IndexIn.newSlots {D' : Nat → Prop} (h : IndexIn V te tl D w p seed sl used count ad) (hw : w'.heap[p]? = w.heap[p]?) {q : Nat} (hq : q ≠ p) (hDp : D' p) (hDq : D' q) {ss : List (Sl α)} (hb : w'.heap[q]? = some (.cells (rowOf V ss).toArray te (0, 0))) :
    IndexIn V te tl D' (w'.setCell ⟨p, 1, none⟩ (.slice (some ⟨q, 0, none⟩) ss.length ss.length)) p seed ss used count (some ⟨q, 0, none⟩) := by
  obtain ⟨_, hp, _⟩ := h
  rw [← hw] at hp
  refine ⟨hDp, by rw [block_setCell hp]; rfl, .inr ⟨q, rfl, hq, hDq, ?_⟩⟩
  rw [Below.heap_setCell _ _ _ _ (by exact hq)]
  exact hb
theorem IndexIn.kept {D' : Nat → Prop} (h : IndexIn V te tl D w p seed sl used count ad) (hk : Keeps D' w w') (hd : ∀ k, D k → ¬ D' k) : IndexIn V te tl D w' p seed sl used count ad := by
  obtain ⟨hD, hp, h2⟩ := h
  refine ⟨hD, (hk.block p (lt_of_block hp) (hd _ hD)).trans hp, ?_⟩
  rcases h2 with h0 | ⟨g, e, hgp, hDg, hg⟩
  · exact .inl h0
  · exact .inr ⟨g, e, hgp, hDg, (hk.block g (lt_of_block hg) (hd _ hDg)).trans hg⟩
theorem IndexIn.below (h : IndexIn V te tl D w p seed sl used count ad) (hb : Below w.heap.size w w') : IndexIn V te tl D w' p seed sl used count ad :=
  h.kept (D' := fun _ => False) (.of_below hb) (fun _ _ e => e)
theorem IndexIn.drewN (h : IndexIn V te tl D w p seed sl used count ad) (q : Nat) : IndexIn V te tl D (w.drewN q) p seed sl used count ad :=
  h.kept (D' := fun _ => False) ((Keeps.refl _ w).drewN q) (fun _ _ e => e)
theorem IndexIn.narrow (h : IndexIn V te tl D w p seed sl used count ad) : IndexIn V te tl (fun k => D k ∧ k < w.heap.size) w p seed sl used count ad := by
  obtain ⟨hD, hp, h2⟩ := h
  refine ⟨⟨hD, lt_of_block hp⟩, hp, ?_⟩
  rcases h2 with h0 | ⟨g, e, hgp, hDg, hg⟩
  · exact .inl h0
  · exact .inr ⟨g, e, hgp, ⟨hDg, lt_of_block hg⟩, hg⟩
theorem IndexIn.wide {D' : Nat → Prop} (h : IndexIn V te tl D w p seed sl used count ad) (hD : ∀ k, D k → D' k) : IndexIn V te tl D' w p seed sl used count ad := by
  obtain ⟨h1, hp, h2⟩ := h
  refine ⟨hD _ h1, hp, ?_⟩
  rcases h2 with h0 | ⟨g, e, hgp, hDg, hg⟩
  · exact .inl h0
  · exact .inr ⟨g, e, hgp, hD _ hDg, hg⟩
end
end Go.Proofs.Ytdiggfiapbifpaa.Ix
