/- Blocks of memory, and what is kept; a sample in memory, the program's and the document's: three numbers. -/
import Derived.Test.YtfpndmgihhgjhaaMix
import Derived.WalkSmall
import Derived.Deep.OwnRows
import Derived.Deep.QuietTactic
import Derived.BigQuiet
namespace Go.Proofs.Ytfpndmgihhgjhaa
open Go.RowKit

theorem block_setCell {w : World} {p j : Nat} {cs : Array Value} {t : TypeId} {u : Value} (h : w.heap[p]? = some (.cells cs t (0, 0))) :
    (w.setCell ⟨p, j, none⟩ u).heap[p]? = some (.cells (cs.set! j u) t (0, 0)) := by
  have hlt := lt_of_block h
  have h' : w.heap[p] = .cells cs t (0, 0) := by simpa [Array.getElem?_eq_getElem hlt] using h
  show (w.heap.modify p _)[p]? = _
  rw [Array.getElem?_eq_getElem (by simpa using hlt), Array.getElem_modify_self, h']
  rfl
theorem cell_setCell_far {w : World} {a b : Addr} {u : Value} (h : b.block ≠ a.block) : (w.setCell a u).cell? b = w.cell? b :=
  World.cell?_of_block (w := w) (Below.heap_setCell _ _ _ _ h)
theorem frozen_of_block {w : World} {p j : Nat} {cs : Array Value} {t : TypeId} (h : w.heap[p]? = some (.cells cs t (0, 0))) : w.frozen? ⟨p, j, none⟩ = false := by
  simp [World.frozen?, h]
theorem cell_of_block {w : World} {p j : Nat} {cs : Array Value} {t : TypeId} (h : w.heap[p]? = some (.cells cs t (0, 0))) : w.cell? ⟨p, j, none⟩ = cs[j]? := by
  simp [World.cell?, h]

/-- the world w' is as w was, but for blocks of D, and new ones -/
structure Keeps (D : Nat → Prop) (w w' : World) : Prop where
  os : w'.os = w.os
  tape : w'.tape = w.tape
  output : w'.output = w.output
  size : w.heap.size ≤ w'.heap.size
  block : ∀ k, k < w.heap.size → ¬ D k → w'.heap[k]? = w.heap[k]?
theorem Keeps.refl (D : Nat → Prop) (w : World) : Keeps D w w := ⟨rfl, rfl, rfl, Nat.le_refl _, fun _ _ _ => rfl⟩
theorem Keeps.trans {D : Nat → Prop} {a b c : World} (h : Keeps D a b) (k : Keeps D b c) : Keeps D a c :=
  ⟨k.os.trans h.os, k.tape.trans h.tape, k.output.trans h.output, Nat.le_trans h.size k.size, fun i hi hD => (k.block i (Nat.lt_of_lt_of_le hi h.size) hD).trans (h.block i hi hD)⟩
theorem Keeps.mono {D D' : Nat → Prop} {w w' : World} (h : Keeps D w w') (hD : ∀ k, D k → D' k) : Keeps D' w w' := ⟨h.os, h.tape, h.output, h.size, fun k hk hn => h.block k hk (fun e => hn (hD k e))⟩
theorem Keeps.drew {D : Nat → Prop} {a w : World} (h : Keeps D a w) : Keeps D a w.drew := ⟨h.os, h.tape, h.output, h.size, h.block⟩
theorem Keeps.alloc {D : Nat → Prop} {a w : World} (h : Keeps D a w) (o : Obj) : Keeps D a (w.alloc o) :=
  h.trans ⟨rfl, rfl, rfl, by simp, fun k hk _ => Below.heap_alloc _ _ _ hk⟩
theorem Keeps.setCell {D : Nat → Prop} {a w : World} (h : Keeps D a w) {p : Addr} (hp : D p.block) (u : Value) : Keeps D a (w.setCell p u) :=
  h.trans ⟨rfl, rfl, rfl, by simp [World.setCell], fun k _ hn => Below.heap_setCell _ _ _ _ (by rintro rfl; exact hn hp)⟩
theorem Keeps.setNew {D : Nat → Prop} {a w : World} (h : Keeps D a w) {p : Addr} (hp : a.heap.size ≤ p.block) (u : Value) : Keeps D a (w.setCell p u) :=
  ⟨h.os, h.tape, h.output, by simpa [World.setCell] using h.size, fun k hk hn => (Below.heap_setCell _ _ _ _ (by omega)).trans (h.block k hk hn)⟩
theorem Keeps.grown {D : Nat → Prop} {a w w' : World} {row : Option Nat} (h : Keeps D a w) (hg : w.grownBy w' row) (hr : ∀ k, row = some k → D k ∨ a.heap.size ≤ k) : Keeps D a w' :=
  ⟨hg.os.trans h.os, hg.tape.trans h.tape, hg.output.trans h.output, Nat.le_trans h.size hg.size, fun k hk hn => (hg.block k (Nat.lt_of_lt_of_le hk h.size) (fun e => by rcases hr k e.symm with x | x; exact hn x; omega)).trans (h.block k hk hn)⟩
theorem Keeps.of_below {D : Nat → Prop} {w w' : World} (h : Below w.heap.size w w') : Keeps D w w' := ⟨h.os, h.tape, h.output, h.size, fun k hk _ => h.block k hk⟩
theorem Keeps.below {D : Nat → Prop} {B : Nat} {w w' : World} (h : Keeps D w w') (hB : B ≤ w.heap.size) (hD : ∀ k, D k → B ≤ k) : Below B w w' :=
  ⟨h.os, h.tape, h.output, h.size, fun k hk => h.block k (by omega) (fun e => by have := hD k e; omega)⟩


theorem Keeps.drewN {D : Nat → Prop} {a w : World} (h : Keeps D a w) (q : Nat) : Keeps D a (w.drewN q) := ⟨h.os, h.tape, h.output, h.size, h.block⟩
theorem made_list (z : Value) (n : Nat) : madeCells #[z] n = (List.replicate n z).toArray := by
  rw [← toList_madeCells_one]
theorem cells_of_three {w : World} {p : Nat} {a b c : Value} {t : TypeId} (h : w.heap[p]? = some (.cells #[a, b, c] t (0, 0))) :
    w.cell? ⟨p, 0, none⟩ = some a ∧ w.cell? ⟨p, 1, none⟩ = some b ∧ w.cell? ⟨p, 2, none⟩ = some c ∧
    w.frozen? ⟨p, 0, none⟩ = false ∧ w.frozen? ⟨p, 1, none⟩ = false ∧ w.frozen? ⟨p, 2, none⟩ = false := by
  simp [World.cell?, World.frozen?, h]
theorem cells_of_four {w : World} {p : Nat} {a b c d : Value} {t : TypeId} (h : w.heap[p]? = some (.cells #[a, b, c, d] t (0, 0))) :
    w.cell? ⟨p, 0, none⟩ = some a ∧ w.cell? ⟨p, 1, none⟩ = some b ∧ w.cell? ⟨p, 2, none⟩ = some c ∧ w.cell? ⟨p, 3, none⟩ = some d ∧
    w.frozen? ⟨p, 0, none⟩ = false ∧ w.frozen? ⟨p, 1, none⟩ = false ∧ w.frozen? ⟨p, 2, none⟩ = false ∧ w.frozen? ⟨p, 3, none⟩ = false := by
  simp [World.cell?, World.frozen?, h]
theorem cells_of_one {w : World} {p : Nat} {a : Value} {t : TypeId} (h : w.heap[p]? = some (.cells #[a] t (0, 0))) :
    w.cell? ⟨p, 0, none⟩ = some a ∧ w.frozen? ⟨p, 0, none⟩ = false := by
  simp [World.cell?, World.frozen?, h]

/-! ### a sample in memory -/
/-- the rate, how many were seen, and taken; t is the struct's type -/
def SM (t p R A T : Nat) (D : Nat → Prop) (w : World) : Prop :=
  (R ≤ 16777216 ∧ A ≤ 1099511627776 ∧ T ≤ 1099511627776) ∧ D p ∧ w.heap[p]? = some (.cells #[.int .i64 (R : Nat), .int .i64 (A : Nat), .int .i64 (T : Nat)] t (0, 0))
section
variable {D : Nat → Prop} {w w' : World} {t p R A T : Nat}
theorem SM.at (h : SM t p R A T D w) : w.cell? ⟨p, 0, none⟩ = some (.int .i64 (R : Nat)) ∧ w.cell? ⟨p, 1, none⟩ = some (.int .i64 (A : Nat)) ∧ w.cell? ⟨p, 2, none⟩ = some (.int .i64 (T : Nat)) ∧
    w.frozen? ⟨p, 0, none⟩ = false ∧ w.frozen? ⟨p, 1, none⟩ = false ∧ w.frozen? ⟨p, 2, none⟩ = false := cells_of_three h.2.2
theorem SM.kept {D' : Nat → Prop} (h : SM t p R A T D w) (hk : Keeps D' w w') (hd : ∀ k, D k → ¬ D' k) : SM t p R A T D w' :=
  ⟨h.1, h.2.1, (hk.block p (lt_of_block h.2.2) (hd _ h.2.1)).trans h.2.2⟩
theorem SM.below (h : SM t p R A T D w) (hb : Below w.heap.size w w') : SM t p R A T D w' := h.kept (D' := fun _ => False) (.of_below hb) (fun _ _ e => e)
theorem SM.wide {D' : Nat → Prop} (h : SM t p R A T D w) (hD : ∀ k, D k → D' k) : SM t p R A T D' w := ⟨h.1, hD _ h.2.1, h.2.2⟩
theorem SM.narrow (h : SM t p R A T D w) : SM t p R A T (fun k => D k ∧ k < w.heap.size) w := ⟨h.1, ⟨h.2.1, lt_of_block h.2.2⟩, h.2.2⟩
theorem SM.seen (h : SM t p R A T D w) {B : Nat} (hB : B ≤ 1099511627776) : SM t p R B T D (w.setCell ⟨p, 1, none⟩ (.int .i64 (B : Nat))) :=
  ⟨⟨h.1.1, hB, h.1.2.2⟩, h.2.1, by rw [block_setCell h.2.2]; rfl⟩
theorem SM.took (h : SM t p R A T D w) {B : Nat} (hB : B ≤ 1099511627776) : SM t p R A B D (w.setCell ⟨p, 2, none⟩ (.int .i64 (B : Nat))) :=
  ⟨⟨h.1.1, h.1.2.1, hB⟩, h.2.1, by rw [block_setCell h.2.2]; rfl⟩
theorem SM.made (hD : ∀ k, w.heap.size ≤ k → D k) (hR : R ≤ 16777216) : SM t w.heap.size R 0 0 D (w.alloc (.cells #[.int .i64 (R : Nat), .int .i64 0, .int .i64 0] t)) :=
  ⟨⟨hR, by omega, by omega⟩, hD _ (Nat.le_refl _), heap_alloc_new _ _⟩
end
end Go.Proofs.Ytfpndmgihhgjhaa
