/- The document's machine in memory: its struct, its two rows, each in blocks of its own. -/
import Derived.Test.YtcbaalodhgkgmaaTc
namespace Go.Proofs.Ytcbaalodhgkgmaa
open Go.RowKit

/-- the document's machine: S, of cells, and Q; the room -/
structure Rs where
  s : List C.It
  q : List ByteArray
  c : Nat
/-- the struct's cells -/
def eng (s : Rs) (a1 : Option Addr) (c1 : Nat) (a2 : Option Addr) (c2 : Nat) : Array Value :=
  #[.slice a1 s.s.length c1, .slice a2 s.q.length c2, .int .i64 (s.c : Nat)]
/-- the struct at x and its rows; L tells whose a block is: 0 the struct's, 1 and 2 the rows' -/
structure ReIn (D : Nat → Prop) (L : Nat → Nat) (w : World) (x : Nat) (s : Rs) (a1 : Option Addr) (c1 : Nat) (a2 : Option Addr) (c2 : Nat) : Prop where
  dx : D x
  lx : L x = 0
  top : w.heap[x]? = some (.cells (eng s a1 c1 a2 c2) 62 (0, 0))
  r1 : C.Row (fun g => D g ∧ L g = 1) w a1 c1 s.s
  r2 : Row (fun g => D g ∧ L g = 2) w a2 c2 s.q
/-- new blocks are row i's -/
def lab (L : Nat → Nat) (n i : Nat) : Nat → Nat := fun g => if g < n then L g else i
theorem lab_old {L : Nat → Nat} {n i g : Nat} (h : g < n) : lab L n i g = L g := by simp [lab, h]
theorem lab_new {L : Nat → Nat} {n i g : Nat} (h : n ≤ g) : lab L n i g = i := by simp [lab, show ¬ g < n by omega]
theorem Row.kept2 {D D' : Nat → Prop} {w w' : World} {ad : Option Addr} {cap : Nat} {zs : List ByteArray} (h : Row D w ad cap zs) (hk : Keeps D' w w') (hd : ∀ k, k < w.heap.size → D k → ¬ D' k) : Row D w' ad cap zs :=
  (h.narrow.kept hk (fun k e => hd k e.2 e.1)).wide (fun _ _ e => e.1)
section
variable {D D' : Nat → Prop} {L : Nat → Nat} {w w' : World} {x : Nat} {s : Rs} {a1 a2 a : Option Addr} {c1 c2 c : Nat} {zs : List C.It} {qs : List ByteArray}
theorem ReIn.cells (H : ReIn D L w x s a1 c1 a2 c2) :
    w.cell? ⟨x, 0, none⟩ = some (.slice a1 s.s.length c1) ∧ w.cell? ⟨x, 1, none⟩ = some (.slice a2 s.q.length c2) ∧ w.cell? ⟨x, 2, none⟩ = some (.int .i64 (s.c : Nat)) := by
  have h := H.top
  refine ⟨?_, ?_, ?_⟩ <;> (rw [cell_of_block h]; rfl)
theorem ReIn.thaw (H : ReIn D L w x s a1 c1 a2 c2) :
    w.frozen? ⟨x, 0, none⟩ = false ∧ w.frozen? ⟨x, 1, none⟩ = false ∧ w.frozen? ⟨x, 2, none⟩ = false :=
  ⟨frozen_of_block H.top, frozen_of_block H.top, frozen_of_block H.top⟩
theorem ReIn.kept (H : ReIn D L w x s a1 c1 a2 c2) (hk : Keeps D' w w') (hd : ∀ k, D k → ¬ D' k) : ReIn D L w' x s a1 c1 a2 c2 :=
  ⟨H.dx, H.lx, (hk.block x (lt_of_block H.top) (hd _ H.dx)).trans H.top, H.r1.kept hk (fun k h => hd k h.1), H.r2.kept hk (fun k h => hd k h.1)⟩
theorem ReIn.below (H : ReIn D L w x s a1 c1 a2 c2) (hb : Below w.heap.size w w') : ReIn D L w' x s a1 c1 a2 c2 := H.kept (D' := fun _ => False) (.of_below hb) (fun _ _ e => e)
theorem ReIn.wide (H : ReIn D L w x s a1 c1 a2 c2) (hD : ∀ k, k < w.heap.size → D k → D' k) : ReIn D' L w x s a1 c1 a2 c2 :=
  ⟨hD _ (lt_of_block H.top) H.dx, H.lx, H.top, H.r1.wide (fun k a h => ⟨hD k a h.1, h.2⟩), H.r2.wide (fun k a h => ⟨hD k a h.1, h.2⟩)⟩
/-- row 1 is another one -/
theorem ReIn.put1 (H : ReIn D L w x s a1 c1 a2 c2) (hD : ∀ k, w.heap.size ≤ k → D k) (hk : Keeps (fun g => D g ∧ L g = 1) w w') (hr : C.Row (fun g => (D g ∧ L g = 1) ∨ w.heap.size ≤ g) w' a c zs) :
    ReIn D (lab L w.heap.size 1) (w'.setCell ⟨x, 0, none⟩ (.slice a zs.length c)) x { s with s := zs } a c a2 c2 := by
  have hxl := lt_of_block H.top
  have lx : lab L w.heap.size 1 x = 0 := by rw [lab_old hxl]; exact H.lx
  have hx : Keeps (fun k => k = x) w' (w'.setCell ⟨x, 0, none⟩ (.slice a zs.length c)) := Keeps.setCell (D := fun k => k = x) (Keeps.refl _ w') (p := ⟨x, 0, none⟩) rfl _
  have ne : ∀ i' : Nat, i' ≠ 0 → ∀ k, (D k ∧ lab L w.heap.size 1 k = i') → ¬ k = x := fun i' hi k h e => by subst e; omega
  have top := (hk.block x hxl (fun h => by have := H.lx; omega)).trans H.top
  have hr2 : C.Row (fun g => D g ∧ lab L w.heap.size 1 g = 1) (w'.setCell ⟨x, 0, none⟩ (.slice a zs.length c)) a c zs := (hr.wide (D' := fun g => D g ∧ lab L w.heap.size 1 g = 1) (fun g _ h => by
    rcases Nat.lt_or_ge g w.heap.size with hg | hg
    · rw [lab_old hg]
      rcases h with h | h
      · exact h
      · omega
    · rw [lab_new hg]
      exact ⟨hD g hg, rfl⟩)).kept hx (ne 1 (by omega))
  exact ⟨H.dx, lx, by rw [block_setCell top]; rfl, hr2, (((H.r2.wide (D' := fun g => D g ∧ lab L w.heap.size 1 g = 2) (fun g hg h => ⟨h.1, by rw [lab_old hg]; exact h.2⟩)).kept2 hk (fun g hg h e => by have := e.2; rw [lab_old hg] at h; omega)).kept hx (ne 2 (by omega)))⟩
/-- row 2 is another one -/
theorem ReIn.put2 (H : ReIn D L w x s a1 c1 a2 c2) (hD : ∀ k, w.heap.size ≤ k → D k) (hk : Keeps (fun g => D g ∧ L g = 2) w w') (hr : Row (fun g => (D g ∧ L g = 2) ∨ w.heap.size ≤ g) w' a c qs) :
    ReIn D (lab L w.heap.size 2) (w'.setCell ⟨x, 1, none⟩ (.slice a qs.length c)) x { s with q := qs } a1 c1 a c := by
  have hxl := lt_of_block H.top
  have lx : lab L w.heap.size 2 x = 0 := by rw [lab_old hxl]; exact H.lx
  have hx : Keeps (fun k => k = x) w' (w'.setCell ⟨x, 1, none⟩ (.slice a qs.length c)) := Keeps.setCell (D := fun k => k = x) (Keeps.refl _ w') (p := ⟨x, 1, none⟩) rfl _
  have ne : ∀ i' : Nat, i' ≠ 0 → ∀ k, (D k ∧ lab L w.heap.size 2 k = i') → ¬ k = x := fun i' hi k h e => by subst e; omega
  have top := (hk.block x hxl (fun h => by have := H.lx; omega)).trans H.top
  have hr2 : Row (fun g => D g ∧ lab L w.heap.size 2 g = 2) (w'.setCell ⟨x, 1, none⟩ (.slice a qs.length c)) a c qs := (hr.wide (D' := fun g => D g ∧ lab L w.heap.size 2 g = 2) (fun g _ h => by
    rcases Nat.lt_or_ge g w.heap.size with hg | hg
    · rw [lab_old hg]
      rcases h with h | h
      · exact h
      · omega
    · rw [lab_new hg]
      exact ⟨hD g hg, rfl⟩)).kept hx (ne 2 (by omega))
  exact ⟨H.dx, lx, by rw [block_setCell top]; rfl, (((H.r1.wide (D' := fun g => D g ∧ lab L w.heap.size 2 g = 1) (fun g hg h => ⟨h.1, by rw [lab_old hg]; exact h.2⟩)).kept2 hk (fun g hg h e => by have := e.2; rw [lab_old hg] at h; omega)).kept hx (ne 1 (by omega))), hr2⟩
/-- the struct's cells stay while a row's blocks change -/
theorem ReIn.still (H : ReIn D L w x s a1 c1 a2 c2) {i : Nat} (hi : i ≠ 0) (hk : Keeps (fun g => D g ∧ L g = i) w w') :
    (w'.cell? ⟨x, 0, none⟩ = some (.slice a1 s.s.length c1) ∧ w'.cell? ⟨x, 1, none⟩ = some (.slice a2 s.q.length c2) ∧ w'.cell? ⟨x, 2, none⟩ = some (.int .i64 (s.c : Nat))) ∧
    w'.frozen? ⟨x, 0, none⟩ = false ∧ w'.frozen? ⟨x, 1, none⟩ = false ∧ w'.frozen? ⟨x, 2, none⟩ = false := by
  have h := (hk.block x (lt_of_block H.top) (fun e => by have := H.lx; omega)).trans H.top
  refine ⟨⟨?_, ?_, ?_⟩, frozen_of_block h, frozen_of_block h, frozen_of_block h⟩ <;> (rw [cell_of_block h]; rfl)
end
/-- the document's machine at x -/
def RM (x : Nat) (s : Rs) (D : Nat → Prop) (w : World) : Prop := ∃ L a1 c1 a2 c2, ReIn D L w x s a1 c1 a2 c2
/-- no row is long -/
structure Sm (s : Rs) : Prop where
  l1 : s.s.length ≤ 5000
  l2 : s.q.length ≤ 5000
  hc : s.c ≤ 1024
section
variable {D D' : Nat → Prop} {w w' : World} {x : Nat} {s : Rs} {zs : List C.It} {qs : List ByteArray} {a : Option Addr} {c : Nat}
theorem RM.below (H : RM x s D w) (hb : Below w.heap.size w w') : RM x s D w' := by
  obtain ⟨L, a1, c1, a2, c2, h⟩ := H; exact ⟨L, a1, c1, a2, c2, h.below hb⟩
theorem RM.kept (H : RM x s D w) (hk : Keeps D' w w') (hd : ∀ k, D k → ¬ D' k) : RM x s D w' := by
  obtain ⟨L, a1, c1, a2, c2, h⟩ := H; exact ⟨L, a1, c1, a2, c2, h.kept hk hd⟩
theorem RM.wide (H : RM x s D w) (hD : ∀ k, k < w.heap.size → D k → D' k) : RM x s D' w := by
  obtain ⟨L, a1, c1, a2, c2, h⟩ := H; exact ⟨L, a1, c1, a2, c2, h.wide hD⟩
theorem RM.narrow (H : RM x s D w) : RM x s (fun k => D k ∧ k < w.heap.size) w := H.wide (fun _ a b => ⟨b, a⟩)
theorem RM.boxed (H : RM x s D w) (hD : ∀ k, w.heap.size ≤ k → D k) (cs : Array Value) (t : TypeId) :
    RM x s (fun k => D k ∧ k ≠ w.heap.size) (w.alloc (.cells cs t)) ∧ ∀ k, (w.alloc (.cells cs t)).heap.size ≤ k → D k ∧ k ≠ w.heap.size :=
  ⟨(H.wide (D' := fun k => D k ∧ k ≠ w.heap.size) (fun k h hk => ⟨hk, by omega⟩)).below ((Below.refl _ w).alloc (Nat.le_refl _) _), fun k h => by simp at h; exact ⟨hD k (by omega), by omega⟩⟩
/-- a new row is laid as S, all of it of new memory -/
theorem RM.new1 (H : RM x s D w) (hD : ∀ k, w.heap.size ≤ k → D k) (hb : Below w.heap.size w w') (hr : C.Row (w.heap.size ≤ ·) w' a c zs) :
    RM x { s with s := zs } D (w'.setCell ⟨x, 0, none⟩ (.slice a zs.length c)) ∧ Keeps D w (w'.setCell ⟨x, 0, none⟩ (.slice a zs.length c)) := by
  obtain ⟨L, a1, c1, a2, c2, h⟩ := H
  exact ⟨⟨_, _, _, _, _, h.put1 hD (.of_below hb) (hr.wide (fun _ _ h => .inr h))⟩, (Keeps.of_below hb).setCell (p := ⟨x, 0, none⟩) h.dx _⟩
/-- a new row is laid as Q -/
theorem RM.new2 (H : RM x s D w) (hD : ∀ k, w.heap.size ≤ k → D k) (hb : Below w.heap.size w w') (hr : Row (w.heap.size ≤ ·) w' a c qs) :
    RM x { s with q := qs } D (w'.setCell ⟨x, 1, none⟩ (.slice a qs.length c)) ∧ Keeps D w (w'.setCell ⟨x, 1, none⟩ (.slice a qs.length c)) := by
  obtain ⟨L, a1, c1, a2, c2, h⟩ := H
  exact ⟨⟨_, _, _, _, _, h.put2 hD (.of_below hb) (hr.wide (fun _ _ h => .inr h))⟩, (Keeps.of_below hb).setCell (p := ⟨x, 1, none⟩) h.dx _⟩
end
end Go.Proofs.Ytcbaalodhgkgmaa
