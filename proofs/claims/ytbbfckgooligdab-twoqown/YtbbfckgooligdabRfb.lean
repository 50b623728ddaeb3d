/- The document's machine in memory: its struct, its three rows, each in blocks of its own. -/
import Derived.Test.YtbbfckgooligdabRfa
import Derived.Test.YtbbfckgooligdabBs
namespace Go.Proofs.Ytbbfckgooligdab
open Go.RowKit

/-- the struct's cells -/
def eng (s : Stt) (a1 : Option Addr) (c1 : Nat) (a2 : Option Addr) (c2 : Nat) (a3 : Option Addr) (c3 : Nat) : Array Value :=
  #[.slice a1 s.t1.length c1, .slice a2 s.b1.length c2, .slice a3 s.t2.length c3, .int .i64 (s.c : Nat)]
/-- the struct at x and its rows; L tells whose a block is: 0 the struct's, 1 to 3 the rows' -/
structure ReIn (D : Nat → Prop) (L : Nat → Nat) (w : World) (x : Nat) (s : Stt) (a1 : Option Addr) (c1 : Nat) (a2 : Option Addr) (c2 : Nat) (a3 : Option Addr) (c3 : Nat) : Prop where
  dx : D x
  lx : L x = 0
  top : w.heap[x]? = some (.cells (eng s a1 c1 a2 c2 a3 c3) 73 (0, 0))
  r1 : Row (fun g => D g ∧ L g = 1) w a1 c1 s.t1
  r2 : Row (fun g => D g ∧ L g = 2) w a2 c2 s.b1
  r3 : Row (fun g => D g ∧ L g = 3) w a3 c3 s.t2
/-- new blocks are row i's -/
def lab (L : Nat → Nat) (n i : Nat) : Nat → Nat := fun g => if g < n then L g else i
theorem lab_old {L : Nat → Nat} {n i g : Nat} (h : g < n) : lab L n i g = L g := by simp [lab, h]
theorem lab_new {L : Nat → Nat} {n i g : Nat} (h : n ≤ g) : lab L n i g = i := by simp [lab, show ¬ g < n by omega]
theorem Row.kept2 {D D' : Nat → Prop} {w w' : World} {ad : Option Addr} {cap : Nat} {zs : List ByteArray} (h : Row D w ad cap zs) (hk : Keeps D' w w') (hd : ∀ k, k < w.heap.size → D k → ¬ D' k) : Row D w' ad cap zs :=
  (h.narrow.kept hk (fun k e => hd k e.2 e.1)).wide (fun _ _ e => e.1)
section
variable {D D' : Nat → Prop} {L : Nat → Nat} {w w' : World} {x : Nat} {s : Stt} {a1 a2 a3 a : Option Addr} {c1 c2 c3 c : Nat} {zs : List ByteArray}
theorem ReIn.cells (H : ReIn D L w x s a1 c1 a2 c2 a3 c3) :
    w.cell? ⟨x, 0, none⟩ = some (.slice a1 s.t1.length c1) ∧ w.cell? ⟨x, 1, none⟩ = some (.slice a2 s.b1.length c2) ∧ w.cell? ⟨x, 2, none⟩ = some (.slice a3 s.t2.length c3) ∧ w.cell? ⟨x, 3, none⟩ = some (.int .i64 (s.c : Nat)) := by
  have h := H.top
  refine ⟨?_, ?_, ?_, ?_⟩ <;> (rw [cell_of_block h]; rfl)
theorem ReIn.thaw (H : ReIn D L w x s a1 c1 a2 c2 a3 c3) :
    w.frozen? ⟨x, 0, none⟩ = false ∧ w.frozen? ⟨x, 1, none⟩ = false ∧ w.frozen? ⟨x, 2, none⟩ = false ∧ w.frozen? ⟨x, 3, none⟩ = false :=
  ⟨frozen_of_block H.top, frozen_of_block H.top, frozen_of_block H.top, frozen_of_block H.top⟩
theorem ReIn.kept (H : ReIn D L w x s a1 c1 a2 c2 a3 c3) (hk : Keeps D' w w') (hd : ∀ k, D k → ¬ D' k) : ReIn D L w' x s a1 c1 a2 c2 a3 c3 :=
  ⟨H.dx, H.lx, (hk.block x (lt_of_block H.top) (hd _ H.dx)).trans H.top, H.r1.kept hk (fun k h => hd k h.1), H.r2.kept hk (fun k h => hd k h.1), H.r3.kept hk (fun k h => hd k h.1)⟩
theorem ReIn.below (H : ReIn D L w x s a1 c1 a2 c2 a3 c3) (hb : Below w.heap.size w w') : ReIn D L w' x s a1 c1 a2 c2 a3 c3 := H.kept (D' := fun _ => False) (.of_below hb) (fun _ _ e => e)
theorem ReIn.wide (H : ReIn D L w x s a1 c1 a2 c2 a3 c3) (hD : ∀ k, k < w.heap.size → D k → D' k) : ReIn D' L w x s a1 c1 a2 c2 a3 c3 :=
  ⟨hD _ (lt_of_block H.top) H.dx, H.lx, H.top, H.r1.wide (fun k a h => ⟨hD k a h.1, h.2⟩), H.r2.wide (fun k a h => ⟨hD k a h.1, h.2⟩), H.r3.wide (fun k a h => ⟨hD k a h.1, h.2⟩)⟩
/-- row 1 is another one -/
theorem ReIn.put1 (H : ReIn D L w x s a1 c1 a2 c2 a3 c3) (hD : ∀ k, w.heap.size ≤ k → D k) (hk : Keeps (fun g => D g ∧ L g = 1) w w') (hr : Row (fun g => (D g ∧ L g = 1) ∨ w.heap.size ≤ g) w' a c zs) :
    ReIn D (lab L w.heap.size 1) (w'.setCell ⟨x, 0, none⟩ (.slice a zs.length c)) x { s with t1 := zs } a c a2 c2 a3 c3 := by
  have hxl := lt_of_block H.top
  have lx : lab L w.heap.size 1 x = 0 := by rw [lab_old hxl]; exact H.lx
  have hx : Keeps (fun k => k = x) w' (w'.setCell ⟨x, 0, none⟩ (.slice a zs.length c)) := Keeps.setCell (D := fun k => k = x) (Keeps.refl _ w') (p := ⟨x, 0, none⟩) rfl _
  have ne : ∀ i' : Nat, i' ≠ 0 → ∀ k, (D k ∧ lab L w.heap.size 1 k = i') → ¬ k = x := fun i' hi k h e => by subst e; omega
  have top := (hk.block x hxl (fun h => by have := H.lx; omega)).trans H.top
  have hr2 : Row (fun g => D g ∧ lab L w.heap.size 1 g = 1) (w'.setCell ⟨x, 0, none⟩ (.slice a zs.length c)) a c zs := (hr.wide (D' := fun g => D g ∧ lab L w.heap.size 1 g = 1) (fun g _ h => by
    rcases Nat.lt_or_ge g w.heap.size with hg | hg
    · rw [lab_old hg]
      rcases h with h | h
      · exact h
      · omega
    · rw [lab_new hg]
      exact ⟨hD g hg, rfl⟩)).kept hx (ne 1 (by omega))
  exact ⟨H.dx, lx, by rw [block_setCell top]; rfl, hr2, (((H.r2.wide (D' := fun g => D g ∧ lab L w.heap.size 1 g = 2) (fun g hg h => ⟨h.1, by rw [lab_old hg]; exact h.2⟩)).kept2 hk (fun g hg h e => by have := e.2; rw [lab_old hg] at h; omega)).kept hx (ne 2 (by omega))), (((H.r3.wide (D' := fun g => D g ∧ lab L w.heap.size 1 g = 3) (fun g hg h => ⟨h.1, by rw [lab_old hg]; exact h.2⟩)).kept2 hk (fun g hg h e => by have := e.2; rw [lab_old hg] at h; omega)).kept hx (ne 3 (by omega)))⟩
/-- row 2 is another one -/
theorem ReIn.put2 (H : ReIn D L w x s a1 c1 a2 c2 a3 c3) (hD : ∀ k, w.heap.size ≤ k → D k) (hk : Keeps (fun g => D g ∧ L g = 2) w w') (hr : Row (fun g => (D g ∧ L g = 2) ∨ w.heap.size ≤ g) w' a c zs) :
    ReIn D (lab L w.heap.size 2) (w'.setCell ⟨x, 1, none⟩ (.slice a zs.length c)) x { s with b1 := zs } a1 c1 a c a3 c3 := by
  have hxl := lt_of_block H.top
  have lx : lab L w.heap.size 2 x = 0 := by rw [lab_old hxl]; exact H.lx
  have hx : Keeps (fun k => k = x) w' (w'.setCell ⟨x, 1, none⟩ (.slice a zs.length c)) := Keeps.setCell (D := fun k => k = x) (Keeps.refl _ w') (p := ⟨x, 1, none⟩) rfl _
  have ne : ∀ i' : Nat, i' ≠ 0 → ∀ k, (D k ∧ lab L w.heap.size 2 k = i') → ¬ k = x := fun i' hi k h e => by subst e; omega
  have top := (hk.block x hxl (fun h => by have := H.lx; omega)).trans H.top
  have hr2 : Row (fun g => D g ∧ lab L w.heap.size 2 g = 2) (w'.setCell ⟨x, 1, none⟩ (.slice a zs.length c)) a c zs := (hr.wide (D' := fun g => D g ∧ lab L w.heap.size 2 g = 2) (fun g _ h => by
    rcases Nat.lt_or_ge g w.heap.size with hg | hg
    · rw [lab_old hg]
      rcases h with h | h
      · exact h
      · omega
    · rw [lab_new hg]
      exact ⟨hD g hg, rfl⟩)).kept hx (ne 2 (by omega))
  exact ⟨H.dx, lx, by rw [block_setCell top]; rfl, (((H.r1.wide (D' := fun g => D g ∧ lab L w.heap.size 2 g = 1) (fun g hg h => ⟨h.1, by rw [lab_old hg]; exact h.2⟩)).kept2 hk (fun g hg h e => by have := e.2; rw [lab_old hg] at h; omega)).kept hx (ne 1 (by omega))), hr2, (((H.r3.wide (D' := fun g => D g ∧ lab L w.heap.size 2 g = 3) (fun g hg h => ⟨h.1, by rw [lab_old hg]; exact h.2⟩)).kept2 hk (fun g hg h e => by have := e.2; rw [lab_old hg] at h; omega)).kept hx (ne 3 (by omega)))⟩
/-- row 3 is another one -/
theorem ReIn.put3 (H : ReIn D L w x s a1 c1 a2 c2 a3 c3) (hD : ∀ k, w.heap.size ≤ k → D k) (hk : Keeps (fun g => D g ∧ L g = 3) w w') (hr : Row (fun g => (D g ∧ L g = 3) ∨ w.heap.size ≤ g) w' a c zs) :
    ReIn D (lab L w.heap.size 3) (w'.setCell ⟨x, 2, none⟩ (.slice a zs.length c)) x { s with t2 := zs } a1 c1 a2 c2 a c := by
  have hxl := lt_of_block H.top
  have lx : lab L w.heap.size 3 x = 0 := by rw [lab_old hxl]; exact H.lx
  have hx : Keeps (fun k => k = x) w' (w'.setCell ⟨x, 2, none⟩ (.slice a zs.length c)) := Keeps.setCell (D := fun k => k = x) (Keeps.refl _ w') (p := ⟨x, 2, none⟩) rfl _
  have ne : ∀ i' : Nat, i' ≠ 0 → ∀ k, (D k ∧ lab L w.heap.size 3 k = i') → ¬ k = x := fun i' hi k h e => by subst e; omega
  have top := (hk.block x hxl (fun h => by have := H.lx; omega)).trans H.top
  have hr2 : Row (fun g => D g ∧ lab L w.heap.size 3 g = 3) (w'.setCell ⟨x, 2, none⟩ (.slice a zs.length c)) a c zs := (hr.wide (D' := fun g => D g ∧ lab L w.heap.size 3 g = 3) (fun g _ h => by
    rcases Nat.lt_or_ge g w.heap.size with hg | hg
    · rw [lab_old hg]
      rcases h with h | h
      · exact h
      · omega
    · rw [lab_new hg]
      exact ⟨hD g hg, rfl⟩)).kept hx (ne 3 (by omega))
  exact ⟨H.dx, lx, by rw [block_setCell top]; rfl, (((H.r1.wide (D' := fun g => D g ∧ lab L w.heap.size 3 g = 1) (fun g hg h => ⟨h.1, by rw [lab_old hg]; exact h.2⟩)).kept2 hk (fun g hg h e => by have := e.2; rw [lab_old hg] at h; omega)).kept hx (ne 1 (by omega))), (((H.r2.wide (D' := fun g => D g ∧ lab L w.heap.size 3 g = 2) (fun g hg h => ⟨h.1, by rw [lab_old hg]; exact h.2⟩)).kept2 hk (fun g hg h e => by have := e.2; rw [lab_old hg] at h; omega)).kept hx (ne 2 (by omega))), hr2⟩
/-- the struct's cells stay while a row's blocks change -/
theorem ReIn.still (H : ReIn D L w x s a1 c1 a2 c2 a3 c3) {i : Nat} (hi : i ≠ 0) (hk : Keeps (fun g => D g ∧ L g = i) w w') :
    (w'.cell? ⟨x, 0, none⟩ = some (.slice a1 s.t1.length c1) ∧ w'.cell? ⟨x, 1, none⟩ = some (.slice a2 s.b1.length c2) ∧ w'.cell? ⟨x, 2, none⟩ = some (.slice a3 s.t2.length c3) ∧ w'.cell? ⟨x, 3, none⟩ = some (.int .i64 (s.c : Nat))) ∧
    w'.frozen? ⟨x, 0, none⟩ = false ∧ w'.frozen? ⟨x, 1, none⟩ = false ∧ w'.frozen? ⟨x, 2, none⟩ = false ∧ w'.frozen? ⟨x, 3, none⟩ = false := by
  have h := (hk.block x (lt_of_block H.top) (fun e => by have := H.lx; omega)).trans H.top
  refine ⟨⟨?_, ?_, ?_, ?_⟩, frozen_of_block h, frozen_of_block h, frozen_of_block h, frozen_of_block h⟩ <;> (rw [cell_of_block h]; rfl)
end
/-- the document's machine at x -/
def RE (x : Nat) (s : Stt) (D : Nat → Prop) (w : World) : Prop := ∃ L a1 c1 a2 c2 a3 c3, ReIn D L w x s a1 c1 a2 c2 a3 c3
/-- no row is long -/
structure Small (s : Stt) : Prop where
  l1 : s.t1.length ≤ 4100
  l2 : s.b1.length ≤ 4100
  l3 : s.t2.length ≤ 4100
  hc : s.c ≤ 1024
theorem Small.of {s : Stt} (h : A.Ok s) : Small s := by
  have h1 := h.res; have h2 := h.out; have h3 := h.hi
  unfold A.kout at h2
  exact ⟨by omega, by omega, by omega, by omega⟩
section
variable {D D' : Nat → Prop} {w w' : World} {x : Nat} {s : Stt}
theorem RE.below (H : RE x s D w) (hb : Below w.heap.size w w') : RE x s D w' := by
  obtain ⟨L, a1, c1, a2, c2, a3, c3, h⟩ := H; exact ⟨L, a1, c1, a2, c2, a3, c3, h.below hb⟩
theorem RE.kept (H : RE x s D w) (hk : Keeps D' w w') (hd : ∀ k, D k → ¬ D' k) : RE x s D w' := by
  obtain ⟨L, a1, c1, a2, c2, a3, c3, h⟩ := H; exact ⟨L, a1, c1, a2, c2, a3, c3, h.kept hk hd⟩
theorem RE.wide (H : RE x s D w) (hD : ∀ k, k < w.heap.size → D k → D' k) : RE x s D' w := by
  obtain ⟨L, a1, c1, a2, c2, a3, c3, h⟩ := H; exact ⟨L, a1, c1, a2, c2, a3, c3, h.wide hD⟩
theorem RE.narrow (H : RE x s D w) : RE x s (fun k => D k ∧ k < w.heap.size) w := H.wide (fun _ a b => ⟨b, a⟩)
end
end Go.Proofs.Ytbbfckgooligdab
