/- The document's machine, the first part: in memory; Len, Room, Has, window, main, often, note; promote; where admit finds room or all stay. -/
import Derived.Test.YtcphhlfbjkeikabGreatRfa
import Derived.Test.YtcphhlfbjkeikabGreatRk
import Derived.Test.YtcphhlfbjkeikabGreatAk
import Derived.Deep.LoopGhost
/- The document's machine in memory: its struct, its three rows, each in blocks of its own. -/
namespace Go.Proofs.YtcphhlfbjkeikabGreat
open Go.RowKit

theorem RkAt.wide {p N s : Nat} {c : Nat → Nat} {D D' : Nat → Prop} {w : World} (h : Sk.RF p N c s D w) (hD : ∀ k, k < w.heap.size → D k → D' k) : Sk.RF p N c s D' w := by
  obtain ⟨f, g, h⟩ := h
  exact ⟨f, g, h.narrow.wide (fun k e => hD k e.2 e.1)⟩
theorem RkAt.keep {p N s : Nat} {c : Nat → Nat} {D D' : Nat → Prop} {w w' : World} (h : Sk.RF p N c s D w) (hk : Keeps D' w w') (hd : ∀ k, k < w.heap.size → D k → ¬ D' k) : Sk.RF p N c s D w' := by
  obtain ⟨f, g, h⟩ := h
  exact ⟨f, g, (h.narrow.kept hk (fun k e => hd k e.2 e.1)).wide (fun k e => e.1)⟩
theorem RdAt.wide {p K : Nat} {b : Nat → Bool} {D D' : Nat → Prop} {w : World} (h : Dr.RF p K b D w) (hD : ∀ k, k < w.heap.size → D k → D' k) : Dr.RF p K b D' w := by
  obtain ⟨f, g, h⟩ := h
  exact ⟨f, g, h.narrow.wide (fun k e => hD k e.2 e.1)⟩
theorem RdAt.keep {p K : Nat} {b : Nat → Bool} {D D' : Nat → Prop} {w w' : World} (h : Dr.RF p K b D w) (hk : Keeps D' w w') (hd : ∀ k, k < w.heap.size → D k → ¬ D' k) : Dr.RF p K b D w' := by
  obtain ⟨f, g, h⟩ := h
  exact ⟨f, g, (h.narrow.kept hk (fun k e => hd k e.2 e.1)).wide (fun k e => e.1)⟩
/-- the struct's cells -/
def eng (y : Dk) (s : Stt) (a1 : Option Addr) (c1 : Nat) (a2 : Option Addr) (c2 : Nat) (a3 : Option Addr) (c3 : Nat) : Array Value :=
  #[.slice a1 s.t1.length c1, .slice a2 s.b1.length c2, .slice a3 s.t2.length c3, .pointer (some ⟨y.pk, 0, none⟩), .pointer (some ⟨y.pd, 0, none⟩), .int .i64 (s.c : Nat)]
/-- the struct at x and its rows; L tells whose a block is: 0 the struct's, 1 to 3 the rows', 5 the Sketch's, 6 the Door's -/
structure ReIn (D : Nat → Prop) (L : Nat → Nat) (w : World) (x : Nat) (y : Dk) (s : Stt) (a1 : Option Addr) (c1 : Nat) (a2 : Option Addr) (c2 : Nat) (a3 : Option Addr) (c3 : Nat) : Prop where
  dx : D x
  lx : L x = 0
  top : w.heap[x]? = some (.cells (eng y s a1 c1 a2 c2 a3 c3) 60 (0, 0))
  r1 : Row (fun g => D g ∧ L g = 1) w a1 c1 s.t1
  r2 : Row (fun g => D g ∧ L g = 2) w a2 c2 s.b1
  r3 : Row (fun g => D g ∧ L g = 3) w a3 c3 s.t2
  rk : Sk.RF y.pk y.N y.ct y.sm (fun g => D g ∧ L g = 5) w
  rd : Dr.RF y.pd y.K y.bs (fun g => D g ∧ L g = 6) w
/-- new blocks are row i's -/
def lab (L : Nat → Nat) (n i : Nat) : Nat → Nat := fun g => if g < n then L g else i
theorem lab_old {L : Nat → Nat} {n i g : Nat} (h : g < n) : lab L n i g = L g := by simp [lab, h]
theorem lab_new {L : Nat → Nat} {n i g : Nat} (h : n ≤ g) : lab L n i g = i := by simp [lab, show ¬ g < n by omega]
theorem Row.kept2 {D D' : Nat → Prop} {w w' : World} {ad : Option Addr} {cap : Nat} {zs : List ByteArray} (h : Row D w ad cap zs) (hk : Keeps D' w w') (hd : ∀ k, k < w.heap.size → D k → ¬ D' k) : Row D w' ad cap zs :=
  (h.narrow.kept hk (fun k e => hd k e.2 e.1)).wide (fun _ _ e => e.1)
section
variable {D D' : Nat → Prop} {L : Nat → Nat} {w w' : World} {x : Nat} {y : Dk} {s : Stt} {a1 a2 a3 a : Option Addr} {c1 c2 c3 c : Nat} {zs : List ByteArray}
theorem ReIn.cells (H : ReIn D L w x y s a1 c1 a2 c2 a3 c3) :
    w.cell? ⟨x, 0, none⟩ = some (.slice a1 s.t1.length c1) ∧ w.cell? ⟨x, 1, none⟩ = some (.slice a2 s.b1.length c2) ∧ w.cell? ⟨x, 2, none⟩ = some (.slice a3 s.t2.length c3) ∧ w.cell? ⟨x, 5, none⟩ = some (.int .i64 (s.c : Nat)) ∧ w.cell? ⟨x, 3, none⟩ = some (.pointer (some ⟨y.pk, 0, none⟩)) ∧ w.cell? ⟨x, 4, none⟩ = some (.pointer (some ⟨y.pd, 0, none⟩)) := by
  have h := H.top
  refine ⟨?_, ?_, ?_, ?_, ?_, ?_⟩ <;> (rw [cell_of_block h]; rfl)
theorem ReIn.thaw (H : ReIn D L w x y s a1 c1 a2 c2 a3 c3) :
    w.frozen? ⟨x, 0, none⟩ = false ∧ w.frozen? ⟨x, 1, none⟩ = false ∧ w.frozen? ⟨x, 2, none⟩ = false ∧ w.frozen? ⟨x, 3, none⟩ = false :=
  ⟨frozen_of_block H.top, frozen_of_block H.top, frozen_of_block H.top, frozen_of_block H.top⟩
theorem ReIn.kept (H : ReIn D L w x y s a1 c1 a2 c2 a3 c3) (hk : Keeps D' w w') (hd : ∀ k, D k → ¬ D' k) : ReIn D L w' x y s a1 c1 a2 c2 a3 c3 :=
  ⟨H.dx, H.lx, (hk.block x (lt_of_block H.top) (hd _ H.dx)).trans H.top, H.r1.kept hk (fun k h => hd k h.1), H.r2.kept hk (fun k h => hd k h.1), H.r3.kept hk (fun k h => hd k h.1), RkAt.keep H.rk hk (fun k _ h => hd k h.1), RdAt.keep H.rd hk (fun k _ h => hd k h.1)⟩
theorem ReIn.below (H : ReIn D L w x y s a1 c1 a2 c2 a3 c3) (hb : Below w.heap.size w w') : ReIn D L w' x y s a1 c1 a2 c2 a3 c3 := H.kept (D' := fun _ => False) (.of_below hb) (fun _ _ e => e)
theorem ReIn.wide (H : ReIn D L w x y s a1 c1 a2 c2 a3 c3) (hD : ∀ k, k < w.heap.size → D k → D' k) : ReIn D' L w x y s a1 c1 a2 c2 a3 c3 :=
  ⟨hD _ (lt_of_block H.top) H.dx, H.lx, H.top, H.r1.wide (fun k a h => ⟨hD k a h.1, h.2⟩), H.r2.wide (fun k a h => ⟨hD k a h.1, h.2⟩), H.r3.wide (fun k a h => ⟨hD k a h.1, h.2⟩), RkAt.wide H.rk (fun k a h => ⟨hD k a h.1, h.2⟩), RdAt.wide H.rd (fun k a h => ⟨hD k a h.1, h.2⟩)⟩
/-- row 1 is another one -/
theorem ReIn.put1 (H : ReIn D L w x y s a1 c1 a2 c2 a3 c3) (hD : ∀ k, w.heap.size ≤ k → D k) (hk : Keeps (fun g => D g ∧ L g = 1) w w') (hr : Row (fun g => (D g ∧ L g = 1) ∨ w.heap.size ≤ g) w' a c zs) :
    ReIn D (lab L w.heap.size 1) (w'.setCell ⟨x, 0, none⟩ (.slice a zs.length c)) x y { s with t1 := zs } a c a2 c2 a3 c3 := by
  have hxl := lt_of_block H.top
  have lx : lab L w.heap.size 1 x = 0 := by rw [lab_old hxl]; exact H.lx
  have hx : Keeps (fun k => k = x) w' (w'.setCell ⟨x, 0, none⟩ (.slice a zs.length c)) := Keeps.setCell (D := fun k => k = x) (Keeps.refl _ w') (p := ⟨x, 0, none⟩) rfl _
  have ne : ∀ i' : Nat, i' ≠ 0 → ∀ k, (D k ∧ lab L w.heap.size 1 k = i') → ¬ k = x := fun i' hi k h e => by subst e; omega
  have top := (hk.block x hxl (fun h => by have := H.lx; omega)).trans H.top
  have hr2 : Row (fun g => D g ∧ lab L w.heap.size 1 g = 1) (w'.setCell ⟨x, 0, none⟩ (.slice a zs.length c)) a c zs := (hr.wide (D' := fun g => D g ∧ lab L w.heap.size 1 g = 1) (fun g _ h => by
    rcases Nat.lt_or_ge g w.heap.size with hg | hg
    · rw [lab_old hg]
      rcases h with h | h
      · exact h
      · omega
    · rw [lab_new hg]
      exact ⟨hD g hg, rfl⟩)).kept hx (ne 1 (by omega))
  exact ⟨H.dx, lx, by rw [block_setCell top]; rfl, hr2, (((H.r2.wide (D' := fun g => D g ∧ lab L w.heap.size 1 g = 2) (fun g hg h => ⟨h.1, by rw [lab_old hg]; exact h.2⟩)).kept2 hk (fun g hg h e => by have := e.2; rw [lab_old hg] at h; omega)).kept hx (ne 2 (by omega))), (((H.r3.wide (D' := fun g => D g ∧ lab L w.heap.size 1 g = 3) (fun g hg h => ⟨h.1, by rw [lab_old hg]; exact h.2⟩)).kept2 hk (fun g hg h e => by have := e.2; rw [lab_old hg] at h; omega)).kept hx (ne 3 (by omega))), RkAt.keep (RkAt.keep (RkAt.wide (D' := fun g => D g ∧ lab L w.heap.size 1 g = 5) H.rk (fun g hg h => ⟨h.1, by rw [lab_old hg]; exact h.2⟩)) hk (fun g hg h e => by have h2 := e.2; have h3 := h.2; rw [lab_old hg] at h3; omega)) hx (fun g _ h => ne 5 (by omega) g h), RdAt.keep (RdAt.keep (RdAt.wide (D' := fun g => D g ∧ lab L w.heap.size 1 g = 6) H.rd (fun g hg h => ⟨h.1, by rw [lab_old hg]; exact h.2⟩)) hk (fun g hg h e => by have h2 := e.2; have h3 := h.2; rw [lab_old hg] at h3; omega)) hx (fun g _ h => ne 6 (by omega) g h)⟩
/-- row 2 is another one -/
theorem ReIn.put2 (H : ReIn D L w x y s a1 c1 a2 c2 a3 c3) (hD : ∀ k, w.heap.size ≤ k → D k) (hk : Keeps (fun g => D g ∧ L g = 2) w w') (hr : Row (fun g => (D g ∧ L g = 2) ∨ w.heap.size ≤ g) w' a c zs) :
    ReIn D (lab L w.heap.size 2) (w'.setCell ⟨x, 1, none⟩ (.slice a zs.length c)) x y { s with b1 := zs } a1 c1 a c a3 c3 := by
  have hxl := lt_of_block H.top
  have lx : lab L w.heap.size 2 x = 0 := by rw [lab_old hxl]; exact H.lx
  have hx : Keeps (fun k => k = x) w' (w'.setCell ⟨x, 1, none⟩ (.slice a zs.length c)) := Keeps.setCell (D := fun k => k = x) (Keeps.refl _ w') (p := ⟨x, 1, none⟩) rfl _
  have ne : ∀ i' : Nat, i' ≠ 0 → ∀ k, (D k ∧ lab L w.heap.size 2 k = i') → ¬ k = x := fun i' hi k h e => by subst e; omega
  have top := (hk.block x hxl (fun h => by have := H.lx; omega)).trans H.top
  have hr2 : Row (fun g => D g ∧ lab L w.heap.size 2 g = 2) (w'.setCell ⟨x, 1, none⟩ (.slice a zs.length c)) a c zs := (hr.wide (D' := fun g => D g ∧ lab L w.heap.size 2 g = 2) (fun g _ h => by
    rcases Nat.lt_or_ge g w.heap.size with hg | hg
    · rw [lab_old hg]
      rcases h with h | h
      · exact h
      · omega
    · rw [lab_new hg]
      exact ⟨hD g hg, rfl⟩)).kept hx (ne 2 (by omega))
  exact ⟨H.dx, lx, by rw [block_setCell top]; rfl, (((H.r1.wide (D' := fun g => D g ∧ lab L w.heap.size 2 g = 1) (fun g hg h => ⟨h.1, by rw [lab_old hg]; exact h.2⟩)).kept2 hk (fun g hg h e => by have := e.2; rw [lab_old hg] at h; omega)).kept hx (ne 1 (by omega))), hr2, (((H.r3.wide (D' := fun g => D g ∧ lab L w.heap.size 2 g = 3) (fun g hg h => ⟨h.1, by rw [lab_old hg]; exact h.2⟩)).kept2 hk (fun g hg h e => by have := e.2; rw [lab_old hg] at h; omega)).kept hx (ne 3 (by omega))), RkAt.keep (RkAt.keep (RkAt.wide (D' := fun g => D g ∧ lab L w.heap.size 2 g = 5) H.rk (fun g hg h => ⟨h.1, by rw [lab_old hg]; exact h.2⟩)) hk (fun g hg h e => by have h2 := e.2; have h3 := h.2; rw [lab_old hg] at h3; omega)) hx (fun g _ h => ne 5 (by omega) g h), RdAt.keep (RdAt.keep (RdAt.wide (D' := fun g => D g ∧ lab L w.heap.size 2 g = 6) H.rd (fun g hg h => ⟨h.1, by rw [lab_old hg]; exact h.2⟩)) hk (fun g hg h e => by have h2 := e.2; have h3 := h.2; rw [lab_old hg] at h3; omega)) hx (fun g _ h => ne 6 (by omega) g h)⟩
/-- row 3 is another one -/
theorem ReIn.put3 (H : ReIn D L w x y s a1 c1 a2 c2 a3 c3) (hD : ∀ k, w.heap.size ≤ k → D k) (hk : Keeps (fun g => D g ∧ L g = 3) w w') (hr : Row (fun g => (D g ∧ L g = 3) ∨ w.heap.size ≤ g) w' a c zs) :
    ReIn D (lab L w.heap.size 3) (w'.setCell ⟨x, 2, none⟩ (.slice a zs.length c)) x y { s with t2 := zs } a1 c1 a2 c2 a c := by
  have hxl := lt_of_block H.top
  have lx : lab L w.heap.size 3 x = 0 := by rw [lab_old hxl]; exact H.lx
  have hx : Keeps (fun k => k = x) w' (w'.setCell ⟨x, 2, none⟩ (.slice a zs.length c)) := Keeps.setCell (D := fun k => k = x) (Keeps.refl _ w') (p := ⟨x, 2, none⟩) rfl _
  have ne : ∀ i' : Nat, i' ≠ 0 → ∀ k, (D k ∧ lab L w.heap.size 3 k = i') → ¬ k = x := fun i' hi k h e => by subst e; omega
  have top := (hk.block x hxl (fun h => by have := H.lx; omega)).trans H.top
  have hr2 : Row (fun g => D g ∧ lab L w.heap.size 3 g = 3) (w'.setCell ⟨x, 2, none⟩ (.slice a zs.length c)) a c zs := (hr.wide (D' := fun g => D g ∧ lab L w.heap.size 3 g = 3) (fun g _ h => by
    rcases Nat.lt_or_ge g w.heap.size with hg | hg
    · rw [lab_old hg]
      rcases h with h | h
      · exact h
      · omega
    · rw [lab_new hg]
      exact ⟨hD g hg, rfl⟩)).kept hx (ne 3 (by omega))
  exact ⟨H.dx, lx, by rw [block_setCell top]; rfl, (((H.r1.wide (D' := fun g => D g ∧ lab L w.heap.size 3 g = 1) (fun g hg h => ⟨h.1, by rw [lab_old hg]; exact h.2⟩)).kept2 hk (fun g hg h e => by have := e.2; rw [lab_old hg] at h; omega)).kept hx (ne 1 (by omega))), (((H.r2.wide (D' := fun g => D g ∧ lab L w.heap.size 3 g = 2) (fun g hg h => ⟨h.1, by rw [lab_old hg]; exact h.2⟩)).kept2 hk (fun g hg h e => by have := e.2; rw [lab_old hg] at h; omega)).kept hx (ne 2 (by omega))), hr2, RkAt.keep (RkAt.keep (RkAt.wide (D' := fun g => D g ∧ lab L w.heap.size 3 g = 5) H.rk (fun g hg h => ⟨h.1, by rw [lab_old hg]; exact h.2⟩)) hk (fun g hg h e => by have h2 := e.2; have h3 := h.2; rw [lab_old hg] at h3; omega)) hx (fun g _ h => ne 5 (by omega) g h), RdAt.keep (RdAt.keep (RdAt.wide (D' := fun g => D g ∧ lab L w.heap.size 3 g = 6) H.rd (fun g hg h => ⟨h.1, by rw [lab_old hg]; exact h.2⟩)) hk (fun g hg h e => by have h2 := e.2; have h3 := h.2; rw [lab_old hg] at h3; omega)) hx (fun g _ h => ne 6 (by omega) g h)⟩
/-- the struct's cells stay while a row's blocks change -/
theorem ReIn.still (H : ReIn D L w x y s a1 c1 a2 c2 a3 c3) {i : Nat} (hi : i ≠ 0) (hk : Keeps (fun g => D g ∧ L g = i) w w') :
    (w'.cell? ⟨x, 0, none⟩ = some (.slice a1 s.t1.length c1) ∧ w'.cell? ⟨x, 1, none⟩ = some (.slice a2 s.b1.length c2) ∧ w'.cell? ⟨x, 2, none⟩ = some (.slice a3 s.t2.length c3) ∧ w'.cell? ⟨x, 5, none⟩ = some (.int .i64 (s.c : Nat))) ∧
    w'.frozen? ⟨x, 0, none⟩ = false ∧ w'.frozen? ⟨x, 1, none⟩ = false ∧ w'.frozen? ⟨x, 2, none⟩ = false ∧ w'.frozen? ⟨x, 3, none⟩ = false := by
  have h := (hk.block x (lt_of_block H.top) (fun e => by have := H.lx; omega)).trans H.top
  refine ⟨⟨?_, ?_, ?_, ?_⟩, frozen_of_block h, frozen_of_block h, frozen_of_block h, frozen_of_block h⟩ <;> (rw [cell_of_block h]; rfl)
/-- the Sketch is another one -/
theorem ReIn.putK (H : ReIn D L w x y s a1 c1 a2 c2 a3 c3) (hD : ∀ k, w.heap.size ≤ k → D k) {ct : Nat → Nat} {sm : Nat} (hk : Keeps (fun g => (D g ∧ L g = 5) ∨ w.heap.size ≤ g) w w') (hr : Sk.RF y.pk y.N ct sm (fun g => (D g ∧ L g = 5) ∨ w.heap.size ≤ g) w') :
    ReIn D (lab L w.heap.size 5) w' x { y with ct := ct, sm := sm } s a1 c1 a2 c2 a3 c3 := by
  have hxl := lt_of_block H.top
  have hrow : ∀ (i : Nat) (a : Option Addr) (c : Nat) (zs : List ByteArray), i ≠ 5 → Row (fun g => D g ∧ L g = i) w a c zs → Row (fun g => D g ∧ lab L w.heap.size 5 g = i) w' a c zs := fun i a c zs hi h =>
    (h.wide (D' := fun g => D g ∧ lab L w.heap.size 5 g = i) (fun g hg h => ⟨h.1, by rw [lab_old hg]; exact h.2⟩)).kept2 hk (fun g hg h e => by
      have h3 := h.2
      rw [lab_old hg] at h3
      rcases e with e | e
      · have := e.2; omega
      · omega)
  refine ⟨H.dx, by rw [lab_old hxl]; exact H.lx, (hk.block x hxl (fun e => by have := H.lx; rcases e with e | e <;> omega)).trans H.top, hrow 1 _ _ _ (by omega) H.r1, hrow 2 _ _ _ (by omega) H.r2, hrow 3 _ _ _ (by omega) H.r3, RkAt.wide hr (fun g _ h => ?_), RdAt.keep (RdAt.wide (D' := fun g => D g ∧ lab L w.heap.size 5 g = 6) H.rd (fun g hg h => ⟨h.1, by rw [lab_old hg]; exact h.2⟩)) hk (fun g hg h e => ?_)⟩
  · rcases Nat.lt_or_ge g w.heap.size with hg | hg
    · rw [lab_old hg]
      rcases h with h | h
      · exact h
      · omega
    · rw [lab_new hg]
      exact ⟨hD g hg, rfl⟩
  · have h3 := h.2
    rw [lab_old hg] at h3
    rcases e with e | e
    · have := e.2; omega
    · omega
/-- the Door is another one -/
theorem ReIn.putD (H : ReIn D L w x y s a1 c1 a2 c2 a3 c3) (hD : ∀ k, w.heap.size ≤ k → D k) {bs : Nat → Bool} (hk : Keeps (fun g => (D g ∧ L g = 6) ∨ w.heap.size ≤ g) w w') (hr : Dr.RF y.pd y.K bs (fun g => (D g ∧ L g = 6) ∨ w.heap.size ≤ g) w') :
    ReIn D (lab L w.heap.size 6) w' x { y with bs := bs } s a1 c1 a2 c2 a3 c3 := by
  have hxl := lt_of_block H.top
  have hrow : ∀ (i : Nat) (a : Option Addr) (c : Nat) (zs : List ByteArray), i ≠ 6 → Row (fun g => D g ∧ L g = i) w a c zs → Row (fun g => D g ∧ lab L w.heap.size 6 g = i) w' a c zs := fun i a c zs hi h =>
    (h.wide (D' := fun g => D g ∧ lab L w.heap.size 6 g = i) (fun g hg h => ⟨h.1, by rw [lab_old hg]; exact h.2⟩)).kept2 hk (fun g hg h e => by
      have h3 := h.2
      rw [lab_old hg] at h3
      rcases e with e | e
      · have := e.2; omega
      · omega)
  refine ⟨H.dx, by rw [lab_old hxl]; exact H.lx, (hk.block x hxl (fun e => by have := H.lx; rcases e with e | e <;> omega)).trans H.top, hrow 1 _ _ _ (by omega) H.r1, hrow 2 _ _ _ (by omega) H.r2, hrow 3 _ _ _ (by omega) H.r3, RkAt.keep (RkAt.wide (D' := fun g => D g ∧ lab L w.heap.size 6 g = 5) H.rk (fun g hg h => ⟨h.1, by rw [lab_old hg]; exact h.2⟩)) hk (fun g hg h e => ?_), RdAt.wide hr (fun g _ h => ?_)⟩
  · have h3 := h.2
    rw [lab_old hg] at h3
    rcases e with e | e
    · have := e.2; omega
    · omega
  · rcases Nat.lt_or_ge g w.heap.size with hg | hg
    · rw [lab_old hg]
      rcases h with h | h
      · exact h
      · omega
    · rw [lab_new hg]
      exact ⟨hD g hg, rfl⟩
end
/-- the document's machine at x -/
def RE (x : Nat) (y : Dk) (s : Stt) (D : Nat → Prop) (w : World) : Prop := ∃ L a1 c1 a2 c2 a3 c3, ReIn D L w x y s a1 c1 a2 c2 a3 c3
/-- no row is long -/
structure Small (s : Stt) : Prop where
  l1 : s.t1.length ≤ 4100
  l2 : s.b1.length ≤ 4100
  l3 : s.t2.length ≤ 4100
  hc : s.c ≤ 1024
theorem Small.of {s : Stt} (h : A.Ok s) : Small s := by
  have h1 := lens_ok h
  have h2 := h.hi
  exact ⟨by omega, by omega, by omega, by omega⟩
section
variable {D D' : Nat → Prop} {w w' : World} {x : Nat} {y : Dk} {s : Stt}
theorem RE.below (H : RE x y s D w) (hb : Below w.heap.size w w') : RE x y s D w' := by
  obtain ⟨L, a1, c1, a2, c2, a3, c3, h⟩ := H; exact ⟨L, a1, c1, a2, c2, a3, c3, h.below hb⟩
theorem RE.kept (H : RE x y s D w) (hk : Keeps D' w w') (hd : ∀ k, D k → ¬ D' k) : RE x y s D w' := by
  obtain ⟨L, a1, c1, a2, c2, a3, c3, h⟩ := H; exact ⟨L, a1, c1, a2, c2, a3, c3, h.kept hk hd⟩
theorem RE.wide (H : RE x y s D w) (hD : ∀ k, k < w.heap.size → D k → D' k) : RE x y s D' w := by
  obtain ⟨L, a1, c1, a2, c2, a3, c3, h⟩ := H; exact ⟨L, a1, c1, a2, c2, a3, c3, h.wide hD⟩
theorem RE.narrow (H : RE x y s D w) : RE x y s (fun k => D k ∧ k < w.heap.size) w := H.wide (fun _ a b => ⟨b, a⟩)
end
end Go.Proofs.YtcphhlfbjkeikabGreat
/- The document's machine: Len, Room, Has, window, main, often, note. -/
namespace Go.Proofs.YtcphhlfbjkeikabGreat
open Go.RowKit

section
variable {D D' : Nat → Prop} {w w' : World} {x : Nat} {y : Dk} {s : Stt}
theorem rlen_any (H : RE x y s D w) (hs : Small s) : Calls Tryz.prog 59 #[.pointer (some ⟨x, 0, none⟩)] w fun e w' => e = .returned (.int .i64 ((A.keys s).length : Nat)) ∧ ∃ q, w' = w.drewN q := by
  obtain ⟨L, a1, c1, a2, c2, a3, c3, H⟩ := H
  obtain ⟨d0, d1, d2, d3, d4, d5⟩ := H.cells
  have h1 := hs.l1
  have h2 := hs.l2
  have h3 := hs.l3
  rw [A.keys_length]
  generalize s.t1.length = n at *
  generalize s.b1.length = p at *
  generalize s.t2.length = m at *
  clear H hs
  go_enter Tryz.func59, Tryz.ntmps59
  go_wp2_with fail
  go_quiet (fail)
  go_wp2_with fail
  go_ret
  exact ⟨ret_int (by omega), _, rfl⟩
theorem idx_false {zs : List ByteArray} {k : ByteArray} (h : k ∉ zs) : decide (0 ≤ idx zs k) = false := by rw [idx_no h]; decide
theorem idx_true {zs : List ByteArray} {k : ByteArray} (h : k ∈ zs) : decide (0 ≤ idx zs k) = true := decide_eq_true (idx_mem h)
/-- is it there? -/
def inn (k : ByteArray) (zs : List ByteArray) : Bool := decide (0 ≤ idx zs k)
theorem inn_yes {zs : List ByteArray} {k : ByteArray} (h : k ∈ zs) : inn k zs = true := idx_true h
theorem inn_no {zs : List ByteArray} {k : ByteArray} (h : k ∉ zs) : inn k zs = false := idx_false h
theorem inn_iff {zs : List ByteArray} {k : ByteArray} : inn k zs = true ↔ k ∈ zs := by
  by_cases h : k ∈ zs
  · simp [inn_yes h, h]
  · simp [inn_no h, h]
theorem inn_keys (s : Stt) (k : ByteArray) : inn k (A.keys s) = (inn k s.t1 || inn k s.b1 || inn k s.t2) := by
  by_cases h1 : k ∈ s.t1
  · rw [inn_yes h1, inn_yes (by simp [A.keys, h1])]; rfl
  · by_cases h2 : k ∈ s.b1
    · rw [inn_yes h2, inn_yes (by simp [A.keys, h2])]; simp
    · by_cases h3 : k ∈ s.t2
      · rw [inn_yes h3, inn_yes (by simp [A.keys, h3])]; simp
      · rw [inn_no h1, inn_no h2, inn_no h3, inn_no (by simp [A.keys, h1, h2, h3])]; rfl
theorem rhas_key (H : RE x y s D w) (hs : Small s) (k : ByteArray) : Calls Tryz.prog 12 #[.pointer (some ⟨x, 0, none⟩), .string k] w fun e w' => e = .returned (.bool (inn k (A.keys s))) ∧ w' = w := by
  obtain ⟨L, a1, c1, a2, c2, a3, c3, H⟩ := H
  obtain ⟨d0, d1, d2, d3, d4, d5⟩ := H.cells
  have e1 := rhas_any H.r1 (by have := hs.l1; omega) k
  have e2 := rhas_any H.r2 (by have := hs.l2; omega) k
  have e3 := rhas_any H.r3 (by have := hs.l3; omega) k
  rw [inn_keys]
  by_cases h1 : k ∈ s.t1
  · have hi := idx_mem h1
    rw [inn_yes h1]
    generalize idx s.t1 k = j1 at *
    clear H hs
    go_enter Tryz.func12, Tryz.ntmps12
    go_wp2_with (go_at_call 36; refine e1.mono ?_; rintro e w1 ⟨rfl, rfl⟩; clear e1)
    go_ret
    exact ⟨by simp, rfl⟩
  · rw [inn_no h1]
    rw [idx_no h1] at e1
    by_cases h2 : k ∈ s.b1
    · have hi := idx_mem h2
      rw [inn_yes h2]
      generalize idx s.b1 k = j2 at *
      clear H hs
      go_enter Tryz.func12, Tryz.ntmps12
      go_wp2_with (first | (go_at_call 36; refine e1.mono ?_; rintro e w1 ⟨rfl, rfl⟩; clear e1) | (go_at_call 36; refine e2.mono ?_; rintro e w2 ⟨rfl, rfl⟩; clear e2))
      go_ret
      exact ⟨by simp, rfl⟩
    · rw [inn_no h2]
      rw [idx_no h2] at e2
      unfold inn
      generalize idx s.t2 k = j3 at *
      clear H hs
      go_enter Tryz.func12, Tryz.ntmps12
      go_wp2_with (first | (go_at_call 36; refine e1.mono ?_; rintro e w1 ⟨rfl, rfl⟩; clear e1) | (go_at_call 36; refine e2.mono ?_; rintro e w2 ⟨rfl, rfl⟩; clear e2) | (go_at_call 36; refine e3.mono ?_; rintro e w3 ⟨rfl, rfl⟩; clear e3))
      go_ret
      exact ⟨by simp, rfl⟩
theorem rwindow_any (H : RE x y s D w) (hc : s.c ≤ 1024) : Calls Tryz.prog 56 #[.pointer (some ⟨x, 0, none⟩)] w fun e w' => e = .returned (.int .i64 ((wr s.c : Nat) : Int)) ∧ w' = w := by
  obtain ⟨L, a1, c1, a2, c2, a3, c3, H⟩ := H
  obtain ⟨d0, d1, d2, d3, d4, d5⟩ := H.cells
  clear H
  unfold wr
  generalize s.c = c at *
  go_enter Tryz.func56, Tryz.ntmps56
  go_wp2
  go_ret
  exact ⟨by simp; omega, rfl⟩
theorem RE.drewN (H : RE x y s D w) (q : Nat) : RE x y s D (w.drewN q) := H.kept (D' := fun _ => False) ((Keeps.refl _ w).drewN q) (fun _ _ e => e)
theorem rmain_any (H : RE x y s D w) (h1 : 1 ≤ s.c) (hc : s.c ≤ 1024) : Calls Tryz.prog 60 #[.pointer (some ⟨x, 0, none⟩)] w fun e w' => e = .returned (.int .i64 ((mr s.c : Nat) : Int)) ∧ ∃ q, w' = w.drewN q := by
  have HW2 : Hid _ := fun q => rwindow_any (RE.drewN H q) hc
  obtain ⟨L, a1, c1, a2, c2, a3, c3, H⟩ := H
  obtain ⟨d0, d1, d2, d3, d4, d5⟩ := H.cells
  have hle := wr_le h1
  have hm : ((mr s.c : Nat) : Int) = (s.c : Int) - (wr s.c : Nat) := by unfold mr; omega
  rw [hm]
  clear H hm
  generalize wr s.c = n at *
  go_enter Tryz.func60, Tryz.ntmps60
  go_wp2_with fail
  go_quiet (first | (go_at_call 56; exact Calls.quiet_of_same (HW2.out _)))
  go_wp2
  go_ret
  exact ⟨by go_num, _, rfl⟩
theorem RE.lowK (H : RE x y s D w) (k : ByteArray) : Sk.lw y.ct y.N k ≤ 15 := by
  obtain ⟨L, a1, c1, a2, c2, a3, c3, H⟩ := H
  obtain ⟨f, g, h⟩ := H.rk
  have := Sk.lw_le (c := y.ct) (N := y.N) (k := k) (r := 0) (by omega)
  have := f.cell (Sk.pl y.N k 0)
  omega
set_option maxHeartbeats 1000000 in
theorem roften_any (H : RE x y s D w) (k : ByteArray) (hk : k.size ≤ 1000) :
    Calls Tryz.prog 79 #[.pointer (some ⟨x, 0, none⟩), .string k] w fun e w' => e = .returned (.int .i64 (fq y k : Nat)) ∧ Below w.heap.size w w' := by
  have hlow := H.lowK k
  have HE : Hid (RE x y s D w) := H
  obtain ⟨L, a1, c1, a2, c2, a3, c3, H⟩ := H
  obtain ⟨d0, d1, d2, d3, d4, d5⟩ := H.cells
  have hcnt := Sk.rcount_any H.rk k hk
  have HRd : Hid (Dr.RF y.pd y.K y.bs (fun g => D g ∧ L g = 6) w) := H.rd
  have HH : Hid (ReIn D L w x y s a1 c1 a2 c2 a3 c3) := H
  obtain ⟨t, ht⟩ : ∃ t, t = fq y k := ⟨_, rfl⟩
  have HT : Hid (t = Sk.lw y.ct y.N k + if Dr.has y.bs (64 * y.K) k = true then 1 else 0) := ht
  rw [← ht]
  obtain ⟨n, hnn⟩ : ∃ n, n = Sk.lw y.ct y.N k := ⟨_, rfl⟩
  have HNn : Hid (n = Sk.lw y.ct y.N k) := hnn
  rw [← hnn] at hlow hcnt
  clear H ht hnn
  cases hh : Dr.has y.bs (64 * y.K) k with
  | true =>
    have HHs : Hid (Dr.has y.bs (64 * y.K) k = true) := hh
    clear hh
    go_enter Tryz.func79, Tryz.ntmps79
    go_wp2_with (first
      | (go_at_call 105; refine Calls.mono hcnt ?_; clear hcnt; rintro e w1 ⟨rfl, hb1⟩; have HB1 : Hid (Below w.heap.size w w1) := hb1; obtain ⟨e0, e1, e2, e3, e4, e5⟩ := (HH.out.below hb1).cells; have hhas := Dr.rhas_any (HRd.out.below hb1) k hk; rw [HHs.out] at hhas; clear hb1 d0 d1 d2 d3 d4 d5)
      | (go_at_call 102; refine Calls.mono hhas ?_; clear hhas; rintro e w2 ⟨rfl, q2, rfl⟩; have HB2 : Hid (Below w.heap.size w (w1.drewN q2)) := below_drewN HB1.out q2))
    go_ret
    have e : t = n + 1 := by have := HT.out; rw [HHs.out, ← HNn.out] at this; simpa using this
    rw [e]
    exact ⟨by go_num, HB2.out⟩
  | false =>
    have HHs : Hid (Dr.has y.bs (64 * y.K) k = false) := hh
    clear hh
    go_enter Tryz.func79, Tryz.ntmps79
    go_wp2_with (first
      | (go_at_call 105; refine Calls.mono hcnt ?_; clear hcnt; rintro e w1 ⟨rfl, hb1⟩; have HB1 : Hid (Below w.heap.size w w1) := hb1; obtain ⟨e0, e1, e2, e3, e4, e5⟩ := (HH.out.below hb1).cells; have hhas := Dr.rhas_any (HRd.out.below hb1) k hk; rw [HHs.out] at hhas; clear hb1 d0 d1 d2 d3 d4 d5)
      | (go_at_call 102; refine Calls.mono hhas ?_; clear hhas; rintro e w2 ⟨rfl, q2, rfl⟩; have HB2 : Hid (Below w.heap.size w (w1.drewN q2)) := below_drewN HB1.out q2))
    go_ret
    have e : t = n := by have := HT.out; rw [HHs.out, ← HNn.out] at this; simpa using this
    rw [e]
    exact ⟨rfl, HB2.out⟩
/-! ### note -/
theorem RE.addD (H : RE x y s D w) (hD : ∀ k, w.heap.size ≤ k → D k) (k : ByteArray) (hk : k.size ≤ 1000) :
    Calls Tryz.prog 76 #[.pointer (some ⟨y.pd, 0, none⟩), .string k] w fun ee w' => ee = .returned (.bool (Dr.has y.bs (64 * y.K) k)) ∧ RE x { y with bs := Dr.add y.bs (64 * y.K) k 3 } s D w' ∧ Keeps D w w' := by
  obtain ⟨L, a1, c1, a2, c2, a3, c3, H⟩ := H
  refine (Dr.radd_any (RdAt.wide (D' := fun g => (D g ∧ L g = 6) ∨ w.heap.size ≤ g) H.rd (fun _ _ h => .inl h)) k hk).mono ?_
  rintro ee w' ⟨rfl, hd, hk1⟩
  exact ⟨rfl, ⟨_, _, _, _, _, _, _, H.putD hD hk1 hd⟩, hk1.mono (fun g hg h => by rcases h with h | h; exact h.1; omega)⟩
theorem RE.clearD (H : RE x y s D w) (hD : ∀ k, w.heap.size ≤ k → D k) :
    Calls Tryz.prog 78 #[.pointer (some ⟨y.pd, 0, none⟩)] w fun ee w' => ee = .returned (.tuple #[]) ∧ RE x { y with bs := fun _ => false } s D w' ∧ Keeps D w w' := by
  obtain ⟨L, a1, c1, a2, c2, a3, c3, H⟩ := H
  refine (Dr.rclear_any (RdAt.wide (D' := fun g => (D g ∧ L g = 6) ∨ w.heap.size ≤ g) H.rd (fun _ _ h => .inl h)) (fun _ h => .inr h)).mono ?_
  rintro ee w' ⟨rfl, hd, hk1⟩
  exact ⟨rfl, ⟨_, _, _, _, _, _, _, H.putD hD hk1 hd⟩, hk1.mono (fun g hg h => by rcases h with h | h; exact h.1; omega)⟩
theorem RE.addK (H : RE x y s D w) (hD : ∀ k, w.heap.size ≤ k → D k) (k : ByteArray) (hk : k.size ≤ 1000) :
    Calls Tryz.prog 77 #[.pointer (some ⟨y.pk, 0, none⟩), .string k] w fun ee w' => ee = .returned (.tuple #[]) ∧ RE x { y with ct := Sk.adC y.ct y.N k y.sm, sm := Sk.adS y.ct y.N k y.sm } s D w' ∧ Keeps D w w' := by
  obtain ⟨L, a1, c1, a2, c2, a3, c3, H⟩ := H
  refine (Sk.radd_any (RkAt.wide (D' := fun g => (D g ∧ L g = 5) ∨ w.heap.size ≤ g) H.rk (fun _ _ h => .inl h)) k hk).mono ?_
  rintro ee w' ⟨rfl, hd, hk1⟩
  exact ⟨rfl, ⟨_, _, _, _, _, _, _, H.putK hD hk1 hd⟩, hk1.mono (fun g hg h => by rcases h with h | h; exact h.1; omega)⟩
theorem RE.cells (H : RE x y s D w) : w.cell? ⟨x, 3, none⟩ = some (.pointer (some ⟨y.pk, 0, none⟩)) ∧ w.cell? ⟨x, 4, none⟩ = some (.pointer (some ⟨y.pd, 0, none⟩)) ∧ w.cell? ⟨y.pk, 2, none⟩ = some (.int .i64 (y.sm : Nat)) := by
  obtain ⟨L, a1, c1, a2, c2, a3, c3, H⟩ := H
  obtain ⟨d0, d1, d2, d3, d4, d5⟩ := H.cells
  obtain ⟨f, g, h⟩ := H.rk
  exact ⟨d4, d5, h.top.2.2.1⟩
set_option maxHeartbeats 1000000 in
theorem rnote_any (H : RE x y s D w) (hD : ∀ k, w.heap.size ≤ k → D k) (k : ByteArray) (hk : k.size ≤ 1000) :
    Calls Tryz.prog 53 #[.pointer (some ⟨x, 0, none⟩), .string k] w fun ee w' => ee = .returned (.tuple #[]) ∧ RE x (nt y k) s D w' ∧ Keeps D w w' := by
  obtain ⟨c3, c4, c5⟩ := H.cells
  have hadd := H.addD hD k hk
  have HD : Hid (∀ k, w.heap.size ≤ k → D k) := hD
  cases hh : Dr.has y.bs (64 * y.K) k with
  | false =>
    rw [hh] at hadd
    have hz : nt y k = { y with bs := Dr.add y.bs (64 * y.K) k 3 } := by unfold nt; rw [hh]; rfl
    rw [hz]
    clear H hD hh hz
    go_enter Tryz.func53, Tryz.ntmps53
    go_wp2_with (go_at_call 76; refine Calls.mono hadd ?_; clear hadd; rintro ee w1 ⟨rfl, h1, hk1⟩)
    exact bodyPost_ret (results_none rfl _ _ _) rfl ⟨rfl, h1, hk1⟩
  | true =>
    rw [hh] at hadd
    obtain ⟨z1, hz1⟩ : ∃ z1 : Dk, z1 = { y with bs := Dr.add y.bs (64 * y.K) k 3 } := ⟨_, rfl⟩
    obtain ⟨z2, hz2⟩ : ∃ z2 : Dk, z2 = { z1 with ct := Sk.adC z1.ct z1.N k z1.sm, sm := Sk.adS z1.ct z1.N k z1.sm } := ⟨_, rfl⟩
    have hsm : z1.sm = y.sm := by subst hz1; rfl
    have hnt : nt y k = if z2.sm < y.sm then { z2 with bs := fun _ => false } else z2 := by subst hz2 hz1; unfold nt; rw [hh]; rfl
    rw [← hz1] at hadd
    have HZ2 : Hid (z2 = { z1 with ct := Sk.adC z1.ct z1.N k z1.sm, sm := Sk.adS z1.ct z1.N k z1.sm }) := hz2
    have HSm : Hid (z1.sm = y.sm) := hsm
    rw [hnt]
    clear H hD hh hz1 hz2 hnt hsm c5
    by_cases hl : z2.sm < y.sm
    · rw [if_pos hl]
      have hl' : ((z2.sm : Nat) : Int) < (y.sm : Int) := by omega
      clear hl
      go_enter Tryz.func53, Tryz.ntmps53
      go_wp2_with (first
        | (go_at_call 76; refine Calls.mono hadd ?_; clear hadd; rintro ee w1 ⟨rfl, h1, hk1⟩; have HK1 : Hid (Keeps D w w1) := hk1; obtain ⟨d3, d4, d5⟩ := h1.cells; have ha1 := h1.addK (fun k h => HD.out k (Nat.le_trans hk1.size h)) k hk; rw [HSm.out] at d5; rw [← HZ2.out] at ha1; clear h1 hk1)
        | (go_at_call 77; refine Calls.mono ha1 ?_; clear ha1; rintro ee w3 ⟨rfl, h3, hk3⟩; have HK3 : Hid (Keeps D w w3) := HK1.out.trans hk3; obtain ⟨e3, e4, e5⟩ := h3.cells; have hc3 := h3.clearD (fun k h => HD.out k (Nat.le_trans HK3.out.size h)); clear h3 hk3)
        | (go_at_call 78; refine Calls.mono hc3 ?_; clear hc3; rintro ee w5 ⟨rfl, h5, hk5⟩))
      go_end0
      exact ⟨rfl, h5, HK3.out.trans hk5⟩
    · rw [if_neg hl]
      have hl' : ¬ ((z2.sm : Nat) : Int) < (y.sm : Int) := by omega
      clear hl
      go_enter Tryz.func53, Tryz.ntmps53
      go_wp2_with (first
        | (go_at_call 76; refine Calls.mono hadd ?_; clear hadd; rintro ee w1 ⟨rfl, h1, hk1⟩; have HK1 : Hid (Keeps D w w1) := hk1; obtain ⟨d3, d4, d5⟩ := h1.cells; have ha1 := h1.addK (fun k h => HD.out k (Nat.le_trans hk1.size h)) k hk; rw [HSm.out] at d5; rw [← HZ2.out] at ha1; clear h1 hk1)
        | (go_at_call 77; refine Calls.mono ha1 ?_; clear ha1; rintro ee w3 ⟨rfl, h3, hk3⟩; have HK3 : Hid (Keeps D w w3) := HK1.out.trans hk3; have H3 : Hid (RE x z2 s D w3) := h3; obtain ⟨e3, e4, e5⟩ := h3.cells; clear h3 hk3))
      go_end0
      exact ⟨rfl, H3.out, HK3.out⟩
end
end Go.Proofs.YtcphhlfbjkeikabGreat
/- The document's machine: promote. -/
namespace Go.Proofs.YtcphhlfbjkeikabGreat
open Go.RowKit

section
variable {D D' : Nat → Prop} {w w' : World} {x : Nat} {y : Dk} {s : Stt}
theorem used_in {key : ByteArray} (ho : Single s) (hin : key ∈ s.b1) : used s key = { s with b1 := A.cut s.b1 key, t2 := s.t2 ++ [key] } := by
  unfold used
  rw [A.cut_same ((ho.out (k := key)).2.2 hin).2]
theorem tame_is {k : ByteArray} {r : List ByteArray} (hp : A.proom s < s.t2.length) (ht : s.t2 = k :: r) : A.tame s = { s with b1 := s.b1 ++ [k], t2 := r } := by unfold A.tame; rw [if_pos hp, ht]
set_option maxRecDepth 100000 in
set_option maxHeartbeats 2000000 in
theorem rpromote_any (H : RE x y s D w) (hok : A.Ok s) (hD : ∀ k, w.heap.size ≤ k → D k) (key : ByteArray) (hin : key ∈ s.b1) (hnin : key ∉ s.t1) :
    Calls Tryz.prog 55 #[.pointer (some ⟨x, 0, none⟩), .string key] w fun e w' => e = .returned (.tuple #[]) ∧ RE x y (A.use s key) D w' ∧ Keeps D w w' := by
  have HD : Hid (∀ k, w.heap.size ≤ k → D k) := hD
  have hs := Small.of hok
  have ho := Single.of hok
  have hlo := hok.lo
  have hhi := hok.hi
  have hll := lens_ok hok
  have hp := hok.prot
  have hU : A.use s key = A.tame (used s key) := by unfold A.use; rw [if_neg hnin]; rfl
  rw [hU]
  have hsu := used_in ho hin
  obtain ⟨s1, hs1⟩ : ∃ s1, s1 = used s key := ⟨_, rfl⟩
  have HS1 : Hid (Single s1) := by rw [hs1]; exact used_single ho hnin
  have HSe : Hid (s1 = { s with b1 := A.cut s.b1 key, t2 := s.t2 ++ [key] }) := hs1.trans hsu
  have hc1 : s1.c = s.c := by rw [hs1]; rfl
  have hpr : A.proom s1 = pr s.c := by unfold A.proom A.mroom A.wroom pr mr wr; rw [hc1]
  have hcl := A.length_cut_le s.b1 key
  have hone : s1.t2.length ≤ pr s.c + 1 := by
    have : A.proom s = pr s.c := rfl
    rw [HSe.out]; simp; omega
  have HSm : Hid (Small s1) := by
    show Small s1
    rw [HSe.out]
    exact ⟨by show s.t1.length ≤ 4100; omega, by show (A.cut s.b1 key).length ≤ 4100; omega, by show (s.t2 ++ [key]).length ≤ 4100; simp; omega, hhi⟩
  rw [← hs1]
  obtain ⟨s2, hs2⟩ : ∃ s2, s2 = A.tame s1 := ⟨_, rfl⟩
  obtain ⟨n0, hn0⟩ : ∃ n0 : Nat, (n0 = 1 ∧ A.proom s1 < s1.t2.length) ∨ (n0 = 0 ∧ s2 = s1 ∧ s1.t2.length ≤ pr s.c) := by
    by_cases hq : A.proom s1 < s1.t2.length
    · exact ⟨1, .inl ⟨rfl, hq⟩⟩
    · exact ⟨0, .inr ⟨rfl, hs2.trans (tame_no hq), by omega⟩⟩
  have HS2 : Hid (s2 = A.tame s1) := hs2
  rw [← hs2]
  have HN0 : Hid ((n0 = 1 ∧ A.proom s1 < s1.t2.length) ∨ (n0 = 0 ∧ s2 = s1 ∧ s1.t2.length ≤ pr s.c)) := hn0
  have HPr : Hid (A.proom s1 = pr s.c) := hpr
  obtain ⟨L, a1, c1, a2, c2, a3, c3, H⟩ := H
  have HE : Hid (ReIn D L w x y s a1 c1 a2 c2 a3 c3) := H
  obtain ⟨d0, d1, d2, d3, d4, d5⟩ := H.cells
  have hcut := rcut_any H.r2 (by have := hs.l2; omega) key
  have hl2 := hs.l2
  have hl3 := hs.l3
  clear H hs hD hok ho hU hsu hs1 hs2 hn0 hpr hp hin hnin
  go_enter Tryz.func55, Tryz.ntmps55
  go_wp2_with (first
    | (go_at_call 54; refine Calls.mono hcut ?_; clear hcut; rintro e w5 ⟨ad5, cp5, rfl, hr5, hb5⟩; have HE5 := (HE.out.below hb5); obtain ⟨p0, p1, p2, p3, p4, p5⟩ := HE5.cells; obtain ⟨t0, t1, t2, t3⟩ := HE5.thaw; have H6 : Hid (ReIn D _ (w5.setCell ⟨x, 1, none⟩ (.slice ad5 (A.cut s.b1 key).length cp5)) x y { s with b1 := A.cut s.b1 key } a1 c1 ad5 cp5 a3 c3) := (HE.out.put2 HD.out (Keeps.of_below hb5) (hr5.wide (fun _ _ h => .inr h))); have HK6 : Hid (Keeps D w (w5.setCell ⟨x, 1, none⟩ (.slice ad5 (A.cut s.b1 key).length cp5))) := ((Keeps.of_below hb5).setCell (p := ⟨x, 1, none⟩) HE.out.dx _); clear hr5 hb5 HE5)
    | (at_builtin; go_must (refine wpList_append_row (ks := [key]) rfl _ _ rfl rfl (H6.out.r3.below ((Below.refl _ _).alloc (Nat.le_refl _) _)) rfl (src_at key (by simp [World.setCell])) (by simp; omega) ?_); intro a7 n7 w7 hr7 hk7; obtain ⟨⟨x0, x1, x2, x3⟩, y0, y1, y2, y3⟩ := (H6.out.below ((Below.refl _ _).alloc (Nat.le_refl _) _)).still (by omega) hk7; have H7 : Hid (RE x y s1 D (w7.setCell ⟨x, 2, none⟩ (.slice a7 (s.t2 ++ [key]).length n7))) := (by show RE x y s1 D _; rw [HSe.out]; exact ⟨_, _, _, _, _, _, _, (H6.out.below ((Below.refl _ _).alloc (Nat.le_refl _) _)).put3 (fun k h => HD.out k (Nat.le_trans (Nat.le_trans HK6.out.size (by simp)) h)) hk7 hr7⟩); have HK7 : Hid (Keeps D w (w7.setCell ⟨x, 2, none⟩ (.slice a7 (s.t2 ++ [key]).length n7))) := (((HK6.out.alloc _).trans (hk7.mono (fun _ _ h => h.1))).setCell (p := ⟨x, 2, none⟩) HE.out.dx _); clear hr7 hk7))
  go_loopg [] n0 (fun n wr => ((n = 1 ∧ A.proom s1 < s1.t2.length ∧ RE x y s1 D wr) ∨ (n = 0 ∧ s2.t2.length ≤ pr s.c ∧ s2.c = s.c ∧ RE x y s2 D wr)) ∧ Keeps D w wr)
  case atStart =>
    have e7 : (s.t2 ++ [key]).length = s.t2.length + 1 := by simp
    have H8 := H7.out
    have HK8 := HK7.out
    rw [e7] at H8 HK8
    rcases HN0.out with ⟨rfl, hq⟩ | ⟨rfl, e2, hq⟩
    · exact ⟨.inl ⟨rfl, hq, H8⟩, HK8⟩
    · exact ⟨.inr ⟨rfl, by rw [e2]; exact hq, by rw [e2]; exact hc1, by rw [e2]; exact H8⟩, HK8⟩
  case round =>
    obtain ⟨hcase, hkr⟩ := hrel
    have HKr : Hid (Keeps D w wr) := hkr
    clear H6 HK6 H7 HK7 hkr
    rcases hcase with ⟨rfl, hq, hA⟩ | ⟨rfl, hq, hc2, hA⟩
    · have hmn : ∀ q, _ := fun q => rmain_any (RE.drewN hA q) (by omega) (by omega)
      rw [hc1] at hmn
      have hmr : mr s.c ≤ 1024 := by unfold mr; omega
      obtain ⟨k, r, ht⟩ : ∃ k r, s1.t2 = k :: r := by
        cases hx : s1.t2 with
        | nil => rw [hx] at hq; simp at hq
        | cons k r => exact ⟨k, r, rfl⟩
      have HT : Hid (s1.t2 = k :: r) := ht
      have HTm : Hid (s2 = { s1 with b1 := s1.b1 ++ [k], t2 := r }) := HS2.out.trans (tame_is hq ht)
      have HC : Hid (A.cut s1.t2 k = r) := by
        show A.cut s1.t2 k = r
        rw [ht]
        exact A.cut_head (fun j => by have := HS1.out j; rw [ht] at this; omega)
      have HR : Hid (r.length ≤ pr s.c) := by
        show r.length ≤ pr s.c
        rw [ht] at hone; simp at hone; omega
      rw [HPr.out] at hq
      have hs1 := HSm.out
      have hl12 := hs1.l2
      have hl13 := hs1.l3
      obtain ⟨L9, b1, e1, b2, e2, b3, e3, H9⟩ := hA
      obtain ⟨g9, o9, rfl, -, ck, -⟩ := H9.r3.at (i := 0) (z := k) (by rw [ht]; rfl)
      rw [Nat.add_zero] at ck
      have HE9 : Hid (ReIn D L9 wr x y s1 b1 e1 b2 e2 (some ⟨g9, o9, none⟩) e3) := H9
      obtain ⟨f0, f1, f2, f3, f4, f5⟩ := H9.cells
      have HCut : Hid (∀ q, Calls Tryz.prog 54 #[.slice (some ⟨g9, o9, none⟩) s1.t2.length e3, .string k] (wr.drewN q) fun e w' => ∃ a9 c9, e = .returned (.slice a9 r.length c9) ∧ Row (fun g => (wr.drewN q).heap.size ≤ g) w' a9 c9 r ∧ Below (wr.drewN q).heap.size (wr.drewN q) w') := fun q => by
        have h := rcut_any (Row.below H9.r3 (below_drewN (Below.refl _ wr) q)) (by omega) k
        rw [HC.out] at h
        exact h
      clear H9 ht hs1
      unfold pr at hq
      generalize hn1 : s1.t2.length = n1 at *
      generalize mr s.c = n2 at *
      have HMn : Hid _ := hmn
      clear hmn
      go_wp2_with fail
      go_quiet (first | (go_at_call 60; exact Calls.quiet_of (HMn.out _)))
      go_wp2_with (first
        | (go_at_call 54; refine Calls.mono (HCut.out _) ?_; rintro e w5 ⟨ad5, cp5, rfl, hr5, hb5⟩; have hbq : Below wr.heap.size wr w5 := below_trans (below_drewN (Below.refl _ wr) _) hb5; have HE5 := (HE9.out.below hbq); obtain ⟨p0, p1, p2, p3, p4, p5⟩ := HE5.cells; obtain ⟨t0, t1, t2, t3⟩ := HE5.thaw; have H10 : Hid (ReIn D _ (w5.setCell ⟨x, 2, none⟩ (.slice ad5 r.length cp5)) x y { s1 with t2 := r } b1 e1 b2 e2 ad5 cp5) := (HE9.out.put3 (fun k h => HD.out k (Nat.le_trans HKr.out.size h)) (Keeps.of_below hbq) (hr5.wide (fun _ _ h => .inr (by simpa using h)))); have HK10 : Hid (Keeps D w (w5.setCell ⟨x, 2, none⟩ (.slice ad5 r.length cp5))) := ((HKr.out.trans (Keeps.of_below hbq)).setCell (p := ⟨x, 2, none⟩) HE9.out.dx _); clear hr5 hb5 HE5 hbq)
        | (at_builtin; go_must (refine wpList_append_row (ks := [k]) rfl _ _ rfl rfl (H10.out.r2.below ((Below.refl _ _).alloc (Nat.le_refl _) _)) rfl (src_at k (by simp [World.setCell])) (by simp; omega) ?_); intro a7 n7 w7 hr7 hk7; obtain ⟨⟨x0, x1, x2, x3⟩, y0, y1, y2, y3⟩ := (H10.out.below ((Below.refl _ _).alloc (Nat.le_refl _) _)).still (by omega) hk7; have H11 : Hid (RE x y s2 D (w7.setCell ⟨x, 1, none⟩ (.slice a7 (s1.b1 ++ [k]).length n7))) := (by show RE x y s2 D _; rw [HTm.out]; exact ⟨_, _, _, _, _, _, _, (H10.out.below ((Below.refl _ _).alloc (Nat.le_refl _) _)).put2 (fun k h => HD.out k (Nat.le_trans (Nat.le_trans HK10.out.size (by simp)) h)) hk7 hr7⟩); have HK11 : Hid (Keeps D w (w7.setCell ⟨x, 1, none⟩ (.slice a7 (s1.b1 ++ [k]).length n7))) := (((HK10.out.alloc _).trans (hk7.mono (fun _ _ h => h.1))).setCell (p := ⟨x, 1, none⟩) HE9.out.dx _); clear hr7 hk7))
      have e7 : (s1.b1 ++ [k]).length = s1.b1.length + 1 := by simp
      have H12 := H11.out
      have HK12 := HK11.out
      rw [e7] at H12 HK12
      go_roundg 0
      case measure => omega
      case rel => exact ⟨.inr ⟨rfl, by rw [HTm.out]; exact HR.out, by rw [HTm.out]; exact hc1, H12⟩, HK12⟩
    · have hmn : ∀ q, _ := fun q => rmain_any (RE.drewN hA q) (by omega) (by omega)
      rw [hc2] at hmn
      have HA : Hid (RE x y s2 D wr) := hA
      obtain ⟨L9, b1, e1, b2, e2, b3, e3, H9⟩ := hA
      obtain ⟨f0, f1, f2, f3, f4, f5⟩ := H9.cells
      have hmr : mr s.c ≤ 1024 := by unfold mr; omega
      clear H9
      unfold pr at hq
      generalize hn1 : s2.t2.length = n1 at *
      generalize mr s.c = n2 at *
      have HMn : Hid _ := hmn
      clear hmn
      go_wp2_with fail
      go_quiet (first | (go_at_call 60; exact Calls.quiet_of (HMn.out _)))
      go_wp2_with fail
      go_end0
      exact ⟨rfl, HA.out.drewN _, HKr.out.drewN _⟩
end
end Go.Proofs.YtcphhlfbjkeikabGreat
/- The document's machine: admit. -/
namespace Go.Proofs.YtcphhlfbjkeikabGreat
open Go.RowKit

theorem below_set {w w' : World} (hb : Below w.heap.size w w') {a : Addr} (v : Value) : Below (w.setCell a v).heap.size (w.setCell a v) (w'.setCell a v) := by
  have hs := hb.size
  refine ⟨hb.os, hb.tape, hb.output, by simpa [World.setCell] using hs, fun k hk => ?_⟩
  have hk' : k < w.heap.size := by simpa [World.setCell] using hk
  by_cases e : k = a.block
  · subst e
    have h1 := hb.block a.block hk'
    show (w'.heap.modify a.block _)[a.block]? = (w.heap.modify a.block _)[a.block]?
    rw [Array.getElem?_modify, Array.getElem?_modify, if_pos rfl, if_pos rfl, h1]
  · rw [Below.heap_setCell _ _ _ _ e, Below.heap_setCell _ _ _ _ e]
    exact hb.block k hk'
/-- rows 2 and 3 are others: first one was made, then the other one, then both are laid -/
theorem ReIn.both23 {D : Nat → Prop} {L : Nat → Nat} {w w3 w4 : World} {x : Nat} {y : Dk} {s : Stt} {a1 a2 a3 a a' : Option Addr} {c1 c2 c3 c c' : Nat} {zs zs' : List ByteArray} (H : ReIn D L w x y s a1 c1 a2 c2 a3 c3) (hD : ∀ k, w.heap.size ≤ k → D k)
    (hb : Below w.heap.size w w3) (hr : Row (w.heap.size ≤ ·) w3 a c zs) (hb2 : Below w3.heap.size w3 w4) (hr2 : Row (w3.heap.size ≤ ·) w4 a' c' zs') :
    RE x y { s with b1 := zs, t2 := zs' } D ((w4.setCell ⟨x, 1, none⟩ (.slice a zs.length c)).setCell ⟨x, 2, none⟩ (.slice a' zs'.length c')) := by
  have hx := lt_of_block H.top
  have hs := hb.size
  have H3 := H.put2 hD (.of_below hb) (hr.wide (fun _ _ h => .inr h))
  have hz : (w3.setCell ⟨x, 1, none⟩ (.slice a zs.length c)).heap.size = w3.heap.size := by simp [World.setCell]
  have H4 := H3.put3 (fun k h => hD k (by omega)) (.of_below (below_set hb2 (a := ⟨x, 1, none⟩) _)) ((hr2.kept (Keeps.setCell (D := fun k => k = x) (Keeps.refl _ w4) (p := ⟨x, 1, none⟩) rfl (.slice a zs.length c)) (fun k h e => by subst e; have h' : w3.heap.size ≤ k := h; omega)).wide (fun k _ h => .inr (by have h' : w3.heap.size ≤ k := h; omega)))
  exact ⟨_, _, _, _, _, _, _, H4⟩
/-- a call of cut, as one step of a region that draws its order -/
theorem step_cut {D : Nat → Prop} {w : World} {ad : Option Addr} {cap : Nat} {zs : List ByteArray} {k : ByteArray} {ops : Array Oper} {o : Oper} {a : Act} {K : Act → World → Prop} {Q : Exit → Act → World → Prop} {E : Prop}
    (hg : o.guard = none) (s x : Operand) (hop : o.op = Op.call { callee := Callee.value (Operand.func 54), args := #[s, x], argTypes := #[22, 9] })
    (hs : a.eval s = .slice ad zs.length cap) (hx : a.eval x = .string k) (hrow : Row D w ad cap zs) (hn : zs.length ≤ 10000)
    (hK : ∀ ad' cap' w', Row (w.heap.size ≤ ·) w' ad' cap' (A.cut zs k) → Below w.heap.size w w' → K (a.put o.dst (.slice ad' (A.cut zs k).length cap')) w') :
    if Region.wanted o (yielded ops a.tmps) = true then Oper.wp Tryz.prog o a w K Q else E := by
  have hw : Region.wanted o (yielded ops a.tmps) = true := by simp [Region.wanted, hg]
  rw [if_pos hw]
  have hc := rcut_any hrow hn k
  have hf : ∀ args, (callFunc 54 args).run Tryz.prog w = .ok (.enter 54 args) w := by
    intro args
    have h1 : (Tryz.f54.name == "runtime.NumGoroutine") = false := by kernel_rfl
    have h2 : Tryz.f54.body.isNone = false := by kernel_rfl
    have h3 : ¬ Tryz.f54.name = "runtime.NumGoroutine" := by intro e; rw [e] at h1; simp at h1
    have h4 : ¬ Tryz.f54.body = none := by intro e; rw [e] at h2; simp at h2
    simp [callFunc, Tryz.func54]
    rw [if_neg h3, if_neg h4]
  unfold Oper.wp
  have he : (execOp a.eval o).run Tryz.prog w = .ok (.enter 54 #[.slice ad zs.length cap, .string k]) w := by
    have hv : a.eval (Operand.func 54) = .func (.func 54) #[] #[] := rfl
    simp [execOp, hop, resolve, Deferred.ofValue, invoke, hs, hx, hf, hv]
  rw [he]
  refine hc.mono ?_
  rintro e w' ⟨ad', cap', rfl, hr, hb⟩
  exact hK ad' cap' w' hr hb
section
variable {D D' : Nat → Prop} {w w' : World} {x : Nat} {y : Dk} {s : Stt}
theorem below_da (w : World) (q : Nat) (o : Obj) : Below w.heap.size w ((w.drewN q).alloc o) := (below_drewN (Below.refl _ w) q).alloc (Nat.le_refl _) o
theorem RE.bare (H : RE x y s D w) : Beside (RE x y s) none 0 [] D w := ⟨_, fun _ h => h, H.narrow, Row.nil⟩
theorem rfull_end {w0 w2 : World} (g : ByteArray) {s' : Stt} {n : Nat} (h2 : RE x y s' D w2) (hn : n = w2.heap.size) (hk : Keeps D w w0) (hk2 : Keeps D w0 w2) (hD : ∀ k, w.heap.size ≤ k → D k) :
    Beside (RE x y s') (some ⟨n, 0, none⟩) 1 [g] D (w2.alloc (.cells #[.string g] 9)) ∧ Keeps D w (w2.alloc (.cells #[.string g] 9)) := by
  subst hn
  have hs2 := (hk.trans hk2).size
  exact ⟨⟨fun k => D k ∧ k < w2.heap.size, fun k h => ⟨h.1, by rw [World.size_alloc]; omega⟩, h2.narrow.below ((Below.refl _ w2).alloc (Nat.le_refl _) _), row_lit g ⟨hD _ hs2, fun h => Nat.lt_irrefl _ h.2⟩⟩, (hk.trans hk2).alloc _⟩
/-- what admit asks of the rows, and what it answers -/
def Admits (x : Nat) (y : Dk) (r : List ByteArray × Stt) (D : Nat → Prop) (w : World) (e : Ending) (w' : World) : Prop :=
  ∃ ad cap, e = .returned (.slice ad r.1.length cap) ∧ Beside (RE x y r.2) ad cap r.1 D w' ∧ Keeps D w w'
set_option maxRecDepth 100000 in
set_option maxHeartbeats 2000000 in
theorem radmit_room (H : RE x y s D w) (hs : Small s) (hlo : 1 ≤ s.c) (hD : ∀ k, w.heap.size ≤ k → D k) {k : ByteArray} {r : List ByteArray} (ht : s.t1 = k :: r) (hcu : A.cut s.t1 k = r) (hroom : s.b1.length + s.t2.length < mr s.c) :
    Calls Tryz.prog 57 #[.pointer (some ⟨x, 0, none⟩)] w (Admits x y ([], { s with t1 := r, b1 := s.b1 ++ [k] }) D w) := by
  have HD : Hid (∀ k, w.heap.size ≤ k → D k) := hD
  have hhi := hs.hc
  have hl2 := hs.l2
  have hl3 := hs.l3
  obtain ⟨L, a1, c1, a2, c2, a3, c3, H⟩ := H
  obtain ⟨g1, o1, rfl, -, ck, -⟩ := H.r1.at (i := 0) (z := k) (by rw [ht]; rfl)
  rw [Nat.add_zero] at ck
  have HE : Hid (ReIn D L w x y s (some ⟨g1, o1, none⟩) c1 a2 c2 a3 c3) := H
  obtain ⟨d0, d1, d2, d3, d4, d5⟩ := H.cells
  have hcut := rcut_any H.r1 (by have := hs.l1; omega) k
  rw [hcu] at hcut
  have hpos : 0 < s.t1.length := by rw [ht]; simp
  clear H hs hD ht hcu
  go_enter Tryz.func57, Tryz.ntmps57
  go_wp2_with (first
    | (go_at_call 54; refine Calls.mono hcut ?_; clear hcut; rintro e w5 ⟨ad5, cp5, rfl, hr5, hb5⟩; have HE5 := (HE.out.below hb5); obtain ⟨p0, p1, p2, p3, p4, p5⟩ := HE5.cells; obtain ⟨t0, t1, t2, t3⟩ := HE5.thaw; have H6 : Hid (ReIn D _ (w5.setCell ⟨x, 0, none⟩ (.slice ad5 r.length cp5)) x y { s with t1 := r } ad5 cp5 a2 c2 a3 c3) := (HE.out.put1 HD.out (Keeps.of_below hb5) (hr5.wide (fun _ _ h => .inr h))); have HK6 : Hid (Keeps D w (w5.setCell ⟨x, 0, none⟩ (.slice ad5 r.length cp5))) := ((Keeps.of_below hb5).setCell (p := ⟨x, 0, none⟩) HE.out.dx _); obtain ⟨q0, q1, q2, q3, q4, q5⟩ := H6.out.cells; have HMn : Hid (∀ q, _) := (fun q => rmain_any (y := y) (s := { s with t1 := r }) (D := D) (RE.drewN ⟨_, _, _, _, _, _, _, H6.out⟩ q) hlo hhi); clear hr5 hb5 HE5))
  go_quiet (first | (go_at_call 60; exact Calls.quiet_of (HMn.out _)))
  go_wp2_with (at_builtin; go_must (refine wpList_append_row (ks := [k]) rfl _ _ rfl rfl (H6.out.r2.below (below_da _ _ _)) rfl (src_at k (by simp [World.setCell])) (by simp; omega) ?_); intro a7 n7 w7 hr7 hk7; obtain ⟨⟨x0, x1, x2, x3⟩, y0, y1, y2, y3⟩ := (H6.out.below (below_da _ _ _)).still (by omega) hk7; have H7 : Hid (RE x y { s with t1 := r, b1 := s.b1 ++ [k] } D (w7.setCell ⟨x, 1, none⟩ (.slice a7 (s.b1 ++ [k]).length n7))) := ⟨_, _, _, _, _, _, _, (H6.out.below (below_da _ _ _)).put2 (fun k h => HD.out k (Nat.le_trans (Nat.le_trans HK6.out.size (by simp)) h)) hk7 hr7⟩; have HK7 : Hid (Keeps D w (w7.setCell ⟨x, 1, none⟩ (.slice a7 (s.b1 ++ [k]).length n7))) := ((((HK6.out.drewN _).alloc _).trans (hk7.mono (fun _ _ h => h.1))).setCell (p := ⟨x, 1, none⟩) HE.out.dx _); clear hr7 hk7)
  go_ret
  have e7 : (s.b1 ++ [k]).length = s.b1.length + 1 := by simp
  have H8 := H7.out
  have HK8 := HK7.out
  rw [e7] at H8 HK8
  exact ⟨none, 0, rfl, H8.bare, HK8⟩
set_option maxRecDepth 100000 in
set_option maxHeartbeats 2000000 in
theorem radmit_empty (H : RE x y s D w) (hs : Small s) (hlo : 1 ≤ s.c) (hD : ∀ k, w.heap.size ≤ k → D k) {k : ByteArray} {r : List ByteArray} (ht : s.t1 = k :: r) (hcu : A.cut s.t1 k = r) (hroom : ¬ s.b1.length + s.t2.length < mr s.c) (h0 : s.b1.length + s.t2.length = 0) :
    Calls Tryz.prog 57 #[.pointer (some ⟨x, 0, none⟩)] w (Admits x y ([k], { s with t1 := r }) D w) := by
  have HD : Hid (∀ k, w.heap.size ≤ k → D k) := hD
  have hhi := hs.hc
  have hl2 := hs.l2
  have hl3 := hs.l3
  obtain ⟨L, a1, c1, a2, c2, a3, c3, H⟩ := H
  obtain ⟨g1, o1, rfl, -, ck, -⟩ := H.r1.at (i := 0) (z := k) (by rw [ht]; rfl)
  rw [Nat.add_zero] at ck
  have HE : Hid (ReIn D L w x y s (some ⟨g1, o1, none⟩) c1 a2 c2 a3 c3) := H
  obtain ⟨d0, d1, d2, d3, d4, d5⟩ := H.cells
  have hcut := rcut_any H.r1 (by have := hs.l1; omega) k
  rw [hcu] at hcut
  have hpos : 0 < s.t1.length := by rw [ht]; simp
  clear H hs hD ht hcu
  go_enter Tryz.func57, Tryz.ntmps57
  go_wp2_with (first
    | (go_at_call 54; refine Calls.mono hcut ?_; clear hcut; rintro e w5 ⟨ad5, cp5, rfl, hr5, hb5⟩; have HE5 := (HE.out.below hb5); obtain ⟨p0, p1, p2, p3, p4, p5⟩ := HE5.cells; obtain ⟨t0, t1, t2, t3⟩ := HE5.thaw; have H6 : Hid (ReIn D _ (w5.setCell ⟨x, 0, none⟩ (.slice ad5 r.length cp5)) x y { s with t1 := r } ad5 cp5 a2 c2 a3 c3) := (HE.out.put1 HD.out (Keeps.of_below hb5) (hr5.wide (fun _ _ h => .inr h))); have HK6 : Hid (Keeps D w (w5.setCell ⟨x, 0, none⟩ (.slice ad5 r.length cp5))) := ((Keeps.of_below hb5).setCell (p := ⟨x, 0, none⟩) HE.out.dx _); obtain ⟨q0, q1, q2, q3, q4, q5⟩ := H6.out.cells; have HMn : Hid (∀ q, _) := (fun q => rmain_any (y := y) (s := { s with t1 := r }) (D := D) (RE.drewN ⟨_, _, _, _, _, _, _, H6.out⟩ q) hlo hhi); clear hr5 hb5 HE5))
  go_quiet (first | (go_at_call 60; exact Calls.quiet_of (HMn.out _)))
  go_wp2_with fail
  go_quiet (fail)
  go_wp2_with fail
  go_ret
  exact ⟨_, _, rfl, rfull_end k (RE.drewN ⟨_, _, _, _, _, _, _, H6.out⟩ _) (by simp [World.setCell]) HK6.out ((Keeps.refl _ _).drewN _) HD.out⟩
set_option maxRecDepth 100000 in
set_option maxHeartbeats 2000000 in
theorem radmit_stayA (H : RE x y s D w) (hs : Small s) (hlo : 1 ≤ s.c) (hD : ∀ k, w.heap.size ≤ k → D k) {k : ByteArray} {r : List ByteArray} (ht : s.t1 = k :: r) (hcu : A.cut s.t1 k = r) (hk : k.size ≤ 1000) (hroom : ¬ s.b1.length + s.t2.length < mr s.c)
    {v : ByteArray} {r2 : List ByteArray} (hv : s.b1 = v :: r2) (hvs : v.size ≤ 1000) (hle : fq y k ≤ fq y v) :
    Calls Tryz.prog 57 #[.pointer (some ⟨x, 0, none⟩)] w (Admits x y ([k], { s with t1 := r }) D w) := by
  have HD : Hid (∀ k, w.heap.size ≤ k → D k) := hD
  have hhi := hs.hc
  have hl2 := hs.l2
  have hl3 := hs.l3
  obtain ⟨f1, hf1⟩ : ∃ f1, f1 = fq y k := ⟨_, rfl⟩
  obtain ⟨f2, hf2⟩ : ∃ f2, f2 = fq y v := ⟨_, rfl⟩
  rw [← hf1, ← hf2] at hle
  obtain ⟨L, a1, c1, a2, c2, a3, c3, H⟩ := H
  obtain ⟨g1, o1, rfl, -, ck, -⟩ := H.r1.at (i := 0) (z := k) (by rw [ht]; rfl)
  rw [Nat.add_zero] at ck
  obtain ⟨g2, o2, rfl, dg2, cv, -⟩ := H.r2.at (i := 0) (z := v) (by rw [hv]; rfl)
  rw [Nat.add_zero] at cv
  have HE : Hid (ReIn D L w x y s (some ⟨g1, o1, none⟩) c1 (some ⟨g2, o2, none⟩) c2 a3 c3) := H
  obtain ⟨d0, d1, d2, d3, d4, d5⟩ := H.cells
  have hcut := rcut_any H.r1 (by have := hs.l1; omega) k
  rw [hcu] at hcut
  have hpos : 0 < s.t1.length := by rw [ht]; simp
  have hpos2 : 0 < s.b1.length := by rw [hv]; simp
  have hne : ¬ g2 = x := by rintro rfl; have := dg2.2; have := H.lx; omega
  have HOf : Hid (∀ W6, RE x y { s with t1 := r } D W6 → ∀ z f, f = fq y z → z.size ≤ 1000 → ∀ W, Below W6.heap.size W6 W → Calls Tryz.prog 79 #[.pointer (some ⟨x, 0, none⟩), .string z] W fun e w' => e = .returned (.int .i64 (f : Nat)) ∧ Below W6.heap.size W6 w') := fun W6 h6 z f hf hz W hW => by
    rw [hf]
    exact (roften_any (RE.below h6 hW) z hz).mono (by rintro e w' ⟨rfl, hb⟩; exact ⟨rfl, below_trans hW hb⟩)
  have HF1 : Hid (f1 = fq y k) := hf1
  have HF2 : Hid (f2 = fq y v) := hf2
  clear H hs hD ht hcu hv dg2 hf1 hf2
  go_enter Tryz.func57, Tryz.ntmps57
  go_wp2_with (first
    | (go_at_call 54; refine Calls.mono hcut ?_; clear hcut; rintro e w5 ⟨ad5, cp5, rfl, hr5, hb5⟩; have HE5 := (HE.out.below hb5); obtain ⟨p0, p1, p2, p3, p4, p5⟩ := HE5.cells; obtain ⟨t0, t1, t2, t3⟩ := HE5.thaw; have cv5 : (w5.setCell ⟨x, 0, none⟩ (.slice ad5 r.length cp5)).cell? ⟨g2, o2, none⟩ = some (.string v) := ((cell_setCell_far hne).trans (cell_later hb5 cv)); have H6 : Hid (ReIn D _ (w5.setCell ⟨x, 0, none⟩ (.slice ad5 r.length cp5)) x y { s with t1 := r } ad5 cp5 (some ⟨g2, o2, none⟩) c2 a3 c3) := (HE.out.put1 HD.out (Keeps.of_below hb5) (hr5.wide (fun _ _ h => .inr h))); have HK6 : Hid (Keeps D w (w5.setCell ⟨x, 0, none⟩ (.slice ad5 r.length cp5))) := ((Keeps.of_below hb5).setCell (p := ⟨x, 0, none⟩) HE.out.dx _); obtain ⟨q0, q1, q2, q3, q4, q5⟩ := H6.out.cells; have HR6 : Hid (RE x y { s with t1 := r } D (w5.setCell ⟨x, 0, none⟩ (.slice ad5 r.length cp5))) := ⟨_, _, _, _, _, _, _, H6.out⟩; have hO6 : (∀ q, Calls Tryz.prog 79 #[.pointer (some ⟨x, 0, none⟩), .string k] ((w5.setCell ⟨x, 0, none⟩ (.slice ad5 r.length cp5)).drewN q) fun e w' => e = .returned (.int .i64 (f1 : Nat)) ∧ Below (w5.setCell ⟨x, 0, none⟩ (.slice ad5 r.length cp5)).heap.size (w5.setCell ⟨x, 0, none⟩ (.slice ad5 r.length cp5)) w') := (fun q => HOf.out _ HR6.out k f1 HF1.out hk _ (below_drewN (Below.refl _ _) q)); have HMn : Hid (∀ q, _) := (fun q => rmain_any (y := y) (s := { s with t1 := r }) (D := D) (RE.drewN ⟨_, _, _, _, _, _, _, H6.out⟩ q) hlo hhi); clear hr5 hb5 HE5))
  go_quiet (first | (go_at_call 60; exact Calls.quiet_of (HMn.out _)))
  go_wp2_with fail
  go_quiet (fail)
  go_wp2_with (first
    | (go_at_call 79; refine Calls.mono (hO6 _) ?_; clear hO6; rintro e w8 ⟨rfl, hb8⟩; have HB8 : Hid _ := hb8; clear hb8)
    | (go_at_call 79; refine Calls.mono (HOf.out _ HR6.out v f2 HF2.out hvs _ HB8.out) ?_; rintro e w9 ⟨rfl, hb9⟩; have HB9 : Hid _ := hb9; have HE9 := (H6.out.below hb9); obtain ⟨s0, s1, s2, s3, s4, s5⟩ := HE9.cells; clear hb9 HE9))
  go_ret
  exact ⟨_, _, rfl, rfull_end k (RE.below HR6.out HB9.out) rfl HK6.out (Keeps.of_below HB9.out) HD.out⟩
set_option maxRecDepth 100000 in
set_option maxHeartbeats 2000000 in
theorem radmit_stayB (H : RE x y s D w) (hs : Small s) (hlo : 1 ≤ s.c) (hD : ∀ k, w.heap.size ≤ k → D k) {k : ByteArray} {r : List ByteArray} (ht : s.t1 = k :: r) (hcu : A.cut s.t1 k = r) (hk : k.size ≤ 1000) (hroom : ¬ s.b1.length + s.t2.length < mr s.c)
    {v : ByteArray} {r2 : List ByteArray} (hn : s.b1.length = 0) (hv : s.t2 = v :: r2) (hvs : v.size ≤ 1000) (hle : fq y k ≤ fq y v) :
    Calls Tryz.prog 57 #[.pointer (some ⟨x, 0, none⟩)] w (Admits x y ([k], { s with t1 := r }) D w) := by
  have HD : Hid (∀ k, w.heap.size ≤ k → D k) := hD
  have hhi := hs.hc
  have hl2 := hs.l2
  have hl3 := hs.l3
  obtain ⟨f1, hf1⟩ : ∃ f1, f1 = fq y k := ⟨_, rfl⟩
  obtain ⟨f2, hf2⟩ : ∃ f2, f2 = fq y v := ⟨_, rfl⟩
  rw [← hf1, ← hf2] at hle
  obtain ⟨L, a1, c1, a2, c2, a3, c3, H⟩ := H
  obtain ⟨g1, o1, rfl, -, ck, -⟩ := H.r1.at (i := 0) (z := k) (by rw [ht]; rfl)
  rw [Nat.add_zero] at ck
  obtain ⟨g2, o2, rfl, dg2, cv, -⟩ := H.r3.at (i := 0) (z := v) (by rw [hv]; rfl)
  rw [Nat.add_zero] at cv
  have HE : Hid (ReIn D L w x y s (some ⟨g1, o1, none⟩) c1 a2 c2 (some ⟨g2, o2, none⟩) c3) := H
  obtain ⟨d0, d1, d2, d3, d4, d5⟩ := H.cells
  have hcut := rcut_any H.r1 (by have := hs.l1; omega) k
  rw [hcu] at hcut
  have hpos : 0 < s.t1.length := by rw [ht]; simp
  have hpos2 : 0 < s.t2.length := by rw [hv]; simp
  have hne : ¬ g2 = x := by rintro rfl; have := dg2.2; have := H.lx; omega
  have HOf : Hid (∀ W6, RE x y { s with t1 := r } D W6 → ∀ z f, f = fq y z → z.size ≤ 1000 → ∀ W, Below W6.heap.size W6 W → Calls Tryz.prog 79 #[.pointer (some ⟨x, 0, none⟩), .string z] W fun e w' => e = .returned (.int .i64 (f : Nat)) ∧ Below W6.heap.size W6 w') := fun W6 h6 z f hf hz W hW => by
    rw [hf]
    exact (roften_any (RE.below h6 hW) z hz).mono (by rintro e w' ⟨rfl, hb⟩; exact ⟨rfl, below_trans hW hb⟩)
  have HF1 : Hid (f1 = fq y k) := hf1
  have HF2 : Hid (f2 = fq y v) := hf2
  clear H hs hD ht hcu hv dg2 hf1 hf2
  go_enter Tryz.func57, Tryz.ntmps57
  go_wp2_with (first
    | (go_at_call 54; refine Calls.mono hcut ?_; clear hcut; rintro e w5 ⟨ad5, cp5, rfl, hr5, hb5⟩; have HE5 := (HE.out.below hb5); obtain ⟨p0, p1, p2, p3, p4, p5⟩ := HE5.cells; obtain ⟨t0, t1, t2, t3⟩ := HE5.thaw; have cv5 : (w5.setCell ⟨x, 0, none⟩ (.slice ad5 r.length cp5)).cell? ⟨g2, o2, none⟩ = some (.string v) := ((cell_setCell_far hne).trans (cell_later hb5 cv)); have H6 : Hid (ReIn D _ (w5.setCell ⟨x, 0, none⟩ (.slice ad5 r.length cp5)) x y { s with t1 := r } ad5 cp5 a2 c2 (some ⟨g2, o2, none⟩) c3) := (HE.out.put1 HD.out (Keeps.of_below hb5) (hr5.wide (fun _ _ h => .inr h))); have HK6 : Hid (Keeps D w (w5.setCell ⟨x, 0, none⟩ (.slice ad5 r.length cp5))) := ((Keeps.of_below hb5).setCell (p := ⟨x, 0, none⟩) HE.out.dx _); obtain ⟨q0, q1, q2, q3, q4, q5⟩ := H6.out.cells; have HR6 : Hid (RE x y { s with t1 := r } D (w5.setCell ⟨x, 0, none⟩ (.slice ad5 r.length cp5))) := ⟨_, _, _, _, _, _, _, H6.out⟩; have hO6 : (∀ q, Calls Tryz.prog 79 #[.pointer (some ⟨x, 0, none⟩), .string k] ((w5.setCell ⟨x, 0, none⟩ (.slice ad5 r.length cp5)).drewN q) fun e w' => e = .returned (.int .i64 (f1 : Nat)) ∧ Below (w5.setCell ⟨x, 0, none⟩ (.slice ad5 r.length cp5)).heap.size (w5.setCell ⟨x, 0, none⟩ (.slice ad5 r.length cp5)) w') := (fun q => HOf.out _ HR6.out k f1 HF1.out hk _ (below_drewN (Below.refl _ _) q)); have HMn : Hid (∀ q, _) := (fun q => rmain_any (y := y) (s := { s with t1 := r }) (D := D) (RE.drewN ⟨_, _, _, _, _, _, _, H6.out⟩ q) hlo hhi); clear hr5 hb5 HE5))
  go_quiet (first | (go_at_call 60; exact Calls.quiet_of (HMn.out _)))
  go_wp2_with fail
  go_quiet (fail)
  go_wp2_with (first
    | (go_at_call 79; refine Calls.mono (hO6 _) ?_; clear hO6; rintro e w8 ⟨rfl, hb8⟩; have HB8 : Hid _ := hb8; clear hb8)
    | (go_at_call 79; refine Calls.mono (HOf.out _ HR6.out v f2 HF2.out hvs _ HB8.out) ?_; rintro e w9 ⟨rfl, hb9⟩; have HB9 : Hid _ := hb9; have HE9 := (H6.out.below hb9); obtain ⟨s0, s1, s2, s3, s4, s5⟩ := HE9.cells; clear hb9 HE9))
  go_ret
  exact ⟨_, _, rfl, rfull_end k (RE.below HR6.out HB9.out) rfl HK6.out (Keeps.of_below HB9.out) HD.out⟩
end
end Go.Proofs.YtcphhlfbjkeikabGreat
