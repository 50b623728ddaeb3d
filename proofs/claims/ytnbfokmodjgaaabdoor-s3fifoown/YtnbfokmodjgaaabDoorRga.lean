/- The document's machine in memory: its struct, its three rows, each in blocks of its own. The document's rows of cells: where a key stands, a row without the cell at a place. The document's machine: Len, small, Room, Has; a key becomes the newest ghost. -/
import Derived.Test.YtnbfokmodjgaaabDoorTc
import Derived.Test.YtnbfokmodjgaaabDoorBs
import Derived.Deep.LoopGhost
import Derived.Laws.CopyOwn
namespace Go.Proofs.YtnbfokmodjgaaabDoor
open Go.RowKit

/-- the struct's cells -/
def eng (s : Stt) (a1 : Option Addr) (c1 : Nat) (a2 : Option Addr) (c2 : Nat) (a3 : Option Addr) (c3 : Nat) : Array Value :=
  #[.slice a1 s.t1.length c1, .slice a2 s.t2.length c2, .slice a3 (A.ks s.b1).length c3, .int .i64 (s.c : Nat)]
/-- the struct at x and its rows; L tells whose a block is: 0 the struct's, 1 to 3 the rows' -/
structure ReIn (D : Nat → Prop) (L : Nat → Nat) (w : World) (x : Nat) (s : Stt) (a1 : Option Addr) (c1 : Nat) (a2 : Option Addr) (c2 : Nat) (a3 : Option Addr) (c3 : Nat) : Prop where
  dx : D x
  lx : L x = 0
  top : w.heap[x]? = some (.cells (eng s a1 c1 a2 c2 a3 c3) 80 (0, 0))
  r1 : C.Row (fun g => D g ∧ L g = 1) w a1 c1 s.t1
  r2 : C.Row (fun g => D g ∧ L g = 2) w a2 c2 s.t2
  r3 : Row (fun g => D g ∧ L g = 3) w a3 c3 (A.ks s.b1)
/-- new blocks are row i's -/
def lab (L : Nat → Nat) (n i : Nat) : Nat → Nat := fun g => if g < n then L g else i
theorem lab_old {L : Nat → Nat} {n i g : Nat} (h : g < n) : lab L n i g = L g := by simp [lab, h]
theorem lab_new {L : Nat → Nat} {n i g : Nat} (h : n ≤ g) : lab L n i g = i := by simp [lab, show ¬ g < n by omega]
theorem Row.kept2 {D D' : Nat → Prop} {w w' : World} {ad : Option Addr} {cap : Nat} {zs : List ByteArray} (h : Row D w ad cap zs) (hk : Keeps D' w w') (hd : ∀ k, k < w.heap.size → D k → ¬ D' k) : Row D w' ad cap zs :=
  (h.narrow.kept hk (fun k e => hd k e.2 e.1)).wide (fun _ _ e => e.1)
section
variable {D D' : Nat → Prop} {L : Nat → Nat} {w w' : World} {x : Nat} {s : Stt} {a1 a2 a3 a : Option Addr} {c1 c2 c3 c : Nat} {zs : List Ls.It}
theorem ReIn.cells (H : ReIn D L w x s a1 c1 a2 c2 a3 c3) :
    w.cell? ⟨x, 0, none⟩ = some (.slice a1 s.t1.length c1) ∧ w.cell? ⟨x, 1, none⟩ = some (.slice a2 s.t2.length c2) ∧ w.cell? ⟨x, 2, none⟩ = some (.slice a3 (A.ks s.b1).length c3) ∧ w.cell? ⟨x, 3, none⟩ = some (.int .i64 (s.c : Nat)) := by
  have h := H.top
  refine ⟨?_, ?_, ?_, ?_⟩ <;> (rw [cell_of_block h]; rfl)
theorem ReIn.thaw (H : ReIn D L w x s a1 c1 a2 c2 a3 c3) :
    w.frozen? ⟨x, 0, none⟩ = false ∧ w.frozen? ⟨x, 1, none⟩ = false ∧ w.frozen? ⟨x, 2, none⟩ = false ∧ w.frozen? ⟨x, 3, none⟩ = false :=
  ⟨frozen_of_block H.top, frozen_of_block H.top, frozen_of_block H.top, frozen_of_block H.top⟩
theorem ReIn.kept (H : ReIn D L w x s a1 c1 a2 c2 a3 c3) (hk : Keeps D' w w') (hd : ∀ k, D k → ¬ D' k) : ReIn D L w' x s a1 c1 a2 c2 a3 c3 :=
  ⟨H.dx, H.lx, (hk.block x (lt_of_block H.top) (hd _ H.dx)).trans H.top, H.r1.kept hk (fun k h => hd k h.1), H.r2.kept hk (fun k h => hd k h.1), H.r3.kept hk (fun k h => hd k h.1)⟩
theorem ReIn.below (H : ReIn D L w x s a1 c1 a2 c2 a3 c3) (hb : Below w.heap.size w w') : ReIn D L w' x s a1 c1 a2 c2 a3 c3 := H.kept (D' := fun _ => False) (.of_below hb) (fun _ _ e => e)
theorem ReIn.wide (H : ReIn D L w x s a1 c1 a2 c2 a3 c3) (hD : ∀ k, k < w.heap.size → D k → D' k) : ReIn D' L w x s a1 c1 a2 c2 a3 c3 :=
  ⟨hD _ (lt_of_block H.top) H.dx, H.lx, H.top, H.r1.wide (fun k a h => ⟨hD k a h.1, h.2⟩), H.r2.wide (fun k a h => ⟨hD k a h.1, h.2⟩), H.r3.wide (fun k a h => ⟨hD k a h.1, h.2⟩)⟩
/-- row 1 is another one -/
theorem ReIn.put1 (H : ReIn D L w x s a1 c1 a2 c2 a3 c3) (hD : ∀ k, w.heap.size ≤ k → D k) (hk : Keeps (fun g => D g ∧ L g = 1) w w') (hr : C.Row (fun g => (D g ∧ L g = 1) ∨ w.heap.size ≤ g) w' a c zs) :
    ReIn D (lab L w.heap.size 1) (w'.setCell ⟨x, 0, none⟩ (.slice a zs.length c)) x { s with t1 := zs } a c a2 c2 a3 c3 := by
  have hxl := lt_of_block H.top
  have lx : lab L w.heap.size 1 x = 0 := by rw [lab_old hxl]; exact H.lx
  have hx : Keeps (fun k => k = x) w' (w'.setCell ⟨x, 0, none⟩ (.slice a zs.length c)) := Keeps.setCell (D := fun k => k = x) (Keeps.refl _ w') (p := ⟨x, 0, none⟩) rfl _
  have ne : ∀ i' : Nat, i' ≠ 0 → ∀ k, (D k ∧ lab L w.heap.size 1 k = i') → ¬ k = x := fun i' hi k h e => by subst e; omega
  have top := (hk.block x hxl (fun h => by have := H.lx; omega)).trans H.top
  have hr2 : C.Row (fun g => D g ∧ lab L w.heap.size 1 g = 1) (w'.setCell ⟨x, 0, none⟩ (.slice a zs.length c)) a c zs := (hr.wide (D' := fun g => D g ∧ lab L w.heap.size 1 g = 1) (fun g _ h => by
    rcases Nat.lt_or_ge g w.heap.size with hg | hg
    · rw [lab_old hg]
      rcases h with h | h
      · exact h
      · omega
    · rw [lab_new hg]
      exact ⟨hD g hg, rfl⟩)).kept hx (ne 1 (by omega))
  exact ⟨H.dx, lx, by rw [block_setCell top]; rfl, hr2, (((H.r2.wide (D' := fun g => D g ∧ lab L w.heap.size 1 g = 2) (fun g hg h => ⟨h.1, by rw [lab_old hg]; exact h.2⟩)).kept2 hk (fun g hg h e => by have := e.2; rw [lab_old hg] at h; omega)).kept hx (ne 2 (by omega))), (((H.r3.wide (D' := fun g => D g ∧ lab L w.heap.size 1 g = 3) (fun g hg h => ⟨h.1, by rw [lab_old hg]; exact h.2⟩)).kept2 hk (fun g hg h e => by have := e.2; rw [lab_old hg] at h; omega)).kept hx (ne 3 (by omega)))⟩
/-- row 2 is another one -/
theorem ReIn.put2 (H : ReIn D L w x s a1 c1 a2 c2 a3 c3) (hD : ∀ k, w.heap.size ≤ k → D k) (hk : Keeps (fun g => D g ∧ L g = 2) w w') (hr : C.Row (fun g => (D g ∧ L g = 2) ∨ w.heap.size ≤ g) w' a c zs) :
    ReIn D (lab L w.heap.size 2) (w'.setCell ⟨x, 1, none⟩ (.slice a zs.length c)) x { s with t2 := zs } a1 c1 a c a3 c3 := by
  have hxl := lt_of_block H.top
  have lx : lab L w.heap.size 2 x = 0 := by rw [lab_old hxl]; exact H.lx
  have hx : Keeps (fun k => k = x) w' (w'.setCell ⟨x, 1, none⟩ (.slice a zs.length c)) := Keeps.setCell (D := fun k => k = x) (Keeps.refl _ w') (p := ⟨x, 1, none⟩) rfl _
  have ne : ∀ i' : Nat, i' ≠ 0 → ∀ k, (D k ∧ lab L w.heap.size 2 k = i') → ¬ k = x := fun i' hi k h e => by subst e; omega
  have top := (hk.block x hxl (fun h => by have := H.lx; omega)).trans H.top
  have hr2 : C.Row (fun g => D g ∧ lab L w.heap.size 2 g = 2) (w'.setCell ⟨x, 1, none⟩ (.slice a zs.length c)) a c zs := (hr.wide (D' := fun g => D g ∧ lab L w.heap.size 2 g = 2) (fun g _ h => by
    rcases Nat.lt_or_ge g w.heap.size with hg | hg
    · rw [lab_old hg]
      rcases h with h | h
      · exact h
      · omega
    · rw [lab_new hg]
      exact ⟨hD g hg, rfl⟩)).kept hx (ne 2 (by omega))
  exact ⟨H.dx, lx, by rw [block_setCell top]; rfl, (((H.r1.wide (D' := fun g => D g ∧ lab L w.heap.size 2 g = 1) (fun g hg h => ⟨h.1, by rw [lab_old hg]; exact h.2⟩)).kept2 hk (fun g hg h e => by have := e.2; rw [lab_old hg] at h; omega)).kept hx (ne 1 (by omega))), hr2, (((H.r3.wide (D' := fun g => D g ∧ lab L w.heap.size 2 g = 3) (fun g hg h => ⟨h.1, by rw [lab_old hg]; exact h.2⟩)).kept2 hk (fun g hg h e => by have := e.2; rw [lab_old hg] at h; omega)).kept hx (ne 3 (by omega)))⟩
/-- row 3 is another one -/
theorem ReIn.put3 (H : ReIn D L w x s a1 c1 a2 c2 a3 c3) (hD : ∀ k, w.heap.size ≤ k → D k) (hk : Keeps (fun g => D g ∧ L g = 3) w w') (hr : Row (fun g => (D g ∧ L g = 3) ∨ w.heap.size ≤ g) w' a c (A.ks zs)) :
    ReIn D (lab L w.heap.size 3) (w'.setCell ⟨x, 2, none⟩ (.slice a (A.ks zs).length c)) x { s with b1 := zs } a1 c1 a2 c2 a c := by
  have hxl := lt_of_block H.top
  have lx : lab L w.heap.size 3 x = 0 := by rw [lab_old hxl]; exact H.lx
  have hx : Keeps (fun k => k = x) w' (w'.setCell ⟨x, 2, none⟩ (.slice a (A.ks zs).length c)) := Keeps.setCell (D := fun k => k = x) (Keeps.refl _ w') (p := ⟨x, 2, none⟩) rfl _
  have ne : ∀ i' : Nat, i' ≠ 0 → ∀ k, (D k ∧ lab L w.heap.size 3 k = i') → ¬ k = x := fun i' hi k h e => by subst e; omega
  have top := (hk.block x hxl (fun h => by have := H.lx; omega)).trans H.top
  have hr2 : Row (fun g => D g ∧ lab L w.heap.size 3 g = 3) (w'.setCell ⟨x, 2, none⟩ (.slice a (A.ks zs).length c)) a c (A.ks zs) := (hr.wide (D' := fun g => D g ∧ lab L w.heap.size 3 g = 3) (fun g _ h => by
    rcases Nat.lt_or_ge g w.heap.size with hg | hg
    · rw [lab_old hg]
      rcases h with h | h
      · exact h
      · omega
    · rw [lab_new hg]
      exact ⟨hD g hg, rfl⟩)).kept hx (ne 3 (by omega))
  exact ⟨H.dx, lx, by rw [block_setCell top]; rfl, (((H.r1.wide (D' := fun g => D g ∧ lab L w.heap.size 3 g = 1) (fun g hg h => ⟨h.1, by rw [lab_old hg]; exact h.2⟩)).kept2 hk (fun g hg h e => by have := e.2; rw [lab_old hg] at h; omega)).kept hx (ne 1 (by omega))), (((H.r2.wide (D' := fun g => D g ∧ lab L w.heap.size 3 g = 2) (fun g hg h => ⟨h.1, by rw [lab_old hg]; exact h.2⟩)).kept2 hk (fun g hg h e => by have := e.2; rw [lab_old hg] at h; omega)).kept hx (ne 2 (by omega))), hr2⟩
/-- the struct's cells stay while a row's blocks change -/
theorem ReIn.still (H : ReIn D L w x s a1 c1 a2 c2 a3 c3) {i : Nat} (hi : i ≠ 0) (hk : Keeps (fun g => D g ∧ L g = i) w w') :
    (w'.cell? ⟨x, 0, none⟩ = some (.slice a1 s.t1.length c1) ∧ w'.cell? ⟨x, 1, none⟩ = some (.slice a2 s.t2.length c2) ∧ w'.cell? ⟨x, 2, none⟩ = some (.slice a3 (A.ks s.b1).length c3) ∧ w'.cell? ⟨x, 3, none⟩ = some (.int .i64 (s.c : Nat))) ∧
    w'.frozen? ⟨x, 0, none⟩ = false ∧ w'.frozen? ⟨x, 1, none⟩ = false ∧ w'.frozen? ⟨x, 2, none⟩ = false ∧ w'.frozen? ⟨x, 3, none⟩ = false := by
  have h := (hk.block x (lt_of_block H.top) (fun e => by have := H.lx; omega)).trans H.top
  refine ⟨⟨?_, ?_, ?_, ?_⟩, frozen_of_block h, frozen_of_block h, frozen_of_block h, frozen_of_block h⟩ <;> (rw [cell_of_block h]; rfl)
end
/-- the document's machine at x -/
def RE (x : Nat) (s : Stt) (D : Nat → Prop) (w : World) : Prop := ∃ L a1 c1 a2 c2 a3 c3, ReIn D L w x s a1 c1 a2 c2 a3 c3
/-- no row is long -/
structure Small (s : Stt) : Prop where
  l1 : s.t1.length ≤ 2100
  l2 : s.t2.length ≤ 2100
  l3 : (A.ks s.b1).length ≤ 4100
  hc : s.c ≤ 1024
theorem Small.of {s : Stt} (h : A.Ok s) : Small s := by
  have h1 := h.res; have h2 := h.out; have h3 := h.hi
  unfold A.gmax at h2
  exact ⟨by omega, by omega, by rw [A.ks_len]; omega, by omega⟩
section
variable {D D' : Nat → Prop} {w w' : World} {x : Nat} {s : Stt}
theorem RE.below (H : RE x s D w) (hb : Below w.heap.size w w') : RE x s D w' := by
  obtain ⟨L, a1, c1, a2, c2, a3, c3, h⟩ := H; exact ⟨L, a1, c1, a2, c2, a3, c3, h.below hb⟩
theorem RE.kept (H : RE x s D w) (hk : Keeps D' w w') (hd : ∀ k, D k → ¬ D' k) : RE x s D w' := by
  obtain ⟨L, a1, c1, a2, c2, a3, c3, h⟩ := H; exact ⟨L, a1, c1, a2, c2, a3, c3, h.kept hk hd⟩
theorem RE.wide (H : RE x s D w) (hD : ∀ k, k < w.heap.size → D k → D' k) : RE x s D' w := by
  obtain ⟨L, a1, c1, a2, c2, a3, c3, h⟩ := H; exact ⟨L, a1, c1, a2, c2, a3, c3, h.wide hD⟩
theorem RE.narrow (H : RE x s D w) : RE x s (fun k => D k ∧ k < w.heap.size) w := H.wide (fun _ a b => ⟨b, a⟩)
end
end Go.Proofs.YtnbfokmodjgaaabDoor
namespace Go.Proofs.YtnbfokmodjgaaabDoor
open Go.RowKit

theorem bytes_beq (x y : ByteArray) : (x.toList == y.toList) = decide (x = y) := by
  by_cases h : x = y
  · subst h; simp
  · have : ¬ x.toList = y.toList := by
      intro e
      rw [ByteArray.toList_eq, ByteArray.toList_eq] at e
      apply h
      cases x
      cases y
      congr
      exact Array.toList_inj.1 e
    simp [h, this]
/-- where a key stands; -1: nowhere -/
def idx (zs : List ByteArray) (k : ByteArray) : Int := match zs.findIdx? (fun z => decide (z = k)) with
  | some i => (i : Nat)
  | none => -1
theorem idx_yes {zs : List ByteArray} {k : ByteArray} {i : Nat} (h : zs[i]? = some k) (hn : ∀ j, j < i → zs[j]? ≠ some k) : idx zs k = (i : Nat) := by
  have hi := lt_of_at h
  have : zs.findIdx? (fun z => decide (z = k)) = some i := by
    rw [List.findIdx?_eq_some_iff_getElem]
    refine ⟨hi, ?_, ?_⟩
    · rw [List.getElem?_eq_getElem hi] at h
      simpa using h
    · intro j hj
      have := hn j hj
      rw [List.getElem?_eq_getElem (by omega)] at this
      simpa using this
  unfold idx
  rw [this]
theorem idx_no {zs : List ByteArray} {k : ByteArray} (h : k ∉ zs) : idx zs k = -1 := by
  have : zs.findIdx? (fun z => decide (z = k)) = none := by
    rw [List.findIdx?_eq_none_iff]
    intro z hz
    simp
    rintro rfl
    exact h hz
  unfold idx
  rw [this]
/-- where one stands that is there -/
theorem idx_at {zs : List ByteArray} {k : ByteArray} (h : k ∈ zs) : ∃ i : Nat, idx zs k = (i : Nat) ∧ zs[i]? = some k ∧ ∀ j, j < i → zs[j]? ≠ some k := by
  have : (zs.findIdx? (fun z => decide (z = k))).isSome = true := by
    rw [List.findIdx?_isSome]
    simpa using h
  obtain ⟨i, hi⟩ := Option.isSome_iff_exists.1 this
  rw [List.findIdx?_eq_some_iff_getElem] at hi
  obtain ⟨h1, h2, h3⟩ := hi
  have e : zs[i]? = some k := by rw [List.getElem?_eq_getElem h1]; simpa using h2
  have hn : ∀ j, j < i → zs[j]? ≠ some k := fun j hj => by
    rw [List.getElem?_eq_getElem (by omega)]
    simpa using h3 j hj
  exact ⟨i, idx_yes e hn, e, hn⟩
theorem idx_mem {zs : List ByteArray} {k : ByteArray} (h : k ∈ zs) : 0 ≤ idx zs k := by
  obtain ⟨i, h, -⟩ := idx_at h
  omega
/-- is it there? -/
def inn (k : ByteArray) (zs : List ByteArray) : Bool := decide (0 ≤ idx zs k)
theorem inn_yes {zs : List ByteArray} {k : ByteArray} (h : k ∈ zs) : inn k zs = true := decide_eq_true (idx_mem h)
theorem inn_no {zs : List ByteArray} {k : ByteArray} (h : k ∉ zs) : inn k zs = false := by unfold inn; rw [idx_no h]; decide
theorem inn_iff {zs : List ByteArray} {k : ByteArray} : inn k zs = true ↔ k ∈ zs := by
  by_cases h : k ∈ zs
  · simp [inn_yes h, h]
  · simp [inn_no h, h]
theorem ret_len {a : Option Addr} {n m c : Nat} (h : n = m) : Ending.returned (.slice a n c) = .returned (.slice a m c) := by rw [h]
namespace C
theorem step_append_row {D : Nat → Prop} {w : World} {ad : Option Addr} {cap : Nat} {zs ks : List Ls.It} {ops : Array Oper} {o : Oper} {a : Act} {K : Act → World → Prop} {Q : Exit → Act → World → Prop} {E : Prop}
    (hg : o.guard = none) (s x : Operand) (hop : o.op = Op.call { callee := Callee.builtin Builtin.append, args := #[s, x], argTypes := #[78, 78] })
    (hs : a.eval s = .slice ad zs.length cap) (hrow : Row D w ad cap zs) {vx : Value} (hx : a.eval x = vx) (hsrc : Src Tryd.prog 2 78 vx ks.length (Ls.its ks) w) (hn : zs.length + ks.length ≤ 1000000)
    (hK : ∀ ad' cap' w', Row (fun g => D g ∨ w.heap.size ≤ g) w' ad' cap' (zs ++ ks) → Keeps D w w' → K (a.put o.dst (.slice ad' (zs.length + ks.length) cap')) w') :
    if Region.wanted o (yielded ops a.tmps) = true then Oper.wp Tryd.prog o a w K Q else E := by
  have hw : Region.wanted o (yielded ops a.tmps) = true := by simp [Region.wanted, hg]
  rw [if_pos hw]
  obtain ⟨ad', cap', w', hrun, h2, h3⟩ := run_append_row o.type hrow hsrc hn
  unfold Oper.wp
  simp [execOp, hop, resolve, invoke, builtin, hs, hx, hrun, Result.andThen]
  exact hK ad' cap' w' h2 h3
theorem Row.old {B : Nat} {w w' : World} {ad : Option Addr} {cap : Nat} {zs : List Ls.It} (h : Row (fun g => B ≤ g ∨ w.heap.size ≤ g) w' ad cap zs) (hB : B ≤ w.heap.size) : Row (B ≤ ·) w' ad cap zs := h.wide (fun g _ h => by
  show B ≤ g
  rcases h with h | h
  · exact h
  · omega)
/-- a row without the one at a place -/
def wout (zs : List Ls.It) (i : Nat) : List Ls.It := zs.take i ++ zs.drop (i + 1)
theorem wout_len {zs : List Ls.It} {i : Nat} (h : i < zs.length) : (wout zs i).length = zs.length - 1 := by unfold wout; simp; omega
theorem wout_zero (x : Ls.It) (r : List Ls.It) : wout (x :: r) 0 = r := by simp [wout]
end C
section
variable {D : Nat → Prop} {w : World} {ad : Option Addr} {cap : Nat} {zs : List Ls.It}
set_option maxHeartbeats 1000000 in
theorem rat_any (H : C.Row D w ad cap zs) (hn : zs.length ≤ 1000000) (k : ByteArray) :
    Calls Tryd.prog 68 #[.slice ad zs.length cap, .string k] w fun e w' => e = .returned (.int .i64 (idx (A.ks zs) k)) ∧ w' = w := by
  have HH : Hid (C.Row D w ad cap zs) := H
  clear H
  go_enter Tryd.func68, Tryd.ntmps68
  go_wp2
  go_loop [5] (fun i => ∃ j : Nat, j ≤ zs.length ∧ i = .int .i64 j ∧ Hid (∀ m, m < j → (A.ks zs)[m]? ≠ some k)) (fun i => zs.length - (intOf i).toNat)
  case atStart => exact ⟨0, Nat.zero_le _, rfl, fun m hm => by omega⟩
  case round =>
    obtain ⟨j, hj, rfl, hno⟩ := hrel
    rcases Nat.lt_or_ge j zs.length with hlt | hge
    · obtain ⟨z, hz⟩ : ∃ z, zs[j]? = some z := ⟨_, List.getElem?_eq_getElem hlt⟩
      obtain ⟨g, off, rfl, -, -, c0, c1, -⟩ := HH.out.at hz
      have HZ : Hid ((A.ks zs)[j]? = some z.key) := by
        show (A.ks zs)[j]? = some z.key
        simp [A.ks, hz]
      clear hz
      by_cases he : z.key = k
      · have hE : (z.key.toList == k.toList) = true := by rw [bytes_beq, decide_eq_true he]
        have HE : Hid (z.key = k) := he
        clear he
        go_wp2
        go_ret
        exact ⟨ret_int (idx_yes (by rw [← HE.out]; exact HZ.out) hno.out).symm, rfl⟩
      · have hE : (z.key.toList == k.toList) = false := by rw [bytes_beq, decide_eq_false he]
        have HE : Hid (¬ z.key = k) := he
        clear he
        go_wp2
        go_round
        case rel =>
          refine ⟨j + 1, hlt, by go_num, fun m hm => ?_⟩
          rcases Nat.lt_or_ge m j with h | h
          · exact hno.out m h
          · rw [show m = j by omega, HZ.out]
            exact fun e => HE.out (by cases e; rfl)
        case measure => simp [intOf]; omega
    · have hj' : j = zs.length := by omega
      subst hj'
      go_wp2
      go_ret
      refine ⟨ret_int (idx_no (fun hm => ?_)).symm, rfl⟩
      obtain ⟨m, hm1, hm2⟩ := List.getElem_of_mem hm
      exact hno.out m (by rw [A.ks_len] at hm1; exact hm1) (by rw [List.getElem?_eq_getElem hm1, hm2])
set_option maxHeartbeats 2000000 in
theorem rwithout_any (H : C.Row D w ad cap zs) (hn : zs.length ≤ 10000) {i : Nat} (hi : i < zs.length) :
    Calls Tryd.prog 71 #[.slice ad zs.length cap, .int .i64 i] w fun e w' => ∃ ad' cap', e = .returned (.slice ad' (C.wout zs i).length cap') ∧ C.Row (w.heap.size ≤ ·) w' ad' cap' (C.wout zs i) ∧ Below w.heap.size w w' := by
  have hcl := H.1
  obtain ⟨g, off, rfl⟩ := H.shape (by omega)
  have HH : Hid (C.Row D w (some ⟨g, off, none⟩) cap zs) := H
  have HT : Hid (C.Row D w (some ⟨g, off, none⟩) cap (zs.take i)) := H.take i
  have HD : Hid (C.Row D w (some ⟨g, off + (i + 1) * 2, none⟩) (cap - (i + 1)) (zs.drop (i + 1))) := H.drop (i + 1)
  have l1 : (zs.take i).length = i := by simp; omega
  have l2 : (zs.drop (i + 1)).length = zs.length - (i + 1) := by simp
  have f1 : i ≤ cap := by omega
  have f2 : i + 1 ≤ cap := by omega
  have f3 : i + 1 ≤ zs.length := by omega
  have f4 : IntKind.i64.wrap ((i : Int) + 1) = (i : Int) + 1 := by unfold maxLen at *; simp [IntKind.wrap_i64]; omega
  have f7 : (i : Int) + 1 ≤ (zs.length : Int) := by omega
  have f5 : ((i : Int) + 1).toNat = i + 1 := by omega
  have f6 : (0 : Int) ≤ (i : Int) + 1 := by omega
  have HSA : Hid (∀ W : World, Below w.heap.size w W → Src Tryd.prog 2 78 (.slice (some ⟨g, off, none⟩) i cap) (zs.take i).length (Ls.its (zs.take i)) W) := fun W hW => by
    have := ((HT.out.below hW).src)
    rw [l1] at this ⊢
    exact this
  have HSB : Hid (∀ W : World, Below w.heap.size w W → Src Tryd.prog 2 78 (.slice (if cap = i + 1 then some ⟨g, off, none⟩ else some ⟨g, off + (i + 1) * 2, none⟩) (zs.length - (i + 1)) (cap - (i + 1))) (zs.drop (i + 1)).length (Ls.its (zs.drop (i + 1))) W) := fun W hW => by
    by_cases hc : cap = i + 1
    · rw [if_pos hc]
      have e : zs.drop (i + 1) = [] := List.eq_nil_of_length_eq_zero (by rw [l2]; omega)
      rw [e]
      rw [show zs.length - (i + 1) = 0 by omega, show cap - (i + 1) = 0 by omega]
      exact (C.Row.bare (D := D) (w := W) (some ⟨g, off, none⟩)).src
    · rw [if_neg hc]
      have := ((HD.out.below hW).src)
      rw [l2] at this ⊢
      exact this
  clear H
  go_enter Tryd.func71, Tryd.ntmps71
  go_wp2_with fail
  go_region_law (first
    | (refine C.step_append_row (D := fun g => w.heap.size ≤ g) (zs := []) (ks := zs.take i) (by rfl) _ _ (by rfl) (by rfl) (C.Row.bare _) (by rfl) (by first | exact HSA.out _ ((Below.refl _ _).alloc (Nat.le_refl _) _).drew) (by simp; omega) ?_
       intro a1 n1 w1 hr1 hk1
       rw [List.nil_append] at hr1
       have hb1 : Below w.heap.size w w1 := ((Below.refl _ w).alloc (Nat.le_refl _) _).drew.trans (hk1.below (by simp) (fun _ h => h))
       have hr1' : C.Row (w.heap.size ≤ ·) w1 a1 n1 (zs.take i) := hr1.old (by simp)
       rw [List.length_nil, Nat.zero_add, l1])
    | (refine C.step_append_row (D := fun g => w.heap.size ≤ g) (zs := zs.take i) (ks := zs.drop (i + 1)) (by rfl) _ _ (by rfl) (by first | (rw [l1]; rfl)) (hr1') (by rfl) (by first | exact HSB.out _ hb1) (by simp; omega) ?_
       intro a2 n2 w2 hr2 hk2
       have hb2 : Below w.heap.size w w2 := hb1.trans (hk2.below hb1.size (fun _ h => h))
       have hr2' : C.Row (w.heap.size ≤ ·) w2 a2 n2 (C.wout zs i) := hr2.old hb1.size))
  all_goals go_wp2_with fail
  all_goals
    go_ret
    exact ⟨_, _, ret_len (by rw [C.wout_len hi]; first | omega | (rw [l1, l2]; omega) | (rw [l2]; omega)), hr2', hb2⟩
end
end Go.Proofs.YtnbfokmodjgaaabDoor
namespace Go.Proofs.YtnbfokmodjgaaabDoor
open Go.RowKit

section
variable {D D' : Nat → Prop} {w w' : World} {x : Nat} {s : Stt}
theorem rlen_any (H : RE x s D w) (hs : Small s) : Calls Tryd.prog 69 #[.pointer (some ⟨x, 0, none⟩)] w fun e w' => e = .returned (.int .i64 ((A.keys s).length : Nat)) ∧ ∃ q, w' = w.drewN q := by
  obtain ⟨L, a1, c1, a2, c2, a3, c3, H⟩ := H
  obtain ⟨d0, d1, d2, d3⟩ := H.cells
  have h1 := hs.l1
  have h2 := hs.l2
  rw [A.keys_length]
  generalize s.t1.length = n at *
  generalize s.t2.length = m at *
  clear H hs
  go_enter Tryd.func69, Tryd.ntmps69
  go_wp2_with fail
  go_quiet (fail)
  go_wp2_with fail
  go_ret
  exact ⟨ret_int (by omega), _, rfl⟩
theorem rsmall_any (H : RE x s D w) (hc : s.c ≤ 1024) : Calls Tryd.prog 72 #[.pointer (some ⟨x, 0, none⟩)] w fun e w' => e = .returned (.int .i64 (A.small s : Nat)) ∧ w' = w := by
  obtain ⟨L, a1, c1, a2, c2, a3, c3, H⟩ := H
  obtain ⟨d0, d1, d2, d3⟩ := H.cells
  have hw : IntKind.i64.wrap ((s.c : Int) / 10) = (s.c : Int) / 10 := by simp [IntKind.wrap_i64]; omega
  have HE : Hid (A.small s = max 1 (s.c / 10)) := rfl
  clear H
  go_enter Tryd.func72, Tryd.ntmps72
  go_wp2_with fail
  all_goals
    go_ret
    exact ⟨ret_int (by rw [HE.out]; omega), rfl⟩
theorem inn_keys (s : Stt) (k : ByteArray) : inn k (A.keys s) = (inn k (A.ks s.t1) || inn k (A.ks s.t2)) := by
  by_cases h1 : k ∈ A.ks s.t1
  · rw [inn_yes h1, inn_yes (by simp [A.keys, h1])]; rfl
  · by_cases h2 : k ∈ A.ks s.t2
    · rw [inn_yes h2, inn_yes (by simp [A.keys, h2])]; simp
    · rw [inn_no h1, inn_no h2, inn_no (by simp [A.keys, h1, h2])]; rfl
theorem rhas_key (H : RE x s D w) (hs : Small s) (k : ByteArray) : Calls Tryd.prog 51 #[.pointer (some ⟨x, 0, none⟩), .string k] w fun e w' => e = .returned (.bool (inn k (A.keys s))) ∧ w' = w := by
  obtain ⟨L, a1, c1, a2, c2, a3, c3, H⟩ := H
  obtain ⟨d0, d1, d2, d3⟩ := H.cells
  have e1 := rat_any H.r1 (by have := hs.l1; omega) k
  have e2 := rat_any H.r2 (by have := hs.l2; omega) k
  rw [inn_keys]
  by_cases h1 : k ∈ A.ks s.t1
  · have hi := idx_mem h1
    rw [inn_yes h1]
    generalize idx (A.ks s.t1) k = j1 at *
    clear H hs
    go_enter Tryd.func51, Tryd.ntmps51
    go_wp2_with (go_at_call 68; refine e1.mono ?_; rintro e w1 ⟨rfl, rfl⟩; clear e1)
    go_ret
    exact ⟨by simp, rfl⟩
  · rw [inn_no h1]
    rw [idx_no h1] at e1
    unfold inn
    generalize idx (A.ks s.t2) k = j2 at *
    clear H hs
    go_enter Tryd.func51, Tryd.ntmps51
    go_wp2_with (first | (go_at_call 68; refine e1.mono ?_; rintro e w1 ⟨rfl, rfl⟩; clear e1) | (go_at_call 68; refine e2.mono ?_; rintro e w2 ⟨rfl, rfl⟩; clear e2))
    go_ret
    exact ⟨by simp, rfl⟩
/-- how long the row at a cell is -/
def lenAt (w : World) (x i : Nat) : Nat := match w.cell? ⟨x, i, none⟩ with | some (.slice _ n _) => n | _ => 0
theorem RE.len0 (H : RE x s D w) : lenAt w x 0 = s.t1.length := by
  obtain ⟨L, a1, c1, a2, c2, a3, c3, H⟩ := H
  obtain ⟨d0, d1, d2, d3⟩ := H.cells
  simp [lenAt, d0]
theorem RE.len2 (H : RE x s D w) : lenAt w x 2 = s.b1.length := by
  obtain ⟨L, a1, c1, a2, c2, a3, c3, H⟩ := H
  obtain ⟨d0, d1, d2, d3⟩ := H.cells
  simp [lenAt, d2, A.ks_len]
theorem ks_drop (l : List Ls.It) (n : Nat) : A.ks (l.drop n) = (A.ks l).drop n := List.map_drop
/-- the oldest of G goes: what is laid is one of two spellings -/
theorem ReIn.popped3 {L : Nat → Nat} {a1 a2 : Option Addr} {c1 c2 c3 g off : Nat} (H : ReIn D L w x s a1 c1 a2 c2 (some ⟨g, off, none⟩) c3) (hD : ∀ k, w.heap.size ≤ k → D k) {n : Nat} (hn : n = s.b1.length - 1) :
    RE x { s with b1 := s.b1.drop 1 } D (w.setCell ⟨x, 2, none⟩ (.slice (if c3 = 1 then some ⟨g, off, none⟩ else some ⟨g, off + 1, none⟩) n (c3 - 1))) := by
  have e : n = (A.ks (s.b1.drop 1)).length := by rw [hn, A.ks_len]; simp
  rw [e]
  by_cases h : c3 = 1
  · rw [if_pos h, h]
    have hz := H.r3.1
    rw [A.ks_len] at hz
    have he : s.b1.drop 1 = [] := List.eq_nil_of_length_eq_zero (by simp; omega)
    exact ⟨_, _, _, _, _, _, _, H.put3 hD (Keeps.refl _ _) (by rw [he]; exact Row.bare _)⟩
  · rw [if_neg h]
    have := H.r3.drop 1
    rw [← ks_drop] at this
    exact ⟨_, _, _, _, _, _, _, H.put3 hD (Keeps.refl _ _) (this.wide (fun _ _ h => .inl h))⟩
set_option maxRecDepth 20000 in
set_option maxHeartbeats 4000000 in
theorem rghost_any (H : RE x s D w) (hs : Small s) (hD : ∀ k, w.heap.size ≤ k → D k) (key : ByteArray) :
    Calls Tryd.prog 73 #[.pointer (some ⟨x, 0, none⟩), .string key] w fun e w' => e = .returned (.tuple #[]) ∧ RE x (A.ghosted s key) D w' ∧ Keeps D w w' := by
  have l3 := hs.l3
  have hc := hs.hc
  have hsm : A.small s ≤ 1024 := by unfold A.small; omega
  have HGm : Hid (A.gmax s = max 1 (s.c - A.small s)) := rfl
  obtain ⟨L, a1, c1, a2, c2, a3, c3, H⟩ := H
  have HH : Hid (ReIn D L w x s a1 c1 a2 c2 a3 c3) := H
  have HD : Hid (∀ k, w.heap.size ≤ k → D k) := hD
  obtain ⟨d0, d1, d2, d3⟩ := H.cells
  have e2 : (w.alloc (.cells #[] 9)).cell? ⟨x, 2, none⟩ = some (.slice a3 (A.ks s.b1).length c3) := (H.below ((Below.refl _ w).alloc (Nat.le_refl _) _)).cells.2.2.1
  clear H hs hD
  go_enter Tryd.func73, Tryd.ntmps73
  go_wp2_with (first
    | (at_builtin; (refine wpList_append_row (zs := []) (ks := A.ks s.b1) (D := fun g => w.heap.size ≤ g) rfl _ _ rfl rfl (Row.bare _) (vx := .slice a3 (A.ks s.b1).length c3) rfl ((HH.out.r3.below ((Below.refl _ w).alloc (Nat.le_refl _) _)).src) (by simp; omega) ?_); intro a5 n5 w5 hr5 hk5; rw [List.nil_append] at hr5; have hb5 : Below w.heap.size w w5 := ((Below.refl _ w).alloc (Nat.le_refl _) _).trans (hk5.below (by simp) (fun _ h => h)); have hs5 := hb5.size; have hr5' : Row (w.heap.size ≤ ·) w5 a5 n5 (A.ks s.b1) := (hr5.wide (fun g _ h => by rcases h with h | h; exact h; exact Nat.le_trans (by simp) h)); simp only [List.length_nil, Nat.zero_add]; clear hk5 e2 hr5)
    | (at_builtin; go_must (refine wpList_append_row (zs := A.ks s.b1) (ks := [key]) rfl _ _ rfl rfl (hr5'.below ((Below.refl _ _).alloc (Nat.le_refl _) _)) rfl (src_one _ key) (by simp; omega) ?_); intro a6 n6 w6 hr6 hk6; have hb6 : Below w.heap.size w w6 := (hb5.alloc hs5 _).trans (hk6.below (by simp; omega) (fun _ h => h)); have hr6' : Row (w.heap.size ≤ ·) w6 a6 n6 (A.ks (s.b1 ++ [⟨key, 0⟩])) := (by rw [A.ks_snoc]; exact (hr6.wide (fun g _ h => by rcases h with h | h; exact h; exact Nat.le_trans (Nat.le_trans hs5 (by simp)) h))); have H6 : Hid (RE x { s with b1 := s.b1 ++ [⟨key, 0⟩] } D (w6.setCell ⟨x, 2, none⟩ (.slice a6 ((A.ks s.b1).length + [key].length) n6))) := (by have h := HH.out.put3 HD.out (.of_below hb6) (hr6'.wide (fun _ _ h => .inr h)); rw [show (A.ks (s.b1 ++ [⟨key, 0⟩])).length = (A.ks s.b1).length + [key].length by simp [A.ks_len]] at h; exact ⟨_, _, _, _, _, _, _, h⟩); have HK6 : Hid (Keeps D w (w6.setCell ⟨x, 2, none⟩ (.slice a6 ((A.ks s.b1).length + [key].length) n6))) := ((Keeps.of_below hb6).setCell (p := ⟨x, 2, none⟩) HH.out.dx _); obtain ⟨u0, u1, u2, u3⟩ := (HH.out.below hb6).cells; obtain ⟨v0, v1, v2, v3⟩ := (HH.out.below hb6).thaw; clear hk6 hr5' hr6 hr6'))
  clear u0 u1 u2 u3 v0 v1 v2 v3 d0 d1 d2 d3 hb6 hb5 hs5 HH
  generalize w6.setCell ⟨x, 2, none⟩ (.slice a6 ((A.ks s.b1).length + [key].length) n6) = W7 at *
  obtain ⟨B, hB⟩ : ∃ B, B = s.b1 ++ [⟨key, 0⟩] := ⟨_, rfl⟩
  have hBl : B.length ≤ 4101 := by rw [hB]; rw [A.ks_len] at l3; simp; omega
  have hGh : Hid (A.ghosted s key = { s with b1 := B.drop (B.length - A.gmax s) }) := by show A.ghosted s key = _; rw [hB]; rfl
  have H7 : RE x { s with b1 := B.drop 0 } D W7 := by rw [hB]; exact H6.out
  have hk7 := HK6.out
  clear hB H6 HK6
  go_loopw [] (fun wr => ∃ j : Nat, j ≤ B.length - A.gmax s ∧ RE x { s with b1 := B.drop j } D wr ∧ Keeps D w wr) (fun wr => lenAt wr x 2)
  case atStart => exact ⟨0, Nat.zero_le _, H7, hk7⟩
  case round =>
    clear H7 hk7
    obtain ⟨j, hj, HR, hkr⟩ := hrel
    have hDr : ∀ k, wr.heap.size ≤ k → D k := fun k h => HD.out k (Nat.le_trans hkr.size h)
    obtain ⟨sj, hsj⟩ : ∃ sj : Stt, sj = { s with b1 := B.drop j } := ⟨_, rfl⟩
    have q3 : sj.b1.length = B.length - j := by rw [hsj]; simp
    have qc : sj.c = s.c := by rw [hsj]
    have HQ : Hid (sj.b1.length = B.length - j) := q3
    rw [← hsj] at HR
    have HM3 : Hid (lenAt wr x 2 = B.length - j) := by show lenAt wr x 2 = B.length - j; rw [HR.len2]; exact q3
    have HK : Hid (Keeps D w wr) := hkr
    have HRE : Hid (RE x sj D wr) := HR
    have hsmall : ∀ q, Calls Tryd.prog 72 #[.pointer (some ⟨x, 0, none⟩)] (wr.drewN q) fun e w' => e = .returned (.int .i64 (A.small s : Nat)) ∧ w' = wr.drewN q := fun q => by
      have h := rsmall_any (HR.below (below_drewN (Below.refl _ wr) q)) (by rw [qc]; exact hc)
      unfold A.small at h ⊢
      rw [qc] at h
      exact h
    have HE : Hid ({ sj with b1 := sj.b1.drop 1 } = ({ s with b1 := B.drop (j + 1) } : Stt)) := by
      show ({ sj with b1 := sj.b1.drop 1 } : Stt) = _
      rw [hsj]
      simp [List.drop_drop]
    have HS : Hid (sj = ({ s with b1 := B.drop j } : Stt)) := hsj
    obtain ⟨L2, r1, k1, r2, k2, r3, k3, HR⟩ := HR
    obtain ⟨d0, d1, d2, d3⟩ := HR.cells
    obtain ⟨f0, f1, f2, f3⟩ := HR.thaw
    rw [A.ks_len, q3] at d2
    rw [qc] at d3
    have hgm := HGm.out
    have w13 : IntKind.i64.wrap ((s.c : Int) - (A.small s : Nat)) = (s.c : Int) - (A.small s : Nat) := by rw [IntKind.wrap_i64]; omega
    generalize hM : B.length - j = M at *
    rcases Nat.lt_or_ge (A.gmax s) M with hgt | hle
    · have g13 : decide (max 1 ((s.c : Int) - (A.small s : Nat)) < (M : Int)) = true := decide_eq_true (by omega)
      have g14 : decide ((s.c : Int) - (A.small s : Nat) < (M : Int)) = true := decide_eq_true (by omega)
      have g15 : decide (1 < M) = true := decide_eq_true (by omega)
      have g18 : (s.c : Int) - (A.small s : Nat) < (M : Int) := by omega
      have g19 : 1 < M := by omega
      have hMp : 0 < M := by omega
      obtain ⟨g, off, rfl⟩ := HR.r3.shape (by have := HR.r3.1; rw [A.ks_len] at this; omega)
      have HPA : Hid (∀ q, RE x { sj with b1 := sj.b1.drop 1 } D ((wr.drewN q).setCell ⟨x, 2, none⟩ (.slice (if k3 = 1 then some ⟨g, off, none⟩ else some ⟨g, off + 1, none⟩) (M - 1) (k3 - 1)))) := fun q => (HR.below (below_drewN (Below.refl _ wr) q)).popped3 hDr (n := M - 1) (by omega)
      have HKQ : Hid (∀ q v, Keeps D w ((wr.drewN q).setCell ⟨x, 2, none⟩ v)) := fun q v => (HK.out.drewN q).setCell (p := ⟨x, 2, none⟩) HR.dx _
      have hjl : j + 1 ≤ B.length - A.gmax s := by omega
      generalize A.small s = sm at *
      generalize A.gmax s = gm at *
      clear HR hDr hsj q3 qc hkr hgm
      go_wp2_with fail
      go_quiet (first | (go_at_call 72; refine Calls.quiet_of_same (hsmall _)))
      go_wp2_with fail
      all_goals try (exfalso; omega)
      all_goals
        go_roundw
        case rel =>
          refine ⟨j + 1, hjl, ?_, HKQ.out _ _⟩
          rw [← HE.out]
          exact HPA.out _
        case measure =>
          rw [HM3.out, RE.len2 (HPA.out _)]
          show (sj.b1.drop 1).length < M
          have := HQ.out
          simp
          omega
    · have g13 : decide (max 1 ((s.c : Int) - (A.small s : Nat)) < (M : Int)) = false := decide_eq_false (by omega)
      have g14 : decide ((s.c : Int) - (A.small s : Nat) < (M : Int)) = false ∨ (s.c : Int) - (A.small s : Nat) < 1 := by
        rcases Int.lt_or_le ((s.c : Int) - (A.small s : Nat)) 1 with h | h
        · exact .inr h
        · exact .inl (decide_eq_false (by omega))
      have g15 : (s.c : Int) - (A.small s : Nat) < 1 → decide (1 < M) = false := fun h => decide_eq_false (by omega)
      have hje : j = B.length - A.gmax s := by omega
      have HEnd : Hid (∀ q, RE x (A.ghosted s key) D (wr.drewN q)) := fun q => by
        have HRx := HRE.out
        rw [HS.out, hje] at HRx
        rw [hGh.out]
        exact HRx.below (below_drewN (Below.refl _ wr) q)
      generalize A.small s = sm at *
      clear HR hDr hkr
      rcases g14 with g14 | g14
      rotate_left
      · have g16 := g15 g14
        have g17 : ¬ (1 : Int) ≤ (s.c : Int) - (sm : Nat) := by omega
        clear g15
        go_wp2_with fail
        go_quiet (first | (go_at_call 72; refine Calls.quiet_of_same (hsmall _)))
        go_wp2_with fail
        all_goals try (exfalso; omega)
        all_goals
          exact ⟨rfl, .tuple #[], results_none rfl _ _ _, rfl, HEnd.out _, HK.out.drewN _⟩
      clear g15
      go_wp2_with fail
      all_goals go_quiet (first | (go_at_call 72; refine Calls.quiet_of_same (hsmall _)))
      all_goals go_wp2_with fail
      all_goals try (exfalso; omega)
      all_goals
        exact ⟨rfl, .tuple #[], results_none rfl _ _ _, rfl, HEnd.out _, HK.out.drewN _⟩
end
end Go.Proofs.YtnbfokmodjgaaabDoor
