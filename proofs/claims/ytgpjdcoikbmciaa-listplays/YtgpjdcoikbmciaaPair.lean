/- A list and the document's answer, side by side: whoever writes into one leaves the other alone. -/
import Derived.Test.YtgpjdcoikbmciaaRef5
namespace Go.Proofs.Ytgpjdcoikbmciaa
open Go.RowKit

theorem LA.len {α : Type} {V : α → Value} {te tl : TypeId} {B : Nat → Prop} {w : World} {p : Nat} {row free : List Nat} {va : Nat → α} {n : Nat} (h : LA V te tl B w p row free va n) : row.length + free.length = n := by
  obtain ⟨s, _, R, _, rfl⟩ := h
  exact R.len
theorem LA.facts {α : Type} {V : α → Value} {te tl : TypeId} {B : Nat → Prop} {w : World} {p : Nat} {row free : List Nat} {va : Nat → α} {n : Nat} (h : LA V te tl B w p row free va n) : row.Nodup ∧ handOf free n ∉ row ∧ ∀ k ∈ row, 1 ≤ k ∧ k ≤ n := by
  obtain ⟨s, _, R, _, rfl⟩ := h
  have := R.rowNd
  rw [List.nodup_cons] at this
  exact ⟨this.2, by rw [← R.more.2]; exact R.hand_new.2.1, fun k hk => (R.mem k).1 (by simp [hk])⟩

/-- both in memory, apart from each other and from the blocks O -/
def Pair (O : Nat → Prop) (w : World) (p x : Nat) (row free : List Nat) (va : Nat → ByteArray) (n : Nat) (rx fx : List Nat) (vx : Nat → ByteArray) (nx : Nat) : Prop :=
  ∃ Dl Dx : Nat → Prop, LA Value.string 60 58 Dl w p row free va n ∧ RA Dx w x rx fx vx nx ∧ (∀ k, Dl k → ¬ Dx k ∧ ¬ O k ∧ k < w.heap.size) ∧ (∀ k, Dx k → ¬ O k ∧ k < w.heap.size) ∧ ∀ k, O k → k < w.heap.size
section
variable {O : Nat → Prop} {w : World} {p x : Nat} {row free : List Nat} {va : Nat → ByteArray} {n : Nat} {rx fx : List Nat} {vx : Nat → ByteArray} {nx : Nat}
theorem Pair.onL {f : FuncId} {args : Array Value} {Q : Ending → Prop} {row' free' : List Nat} {va' : Nat → ByteArray} {n' : Nat} (h : Pair O w p x row free va n rx fx vx nx)
    (hc : ∀ D, LA Value.string 60 58 D w p row free va n → (∀ k, w.heap.size ≤ k → D k) → Calls Try.prog f args w fun e w' => Q e ∧ LA Value.string 60 58 D w' p row' free' va' n' ∧ Keeps D w w') :
    Calls Try.prog f args w fun e w' => Q e ∧ Pair O w' p x row' free' va' n' rx fx vx nx ∧ Keeps (fun k => ¬ O k) w w' := by
  obtain ⟨Dl, Dx, hl, hx, h1, h2, h3⟩ := h
  refine (hc (fun k => Dl k ∨ w.heap.size ≤ k) (hl.wide (fun k e => .inl e)) (fun k e => .inr e)).mono ?_
  rintro e w' ⟨he, hl', hk⟩
  have hs := hk.size
  refine ⟨he, ⟨_, Dx, hl'.narrow, hx.kept hk ?_, ?_, fun k e => ⟨(h2 k e).1, by have := (h2 k e).2; omega⟩, fun k e => by have := h3 k e; omega⟩, hk.mono ?_⟩
  · rintro k e (e2 | e2)
    · exact (h1 k e2).1 e
    · have := (h2 k e).2; omega
  · rintro k ⟨e | e, e2⟩
    · exact ⟨(h1 k e).1, (h1 k e).2.1, e2⟩
    · exact ⟨fun e3 => by have := (h2 k e3).2; omega, fun e3 => by have := h3 k e3; omega, e2⟩
  · rintro k (e | e) e2
    · exact (h1 k e).2.1 e2
    · have := h3 k e2; omega
theorem Pair.onX {f : FuncId} {args : Array Value} {Q : Ending → Prop} {rx' fx' : List Nat} {vx' : Nat → ByteArray} {nx' : Nat} (h : Pair O w p x row free va n rx fx vx nx)
    (hc : ∀ D, RA D w x rx fx vx nx → (∀ k, w.heap.size ≤ k → D k) → Calls Try.prog f args w fun e w' => Q e ∧ RA D w' x rx' fx' vx' nx' ∧ Keeps D w w') :
    Calls Try.prog f args w fun e w' => Q e ∧ Pair O w' p x row free va n rx' fx' vx' nx' ∧ Keeps (fun k => ¬ O k) w w' := by
  obtain ⟨Dl, Dx, hl, hx, h1, h2, h3⟩ := h
  refine (hc (fun k => Dx k ∨ w.heap.size ≤ k) (hx.wide (fun k e => .inl e)) (fun k e => .inr e)).mono ?_
  rintro e w' ⟨he, hx', hk⟩
  have hs := hk.size
  refine ⟨he, ⟨Dl, _, hl.kept hk ?_, hx'.narrow, ?_, ?_, fun k e => by have := h3 k e; omega⟩, hk.mono ?_⟩
  · rintro k e (e2 | e2)
    · exact (h1 k e).1 e2
    · have := (h1 k e).2.2; omega
  · intro k e
    refine ⟨?_, (h1 k e).2.1, by have := (h1 k e).2.2; omega⟩
    rintro ⟨e2 | e2, _⟩
    · exact (h1 k e).1 e2
    · have := (h1 k e).2.2; omega
  · rintro k ⟨e | e, e2⟩
    · exact ⟨(h2 k e).1, e2⟩
    · exact ⟨fun e3 => by have := h3 k e3; omega, e2⟩
  · rintro k (e | e) e2
    · exact (h2 k e).1 e2
    · have := h3 k e2; omega
theorem Pair.congr {vx' : Nat → ByteArray} (h : Pair O w p x row free va n rx fx vx nx) (hv : ∀ y ∈ rx, vx y = vx' y) : Pair O w p x row free va n rx fx vx' nx := by
  obtain ⟨Dl, Dx, hl, hx, r⟩ := h
  exact ⟨Dl, Dx, hl, hx.congr hv, r⟩
theorem Pair.fewer {O' : Nat → Prop} (h : Pair O w p x row free va n rx fx vx nx) (hO : ∀ k, O' k → O k) : Pair O' w p x row free va n rx fx vx nx := by
  obtain ⟨Dl, Dx, hl, hx, h1, h2, h3⟩ := h
  exact ⟨Dl, Dx, hl, hx, fun k e => ⟨(h1 k e).1, fun e2 => (h1 k e).2.1 (hO k e2), (h1 k e).2.2⟩, fun k e => ⟨fun e2 => (h2 k e).1 (hO k e2), (h2 k e).2⟩, fun k e => h3 k (hO k e)⟩
/-- a new block, and it is protected -/
theorem Pair.boxed (h : Pair O w p x row free va n rx fx vx nx) (o : Obj) : Pair (fun k => O k ∨ k = w.heap.size) (w.alloc o) p x row free va n rx fx vx nx := by
  obtain ⟨Dl, Dx, hl, hx, h1, h2, h3⟩ := h
  have hs : (w.alloc o).heap.size = w.heap.size + 1 := by simp
  refine ⟨Dl, Dx, hl.kept (D := fun _ => False) ((Keeps.refl _ w).alloc o) (fun _ _ e => e), hx.kept (D' := fun _ => False) ((Keeps.refl _ w).alloc o) (fun _ _ e => e), ?_, ?_, ?_⟩
  · intro k e
    have := (h1 k e).2.2
    refine ⟨(h1 k e).1, ?_, by omega⟩
    rintro (e2 | e2)
    · exact (h1 k e).2.1 e2
    · omega
  · intro k e
    have := (h2 k e).2
    refine ⟨?_, by omega⟩
    rintro (e2 | e2)
    · exact (h2 k e).1 e2
    · omega
  · rintro k (e | e)
    · have := h3 k e; omega
    · omega
theorem Pair.below {w' : World} (h : Pair O w p x row free va n rx fx vx nx) (hb : Below w.heap.size w w') : Pair O w' p x row free va n rx fx vx nx := by
  obtain ⟨Dl, Dx, hl, hx, h1, h2, h3⟩ := h
  have hs := hb.size
  exact ⟨Dl, Dx, hl.kept (D := fun _ => False) (.of_below hb) (fun _ _ e => e), hx.kept (D' := fun _ => False) (.of_below hb) (fun _ _ e => e), fun k e => ⟨(h1 k e).1, (h1 k e).2.1, by have := (h1 k e).2.2; omega⟩, fun k e => ⟨(h2 k e).1, by have := (h2 k e).2; omega⟩, fun k e => by have := h3 k e; omega⟩
theorem Pair.left (h : Pair O w p x row free va n rx fx vx nx) : ∃ D, LA Value.string 60 58 D w p row free va n := by
  obtain ⟨Dl, Dx, hl, _⟩ := h; exact ⟨_, hl⟩
theorem Pair.right (h : Pair O w p x row free va n rx fx vx nx) : ∃ D, RA D w x rx fx vx nx := by
  obtain ⟨Dl, Dx, _, hx, _⟩ := h; exact ⟨_, hx⟩
theorem Keeps.boxCells {w w' : World} {b : Nat} {O : Nat → Prop} {cs : Array Value} {t : TypeId} (h : Keeps (fun k => ¬ O k) w w') (hb : O b) (hc : w.heap[b]? = some (.cells cs t (0, 0))) : w'.heap[b]? = some (.cells cs t (0, 0)) :=
  (h.block b (lt_of_block hc) (fun e => e hb)).trans hc
theorem cells_of_three {w : World} {p : Nat} {a b c : Value} {t : TypeId} (h : w.heap[p]? = some (.cells #[a, b, c] t (0, 0))) :
    w.cell? ⟨p, 0, none⟩ = some a ∧ w.cell? ⟨p, 1, none⟩ = some b ∧ w.cell? ⟨p, 2, none⟩ = some c := by
  simp [World.cell?, h]
/-- a row that holds a handle, or does not -/
theorem row_split (row : List Nat) (h : Int) (hnd : row.Nodup) : (∃ (k : Nat) (l r : List Nat), h = k ∧ row = l ++ k :: r ∧ k ∉ l ∧ k ∉ l ++ r) ∨ ∀ k ∈ row, h ≠ (k : Nat) := by
  by_cases hin : ∃ k ∈ row, h = (k : Nat)
  · obtain ⟨k, hk, e⟩ := hin
    obtain ⟨l, r, e2⟩ := List.append_of_mem hk
    refine .inl ⟨k, l, r, e, e2, ?_, ?_⟩
    · rw [e2, nodup_middle, List.nodup_cons] at hnd
      exact fun e => hnd.1 (by simp [e])
    · rw [e2, nodup_middle, List.nodup_cons] at hnd
      exact hnd.1
  · exact .inr (fun k hk e => hin ⟨k, hk, e⟩)
end
end Go.Proofs.Ytgpjdcoikbmciaa
