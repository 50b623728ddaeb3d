/- Two things in memory side by side: whoever writes into one leaves the other alone. -/
import Derived.Test.YtcbaalodhgkgmaaRfk
import Derived.Test.YtcbaalodhgkgmaaAk
namespace Go.Proofs.Ytcbaalodhgkgmaa
open Go.RowKit

/-- what can be said of blocks D alone -/
structure Lies (A : (Nat → Prop) → World → Prop) : Prop where
  kept : ∀ {D D' : Nat → Prop} {w w' : World}, A D w → Keeps D' w w' → (∀ k, D k → ¬ D' k) → A D w'
  wide : ∀ {D D' : Nat → Prop} {w : World}, A D w → (∀ k, D k → D' k) → A D' w
  narrow : ∀ {D : Nat → Prop} {w : World}, A D w → A (fun k => D k ∧ k < w.heap.size) w
/-- both in memory, apart from each other and from the blocks O -/
def Two (A B : (Nat → Prop) → World → Prop) (O : Nat → Prop) (w : World) : Prop :=
  ∃ Da Db : Nat → Prop, A Da w ∧ B Db w ∧ (∀ k, Da k → ¬ Db k ∧ ¬ O k ∧ k < w.heap.size) ∧ (∀ k, Db k → ¬ O k ∧ k < w.heap.size) ∧ ∀ k, O k → k < w.heap.size
section
variable {A A' B B' : (Nat → Prop) → World → Prop} {O : Nat → Prop} {w : World}
theorem Two.onA (la' : Lies A') (lb : Lies B) (la : Lies A) {f : FuncId} {args : Array Value} {Q : Ending → Prop} (h : Two A B O w)
    (hc : ∀ D, A D w → (∀ k, w.heap.size ≤ k → D k) → Calls Try.prog f args w fun e w' => Q e ∧ A' D w' ∧ Keeps D w w') :
    Calls Try.prog f args w fun e w' => Q e ∧ Two A' B O w' ∧ Keeps (fun k => ¬ O k) w w' := by
  obtain ⟨Dl, Dx, hl, hx, h1, h2, h3⟩ := h
  refine (hc (fun k => Dl k ∨ w.heap.size ≤ k) (la.wide hl (fun k e => .inl e)) (fun k e => .inr e)).mono ?_
  rintro e w' ⟨he, hl', hk⟩
  have hs := hk.size
  refine ⟨he, ⟨_, Dx, la'.narrow hl', lb.kept hx hk ?_, ?_, fun k e => ⟨(h2 k e).1, by have := (h2 k e).2; omega⟩, fun k e => by have := h3 k e; omega⟩, hk.mono ?_⟩
  · rintro k e (e2 | e2)
    · exact (h1 k e2).1 e
    · have := (h2 k e).2; omega
  · rintro k ⟨e | e, e2⟩
    · exact ⟨(h1 k e).1, (h1 k e).2.1, e2⟩
    · exact ⟨fun e3 => by have := (h2 k e3).2; omega, fun e3 => by have := h3 k e3; omega, e2⟩
  · rintro k _ (e | e) e2
    · exact (h1 k e).2.1 e2
    · have := h3 k e2; omega
theorem Two.onB (lb' : Lies B') (la : Lies A) (lb : Lies B) {f : FuncId} {args : Array Value} {Q : Ending → Prop} (h : Two A B O w)
    (hc : ∀ D, B D w → (∀ k, w.heap.size ≤ k → D k) → Calls Try.prog f args w fun e w' => Q e ∧ B' D w' ∧ Keeps D w w') :
    Calls Try.prog f args w fun e w' => Q e ∧ Two A B' O w' ∧ Keeps (fun k => ¬ O k) w w' := by
  obtain ⟨Dl, Dx, hl, hx, h1, h2, h3⟩ := h
  refine (hc (fun k => Dx k ∨ w.heap.size ≤ k) (lb.wide hx (fun k e => .inl e)) (fun k e => .inr e)).mono ?_
  rintro e w' ⟨he, hx', hk⟩
  have hs := hk.size
  refine ⟨he, ⟨Dl, _, la.kept hl hk ?_, lb'.narrow hx', ?_, ?_, fun k e => by have := h3 k e; omega⟩, hk.mono ?_⟩
  · rintro k e (e2 | e2)
    · exact (h1 k e).1 e2
    · have := (h1 k e).2.2; omega
  · intro k e
    refine ⟨?_, (h1 k e).2.1, by have := (h1 k e).2.2; omega⟩
    rintro ⟨e2 | e2, _⟩
    · exact (h1 k e).1 e2
    · have := (h1 k e).2.2; omega
  · rintro k ⟨e | e, e2⟩
    · exact ⟨(h2 k e).1, e2⟩
    · exact ⟨fun e3 => by have := h3 k e3; omega, e2⟩
  · rintro k _ (e | e) e2
    · exact (h2 k e).1 e2
    · have := h3 k e2; omega
theorem Two.below (la : Lies A) (lb : Lies B) {w' : World} (h : Two A B O w) (hb : Below w.heap.size w w') : Two A B O w' := by
  obtain ⟨Dl, Dx, hl, hx, h1, h2, h3⟩ := h
  have hs := hb.size
  exact ⟨Dl, Dx, la.kept (D' := fun _ => False) hl (.of_below hb) (fun _ _ e => e), lb.kept (D' := fun _ => False) hx (.of_below hb) (fun _ _ e => e), fun k e => ⟨(h1 k e).1, (h1 k e).2.1, by have := (h1 k e).2.2; omega⟩, fun k e => ⟨(h2 k e).1, by have := (h2 k e).2; omega⟩, fun k e => by have := h3 k e; omega⟩
theorem Two.left (h : Two A B O w) : ∃ D, A D w := by
  obtain ⟨Dl, Dx, hl, _⟩ := h; exact ⟨_, hl⟩
theorem Two.right (h : Two A B O w) : ∃ D, B D w := by
  obtain ⟨Dl, Dx, _, hx, _⟩ := h; exact ⟨_, hx⟩
theorem Keeps.old {w' : World} {B : Nat} (h : Keeps (fun k => ¬ k < B) w w') (hB : B ≤ w.heap.size) : Below B w w' := h.below hB (fun k e => by omega)
/-- both, at the start -/
theorem two_start (la : Lies A) (lb : Lies B) {w w1 w2 : World} (H : A (w.heap.size ≤ ·) w1) (h1 : w.heap.size ≤ w1.heap.size) (HX : B (w1.heap.size ≤ ·) w2) (hk : Keeps (w1.heap.size ≤ ·) w1 w2) :
    Two A B (fun k => k < w.heap.size) w2 := by
  have hs := hk.size
  refine ⟨_, _, la.kept (la.narrow H) hk ?_, lb.narrow HX, ?_, ?_, ?_⟩
  · rintro k ⟨_, e⟩ e2; omega
  · rintro k ⟨e1, e2⟩
    exact ⟨fun e => by omega, by omega, by omega⟩
  · rintro k ⟨e1, e2⟩
    exact ⟨by omega, e2⟩
  · intro k e; omega
end
/-- an index of numbers, of blocks D -/
theorem AE_lies (e b : Nat) (s : Stt) : Lies (AE e b s) :=
  ⟨fun h hk hd => AE.kept h hk (fun k _ hx => hd k hx), fun h hD => AE.wide h (fun k _ hx => hD k hx), fun h => AE.narrow h⟩
theorem RE_lies (x : Nat) (s : Stt) : Lies (RE x s) :=
  ⟨fun h hk hd => RE.kept h hk hd, fun h hD => RE.wide h (fun k _ hx => hD k hx), fun h => RE.narrow h⟩
end Go.Proofs.Ytcbaalodhgkgmaa
