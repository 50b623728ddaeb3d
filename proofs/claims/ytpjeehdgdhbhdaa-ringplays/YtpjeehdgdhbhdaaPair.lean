/- A ring of numbers and the document's answer, side by side: whoever writes into one leaves the other alone. -/
import Derived.Test.YtpjeehdgdhbhdaaRef
namespace Go.Proofs.Ytpjeehdgdhbhdaa
open Go.RowKit
open Num (V)

/-- both in memory, apart from each other and from the blocks O -/
def Pair (O : Nat → Prop) (w : World) (p x : Nat) (xs zs : List Int) (room : Nat) : Prop :=
  ∃ Dl Dx : Nat → Prop, RG V 3 47 Dl w p xs room ∧ RX Dx w x zs room ∧ (∀ k, Dl k → ¬ Dx k ∧ ¬ O k ∧ k < w.heap.size) ∧ (∀ k, Dx k → ¬ O k ∧ k < w.heap.size) ∧ ∀ k, O k → k < w.heap.size
section
variable {O : Nat → Prop} {w : World} {p x : Nat} {xs zs : List Int} {room : Nat}
theorem Pair.onL {f : FuncId} {args : Array Value} {Q : Ending → Prop} {xs' : List Int} (h : Pair O w p x xs zs room)
    (hc : ∀ D, RG V 3 47 D w p xs room → (∀ k, w.heap.size ≤ k → D k) → Calls Try.prog f args w fun e w' => Q e ∧ RG V 3 47 D w' p xs' room ∧ Keeps D w w') :
    Calls Try.prog f args w fun e w' => Q e ∧ Pair O w' p x xs' zs room ∧ Keeps (fun k => ¬ O k) w w' := by
  obtain ⟨Dl, Dx, hl, hx, h1, h2, h3⟩ := h
  refine (hc (fun k => Dl k ∨ w.heap.size ≤ k) (hl.wide (fun k e => .inl e)) (fun k e => .inr e)).mono ?_
  rintro e w' ⟨he, hl', hk⟩
  have hs := hk.size
  refine ⟨he, ⟨_, Dx, hl'.narrow, hx.kept hk ?_, ?_, fun k e => ⟨(h2 k e).1, by have := (h2 k e).2; omega⟩, fun k e => by have := h3 k e; omega⟩, hk.mono ?_⟩
  · rintro k e (e2 | e2)
    · exact (h1 k e2).1 e
    · have := (h2 k e).2; omega
  · rintro k ⟨e | e, e2⟩
    · exact ⟨(h1 k e).1, (h1 k e).2.1, e2⟩
    · exact ⟨fun e3 => by have := (h2 k e3).2; omega, fun e3 => by have := h3 k e3; omega, e2⟩
  · rintro k (e | e) e2
    · exact (h1 k e).2.1 e2
    · have := h3 k e2; omega
theorem Pair.onX {f : FuncId} {args : Array Value} {Q : Ending → Prop} {zs' : List Int} (h : Pair O w p x xs zs room)
    (hc : ∀ D, RX D w x zs room → (∀ k, w.heap.size ≤ k → D k) → Calls Try.prog f args w fun e w' => Q e ∧ RX D w' x zs' room ∧ Keeps D w w') :
    Calls Try.prog f args w fun e w' => Q e ∧ Pair O w' p x xs zs' room ∧ Keeps (fun k => ¬ O k) w w' := by
  obtain ⟨Dl, Dx, hl, hx, h1, h2, h3⟩ := h
  refine (hc (fun k => Dx k ∨ w.heap.size ≤ k) (hx.wide (fun k e => .inl e)) (fun k e => .inr e)).mono ?_
  rintro e w' ⟨he, hx', hk⟩
  have hs := hk.size
  refine ⟨he, ⟨Dl, _, hl.kept hk ?_, hx'.narrow, ?_, ?_, fun k e => by have := h3 k e; omega⟩, hk.mono ?_⟩
  · rintro k e (e2 | e2)
    · exact (h1 k e).1 e2
    · have := (h1 k e).2.2; omega
  · intro k e
    refine ⟨?_, (h1 k e).2.1, by have := (h1 k e).2.2; omega⟩
    rintro ⟨e2 | e2, _⟩
    · exact (h1 k e).1 e2
    · have := (h1 k e).2.2; omega
  · rintro k ⟨e | e, e2⟩
    · exact ⟨(h2 k e).1, e2⟩
    · exact ⟨fun e3 => by have := h3 k e3; omega, e2⟩
  · rintro k (e | e) e2
    · exact (h2 k e).1 e2
    · have := h3 k e2; omega
theorem Pair.below {w' : World} (h : Pair O w p x xs zs room) (hb : Below w.heap.size w w') : Pair O w' p x xs zs room := by
  obtain ⟨Dl, Dx, hl, hx, h1, h2, h3⟩ := h
  have hs := hb.size
  exact ⟨Dl, Dx, hl.below hb, hx.below hb, fun k e => ⟨(h1 k e).1, (h1 k e).2.1, by have := (h1 k e).2.2; omega⟩, fun k e => ⟨(h2 k e).1, by have := (h2 k e).2; omega⟩, fun k e => by have := h3 k e; omega⟩
theorem Pair.drewN (h : Pair O w p x xs zs room) (q : Nat) : Pair O (w.drewN q) p x xs zs room := h.below (below_drewN (Below.refl _ w) q)
theorem Pair.left (h : Pair O w p x xs zs room) : ∃ D, RG V 3 47 D w p xs room := by
  obtain ⟨Dl, Dx, hl, _⟩ := h; exact ⟨_, hl⟩
theorem Pair.right (h : Pair O w p x xs zs room) : ∃ D ad cap, RefIn D w x zs room ad cap := by
  obtain ⟨Dl, Dx, _, ⟨ad, cap, hx⟩, _⟩ := h; exact ⟨_, ad, cap, hx⟩
theorem Pair.len (h : Pair O w p x xs zs room) : xs.length ≤ room ∧ room ≤ 4096 := by
  obtain ⟨D, h⟩ := h.left; exact h.len
theorem Keeps.old {w' : World} {B : Nat} (h : Keeps (fun k => ¬ k < B) w w') (hB : B ≤ w.heap.size) : Below B w w' := h.below hB (fun k e => by omega)
/-- both, at the start -/
theorem pair_start {w w1 w2 : World} {p x : Nat} (H : RG V 3 47 (w.heap.size ≤ ·) w1 p [] room) (h1 : w.heap.size ≤ w1.heap.size) (HX : RX (w1.heap.size ≤ ·) w2 x [] room) (hk : Keeps (w1.heap.size ≤ ·) w1 w2) :
    Pair (fun k => k < w.heap.size) w2 p x [] [] room := by
  have hs := hk.size
  refine ⟨_, _, H.narrow.kept hk ?_, HX.narrow, ?_, ?_, ?_⟩
  · rintro k ⟨_, e⟩ e2; omega
  · rintro k ⟨e1, e2⟩
    exact ⟨fun e => by omega, by omega, by omega⟩
  · rintro k ⟨e1, e2⟩
    exact ⟨by omega, e2⟩
  · intro k e; omega
end
end Go.Proofs.Ytpjeehdgdhbhdaa
