/- An act, in both: they answer alike, and stay alike. -/
import Derived.Test.YtgpjdcoikbmciaaPair
namespace Go.Proofs.Ytgpjdcoikbmciaa
open Go.RowKit

/-- both, alike -/
def Alike (O : Nat → Prop) (w : World) (p x : Nat) (row free : List Nat) (va : Nat → ByteArray) (n : Nat) : Prop := Pair O w p x row free va n row free va n
def After (O : Nat → Prop) (w w' : World) (p x n : Nat) : Prop :=
  (∃ row free va n', Alike O w' p x row free va n' ∧ n' ≤ n + 1 ∧ (n' = n ∨ row.length = n')) ∧ Keeps (fun k => ¬ O k) w w'
section
variable {O : Nat → Prop} {w : World} {p x : Nat} {row free : List Nat} {va : Nat → ByteArray} {n : Nat}
theorem more_facts (free : List Nat) (n : Nat) : moreOf free n ≤ n + 1 ∧ (moreOf free n = n ∨ (free = [] ∧ moreOf free n = n + 1)) := by
  cases free <;> simp [moreOf]
theorem Keeps.fewer {w' : World} {O' : Nat → Prop} (h : Keeps (fun k => ¬ O k) w w') (hO : ∀ k, O' k → O k) : Keeps (fun k => ¬ O' k) w w' := h.mono (fun _ e e2 => e (hO _ e2))
theorem Keeps.unboxed {w' : World} {o : Obj} (h : Keeps (fun k => ¬ (O k ∨ k = w.heap.size)) (w.alloc o) w') : Keeps (fun k => ¬ O k) w w' :=
  ((Keeps.refl _ w).alloc o).trans (h.fewer (fun _ e => .inl e))
theorem push_after (hlen : row.length + free.length = n) : moreOf free n ≤ n + 1 ∧ (moreOf free n = n ∨ row.length + 1 = moreOf free n) := by
  obtain ⟨h1, h2⟩ := more_facts free n
  refine ⟨h1, ?_⟩
  rcases h2 with h | ⟨rfl, h⟩
  · exact .inl h
  · simp at hlen; right; omega
end
end Go.Proofs.Ytgpjdcoikbmciaa
