/- A region as Aj's, whose last operation lays what it yields elsewhere. Of no program. -/
import Derived.Test.YtdiggfiapbifpaaAj
namespace Go.Proofs.Ytdiggfiapbifpaa
open Go.RowKit

section
variable {P : Program} {ops : Array Oper} {Q : Exit → Act → World → Prop}
theorem still_fill {b m : Nat} {a a' : Act} {vs : Nat → Value} (h : Still b m a a') (hsz : b + m < a.tmps.size) (hv : ∀ j, j ≤ m → a'.tmps.getD (b + j) undef = vs j) : a' = fillA b vs (m + 1) a := by
  refine act_ext (by rw [fillA_size]; exact h.2.1) (fun k hk => ?_) (by rw [fillA_defers]; exact h.1)
  rw [fillA_at _ _ _ _ _ (by omega)]
  by_cases hr : b ≤ k ∧ k < b + (m + 1)
  · rw [if_pos hr]
    have := hv (k - b) (by omega)
    rw [show b + (k - b) = k by omega] at this
    exact this
  · rw [if_neg hr, h.2.2 k (by omega)]
/-- operations 0 to m, then one more -/
theorem region_same1 {id : Nat} {a : Act} {w : World} (hmx : P.follows .mixedOrders = true) (m b : Nat) (hn : ops.size = m + 2) (val : Nat → Value)
    (hlex : ∀ (i : Nat) (o : Oper), ops[i]? = some o → ∀ e ∈ o.after, Region.binds .any e = true → e.on < i)
    (hwait : ∀ i, i < m + 1 → ∃ j, i < j ∧ j ≤ m + 1 ∧ Region.waitsFor .any ops j i = true)
    (hsz : b + m < a.tmps.size)
    (hstep : ∀ i, i ≤ m → ∀ a', Still b m a a' → (∀ j, Region.waitsFor .any ops i j = true → a'.tmps.getD (b + j) undef = val j) →
      ∀ K : Act → World → Prop, K (a'.put (some (b + i)) (val i)) w.drew → wpOp P ops Q i K a' w.drew)
    (hlast : wpOp P ops Q (m + 1) (fun a' w' => Q .normal a' w') (fillA b val (m + 1) a) w.drew) : (Code.region id ops true).wp P Q a w := by
  refine region_inv hmx (m + 1) hn (fun j => b + j) (fun j v _ => v = val j) (fun a' W => W = w.drew ∧ Still b m a a') hlex hwait ?_ ?_ ?_ ?_ ?_
  · intro i j _ _ h; omega
  · rintro a' W ⟨_, h⟩ i hi
    rw [h.2.1]
    omega
  · exact ⟨rfl, rfl, rfl, fun _ _ => rfl⟩
  · rintro i hi a' W ⟨rfl, h⟩ hdep
    exact ⟨val i, _, fun K hK => hstep i (by omega) a' h hdep K hK, ⟨rfl, h.put (by omega)⟩, rfl, fun _ _ h => h⟩
  · rintro a' W ⟨rfl, h⟩ hall
    rw [still_fill h hsz (fun j hj => hall j (by omega))]
    exact hlast
end
end Go.Proofs.Ytdiggfiapbifpaa
