/- Regions as Aj's and Ak's, whose last operation lays what it yields elsewhere. -/
import Derived.Test.YtcphhlfbjkeikabAk
namespace Go.Proofs.Ytcphhlfbjkeikab
open Go.RowKit

section
variable {P : Program} {ops : Array Oper} {Q : Exit → Act → World → Prop}
theorem still_fill {b m : Nat} {a a' : Act} {vs : Nat → Value} (h : Still b m a a') (hsz : b + m < a.tmps.size) (hv : ∀ j, j ≤ m → a'.tmps.getD (b + j) undef = vs j) : a' = fillA b vs (m + 1) a := by
  refine act_ext (by rw [fillA_size]; exact h.2.1) (fun k hk => ?_) (by rw [fillA_defers]; exact h.1)
  rw [fillA_at _ _ _ _ _ (by omega)]
  by_cases hr : b ≤ k ∧ k < b + (m + 1)
  · rw [if_pos hr]
    have := hv (k - b) (by omega)
    rw [show b + (k - b) = k by omega] at this
    exact this
  · rw [if_neg hr, h.2.2 k (by omega)]
/-- operations 0 to m, then one more -/
theorem region_same1 {id : Nat} {a : Act} {w : World} (hmx : P.follows .mixedOrders = true) (m b : Nat) (hn : ops.size = m + 2) (val : Nat → Value)
    (hlex : ∀ (i : Nat) (o : Oper), ops[i]? = some o → ∀ e ∈ o.after, Region.binds .any e = true → e.on < i)
    (hwait : ∀ i, i < m + 1 → ∃ j, i < j ∧ j ≤ m + 1 ∧ Region.waitsFor .any ops j i = true)
    (hsz : b + m < a.tmps.size)
    (hstep : ∀ i, i ≤ m → ∀ a', Still b m a a' → (∀ j, Region.waitsFor .any ops i j = true → a'.tmps.getD (b + j) undef = val j) →
      ∀ K : Act → World → Prop, K (a'.put (some (b + i)) (val i)) w.drew → wpOp P ops Q i K a' w.drew)
    (hlast : wpOp P ops Q (m + 1) (fun a' w' => Q .normal a' w') (fillA b val (m + 1) a) w.drew) : (Code.region id ops true).wp P Q a w := by
  refine region_inv hmx (m + 1) hn (fun j => b + j) (fun j v _ => v = val j) (fun a' W => W = w.drew ∧ Still b m a a') hlex hwait ?_ ?_ ?_ ?_ ?_
  · intro i j _ _ h; omega
  · rintro a' W ⟨_, h⟩ i hi
    rw [h.2.1]
    omega
  · exact ⟨rfl, rfl, rfl, fun _ _ => rfl⟩
  · rintro i hi a' W ⟨rfl, h⟩ hdep
    exact ⟨val i, _, fun K hK => hstep i (by omega) a' h hdep K hK, ⟨rfl, h.put (by omega)⟩, rfl, fun _ _ h => h⟩
  · rintro a' W ⟨rfl, h⟩ hall
    rw [still_fill h hsz (fun j hj => hall j (by omega))]
    exact hlast
theorem region_low1 {id : Nat} {a : Act} {w : World} (hmx : P.follows .mixedOrders = true) (m b : Nat) (hn : ops.size = m + 2) (F : Nat → Value → World → Prop) (C : World → Prop)
    (hlex : ∀ (i : Nat) (o : Oper), ops[i]? = some o → ∀ e ∈ o.after, Region.binds .any e = true → e.on < i)
    (hwait : ∀ i, i < m + 1 → ∃ j, i < j ∧ j ≤ m + 1 ∧ Region.waitsFor .any ops j i = true)
    (hsz : b + m < a.tmps.size) (hC0 : C w.drew)
    (hstep : ∀ i, i ≤ m → ∀ a' W, C W → Still b m a a' → (∀ j, Region.waitsFor .any ops i j = true → F j (a'.tmps.getD (b + j) undef) W) →
      wpOp P ops Q i (fun a1 w1 => ∃ v, a1 = a'.put (some (b + i)) v ∧ C w1 ∧ F i v w1 ∧ ∀ j u, F j u W → F j u w1) a' W)
    (hlast : ∀ (vs : Nat → Value) W, C W → (∀ j, j ≤ m → F j (vs j) W) → wpOp P ops Q (m + 1) (fun a' w' => Q .normal a' w') (fillA b vs (m + 1) a) W) : (Code.region id ops true).wp P Q a w := by
  have hlt : ∀ i, i < m + 1 → ∀ j, j < m + 1 → i ≠ j → b + i ≠ b + j := by omega
  refine wp_region_any hmx (wpAny_low (m + 1) hn (fun j => b + j) F (fun a' W => C W ∧ Still b m a a') hlex hwait (fun i j hi hj h => hlt i hi j hj h) ?_ ?_ ?_ ops.size _ _ _ (by simp [hn]) ?_ (by simp [hn]) (fun k hk => by rw [getD_replicate_false] at hk; cases hk) ⟨⟨hC0, rfl, rfl, fun _ _ => rfl⟩, fun j hj => ?_⟩)
  · rintro a' W ⟨_, h⟩ i hi
    rw [h.2.1]
    omega
  · rintro i hi a' W ⟨hc, h⟩ hdep
    refine wpOp_mono ?_ (hstep i (by omega) a' W hc h hdep)
    rintro a1 w1 ⟨v, rfl, h1, h2, h3⟩
    exact ⟨v, rfl, ⟨h1, h.put (by omega)⟩, h2, h3⟩
  · rintro a' W ⟨hc, h⟩ hall
    have e1 := still_fill (vs := fun j => a'.tmps.getD (b + j) undef) h hsz (fun j hj => rfl)
    have h9 := hlast (fun j => a'.tmps.getD (b + j) undef) W hc (fun j hj => hall j (by omega))
    rw [← e1] at h9
    exact h9
  · unfold unl
    refine Nat.le_trans List.countP_le_length ?_
    simp [hn]
  · rw [getD_replicate_false] at hj
    cases hj
end
section
variable {P : Program} {ops : Array Oper} {Q : Exit → Act → World → Prop} {i d : Nat} {F : Nat → Value → World → Prop} {C : World → Prop} {a' : Act} {W : World}
theorem low_same {v : Value} (h : ∀ K : Act → World → Prop, K (a'.put (some d) v) W → wpOp P ops Q i K a' W) (hC : C W) (hF : F i v W) :
    wpOp P ops Q i (fun a1 w1 => ∃ v, a1 = a'.put (some d) v ∧ C w1 ∧ F i v w1 ∧ ∀ j u, F j u W → F j u w1) a' W := h _ ⟨v, rfl, hC, hF, fun _ _ h => h⟩
theorem low_new (R : Value → World → Prop) (h : ∀ K : Act → World → Prop, (∀ v w1, R v w1 → K (a'.put (some d) v) w1) → wpOp P ops Q i K a' W) (hR : ∀ v w1, R v w1 → C w1 ∧ F i v w1 ∧ ∀ j u, F j u W → F j u w1) :
    wpOp P ops Q i (fun a1 w1 => ∃ v, a1 = a'.put (some d) v ∧ C w1 ∧ F i v w1 ∧ ∀ j u, F j u W → F j u w1) a' W := h _ (fun v w1 hr => ⟨v, rfl, hR v w1 hr⟩)
/-- all slots hold what val says, but for p and q, which hold rows of zs in new memory -/
def LF (p q : Nat) (zs : List ByteArray) (val : Nat → Value) (j : Nat) (v : Value) (W : World) : Prop :=
  ((j = p ∨ j = q) ∧ ∃ ad cap, v = .slice ad zs.length cap ∧ RowIn Value.string W ad zs) ∨ (j ≠ p ∧ j ≠ q ∧ v = val j)
theorem LF.mono {p q : Nat} {zs : List ByteArray} {val : Nat → Value} {j : Nat} {v : Value} {W' : World} (h : LF p q zs val j v W) (hb : Below W.heap.size W W') : LF p q zs val j v W' := by
  rcases h with ⟨h1, ad, cap, h2, h3⟩ | h
  · exact .inl ⟨h1, ad, cap, h2, h3.later hb⟩
  · exact .inr h
theorem LF.is {p q : Nat} {zs : List ByteArray} {val : Nat → Value} {j : Nat} {v : Value} (h : LF p q zs val j v W) (hp : j ≠ p) (hq : j ≠ q) : v = val j := by
  rcases h with ⟨h1 | h1, _⟩ | h
  · exact absurd h1 hp
  · exact absurd h1 hq
  · exact h.2.2
theorem LF.row {p q : Nat} {zs : List ByteArray} {val : Nat → Value} {j : Nat} {v : Value} (h : LF p q zs val j v W) (hp : j = p ∨ j = q) : ∃ ad cap, v = .slice ad zs.length cap ∧ RowIn Value.string W ad zs := by
  rcases h with ⟨_, h⟩ | ⟨h1, h2, _⟩
  · exact h
  · rcases hp with h | h
    · exact absurd h h1
    · exact absurd h h2
theorem LF.mk {p q : Nat} {zs : List ByteArray} {val : Nat → Value} {j : Nat} (hp : j ≠ p) (hq : j ≠ q) : LF p q zs val j (val j) W := .inr ⟨hp, hq, rfl⟩
end
end Go.Proofs.Ytcphhlfbjkeikab
