/- A region whose operations leave the world as it is, in whatever order; what else the laws over rows of keys want. -/
import Derived.Test.YtdiggfiapbifpaaAg
import Derived.Test.YtdiggfiapbifpaaIv
namespace Go.Proofs.Ytdiggfiapbifpaa
open Go.RowKit Go.ChangeShapes Go.WideShapes

section
variable {P : Program} {ops : Array Oper} {Q : Exit → Act → World → Prop}
/-- a frame in which the slots from b on are filled -/
def fillA (b : Nat) (val : Nat → Value) : Nat → Act → Act
  | 0, a => a
  | n + 1, a => (fillA b val n a).put (some (b + n)) (val n)
theorem fillA_defers (b : Nat) (val : Nat → Value) (n : Nat) (a : Act) : (fillA b val n a).defers = a.defers := by
  induction n with
  | zero => rfl
  | succ n ih => simpa [fillA, Act.put] using ih
theorem fillA_size (b : Nat) (val : Nat → Value) (n : Nat) (a : Act) : (fillA b val n a).tmps.size = a.tmps.size := by
  induction n with
  | zero => rfl
  | succ n ih => simpa [fillA, Act.put] using ih
theorem fillA_at (b : Nat) (val : Nat → Value) (n : Nat) (a : Act) (k : Nat) (hk : b + n ≤ a.tmps.size) : (fillA b val n a).tmps.getD k undef = if b ≤ k ∧ k < b + n then val (k - b) else a.tmps.getD k undef := by
  induction n with
  | zero => rw [if_neg (by omega)]; rfl
  | succ n ih =>
    by_cases e : b + n = k
    · subst e
      show ((fillA b val n a).put (some (b + n)) (val n)).tmps.getD (b + n) undef = _
      rw [put_here (by rw [fillA_size]; omega), if_pos (by omega)]
      congr 1; omega
    · show ((fillA b val n a).put (some (b + n)) (val n)).tmps.getD k undef = _
      rw [put_far e, ih (by omega)]
      by_cases h : b ≤ k ∧ k < b + n
      · rw [if_pos h, if_pos (by omega)]
      · rw [if_neg h, if_neg (by omega)]
/-- what holds all along: but for the region's own slots the frame is as at the start -/
def Still (b m : Nat) (a0 a : Act) : Prop := a.defers = a0.defers ∧ a.tmps.size = a0.tmps.size ∧ ∀ k, k < b ∨ b + m < k → a.tmps.getD k undef = a0.tmps.getD k undef
theorem Still.put {b m i : Nat} {a0 a : Act} {v : Value} (h : Still b m a0 a) (hi : i ≤ m) : Still b m a0 (a.put (some (b + i)) v) :=
  ⟨by simpa [Act.put] using h.1, by simpa [Act.put] using h.2.1, fun k hk => by rw [put_far (by omega)]; exact h.2.2 k hk⟩
theorem act_ext {a b : Act} (h1 : a.tmps.size = b.tmps.size) (h2 : ∀ k, k < a.tmps.size → a.tmps.getD k undef = b.tmps.getD k undef) (h3 : a.defers = b.defers) : a = b := by
  obtain ⟨t, d⟩ := a
  obtain ⟨t', d'⟩ := b
  simp only at h1 h2 h3
  subst h3
  congr 1
  apply Array.ext h1
  intro i hi hj
  have := h2 i hi
  simpa [hi, hj] using this
/-- a region of operations that leave the world as it is: each yields one value, in whatever order -/
theorem region_same {id : Nat} {a : Act} {w : World} (hmx : P.follows .mixedOrders = true) (m b : Nat) (hn : ops.size = m + 1) (val : Nat → Value)
    (hlex : ∀ (i : Nat) (o : Oper), ops[i]? = some o → ∀ e ∈ o.after, Region.binds .any e = true → e.on < i)
    (hwait : ∀ i, i < m → ∃ j, i < j ∧ j ≤ m ∧ Region.waitsFor .any ops j i = true)
    (hsz : b + m < a.tmps.size)
    (hstep : ∀ i, i ≤ m → ∀ a', Still b m a a' → (∀ j, Region.waitsFor .any ops i j = true → a'.tmps.getD (b + j) undef = val j) →
      ∀ K : Act → World → Prop, K (a'.put (some (b + i)) (val i)) w.drew → wpOp P ops Q i K a' w.drew)
    (hQ : Q .normal (fillA b val (m + 1) a) w.drew) : (Code.region id ops true).wp P Q a w := by
  refine region_inv hmx m hn (fun j => b + j) (fun j v _ => v = val j) (fun a' W => W = w.drew ∧ Still b m a a') hlex hwait ?_ ?_ ?_ ?_ ?_
  · intro i j _ _ h; omega
  · rintro a' W ⟨_, h⟩ i hi
    rw [h.2.1]
    omega
  · exact ⟨rfl, rfl, rfl, fun _ _ => rfl⟩
  · rintro i hi a' W ⟨rfl, h⟩ hdep
    exact ⟨val i, _, fun K hK => hstep i (by omega) a' h hdep K hK, ⟨rfl, h.put (by omega)⟩, rfl, fun _ _ h => h⟩
  · rintro a' W ⟨rfl, h⟩ hall
    refine hstep m (Nat.le_refl _) a' h (fun j hj => hall j ?_) _ ?_
    · obtain ⟨oj, hoj, e, he, hb, rfl⟩ := Region.waitsFor_spec hj
      exact hlex m oj hoj e he hb
    · have : a'.put (some (b + m)) (val m) = fillA b val (m + 1) a := by
        have hp := h.put (v := val m) (Nat.le_refl m)
        refine act_ext (by rw [fillA_size]; exact hp.2.1) (fun k hk => ?_) (by rw [fillA_defers]; exact hp.1)
        rw [fillA_at _ _ _ _ _ (by omega)]
        by_cases hr : b ≤ k ∧ k < b + (m + 1)
        · rw [if_pos hr]
          by_cases e : b + m = k
          · subst e
            rw [put_here (by rw [h.2.1]; omega)]
            congr 1; omega
          · rw [put_far e]
            have := hall (k - b) (by omega)
            rw [show b + (k - b) = k by omega] at this
            exact this
        · rw [if_neg hr, hp.2.2 k (by omega)]
      rw [this]
      exact hQ
end
theorem still_op {P : Program} {ops : Array Oper} {Q : Exit → Act → World → Prop} {i : Nat} {o : Oper} {K : Act → World → Prop} {a : Act} {W : World} (ho : ops[i]? = some o) (hg : o.guard = none) (h : o.wp P a W K Q) : wpOp P ops Q i K a W := by
  unfold wpOp
  rw [ho]
  simp only [Region.wanted, hg, if_true]
  exact .inl h
theorem still_on {P : Program} {ops : Array Oper} {Q : Exit → Act → World → Prop} {i j d : Nat} {b : Bool} {o oj : Oper} {K : Act → World → Prop} {a : Act} {W : World} (ho : ops[i]? = some o) (hg : o.guard = some (j, b)) (hj : ops[j]? = some oj) (hd : oj.dst = some d) (hv : a.tmps.getD d undef = .bool b) (h : o.wp P a W K Q) : wpOp P ops Q i K a W := by
  unfold wpOp
  rw [ho]
  have : Region.wanted o (yielded ops a.tmps) = true := by
    simp only [Region.wanted, hg, yielded, hj, hd, Option.bind_some]
    cases hx : a.tmps[d]? with
    | none => rw [Array.getD_eq_getD_getElem?, hx] at hv; cases hv
    | some v => rw [Array.getD_eq_getD_getElem?, hx] at hv; simp at hv; subst hv; simp
  simp only [this, if_true]
  exact .inl h
theorem still_off {P : Program} {ops : Array Oper} {Q : Exit → Act → World → Prop} {i j d di : Nat} {b : Bool} {o oj : Oper} {K : Act → World → Prop} {a : Act} {W : World} (ho : ops[i]? = some o) (hg : o.guard = some (j, b)) (hj : ops[j]? = some oj) (hd : oj.dst = some d) (hv : a.tmps.getD d undef = .bool (!b)) (hdi : o.dst = some di) (h : K (a.put (some di) undef) W) : wpOp P ops Q i K a W := by
  unfold wpOp
  rw [ho]
  have : Region.wanted o (yielded ops a.tmps) = false := by
    simp only [Region.wanted, hg, yielded, hj, hd, Option.bind_some]
    cases hx : a.tmps[d]? with
    | none => rw [Array.getD_eq_getD_getElem?, hx] at hv; cases hv
    | some v => rw [Array.getD_eq_getD_getElem?, hx] at hv; simp at hv; subst hv; cases b <;> simp
  simp only [this, Bool.false_eq_true, if_false]
  rw [hdi]
  exact h
theorem Still.at {b m : Nat} {a0 a : Act} (h : Still b m a0 a) (k : Nat) (hk : k < b ∨ b + m < k) : a.tmps[k]?.getD undef = a0.tmps[k]?.getD undef := by
  have := h.2.2 k hk
  simpa using this
theorem rowIn_take {w : World} {ad : Option Addr} {zs : List ByteArray} (h : RowIn Value.string w ad zs) (k : Nat) : RowIn Value.string w ad (zs.take k) := by
  rcases h with h | ⟨g, off, e, h⟩
  · subst h; exact .inl (by simp)
  · refine .inr ⟨g, off, e, fun i z hz => h i z ?_⟩
    rw [List.getElem?_take] at hz
    split at hz
    · exact hz
    · cases hz
end Go.Proofs.Ytdiggfiapbifpaa
