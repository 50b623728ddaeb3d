/- Regions that draw their order of evaluation: what holds of each slot once it is filled; no order is walked. Of no program. -/
import Derived.StillTail
import Derived.WalkKit
import Derived.Test.YtcphhlfbjkeikabGreatTx
namespace Go.Proofs.YtcphhlfbjkeikabGreat.Rg
open Go.RowKit

section
variable {P : Program} {ops : Array Oper} {Q : Exit → Act → World → Prop}
/-- how many have not come up -/
def unl (m : Nat) (listed : Array Bool) : Nat := (List.range m).countP (fun i => !listed.getD i true)
theorem unl_set {m i : Nat} {listed : Array Bool} (hi : i < m) (h : listed.getD i true = false) : unl m (listed.setIfInBounds i true) < unl m listed := by
  have hs : i < listed.size := by
    rcases Nat.lt_or_ge i listed.size with h1 | h1
    · exact h1
    · simp [Array.getElem?_eq_none h1] at h
  have e1 : (listed.setIfInBounds i true).getD i true = true := by simp [hs]
  unfold unl
  obtain ⟨a, b, hab⟩ := List.append_of_mem (List.mem_range.2 hi)
  have hnd : (List.range m).Nodup := List.nodup_range
  rw [hab] at hnd ⊢
  have hperm := List.perm_middle.nodup_iff.1 hnd
  rw [List.nodup_cons] at hperm
  have hsame : ∀ l : List Nat, i ∉ l → l.countP (fun j => !(listed.setIfInBounds i true).getD j true) = l.countP (fun j => !listed.getD j true) := by
    intro l hl
    apply List.countP_congr
    intro j hj
    rw [getD_set_ne true (by rintro rfl; exact hl hj)]
  have ha : i ∉ a := fun h => hperm.1 (by simp [h])
  have hb : i ∉ b := fun h => hperm.1 (by simp [h])
  rw [List.countP_append, List.countP_cons, List.countP_append, List.countP_cons, hsame a ha, hsame b hb, e1, h]
  simp
/-- what is filled, holds -/
def Iv (dst : Nat → Nat) (F : Nat → Value → World → Prop) (C : Act → World → Prop) (listed : Array Bool) (a : Act) (w : World) : Prop :=
  C a w ∧ ∀ j, listed.getD j false = true → F j (a.tmps.getD (dst j) undef) w
/-- whoever has come up came up behind what it waits for -/
def Shutd (ops : Array Oper) (listed : Array Bool) : Prop := ∀ k, listed.getD k false = true → ∀ j, Region.waitsFor .any ops k j = true → listed.getD j false = true
theorem put_far {a : Act} {d k : Nat} {v : Value} (h : d ≠ k) : (a.put (some d) v).tmps.getD k undef = a.tmps.getD k undef := by
  simp [Act.put, Array.getElem?_setIfInBounds_ne h]
theorem put_here {a : Act} {d : Nat} {v : Value} (h : d < a.tmps.size) : (a.put (some d) v).tmps.getD d undef = v := by
  simp [Act.put, h]
theorem wpAny_inv (m : Nat) (hn : ops.size = m + 1) (dst : Nat → Nat) (F : Nat → Value → World → Prop) (C : Act → World → Prop)
    (hlex : ∀ (i : Nat) (o : Oper), ops[i]? = some o → ∀ e ∈ o.after, Region.binds .any e = true → e.on < i)
    (hwait : ∀ i, i < m → ∃ j, i < j ∧ j ≤ m ∧ Region.waitsFor .any ops j i = true)
    (hinj : ∀ i j, i < m → j < m → i ≠ j → dst i ≠ dst j) (hlt : ∀ a w, C a w → ∀ i, i < m → dst i < a.tmps.size)
    (hstep : ∀ i, i < m → ∀ a w, C a w → (∀ j, Region.waitsFor .any ops i j = true → F j (a.tmps.getD (dst j) undef) w) →
      ∃ v w', (∀ K : Act → World → Prop, K (a.put (some (dst i)) v) w' → wpOp P ops Q i K a w) ∧ C (a.put (some (dst i)) v) w' ∧ F i v w' ∧ ∀ j u, F j u w → F j u w')
    (hlast : ∀ a w, C a w → (∀ j, j < m → F j (a.tmps.getD (dst j) undef) w) → wpOp P ops Q m (fun a' w' => Q .normal a' w') a w) :
    ∀ (fuel : Nat) (listed : Array Bool) (a : Act) (w : World), listed.size = m + 1 → unl (m + 1) listed ≤ fuel → listed.getD m true = false → Shutd ops listed → Iv dst F C listed a w → wpAny P .any ops Q fuel listed a w
  | 0, listed, a, w, hsz, hf, hm, _, _ => by
    exfalso
    unfold unl at hf
    have := List.countP_eq_zero.1 (Nat.le_zero.1 hf) m (by simp)
    rw [hm] at this
    simp at this
  | fuel + 1, listed, a, w, hsz, hf, hm, hS, hI => by
    refine ⟨fun h0 => ?_, fun i hi => ?_⟩
    · exfalso
      obtain ⟨i, hi, hmin⟩ : ∃ i, listed.getD i true = false ∧ ∀ k, k < i → listed.getD k true = true := by
        have : ∀ n, listed.getD n true = false → ∃ i, listed.getD i true = false ∧ ∀ k, k < i → listed.getD k true = true := by
          intro n
          induction n using Nat.strongRecOn with
          | _ n ih =>
            intro h
            by_cases hx : ∃ k, k < n ∧ listed.getD k true = false
            · obtain ⟨k, h1, h2⟩ := hx
              exact ih k h1 h2
            · refine ⟨n, h, fun k hk => ?_⟩
              cases hv : listed.getD k true with
              | true => rfl
              | false => exact absurd ⟨k, hk, hv⟩ hx
        exact this m hm
      have hil : i < listed.size := by
        rcases Nat.lt_or_ge i listed.size with h1 | h1
        · exact h1
        · simp [Array.getElem?_eq_none h1] at hi
      have hio : ops[i]? = some ops[i] := Array.getElem?_eq_getElem (by omega)
      have : i ∈ Region.ready .any ops listed := mem_ready.2 ⟨hi, _, hio, fun e he hb => by
        have h1 := hlex i _ hio e he hb
        have h2 := hmin e.on h1
        have h3 : e.on < listed.size := by omega
        simp [h3] at h2 ⊢
        exact h2⟩
      rw [h0] at this
      cases this
    · obtain ⟨hi0, oi, hoi, hall⟩ := mem_ready.1 hi
      have him : i < m + 1 := by
        have := (Array.getElem?_eq_some_iff.1 hoi).1
        omega
      have hdep : ∀ j, Region.waitsFor .any ops i j = true → listed.getD j false = true := fun j hj => by
        obtain ⟨oj, hoj, e, he, hb, rfl⟩ := Region.waitsFor_spec hj
        have : oj = oi := Option.some.inj (hoj.symm.trans hoi)
        subst this
        exact hall e he hb
      rcases Nat.lt_or_ge i m with h1 | h1
      · obtain ⟨v, w', hK, hC, hF, hmo⟩ := hstep i h1 a w hI.1 (fun j hj => hI.2 j (hdep j hj))
        apply hK
        refine wpAny_inv m hn dst F C hlex hwait hinj hlt hstep hlast fuel _ _ _ (by simpa using hsz) ?_ ?_ ?_ ⟨hC, fun j hj => ?_⟩
        · have := unl_set him hi0
          omega
        · rw [getD_set_ne true (by omega)]
          exact hm
        · intro k hk j hj
          by_cases hik : i = k
          · subst hik
            exact getD_set_true (hdep j hj)
          · rw [getD_set_ne false hik] at hk
            exact getD_set_true (hS k hk j hj)
        · by_cases hji : i = j
          · subst hji
            rw [put_here (hlt a w hI.1 i h1)]
            exact hF
          · rw [getD_set_ne false hji] at hj
            have hjm : j < m := by
              rcases Nat.lt_or_ge j m with h2 | h2
              · exact h2
              · exfalso
                rcases Nat.lt_or_ge m j with h3 | h3
                · simp [Array.getElem?_eq_none (show listed.size ≤ j by omega)] at hj
                · have : j = m := by omega
                  subst this
                  rw [getD_both hm] at hj
                  cases hj
            rw [put_far (hinj i j h1 hjm hji)]
            exact hmo _ _ (hI.2 j hj)
      · have e1 : i = m := by omega
        subst e1
        have hdown : ∀ n j, j < i → i - j ≤ n → listed.getD j false = true := by
          intro n
          induction n with
          | zero => intro j h2 h3; omega
          | succ n ih =>
            intro j h2 h3
            obtain ⟨k, h4, h5, h6⟩ := hwait j h2
            rcases Nat.lt_or_ge k i with h7 | h7
            · exact hS k (ih k h7 (by omega)) j h6
            · have : k = i := by omega
              subst this
              exact hdep j h6
        have hlisted : ∀ j, j < i → listed.getD j false = true := fun j hj => hdown i j hj (by omega)
        refine wpOp_mono (fun a' w' hq => ?_) (hlast a w hI.1 (fun j hj => hI.2 j (hlisted j hj)))
        have hall1 : ∀ j, j < i + 1 → (listed.setIfInBounds i true).getD j true = true := by
          intro j hj
          by_cases hji : i = j
          · subst hji
            simp [show i < listed.size by omega]
          · rw [getD_set_ne true hji]
            have := hlisted j (by omega)
            have h3 : j < listed.size := by omega
            simp [h3] at this ⊢
            exact this
        have hr : Region.ready .any ops (listed.setIfInBounds i true) = [] := by
          rw [List.eq_nil_iff_forall_not_mem]
          intro j hj
          obtain ⟨h2, o, ho, _⟩ := mem_ready.1 hj
          have h3 := (Array.getElem?_eq_some_iff.1 ho).1
          rw [hall1 j (by omega)] at h2
          cases h2
        cases fuel with
        | zero => exact ⟨hr, hq⟩
        | succ f => exact ⟨fun _ => hq, by rw [hr]; simp⟩
theorem lex_of (h : ((List.range ops.size).all fun i => match ops[i]? with | some o => o.after.all (fun e => !Region.binds .any e || decide (e.on < i)) | none => true) = true) :
    ∀ (i : Nat) (o : Oper), ops[i]? = some o → ∀ e ∈ o.after, Region.binds .any e = true → e.on < i := by
  intro i o ho e he hb
  have h1 := List.all_eq_true.1 h i (List.mem_range.2 (Array.getElem?_eq_some_iff.1 ho).1)
  rw [ho] at h1
  have h2 := Array.all_eq_true'.1 h1 e he
  rw [hb] at h2
  simpa using h2
theorem wait_of {m : Nat} (h : Region.sinkB .any ops m = true) : ∀ i, i < m → ∃ j, i < j ∧ j ≤ m ∧ Region.waitsFor .any ops j i = true := by
  intro i hi
  unfold Region.sinkB at h
  have h1 := List.all_eq_true.1 h i (List.mem_range.2 hi)
  obtain ⟨j, hj, hb⟩ := List.any_eq_true.1 h1
  simp only [Bool.and_eq_true, decide_eq_true_eq] at hb
  have := List.mem_range.1 hj
  exact ⟨j, hb.1, by omega, hb.2⟩
/-- the region as a whole -/
theorem region_inv {id : Nat} {a : Act} {w : World} (hmx : P.follows .mixedOrders = true) (m : Nat) (hn : ops.size = m + 1) (dst : Nat → Nat) (F : Nat → Value → World → Prop) (C : Act → World → Prop)
    (hlex : ∀ (i : Nat) (o : Oper), ops[i]? = some o → ∀ e ∈ o.after, Region.binds .any e = true → e.on < i)
    (hwait : ∀ i, i < m → ∃ j, i < j ∧ j ≤ m ∧ Region.waitsFor .any ops j i = true)
    (hinj : ∀ i j, i < m → j < m → i ≠ j → dst i ≠ dst j) (hlt : ∀ a w, C a w → ∀ i, i < m → dst i < a.tmps.size)
    (hstart : C a w.drew)
    (hstep : ∀ i, i < m → ∀ a w, C a w → (∀ j, Region.waitsFor .any ops i j = true → F j (a.tmps.getD (dst j) undef) w) →
      ∃ v w', (∀ K : Act → World → Prop, K (a.put (some (dst i)) v) w' → wpOp P ops Q i K a w) ∧ C (a.put (some (dst i)) v) w' ∧ F i v w' ∧ ∀ j u, F j u w → F j u w')
    (hlast : ∀ a w, C a w → (∀ j, j < m → F j (a.tmps.getD (dst j) undef) w) → wpOp P ops Q m (fun a' w' => Q .normal a' w') a w) :
    (Code.region id ops true).wp P Q a w := by
  refine wp_region_any hmx (wpAny_inv m hn dst F C hlex hwait hinj hlt hstep hlast ops.size _ _ _ (by simp [hn]) ?_ (by simp [hn]) (fun k hk => by rw [getD_replicate_false] at hk; cases hk) ⟨hstart, fun j hj => ?_⟩)
  · unfold unl
    refine Nat.le_trans List.countP_le_length ?_
    simp [hn]
  · rw [getD_replicate_false] at hj
    cases hj
end
section
variable {P : Program} {ops : Array Oper} {Q : Exit → Act → World → Prop}
/-- a frame in which the slots from b on are filled -/
def fillA (b : Nat) (val : Nat → Value) : Nat → Act → Act
  | 0, a => a
  | n + 1, a => (fillA b val n a).put (some (b + n)) (val n)
theorem fillA_defers (b : Nat) (val : Nat → Value) (n : Nat) (a : Act) : (fillA b val n a).defers = a.defers := by
  induction n with
  | zero => rfl
  | succ n ih => simpa [fillA, Act.put] using ih
theorem fillA_size (b : Nat) (val : Nat → Value) (n : Nat) (a : Act) : (fillA b val n a).tmps.size = a.tmps.size := by
  induction n with
  | zero => rfl
  | succ n ih => simpa [fillA, Act.put] using ih
theorem fillA_at (b : Nat) (val : Nat → Value) (n : Nat) (a : Act) (k : Nat) (hk : b + n ≤ a.tmps.size) : (fillA b val n a).tmps.getD k undef = if b ≤ k ∧ k < b + n then val (k - b) else a.tmps.getD k undef := by
  induction n with
  | zero => rw [if_neg (by omega)]; rfl
  | succ n ih =>
    by_cases e : b + n = k
    · subst e
      show ((fillA b val n a).put (some (b + n)) (val n)).tmps.getD (b + n) undef = _
      rw [put_here (by rw [fillA_size]; omega), if_pos (by omega)]
      congr 1; omega
    · show ((fillA b val n a).put (some (b + n)) (val n)).tmps.getD k undef = _
      rw [put_far e, ih (by omega)]
      by_cases h : b ≤ k ∧ k < b + n
      · rw [if_pos h, if_pos (by omega)]
      · rw [if_neg h, if_neg (by omega)]
/-- what holds all along: but for the region's own slots the frame is as at the start -/
def Still (b m : Nat) (a0 a : Act) : Prop := a.defers = a0.defers ∧ a.tmps.size = a0.tmps.size ∧ ∀ k, k < b ∨ b + m < k → a.tmps.getD k undef = a0.tmps.getD k undef
theorem Still.put {b m i : Nat} {a0 a : Act} {v : Value} (h : Still b m a0 a) (hi : i ≤ m) : Still b m a0 (a.put (some (b + i)) v) :=
  ⟨by simpa [Act.put] using h.1, by simpa [Act.put] using h.2.1, fun k hk => by rw [put_far (by omega)]; exact h.2.2 k hk⟩
theorem act_ext {a b : Act} (h1 : a.tmps.size = b.tmps.size) (h2 : ∀ k, k < a.tmps.size → a.tmps.getD k undef = b.tmps.getD k undef) (h3 : a.defers = b.defers) : a = b := by
  obtain ⟨t, d⟩ := a
  obtain ⟨t', d'⟩ := b
  simp only at h1 h2 h3
  subst h3
  congr 1
  apply Array.ext h1
  intro i hi hj
  have := h2 i hi
  simpa [hi, hj] using this
/-- a region of operations that leave the world as it is: each yields one value, in whatever order -/
theorem region_same {id : Nat} {a : Act} {w : World} (hmx : P.follows .mixedOrders = true) (m b : Nat) (hn : ops.size = m + 1) (val : Nat → Value)
    (hlex : ∀ (i : Nat) (o : Oper), ops[i]? = some o → ∀ e ∈ o.after, Region.binds .any e = true → e.on < i)
    (hwait : ∀ i, i < m → ∃ j, i < j ∧ j ≤ m ∧ Region.waitsFor .any ops j i = true)
    (hsz : b + m < a.tmps.size)
    (hstep : ∀ i, i ≤ m → ∀ a', Still b m a a' → (∀ j, Region.waitsFor .any ops i j = true → a'.tmps.getD (b + j) undef = val j) →
      ∀ K : Act → World → Prop, K (a'.put (some (b + i)) (val i)) w.drew → wpOp P ops Q i K a' w.drew)
    (hQ : Q .normal (fillA b val (m + 1) a) w.drew) : (Code.region id ops true).wp P Q a w := by
  refine region_inv hmx m hn (fun j => b + j) (fun j v _ => v = val j) (fun a' W => W = w.drew ∧ Still b m a a') hlex hwait ?_ ?_ ?_ ?_ ?_
  · intro i j _ _ h; omega
  · rintro a' W ⟨_, h⟩ i hi
    rw [h.2.1]
    omega
  · exact ⟨rfl, rfl, rfl, fun _ _ => rfl⟩
  · rintro i hi a' W ⟨rfl, h⟩ hdep
    exact ⟨val i, _, fun K hK => hstep i (by omega) a' h hdep K hK, ⟨rfl, h.put (by omega)⟩, rfl, fun _ _ h => h⟩
  · rintro a' W ⟨rfl, h⟩ hall
    refine hstep m (Nat.le_refl _) a' h (fun j hj => hall j ?_) _ ?_
    · obtain ⟨oj, hoj, e, he, hb, rfl⟩ := Region.waitsFor_spec hj
      exact hlex m oj hoj e he hb
    · have : a'.put (some (b + m)) (val m) = fillA b val (m + 1) a := by
        have hp := h.put (v := val m) (Nat.le_refl m)
        refine act_ext (by rw [fillA_size]; exact hp.2.1) (fun k hk => ?_) (by rw [fillA_defers]; exact hp.1)
        rw [fillA_at _ _ _ _ _ (by omega)]
        by_cases hr : b ≤ k ∧ k < b + (m + 1)
        · rw [if_pos hr]
          by_cases e : b + m = k
          · subst e
            rw [put_here (by rw [h.2.1]; omega)]
            congr 1; omega
          · rw [put_far e]
            have := hall (k - b) (by omega)
            rw [show b + (k - b) = k by omega] at this
            exact this
        · rw [if_neg hr, hp.2.2 k (by omega)]
      rw [this]
      exact hQ
end
theorem still_op {P : Program} {ops : Array Oper} {Q : Exit → Act → World → Prop} {i : Nat} {o : Oper} {K : Act → World → Prop} {a : Act} {W : World} (ho : ops[i]? = some o) (hg : o.guard = none) (h : o.wp P a W K Q) : wpOp P ops Q i K a W := by
  unfold wpOp
  rw [ho]
  simp only [Region.wanted, hg, if_true]
  exact .inl h
theorem still_on {P : Program} {ops : Array Oper} {Q : Exit → Act → World → Prop} {i j d : Nat} {b : Bool} {o oj : Oper} {K : Act → World → Prop} {a : Act} {W : World} (ho : ops[i]? = some o) (hg : o.guard = some (j, b)) (hj : ops[j]? = some oj) (hd : oj.dst = some d) (hv : a.tmps.getD d undef = .bool b) (h : o.wp P a W K Q) : wpOp P ops Q i K a W := by
  unfold wpOp
  rw [ho]
  have : Region.wanted o (yielded ops a.tmps) = true := by
    simp only [Region.wanted, hg, yielded, hj, hd, Option.bind_some]
    cases hx : a.tmps[d]? with
    | none => rw [Array.getD_eq_getD_getElem?, hx] at hv; cases hv
    | some v => rw [Array.getD_eq_getD_getElem?, hx] at hv; simp at hv; subst hv; simp
  simp only [this, if_true]
  exact .inl h
theorem still_off {P : Program} {ops : Array Oper} {Q : Exit → Act → World → Prop} {i j d di : Nat} {b : Bool} {o oj : Oper} {K : Act → World → Prop} {a : Act} {W : World} (ho : ops[i]? = some o) (hg : o.guard = some (j, b)) (hj : ops[j]? = some oj) (hd : oj.dst = some d) (hv : a.tmps.getD d undef = .bool (!b)) (hdi : o.dst = some di) (h : K (a.put (some di) undef) W) : wpOp P ops Q i K a W := by
  unfold wpOp
  rw [ho]
  have : Region.wanted o (yielded ops a.tmps) = false := by
    simp only [Region.wanted, hg, yielded, hj, hd, Option.bind_some]
    cases hx : a.tmps[d]? with
    | none => rw [Array.getD_eq_getD_getElem?, hx] at hv; cases hv
    | some v => rw [Array.getD_eq_getD_getElem?, hx] at hv; simp at hv; subst hv; cases b <;> simp
  simp only [this, Bool.false_eq_true, if_false]
  rw [hdi]
  exact h
theorem Still.at {b m : Nat} {a0 a : Act} (h : Still b m a0 a) (k : Nat) (hk : k < b ∨ b + m < k) : a.tmps[k]?.getD undef = a0.tmps[k]?.getD undef := by
  have := h.2.2 k hk
  simpa using this
section
variable {P : Program} {ops : Array Oper} {Q : Exit → Act → World → Prop}
theorem wpAny_low (m : Nat) (hn : ops.size = m + 1) (dst : Nat → Nat) (F : Nat → Value → World → Prop) (C : Act → World → Prop)
    (hlex : ∀ (i : Nat) (o : Oper), ops[i]? = some o → ∀ e ∈ o.after, Region.binds .any e = true → e.on < i)
    (hwait : ∀ i, i < m → ∃ j, i < j ∧ j ≤ m ∧ Region.waitsFor .any ops j i = true)
    (hinj : ∀ i j, i < m → j < m → i ≠ j → dst i ≠ dst j) (hlt : ∀ a w, C a w → ∀ i, i < m → dst i < a.tmps.size)
    (hstep : ∀ i, i < m → ∀ a w, C a w → (∀ j, Region.waitsFor .any ops i j = true → F j (a.tmps.getD (dst j) undef) w) →
      wpOp P ops Q i (fun a1 w1 => ∃ v, a1 = a.put (some (dst i)) v ∧ C a1 w1 ∧ F i v w1 ∧ ∀ j u, F j u w → F j u w1) a w)
    (hlast : ∀ a w, C a w → (∀ j, j < m → F j (a.tmps.getD (dst j) undef) w) → wpOp P ops Q m (fun a' w' => Q .normal a' w') a w) :
    ∀ (fuel : Nat) (listed : Array Bool) (a : Act) (w : World), listed.size = m + 1 → unl (m + 1) listed ≤ fuel → listed.getD m true = false → Shutd ops listed → Iv dst F C listed a w → wpAny P .any ops Q fuel listed a w
  | 0, listed, a, w, hsz, hf, hm, _, _ => by
    exfalso
    unfold unl at hf
    have := List.countP_eq_zero.1 (Nat.le_zero.1 hf) m (by simp)
    rw [hm] at this
    simp at this
  | fuel + 1, listed, a, w, hsz, hf, hm, hS, hI => by
    refine ⟨fun h0 => ?_, fun i hi => ?_⟩
    · exfalso
      obtain ⟨i, hi, hmin⟩ : ∃ i, listed.getD i true = false ∧ ∀ k, k < i → listed.getD k true = true := by
        have : ∀ n, listed.getD n true = false → ∃ i, listed.getD i true = false ∧ ∀ k, k < i → listed.getD k true = true := by
          intro n
          induction n using Nat.strongRecOn with
          | _ n ih =>
            intro h
            by_cases hx : ∃ k, k < n ∧ listed.getD k true = false
            · obtain ⟨k, h1, h2⟩ := hx
              exact ih k h1 h2
            · refine ⟨n, h, fun k hk => ?_⟩
              cases hv : listed.getD k true with
              | true => rfl
              | false => exact absurd ⟨k, hk, hv⟩ hx
        exact this m hm
      have hil : i < listed.size := by
        rcases Nat.lt_or_ge i listed.size with h1 | h1
        · exact h1
        · simp [Array.getElem?_eq_none h1] at hi
      have hio : ops[i]? = some ops[i] := Array.getElem?_eq_getElem (by omega)
      have : i ∈ Region.ready .any ops listed := mem_ready.2 ⟨hi, _, hio, fun e he hb => by
        have h1 := hlex i _ hio e he hb
        have h2 := hmin e.on h1
        have h3 : e.on < listed.size := by omega
        simp [h3] at h2 ⊢
        exact h2⟩
      rw [h0] at this
      cases this
    · obtain ⟨hi0, oi, hoi, hall⟩ := mem_ready.1 hi
      have him : i < m + 1 := by
        have := (Array.getElem?_eq_some_iff.1 hoi).1
        omega
      have hdep : ∀ j, Region.waitsFor .any ops i j = true → listed.getD j false = true := fun j hj => by
        obtain ⟨oj, hoj, e, he, hb, rfl⟩ := Region.waitsFor_spec hj
        have : oj = oi := Option.some.inj (hoj.symm.trans hoi)
        subst this
        exact hall e he hb
      rcases Nat.lt_or_ge i m with h1 | h1
      · refine wpOp_mono ?_ (hstep i h1 a w hI.1 (fun j hj => hI.2 j (hdep j hj)))
        rintro _ w' ⟨v, rfl, hC, hF, hmo⟩
        refine wpAny_low m hn dst F C hlex hwait hinj hlt hstep hlast fuel _ _ _ (by simpa using hsz) ?_ ?_ ?_ ⟨hC, fun j hj => ?_⟩
        · have := unl_set him hi0
          omega
        · rw [getD_set_ne true (by omega)]
          exact hm
        · intro k hk j hj
          by_cases hik : i = k
          · subst hik
            exact getD_set_true (hdep j hj)
          · rw [getD_set_ne false hik] at hk
            exact getD_set_true (hS k hk j hj)
        · by_cases hji : i = j
          · subst hji
            rw [put_here (hlt a w hI.1 i h1)]
            exact hF
          · rw [getD_set_ne false hji] at hj
            have hjm : j < m := by
              rcases Nat.lt_or_ge j m with h2 | h2
              · exact h2
              · exfalso
                rcases Nat.lt_or_ge m j with h3 | h3
                · simp [Array.getElem?_eq_none (show listed.size ≤ j by omega)] at hj
                · have : j = m := by omega
                  subst this
                  rw [getD_both hm] at hj
                  cases hj
            rw [put_far (hinj i j h1 hjm hji)]
            exact hmo _ _ (hI.2 j hj)
      · have e1 : i = m := by omega
        subst e1
        have hdown : ∀ n j, j < i → i - j ≤ n → listed.getD j false = true := by
          intro n
          induction n with
          | zero => intro j h2 h3; omega
          | succ n ih =>
            intro j h2 h3
            obtain ⟨k, h4, h5, h6⟩ := hwait j h2
            rcases Nat.lt_or_ge k i with h7 | h7
            · exact hS k (ih k h7 (by omega)) j h6
            · have : k = i := by omega
              subst this
              exact hdep j h6
        have hlisted : ∀ j, j < i → listed.getD j false = true := fun j hj => hdown i j hj (by omega)
        refine wpOp_mono (fun a' w' hq => ?_) (hlast a w hI.1 (fun j hj => hI.2 j (hlisted j hj)))
        have hall1 : ∀ j, j < i + 1 → (listed.setIfInBounds i true).getD j true = true := by
          intro j hj
          by_cases hji : i = j
          · subst hji
            simp [show i < listed.size by omega]
          · rw [getD_set_ne true hji]
            have := hlisted j (by omega)
            have h3 : j < listed.size := by omega
            simp [h3] at this ⊢
            exact this
        have hr : Region.ready .any ops (listed.setIfInBounds i true) = [] := by
          rw [List.eq_nil_iff_forall_not_mem]
          intro j hj
          obtain ⟨h2, o, ho, _⟩ := mem_ready.1 hj
          have h3 := (Array.getElem?_eq_some_iff.1 ho).1
          rw [hall1 j (by omega)] at h2
          cases h2
        cases fuel with
        | zero => exact ⟨hr, hq⟩
        | succ f => exact ⟨fun _ => hq, by rw [hr]; simp⟩
theorem region_low {id : Nat} {a : Act} {w : World} (hmx : P.follows .mixedOrders = true) (m b : Nat) (hn : ops.size = m + 1) (F : Nat → Value → World → Prop) (C : World → Prop)
    (hlex : ∀ (i : Nat) (o : Oper), ops[i]? = some o → ∀ e ∈ o.after, Region.binds .any e = true → e.on < i)
    (hwait : ∀ i, i < m → ∃ j, i < j ∧ j ≤ m ∧ Region.waitsFor .any ops j i = true)
    (hsz : b + m < a.tmps.size) (hC0 : C w.drew)
    (hstep : ∀ i, i ≤ m → ∀ a' W, C W → Still b m a a' → (∀ j, Region.waitsFor .any ops i j = true → F j (a'.tmps.getD (b + j) undef) W) →
      wpOp P ops Q i (fun a1 w1 => ∃ v, a1 = a'.put (some (b + i)) v ∧ C w1 ∧ F i v w1 ∧ ∀ j u, F j u W → F j u w1) a' W)
    (hQ : ∀ (vs : Nat → Value) W, C W → (∀ j, j ≤ m → F j (vs j) W) → Q .normal (fillA b vs (m + 1) a) W) : (Code.region id ops true).wp P Q a w := by
  have hlt : ∀ i, i < m → ∀ j, j < m → i ≠ j → b + i ≠ b + j := by omega
  refine wp_region_any hmx (wpAny_low m hn (fun j => b + j) F (fun a' W => C W ∧ Still b m a a') hlex hwait (fun i j hi hj h => hlt i hi j hj h) ?_ ?_ ?_ ops.size _ _ _ (by simp [hn]) ?_ (by simp [hn]) (fun k hk => by rw [getD_replicate_false] at hk; cases hk) ⟨⟨hC0, rfl, rfl, fun _ _ => rfl⟩, fun j hj => ?_⟩)
  · rintro a' W ⟨_, h⟩ i hi
    rw [h.2.1]
    omega
  · rintro i hi a' W ⟨hc, h⟩ hdep
    refine wpOp_mono ?_ (hstep i (by omega) a' W hc h hdep)
    rintro a1 w1 ⟨v, rfl, h1, h2, h3⟩
    exact ⟨v, rfl, ⟨h1, h.put (by omega)⟩, h2, h3⟩
  · rintro a' W ⟨hc, h⟩ hall
    refine wpOp_mono ?_ (hstep m (Nat.le_refl _) a' W hc h (fun j hj => hall j ?_))
    · rintro a1 w1 ⟨v, rfl, h1, h2, h3⟩
      have hp := h.put (v := v) (Nat.le_refl m)
      have e1 : a'.put (some (b + m)) v = fillA b (fun j => if j = m then v else a'.tmps.getD (b + j) undef) (m + 1) a := by
        refine act_ext (by rw [fillA_size]; exact hp.2.1) (fun k hk => ?_) (by rw [fillA_defers]; exact hp.1)
        rw [fillA_at _ _ _ _ _ (by omega)]
        by_cases hr : b ≤ k ∧ k < b + (m + 1)
        · rw [if_pos hr]
          by_cases e : b + m = k
          · subst e
            rw [put_here (by rw [h.2.1]; omega), if_pos (by omega)]
          · rw [put_far e, if_neg (by omega), show b + (k - b) = k by omega]
        · rw [if_neg hr, hp.2.2 k (by omega)]
      rw [e1]
      refine hQ _ _ h1 (fun j hj => ?_)
      by_cases e : j = m
      · subst e
        simp only [if_true]
        exact h2
      · simp only [if_neg e]
        exact h3 _ _ (hall j (by omega))
    · obtain ⟨oj, hoj, e, he, hb, rfl⟩ := Region.waitsFor_spec hj
      exact hlex m oj hoj e he hb
  · unfold unl
    refine Nat.le_trans List.countP_le_length ?_
    simp [hn]
  · rw [getD_replicate_false] at hj
    cases hj
end
section
variable {P : Program} {ops : Array Oper} {Q : Exit → Act → World → Prop} {i d : Nat} {F : Nat → Value → World → Prop} {C : World → Prop} {a' : Act} {W : World}
theorem low_same {v : Value} (h : ∀ K : Act → World → Prop, K (a'.put (some d) v) W → wpOp P ops Q i K a' W) (hC : C W) (hF : F i v W) :
    wpOp P ops Q i (fun a1 w1 => ∃ v, a1 = a'.put (some d) v ∧ C w1 ∧ F i v w1 ∧ ∀ j u, F j u W → F j u w1) a' W := h _ ⟨v, rfl, hC, hF, fun _ _ h => h⟩
theorem low_new (R : Value → World → Prop) (h : ∀ K : Act → World → Prop, (∀ v w1, R v w1 → K (a'.put (some d) v) w1) → wpOp P ops Q i K a' W) (hR : ∀ v w1, R v w1 → C w1 ∧ F i v w1 ∧ ∀ j u, F j u W → F j u w1) :
    wpOp P ops Q i (fun a1 w1 => ∃ v, a1 = a'.put (some d) v ∧ C w1 ∧ F i v w1 ∧ ∀ j u, F j u W → F j u w1) a' W := h _ (fun v w1 hr => ⟨v, rfl, hR v w1 hr⟩)
end
/-- a slot holds what val says -/
def Is (val : Nat → Value) (j : Nat) (v : Value) (_ : World) : Prop := v = val j
theorem Is.mk {val : Nat → Value} {j : Nat} {W : World} : Is val j (val j) W := rfl
theorem Is.is {val : Nat → Value} {j : Nat} {v : Value} {W : World} (h : Is val j v W) : v = val j := h
end Go.Proofs.YtcphhlfbjkeikabGreat.Rg
