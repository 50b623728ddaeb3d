/- A region that draws its order of evaluation, by what holds of each slot once it is filled: no order is walked. Of no program. -/
import Derived.StillTail
import Derived.WalkKit
namespace Go.Proofs.Ytdiggfiapbifpaa
open Go.RowKit

section
variable {P : Program} {ops : Array Oper} {Q : Exit → Act → World → Prop}
/-- how many have not come up -/
def unl (m : Nat) (listed : Array Bool) : Nat := (List.range m).countP (fun i => !listed.getD i true)
theorem unl_set {m i : Nat} {listed : Array Bool} (hi : i < m) (h : listed.getD i true = false) : unl m (listed.setIfInBounds i true) < unl m listed := by
  have hs : i < listed.size := by
    rcases Nat.lt_or_ge i listed.size with h1 | h1
    · exact h1
    · simp [Array.getElem?_eq_none h1] at h
  have e1 : (listed.setIfInBounds i true).getD i true = true := by simp [hs]
  unfold unl
  obtain ⟨a, b, hab⟩ := List.append_of_mem (List.mem_range.2 hi)
  have hnd : (List.range m).Nodup := List.nodup_range
  rw [hab] at hnd ⊢
  have hperm := List.perm_middle.nodup_iff.1 hnd
  rw [List.nodup_cons] at hperm
  have hsame : ∀ l : List Nat, i ∉ l → l.countP (fun j => !(listed.setIfInBounds i true).getD j true) = l.countP (fun j => !listed.getD j true) := by
    intro l hl
    apply List.countP_congr
    intro j hj
    rw [getD_set_ne true (by rintro rfl; exact hl hj)]
  have ha : i ∉ a := fun h => hperm.1 (by simp [h])
  have hb : i ∉ b := fun h => hperm.1 (by simp [h])
  rw [List.countP_append, List.countP_cons, List.countP_append, List.countP_cons, hsame a ha, hsame b hb, e1, h]
  simp
/-- what is filled, holds -/
def Iv (dst : Nat → Nat) (F : Nat → Value → World → Prop) (C : Act → World → Prop) (listed : Array Bool) (a : Act) (w : World) : Prop :=
  C a w ∧ ∀ j, listed.getD j false = true → F j (a.tmps.getD (dst j) undef) w
/-- whoever has come up came up behind what it waits for -/
def Shutd (ops : Array Oper) (listed : Array Bool) : Prop := ∀ k, listed.getD k false = true → ∀ j, Region.waitsFor .any ops k j = true → listed.getD j false = true
theorem put_far {a : Act} {d k : Nat} {v : Value} (h : d ≠ k) : (a.put (some d) v).tmps.getD k undef = a.tmps.getD k undef := by
  simp [Act.put, Array.getElem?_setIfInBounds_ne h]
theorem put_here {a : Act} {d : Nat} {v : Value} (h : d < a.tmps.size) : (a.put (some d) v).tmps.getD d undef = v := by
  simp [Act.put, h]
theorem wpAny_inv (m : Nat) (hn : ops.size = m + 1) (dst : Nat → Nat) (F : Nat → Value → World → Prop) (C : Act → World → Prop)
    (hlex : ∀ (i : Nat) (o : Oper), ops[i]? = some o → ∀ e ∈ o.after, Region.binds .any e = true → e.on < i)
    (hwait : ∀ i, i < m → ∃ j, i < j ∧ j ≤ m ∧ Region.waitsFor .any ops j i = true)
    (hinj : ∀ i j, i < m → j < m → i ≠ j → dst i ≠ dst j) (hlt : ∀ a w, C a w → ∀ i, i < m → dst i < a.tmps.size)
    (hstep : ∀ i, i < m → ∀ a w, C a w → (∀ j, Region.waitsFor .any ops i j = true → F j (a.tmps.getD (dst j) undef) w) →
      ∃ v w', (∀ K : Act → World → Prop, K (a.put (some (dst i)) v) w' → wpOp P ops Q i K a w) ∧ C (a.put (some (dst i)) v) w' ∧ F i v w' ∧ ∀ j u, F j u w → F j u w')
    (hlast : ∀ a w, C a w → (∀ j, j < m → F j (a.tmps.getD (dst j) undef) w) → wpOp P ops Q m (fun a' w' => Q .normal a' w') a w) :
    ∀ (fuel : Nat) (listed : Array Bool) (a : Act) (w : World), listed.size = m + 1 → unl (m + 1) listed ≤ fuel → listed.getD m true = false → Shutd ops listed → Iv dst F C listed a w → wpAny P .any ops Q fuel listed a w
  | 0, listed, a, w, hsz, hf, hm, _, _ => by
    exfalso
    unfold unl at hf
    have := List.countP_eq_zero.1 (Nat.le_zero.1 hf) m (by simp)
    rw [hm] at this
    simp at this
  | fuel + 1, listed, a, w, hsz, hf, hm, hS, hI => by
    refine ⟨fun h0 => ?_, fun i hi => ?_⟩
    · exfalso
      obtain ⟨i, hi, hmin⟩ : ∃ i, listed.getD i true = false ∧ ∀ k, k < i → listed.getD k true = true := by
        have : ∀ n, listed.getD n true = false → ∃ i, listed.getD i true = false ∧ ∀ k, k < i → listed.getD k true = true := by
          intro n
          induction n using Nat.strongRecOn with
          | _ n ih =>
            intro h
            by_cases hx : ∃ k, k < n ∧ listed.getD k true = false
            · obtain ⟨k, h1, h2⟩ := hx
              exact ih k h1 h2
            · refine ⟨n, h, fun k hk => ?_⟩
              cases hv : listed.getD k true with
              | true => rfl
              | false => exact absurd ⟨k, hk, hv⟩ hx
        exact this m hm
      have hil : i < listed.size := by
        rcases Nat.lt_or_ge i listed.size with h1 | h1
        · exact h1
        · simp [Array.getElem?_eq_none h1] at hi
      have hio : ops[i]? = some ops[i] := Array.getElem?_eq_getElem (by omega)
      have : i ∈ Region.ready .any ops listed := mem_ready.2 ⟨hi, _, hio, fun e he hb => by
        have h1 := hlex i _ hio e he hb
        have h2 := hmin e.on h1
        have h3 : e.on < listed.size := by omega
        simp [h3] at h2 ⊢
        exact h2⟩
      rw [h0] at this
      cases this
    · obtain ⟨hi0, oi, hoi, hall⟩ := mem_ready.1 hi
      have him : i < m + 1 := by
        have := (Array.getElem?_eq_some_iff.1 hoi).1
        omega
      have hdep : ∀ j, Region.waitsFor .any ops i j = true → listed.getD j false = true := fun j hj => by
        obtain ⟨oj, hoj, e, he, hb, rfl⟩ := Region.waitsFor_spec hj
        have : oj = oi := Option.some.inj (hoj.symm.trans hoi)
        subst this
        exact hall e he hb
      rcases Nat.lt_or_ge i m with h1 | h1
      · obtain ⟨v, w', hK, hC, hF, hmo⟩ := hstep i h1 a w hI.1 (fun j hj => hI.2 j (hdep j hj))
        apply hK
        refine wpAny_inv m hn dst F C hlex hwait hinj hlt hstep hlast fuel _ _ _ (by simpa using hsz) ?_ ?_ ?_ ⟨hC, fun j hj => ?_⟩
        · have := unl_set him hi0
          omega
        · rw [getD_set_ne true (by omega)]
          exact hm
        · intro k hk j hj
          by_cases hik : i = k
          · subst hik
            exact getD_set_true (hdep j hj)
          · rw [getD_set_ne false hik] at hk
            exact getD_set_true (hS k hk j hj)
        · by_cases hji : i = j
          · subst hji
            rw [put_here (hlt a w hI.1 i h1)]
            exact hF
          · rw [getD_set_ne false hji] at hj
            have hjm : j < m := by
              rcases Nat.lt_or_ge j m with h2 | h2
              · exact h2
              · exfalso
                rcases Nat.lt_or_ge m j with h3 | h3
                · simp [Array.getElem?_eq_none (show listed.size ≤ j by omega)] at hj
                · have : j = m := by omega
                  subst this
                  rw [getD_both hm] at hj
                  cases hj
            rw [put_far (hinj i j h1 hjm hji)]
            exact hmo _ _ (hI.2 j hj)
      · have e1 : i = m := by omega
        subst e1
        have hdown : ∀ n j, j < i → i - j ≤ n → listed.getD j false = true := by
          intro n
          induction n with
          | zero => intro j h2 h3; omega
          | succ n ih =>
            intro j h2 h3
            obtain ⟨k, h4, h5, h6⟩ := hwait j h2
            rcases Nat.lt_or_ge k i with h7 | h7
            · exact hS k (ih k h7 (by omega)) j h6
            · have : k = i := by omega
              subst this
              exact hdep j h6
        have hlisted : ∀ j, j < i → listed.getD j false = true := fun j hj => hdown i j hj (by omega)
        refine wpOp_mono (fun a' w' hq => ?_) (hlast a w hI.1 (fun j hj => hI.2 j (hlisted j hj)))
        have hall1 : ∀ j, j < i + 1 → (listed.setIfInBounds i true).getD j true = true := by
          intro j hj
          by_cases hji : i = j
          · subst hji
            simp [show i < listed.size by omega]
          · rw [getD_set_ne true hji]
            have := hlisted j (by omega)
            have h3 : j < listed.size := by omega
            simp [h3] at this ⊢
            exact this
        have hr : Region.ready .any ops (listed.setIfInBounds i true) = [] := by
          rw [List.eq_nil_iff_forall_not_mem]
          intro j hj
          obtain ⟨h2, o, ho, _⟩ := mem_ready.1 hj
          have h3 := (Array.getElem?_eq_some_iff.1 ho).1
          rw [hall1 j (by omega)] at h2
          cases h2
        cases fuel with
        | zero => exact ⟨hr, hq⟩
        | succ f => exact ⟨fun _ => hq, by rw [hr]; simp⟩
theorem lex_of (h : ((List.range ops.size).all fun i => match ops[i]? with | some o => o.after.all (fun e => !Region.binds .any e || decide (e.on < i)) | none => true) = true) :
    ∀ (i : Nat) (o : Oper), ops[i]? = some o → ∀ e ∈ o.after, Region.binds .any e = true → e.on < i := by
  intro i o ho e he hb
  have h1 := List.all_eq_true.1 h i (List.mem_range.2 (Array.getElem?_eq_some_iff.1 ho).1)
  rw [ho] at h1
  have h2 := Array.all_eq_true'.1 h1 e he
  rw [hb] at h2
  simpa using h2
theorem wait_of {m : Nat} (h : Region.sinkB .any ops m = true) : ∀ i, i < m → ∃ j, i < j ∧ j ≤ m ∧ Region.waitsFor .any ops j i = true := by
  intro i hi
  unfold Region.sinkB at h
  have h1 := List.all_eq_true.1 h i (List.mem_range.2 hi)
  obtain ⟨j, hj, hb⟩ := List.any_eq_true.1 h1
  simp only [Bool.and_eq_true, decide_eq_true_eq] at hb
  have := List.mem_range.1 hj
  exact ⟨j, hb.1, by omega, hb.2⟩
/-- the region as a whole -/
theorem region_inv {id : Nat} {a : Act} {w : World} (hmx : P.follows .mixedOrders = true) (m : Nat) (hn : ops.size = m + 1) (dst : Nat → Nat) (F : Nat → Value → World → Prop) (C : Act → World → Prop)
    (hlex : ∀ (i : Nat) (o : Oper), ops[i]? = some o → ∀ e ∈ o.after, Region.binds .any e = true → e.on < i)
    (hwait : ∀ i, i < m → ∃ j, i < j ∧ j ≤ m ∧ Region.waitsFor .any ops j i = true)
    (hinj : ∀ i j, i < m → j < m → i ≠ j → dst i ≠ dst j) (hlt : ∀ a w, C a w → ∀ i, i < m → dst i < a.tmps.size)
    (hstart : C a w.drew)
    (hstep : ∀ i, i < m → ∀ a w, C a w → (∀ j, Region.waitsFor .any ops i j = true → F j (a.tmps.getD (dst j) undef) w) →
      ∃ v w', (∀ K : Act → World → Prop, K (a.put (some (dst i)) v) w' → wpOp P ops Q i K a w) ∧ C (a.put (some (dst i)) v) w' ∧ F i v w' ∧ ∀ j u, F j u w → F j u w')
    (hlast : ∀ a w, C a w → (∀ j, j < m → F j (a.tmps.getD (dst j) undef) w) → wpOp P ops Q m (fun a' w' => Q .normal a' w') a w) :
    (Code.region id ops true).wp P Q a w := by
  refine wp_region_any hmx (wpAny_inv m hn dst F C hlex hwait hinj hlt hstep hlast ops.size _ _ _ (by simp [hn]) ?_ (by simp [hn]) (fun k hk => by rw [getD_replicate_false] at hk; cases hk) ⟨hstart, fun j hj => ?_⟩)
  · unfold unl
    refine Nat.le_trans List.countP_le_length ?_
    simp [hn]
  · rw [getD_replicate_false] at hj
    cases hj
end
end Go.Proofs.Ytdiggfiapbifpaa
