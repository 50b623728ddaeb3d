/- A region that draws its order, two of whose operations change the world, one after the other; each slot's value is known. Of no program. -/
import Derived.Test.YtdiggfiapbifpaaAj
namespace Go.Proofs.Ytdiggfiapbifpaa
open Go.RowKit

section
variable {P : Program} {ops : Array Oper} {Q : Exit → Act → World → Prop}
theorem ready_none (m : Nat) (hn : ops.size = m + 1) (hlex : ∀ (i : Nat) (o : Oper), ops[i]? = some o → ∀ e ∈ o.after, Region.binds .any e = true → e.on < i) {listed : Array Bool} (hsz : listed.size = m + 1)
    (h0 : Region.ready .any ops listed = []) : ∀ k, listed.getD k true = true := by
  intro k
  cases hk : listed.getD k true with
  | true => rfl
  | false =>
    exfalso
    obtain ⟨i, hi, hmin⟩ : ∃ i, listed.getD i true = false ∧ ∀ k, k < i → listed.getD k true = true := by
      have : ∀ n, listed.getD n true = false → ∃ i, listed.getD i true = false ∧ ∀ k, k < i → listed.getD k true = true := by
        intro n
        induction n using Nat.strongRecOn with
        | _ n ih =>
          intro h
          by_cases hx : ∃ k, k < n ∧ listed.getD k true = false
          · obtain ⟨k, h1, h2⟩ := hx
            exact ih k h1 h2
          · refine ⟨n, h, fun k hk => ?_⟩
            cases hv : listed.getD k true with
            | true => rfl
            | false => exact absurd ⟨k, hk, hv⟩ hx
      exact this k hk
    have hil : i < listed.size := by
      rcases Nat.lt_or_ge i listed.size with h1 | h1
      · exact h1
      · simp [Array.getElem?_eq_none h1] at hi
    have hio : ops[i]? = some ops[i] := Array.getElem?_eq_getElem (by omega)
    have : i ∈ Region.ready .any ops listed := mem_ready.2 ⟨hi, _, hio, fun e he hb => by
      have h1 := hlex i _ hio e he hb
      have h2 := hmin e.on h1
      have h3 : e.on < listed.size := by omega
      simp [h3] at h2 ⊢
      exact h2⟩
    rw [h0] at this
    cases this
theorem ready_all {m : Nat} (hn : ops.size = m + 1) {listed : Array Bool} (hall : ∀ k, k < m + 1 → listed.getD k true = true) : Region.ready .any ops listed = [] := by
  rw [List.eq_nil_iff_forall_not_mem]
  intro j hj
  obtain ⟨h2, o, ho, _⟩ := mem_ready.1 hj
  have h3 := (Array.getElem?_eq_some_iff.1 ho).1
  rw [hall j (by omega)] at h2
  cases h2
/-- by what holds of the slots that have come up -/
theorem wpAny_list (m : Nat) (hn : ops.size = m + 1) (I : Array Bool → Act → World → Prop)
    (hlex : ∀ (i : Nat) (o : Oper), ops[i]? = some o → ∀ e ∈ o.after, Region.binds .any e = true → e.on < i)
    (hstep : ∀ listed i a w, listed.size = m + 1 → i < m + 1 → listed.getD i true = false → I listed a w → (∀ j, Region.waitsFor .any ops i j = true → listed.getD j false = true) →
      wpOp P ops Q i (fun a' w' => I (listed.setIfInBounds i true) a' w') a w)
    (hlast : ∀ listed a w, listed.size = m + 1 → (∀ k, k < m + 1 → listed.getD k false = true) → I listed a w → Q .normal a w) :
    ∀ (fuel : Nat) (listed : Array Bool) (a : Act) (w : World), listed.size = m + 1 → unl (m + 1) listed ≤ fuel → I listed a w → wpAny P .any ops Q fuel listed a w
  | 0, listed, a, w, hsz, hf, hI => by
    have hall : ∀ k, k < m + 1 → listed.getD k true = true := by
      intro k hk
      unfold unl at hf
      have := List.countP_eq_zero.1 (Nat.le_zero.1 hf) k (by simpa using hk)
      simpa using this
    refine ⟨ready_all hn hall, hlast listed a w hsz (fun k hk => ?_) hI⟩
    have h1 := hall k hk
    have h3 : k < listed.size := by omega
    simp [h3] at h1 ⊢
    exact h1
  | fuel + 1, listed, a, w, hsz, hf, hI => by
    refine ⟨fun h0 => ?_, fun i hi => ?_⟩
    · have hall := ready_none m hn hlex hsz h0
      refine hlast listed a w hsz (fun k hk => ?_) hI
      have h1 := hall k
      have h3 : k < listed.size := by omega
      simp [h3] at h1 ⊢
      exact h1
    · obtain ⟨hi0, oi, hoi, hall⟩ := mem_ready.1 hi
      have him : i < m + 1 := by
        have := (Array.getElem?_eq_some_iff.1 hoi).1
        omega
      refine wpOp_mono (fun a' w' hq => ?_) (hstep listed i a w hsz him hi0 hI (fun j hj => ?_))
      · refine wpAny_list m hn I hlex hstep hlast fuel _ _ _ (by simpa using hsz) ?_ hq
        have := unl_set him hi0
        omega
      · obtain ⟨oj, hoj, e, he, hb, rfl⟩ := Region.waitsFor_spec hj
        have : oj = oi := Option.some.inj (hoj.symm.trans hoi)
        subst this
        exact hall e he hb
/-- how far: none of the two, the first, both -/
def stg (p q : Nat) (listed : Array Bool) : Nat := if listed.getD q false = true then 2 else if listed.getD p false = true then 1 else 0
theorem region_two {id : Nat} {a : Act} {w : World} (hmx : P.follows .mixedOrders = true) (m b p q : Nat) (hn : ops.size = m + 1) (hpq : p < q) (hqm : q ≤ m) (val : Nat → Value) (S : Nat → World → Prop)
    (hlex : ∀ (i : Nat) (o : Oper), ops[i]? = some o → ∀ e ∈ o.after, Region.binds .any e = true → e.on < i)
    (hw : Region.waitsFor .any ops q p = true)
    (hsz : b + m < a.tmps.size) (hS : S 0 w.drew)
    (hstep : ∀ i, i ≤ m → i ≠ p → i ≠ q → ∀ a' W s, S s W → Still b m a a' → (∀ j, Region.waitsFor .any ops i j = true → a'.tmps.getD (b + j) undef = val j) →
      ∀ K : Act → World → Prop, K (a'.put (some (b + i)) (val i)) W → wpOp P ops Q i K a' W)
    (hp : ∀ a' W, S 0 W → Still b m a a' → (∀ j, Region.waitsFor .any ops p j = true → a'.tmps.getD (b + j) undef = val j) →
      ∀ K : Act → World → Prop, (∀ W', S 1 W' → K (a'.put (some (b + p)) (val p)) W') → wpOp P ops Q p K a' W)
    (hq : ∀ a' W, S 1 W → Still b m a a' → (∀ j, Region.waitsFor .any ops q j = true → a'.tmps.getD (b + j) undef = val j) →
      ∀ K : Act → World → Prop, (∀ W', S 2 W' → K (a'.put (some (b + q)) (val q)) W') → wpOp P ops Q q K a' W)
    (hQ : ∀ W, S 2 W → Q .normal (fillA b val (m + 1) a) W) : (Code.region id ops true).wp P Q a w := by
  refine wp_region_any hmx (wpAny_list m hn (fun listed a' W => Still b m a a' ∧ (∀ j, listed.getD j false = true → a'.tmps.getD (b + j) undef = val j) ∧ (listed.getD q false = true → listed.getD p false = true) ∧ S (stg p q listed) W) hlex ?_ ?_ ops.size _ _ _ (by simp [hn]) ?_ ?_)
  · rintro listed i a' W hs hi hl ⟨hst, hv, hc, hW⟩ hdep
    have hlf : listed.getD i false = false := by
      have h3 : i < listed.size := by omega
      simp [h3] at hl ⊢
      exact hl
    have hv' : ∀ (v : Value), v = val i → ∀ j, (listed.setIfInBounds i true).getD j false = true → (a'.put (some (b + i)) v).tmps.getD (b + j) undef = val j := by
      rintro v rfl j hj
      by_cases e : i = j
      · subst e
        rw [put_here (by rw [hst.2.1]; omega)]
      · rw [put_far (by omega)]
        rw [getD_set_ne false e] at hj
        exact hv j hj
    have hset : (listed.setIfInBounds i true).getD i false = true := by
      have h3 : i < listed.size := by omega
      simp [h3]
    by_cases e1 : i = p
    · subst e1
      have hnq : listed.getD q false = false := by
        cases h : listed.getD q false with
        | false => rfl
        | true => rw [hc h] at hlf; cases hlf
      have h0 : stg i q listed = 0 := by unfold stg; rw [hnq, hlf]; simp
      rw [h0] at hW
      refine hp a' W hW hst (fun j hj => hv j (hdep j hj)) _ (fun W' hW' => ⟨hst.put (by omega), hv' _ rfl, fun _ => hset, ?_⟩)
      have h1 : stg i q (listed.setIfInBounds i true) = 1 := by unfold stg; rw [getD_set_ne false (by omega), hnq, hset]; simp
      rw [h1]
      exact hW'
    · by_cases e2 : i = q
      · subst e2
        have hlp := hdep p hw
        have h0 : stg p i listed = 1 := by unfold stg; rw [hlf, hlp]; simp
        rw [h0] at hW
        refine hq a' W hW hst (fun j hj => hv j (hdep j hj)) _ (fun W' hW' => ⟨hst.put (by omega), hv' _ rfl, fun _ => by rw [getD_set_ne false (by omega)]; exact hlp, ?_⟩)
        have h1 : stg p i (listed.setIfInBounds i true) = 2 := by unfold stg; rw [hset]; simp
        rw [h1]
        exact hW'
      · refine hstep i (by omega) e1 e2 a' W _ hW hst (fun j hj => hv j (hdep j hj)) _ ⟨hst.put (by omega), hv' _ rfl, ?_, ?_⟩
        · rw [getD_set_ne false e2, getD_set_ne false e1]
          exact hc
        · have h1 : stg p q (listed.setIfInBounds i true) = stg p q listed := by unfold stg; rw [getD_set_ne false e2, getD_set_ne false e1]
          rw [h1]
          exact hW
  · rintro listed a' W hs hall ⟨hst, hv, hc, hW⟩
    have h0 : stg p q listed = 2 := by unfold stg; rw [hall q (by omega)]; simp
    rw [h0] at hW
    have : a' = fillA b val (m + 1) a := by
      refine act_ext (by rw [fillA_size]; exact hst.2.1) (fun k hk => ?_) (by rw [fillA_defers]; exact hst.1)
      rw [fillA_at _ _ _ _ _ (by omega)]
      by_cases hr : b ≤ k ∧ k < b + (m + 1)
      · rw [if_pos hr]
        have := hv (k - b) (hall (k - b) (by omega))
        rw [show b + (k - b) = k by omega] at this
        exact this
      · rw [if_neg hr]
        exact hst.2.2 k (by omega)
    rw [this]
    exact hQ W hW
  · unfold unl
    refine Nat.le_trans List.countP_le_length ?_
    simp [hn]
  · refine ⟨⟨rfl, rfl, fun _ _ => rfl⟩, ?_, ?_, ?_⟩
    · intro j hj
      rw [getD_replicate_false] at hj
      cases hj
    · intro hj
      rw [getD_replicate_false] at hj
      cases hj
    have : stg p q (Array.replicate ops.size false) = 0 := by unfold stg; rw [getD_replicate_false, getD_replicate_false]; simp
    rw [this]
    exact hS
end
end Go.Proofs.Ytdiggfiapbifpaa
