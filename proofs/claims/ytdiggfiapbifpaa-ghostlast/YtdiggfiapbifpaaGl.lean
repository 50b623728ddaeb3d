/- Of rows of keys that are added one by one: the last ones are there, each once. Of no program. -/
import Derived.Test.YtdiggfiapbifpaaGp
namespace Go.Proofs.Ytdiggfiapbifpaa.G

section
variable {κ : Type} [DecidableEq κ]
/-- one key more, ahead of all -/
def ahead (c : Nat) (x : κ) (l : List κ) : List κ := if l.length < c ∧ x ∉ l then x :: l else l
/-- the last ones, as many as there is room for, each once -/
def last (c : Nat) : List κ → List κ
  | [] => []
  | x :: l => ahead c x (last c l)
theorem ahead_full {c : Nat} {x : κ} {l : List κ} (h : ¬ l.length < c) : ahead c x l = l := by unfold ahead; rw [if_neg (fun e => h e.1)]
theorem ahead_mem {c : Nat} {x : κ} {l : List κ} (h : x ∈ l) : ahead c x l = l := by unfold ahead; rw [if_neg (fun e => e.2 h)]
theorem ahead_new {c : Nat} {x : κ} {l : List κ} (h : l.length < c) (hx : x ∉ l) : ahead c x l = x :: l := by unfold ahead; rw [if_pos ⟨h, hx⟩]
theorem last_ok {c : Nat} (h1 : 1 ≤ c) (h2 : c ≤ 1024) : ∀ l : List κ, Ok c (last c l)
  | [] => Ok.empty h1 h2
  | x :: l => by
    have ih := last_ok h1 h2 l
    show Ok c (ahead c x (last c l))
    by_cases h : (last c l).length < c ∧ x ∉ last c l
    · rw [ahead_new h.1 h.2]
      exact ⟨List.nodup_cons.2 ⟨h.2, ih.1⟩, by simp; omega, ih.2.2⟩
    · unfold ahead
      rw [if_neg h]
      exact ih
theorem last_drop {c : Nat} (l : List κ) : ∀ j, ¬ (last c (l.drop j)).length < c → last c l = last c (l.drop j) := by
  induction l with
  | nil => intro j _; simp
  | cons x l ih =>
    intro j h
    cases j with
    | zero => rfl
    | succ j =>
      rw [List.drop_succ_cons] at h ⊢
      have e := ih j h
      show ahead c x (last c l) = _
      rw [e, ahead_full h]
theorem mem_laid {l : List κ} {k x : κ} : x ∈ laid l k ↔ x ∈ l ∨ x = k := by
  unfold laid
  simp only [List.mem_append, mem_cut, List.mem_singleton]
  by_cases h : x = k
  · simp [h]
  · simp [h]
theorem laid_in_len {c : Nat} {l : List κ} {k : κ} (h : Ok c l) (hk : k ∈ l) : (laid l k).length = l.length := by
  obtain ⟨a, r, rfl⟩ := List.append_of_mem hk
  rw [laid_in h.1]
  simp
theorem ahead_add {c : Nat} {w : List κ} (h : Ok c w) (x k : κ) : ahead c x (add c w k).2 = (add c (ahead c x w) k).2 := by
  have hc := h.2.1
  have hc1 := h.2.2.1
  by_cases h1 : w.length < c
  · by_cases h2 : x ∈ w
    · rw [ahead_mem h2]
      by_cases hk : k ∈ w
      · rw [add_in h hk]
        exact ahead_mem (mem_laid.2 (.inl h2))
      · rw [add_fit (by rw [laid_out hk]; simp; omega)]
        exact ahead_mem (mem_laid.2 (.inl h2))
    · rw [ahead_new h1 h2]
      have hok : Ok c (x :: w) := ⟨List.nodup_cons.2 ⟨h2, h.1⟩, by simp; omega, h.2.2⟩
      by_cases hxk : x = k
      · subst hxk
        rw [add_in hok (by simp), add_fit (by rw [laid_out h2]; simp; omega)]
        have e1 : laid (x :: w) x = laid w x := by unfold laid; rw [cut_cons_self]
        rw [e1]
        exact ahead_mem (mem_laid.2 (.inr rfl))
      · have e1 : laid (x :: w) k = x :: laid w k := by unfold laid; rw [cut_cons_far hxk]; rfl
        have hnx : x ∉ laid w k := fun e => (mem_laid.1 e).elim h2 hxk
        by_cases hk : k ∈ w
        · rw [add_in h hk, add_in hok (by simp [hk]), e1]
          exact ahead_new (by rw [laid_in_len h hk]; exact h1) hnx
        · have hl : (laid w k).length = w.length + 1 := by rw [laid_out hk]; simp
          rw [add_fit (by omega)]
          by_cases h3 : w.length + 1 < c
          · rw [add_fit (by rw [e1]; simp; omega), e1]
            exact ahead_new (by show (laid w k).length < c; omega) hnx
          · rw [add_over (by rw [e1]; simp; omega) e1]
            exact ahead_full (by show ¬ (laid w k).length < c; omega)
  · rw [ahead_full h1]
    refine ahead_full ?_
    by_cases hk : k ∈ w
    · rw [add_in h hk]
      show ¬ (laid w k).length < c
      rw [laid_in_len h hk]
      exact h1
    · have hl : (laid w k).length = w.length + 1 := by rw [laid_out hk]; simp
      cases e : laid w k with
      | nil => rw [e] at hl; simp at hl
      | cons y r =>
        rw [add_over (by omega) e]
        rw [e] at hl
        simp at hl
        show ¬ r.length < c
        omega
theorem last_add {c : Nat} (h1 : 1 ≤ c) (h2 : c ≤ 1024) (l : List κ) (k : κ) : last c (l ++ [k]) = (add c (last c l) k).2 := by
  induction l with
  | nil =>
    show ahead c k [] = _
    rw [ahead_new (by simp; omega) (by simp)]
    have e : laid (last c ([] : List κ)) k = [k] := rfl
    rw [add_fit (by rw [e]; simp; omega), e]
  | cons x l ih =>
    show ahead c x (last c (l ++ [k])) = (add c (ahead c x (last c l)) k).2
    rw [ih]
    exact ahead_add (last_ok h1 h2 l) x k
theorem last_more {c : Nat} (h1 : 1 ≤ c) (h2 : c ≤ 1024) {l : List κ} {j : Nat} {k : κ} (hj : l[j]? = some k) : last c (l.take (j + 1)) = (add c (last c (l.take j)) k).2 := by
  rw [List.take_add_one, hj]
  exact last_add h1 h2 _ k
end
end Go.Proofs.Ytdiggfiapbifpaa.G
