/- A row of keys, the oldest first, with a room: what Add and Take make of it. Of no program. -/
namespace Go.Proofs.Ytdiggfiapbifpaa.G

section
variable {κ : Type} [DecidableEq κ]
/-- a row without a key -/
def cut (l : List κ) (k : κ) : List κ := l.filter (fun x => decide (x ≠ k))
theorem mem_cut {l : List κ} {k x : κ} : x ∈ cut l k ↔ x ∈ l ∧ x ≠ k := by simp [cut]
theorem cut_same {l : List κ} {k : κ} (h : k ∉ l) : cut l k = l := by
  unfold cut
  rw [List.filter_eq_self]
  intro x hx
  simp
  rintro rfl
  exact h hx
theorem cut_not (l : List κ) (k : κ) : k ∉ cut l k := by simp [cut]
theorem cut_append (l m : List κ) (k : κ) : cut (l ++ m) k = cut l k ++ cut m k := by simp [cut]
theorem cut_cons_self (l : List κ) (k : κ) : cut (k :: l) k = cut l k := by simp [cut]
theorem cut_cons_far {x k : κ} (h : x ≠ k) (l : List κ) : cut (x :: l) k = x :: cut l k := by simp [cut, h]
theorem cut_mid {l r : List κ} {k : κ} (hl : k ∉ l) (hr : k ∉ r) : cut (l ++ k :: r) k = l ++ r := by
  rw [cut_append, cut_cons_self, cut_same hl, cut_same hr]
theorem cut_le (l : List κ) (k : κ) : (cut l k).length ≤ l.length := List.length_filter_le _ _
theorem cut_nodup {l : List κ} (h : l.Nodup) (k : κ) : (cut l k).Nodup := h.filter _
/-- is a key there? -/
def has (l : List κ) (k : κ) : Bool := l.any (fun x => decide (x = k))
theorem has_yes {l : List κ} {k : κ} (h : k ∈ l) : has l k = true := by simp [has, h]
theorem has_no {l : List κ} {k : κ} (h : k ∉ l) : has l k = false := by simp [has]; intro x hx e; subst e; exact h hx
/-- a key is the newest -/
def laid (l : List κ) (k : κ) : List κ := cut l k ++ [k]
theorem laid_len (l : List κ) (k : κ) : (laid l k).length = (cut l k).length + 1 := by simp [laid]
theorem laid_nodup {l : List κ} (h : l.Nodup) (k : κ) : (laid l k).Nodup := by
  unfold laid
  rw [List.nodup_append]
  refine ⟨cut_nodup h k, by simp, ?_⟩
  intro a ha b hb e
  simp at hb
  subst hb
  subst e
  exact cut_not l a ha
/-- Add: who goes, and what is left -/
def add (c : Nat) (l : List κ) (k : κ) : Option κ × List κ :=
  if c < (laid l k).length then ((laid l k).head?, (laid l k).tail) else (none, laid l k)
theorem add_fit {c : Nat} {l : List κ} {k : κ} (h : (laid l k).length ≤ c) : add c l k = (none, laid l k) := by
  unfold add
  rw [if_neg (by omega)]
theorem add_over {c : Nat} {l : List κ} {k x : κ} {r : List κ} (h : c < (laid l k).length) (e : laid l k = x :: r) : add c l k = (some x, r) := by
  unfold add
  rw [if_pos h, e]
  rfl
/-- a row as it may be: each key once, no more than there is room for -/
def Ok (c : Nat) (l : List κ) : Prop := l.Nodup ∧ l.length ≤ c ∧ 1 ≤ c ∧ c ≤ 1024
omit [DecidableEq κ] in
theorem Ok.empty {c : Nat} (h1 : 1 ≤ c) (h2 : c ≤ 1024) : Ok c ([] : List κ) := ⟨List.nodup_nil, Nat.zero_le _, h1, h2⟩
theorem Ok.cut {c : Nat} {l : List κ} (h : Ok c l) (k : κ) : Ok c (cut l k) := ⟨cut_nodup h.1 k, Nat.le_trans (cut_le l k) h.2.1, h.2.2⟩
theorem Ok.add {c : Nat} {l : List κ} (h : Ok c l) (k : κ) : Ok c (add c l k).2 := by
  have hl := laid_len l k
  have hc := cut_le l k
  have hb := h.2.1
  by_cases hf : (laid l k).length ≤ c
  · rw [add_fit hf]
    exact ⟨laid_nodup h.1 k, hf, h.2.2⟩
  · cases e : laid l k with
    | nil => rw [e] at hl; simp at hl
    | cons x r =>
      rw [add_over (by omega) e]
      have hn := laid_nodup h.1 k
      rw [e] at hn hl
      simp at hn hl
      exact ⟨hn.2, by show r.length ≤ c; omega, h.2.2⟩
theorem laid_in {l r : List κ} {k : κ} (h : (l ++ k :: r).Nodup) : laid (l ++ k :: r) k = l ++ r ++ [k] := by
  rw [List.nodup_append] at h
  obtain ⟨_, h2, h3⟩ := h
  rw [List.nodup_cons] at h2
  unfold laid
  rw [cut_mid (fun e => h3 k e k (by simp) rfl) h2.1]
theorem laid_out {l : List κ} {k : κ} (h : k ∉ l) : laid l k = l ++ [k] := by unfold laid; rw [cut_same h]
theorem add_in {c : Nat} {l : List κ} {k : κ} (h : Ok c l) (hk : k ∈ l) : add c l k = (none, laid l k) := by
  refine add_fit ?_
  obtain ⟨a, r, rfl⟩ := List.append_of_mem hk
  rw [laid_in h.1]
  have := h.2.1
  simp at this ⊢
  omega
end
/-- the room, held within its bounds -/
def heldC (n : Int) : Nat := (max 1 (min n 1024)).toNat
theorem heldC_in (n : Int) : 1 ≤ heldC n ∧ heldC n ≤ 1024 := by unfold heldC; omega
theorem heldC_eq (n : Int) : min (max n 1) 1024 = ((heldC n : Nat) : Int) := by unfold heldC; omega
end Go.Proofs.Ytdiggfiapbifpaa.G
