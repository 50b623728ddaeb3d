/- The machine of chapter 12 over plain lists: three rows of keys with counts (t1: S, t2: M, b1: G), a room; what each act answers and leaves. No program is named here. -/
namespace Go.Proofs.YtnbfokmodjgaaabDoor.A

/-- a key, and how often it was used -/
structure It (κ : Type) where
  key : κ
  n : Nat
structure St (κ : Type) where
  t1 : List (It κ)
  t2 : List (It κ)
  b1 : List (It κ)
  c : Nat

section
variable {κ : Type} [DecidableEq κ]

/-- a row without a key -/
def cut (l : List κ) (k : κ) : List κ := l.filter (fun x => decide (x ≠ k))
/-- 1 where two are one -/
def one (a b : κ) : Nat := if a = b then 1 else 0
/-- how often a key is in a row -/
def cnt (k : κ) : List κ → Nat
  | [] => 0
  | x :: l => one x k + cnt k l
theorem one_le (a b : κ) : one a b ≤ 1 := by unfold one; split <;> omega
theorem one_self (a : κ) : one a a = 1 := by simp [one]
theorem one_ne {a b : κ} (h : a ≠ b) : one a b = 0 := by simp [one, h]
theorem one_eq {a b : κ} (h : 0 < one a b) : a = b := by unfold one at h; split at h; assumption; omega
theorem cnt_nil (k : κ) : cnt k [] = 0 := rfl
theorem cnt_cons (k x : κ) (l : List κ) : cnt k (x :: l) = one x k + cnt k l := rfl
theorem cnt_append (k : κ) (l m : List κ) : cnt k (l ++ m) = cnt k l + cnt k m := by
  induction l with
  | nil => simp [cnt]
  | cons x l ih => simp [cnt, ih]; omega
theorem cnt_snoc (k x : κ) (l : List κ) : cnt k (l ++ [x]) = cnt k l + one x k := by rw [cnt_append]; simp [cnt]
theorem cnt_pos {k : κ} {l : List κ} : 0 < cnt k l ↔ k ∈ l := by
  induction l with
  | nil => simp [cnt]
  | cons x l ih =>
    rw [cnt_cons, List.mem_cons, ← ih]
    unfold one
    by_cases h : x = k
    · simp [h]; omega
    · simp [h, Ne.symm h]
theorem cnt_zero {k : κ} {l : List κ} : cnt k l = 0 ↔ k ∉ l := by rw [← cnt_pos]; omega
theorem cnt_cut (k j : κ) (l : List κ) : cnt k (cut l j) = if k = j then 0 else cnt k l := by
  induction l with
  | nil => simp [cut, cnt]
  | cons x l ih =>
    unfold cut at *
    by_cases h : x = j
    · subst h
      simp only [List.filter_cons]
      by_cases h2 : k = x
      · simp [h2] at *; exact ih
      · simp [h2, cnt_cons, one, Ne.symm h2] at *; exact ih
    · simp only [List.filter_cons]
      by_cases h2 : k = j
      · subst h2; simp [h, cnt_cons, one] at *; exact ih
      · simp [h, h2, cnt_cons] at *; exact ih
theorem cut_same {k : κ} {l : List κ} (h : k ∉ l) : cut l k = l := by
  unfold cut
  rw [List.filter_eq_self]
  intro x hx
  simp
  rintro rfl
  exact h hx
/-- each at most once -/
def Once (l : List κ) : Prop := ∀ k, cnt k l ≤ 1
theorem Once.nodup {l : List κ} (h : Once l) : l.Nodup := by
  induction l with
  | nil => simp
  | cons x l ih =>
    rw [List.nodup_cons]
    refine ⟨fun hx => ?_, ih (fun k => by have := h k; rw [cnt_cons] at this; omega)⟩
    have := h x
    rw [cnt_cons, one_self] at this
    have := cnt_pos.2 hx
    omega
theorem once_of_nodup {l : List κ} (h : l.Nodup) : Once l := by
  induction l with
  | nil => intro k; simp [cnt]
  | cons x l ih =>
    rw [List.nodup_cons] at h
    intro k
    rw [cnt_cons]
    by_cases e : x = k
    · subst e
      rw [cnt_zero.2 h.1, one_self]
      omega
    · rw [one_ne e]
      have := ih h.2 k
      omega
theorem cnt_count (k : κ) (l : List κ) : cnt k l = l.count k := by
  induction l with
  | nil => rfl
  | cons x l ih =>
    rw [cnt_cons, List.count_cons, ih]
    by_cases h : x = k
    · simp [h, one]; omega
    · simp [h, one]
/-- rows of the same keys are as long -/
theorem length_of_cnt {l m : List κ} (h : ∀ k, cnt k l = cnt k m) : l.length = m.length := by
  apply List.Perm.length_eq
  rw [List.perm_iff_count]
  intro k
  rw [← cnt_count, ← cnt_count, h]
theorem length_cut {l : List κ} {k : κ} (h : Once l) (hk : k ∈ l) : (cut l k).length + 1 = l.length := by
  have : (k :: cut l k).length = l.length := by
    apply length_of_cnt
    intro j
    rw [cnt_cons, cnt_cut]
    have := h j
    by_cases e : j = k
    · subst e
      have := cnt_pos.2 hk
      rw [one_self]
      simp
      omega
    · rw [one_ne (Ne.symm e)]
      simp [e]
  simpa using this
theorem length_cut_le (l : List κ) (k : κ) : (cut l k).length ≤ l.length := List.length_filter_le _ _
/-- the oldest of a row with each key once: cut by its key it is the rest -/
theorem cut_head {x : κ} {l : List κ} (h : Once (x :: l)) : cut (x :: l) x = l := by
  have hx : x ∉ l := by
    rw [← cnt_zero]
    have := h x
    rw [cnt_cons, one_self] at this
    omega
  have : cut (x :: l) x = cut l x := by simp [cut]
  rw [this, cut_same hx]

/-! ### the machine -/
end
section
variable {κ : Type}
/-- the keys of a row -/
def ks (l : List (It κ)) : List κ := l.map It.key
theorem ks_nil : ks ([] : List (It κ)) = [] := rfl
theorem ks_cons (x : It κ) (l : List (It κ)) : ks (x :: l) = x.key :: ks l := rfl
theorem ks_append (l m : List (It κ)) : ks (l ++ m) = ks l ++ ks m := List.map_append
theorem ks_snoc (l : List (It κ)) (x : It κ) : ks (l ++ [x]) = ks l ++ [x.key] := List.map_append
theorem ks_len (l : List (It κ)) : (ks l).length = l.length := List.length_map _
theorem ks_mem {l : List (It κ)} {k : κ} : k ∈ ks l ↔ ∃ x ∈ l, x.key = k := List.mem_map
def keys (s : St κ) : List κ := ks s.t1 ++ ks s.t2
def ghosts (s : St κ) : List κ := ks s.b1
def start (c : Nat) : St κ := ⟨[], [], [], c⟩
def small (s : St κ) : Nat := max 1 (s.c / 10)
def gmax (s : St κ) : Nat := max 1 (s.c - small s)
/-- no more than so many of the newest -/
def trim (n : Nat) (l : List (It κ)) : List (It κ) := l.drop (l.length - n)
/-- is it one of M that goes? -/
def late (s : St κ) : Bool := decide (s.t1.length ≤ small s) && decide (0 < s.t2.length)
/-- of S: who goes, what is left of S, and M -/
def fromS : List (It κ) → List (It κ) → Option κ × List (It κ) × List (It κ)
  | [], m => (none, [], m)
  | x :: r, m => if 1 < x.n then fromS r (m ++ [⟨x.key, 0⟩]) else (some x.key, r, m)
def total : List (It κ) → Nat
  | [] => 0
  | x :: r => x.n + total r
/-- of M: who goes, what is left of M -/
def turns : Nat → List (It κ) → List κ × List (It κ)
  | _, [] => ([], [])
  | 0, x :: r => ([x.key], r)
  | f + 1, x :: r => if x.n = 0 then ([x.key], r) else turns f (r ++ [⟨x.key, x.n - 1⟩])
def fromM (m : List (It κ)) : List κ × List (It κ) := turns (total m) m
theorem total_append (l m : List (It κ)) : total (l ++ m) = total l + total m := by
  induction l with
  | nil => simp [total]
  | cons x l ih => simp [total, ih]; omega
theorem fromM_zero (x : It κ) (r : List (It κ)) (h : x.n = 0) : fromM (x :: r) = ([x.key], r) := by
  unfold fromM
  cases ht : total (x :: r) with
  | zero => rfl
  | succ n => simp [turns, h]
theorem fromM_more (x : It κ) (r : List (It κ)) (h : 0 < x.n) : fromM (x :: r) = fromM (r ++ [⟨x.key, x.n - 1⟩]) := by
  unfold fromM
  have e : total (x :: r) = total (r ++ [⟨x.key, x.n - 1⟩]) + 1 := by rw [total_append]; simp [total]; omega
  rw [e]
  show (if x.n = 0 then _ else _) = _
  rw [if_neg (by omega)]
/-- one goes -/
def goesM (s : St κ) : List κ × St κ := ((fromM s.t2).1, { s with t2 := (fromM s.t2).2 })
def ghosted (s : St κ) (k : κ) : St κ := { s with b1 := trim (gmax s) (s.b1 ++ [⟨k, 0⟩]) }
def goesS (s : St κ) : List κ × St κ :=
  match fromS s.t1 s.t2 with
  | (some k, r, m) => ([k], ghosted { s with t1 := r, t2 := m } k)
  | (none, r, m) => goesM { s with t1 := r, t2 := m }
def goes (s : St κ) : List κ × St κ := if late s then goesM s else goesS s
def reclaim (s : St κ) : List κ × St κ := if s.t1.length + s.t2.length < s.c then ([], s) else goes s
def again (s : St κ) (key : κ) : St κ := { s with t2 := s.t2 ++ [⟨key, 0⟩] }
def newest (s : St κ) (key : κ) : St κ := { s with t1 := s.t1 ++ [⟨key, 0⟩] }
end
section
variable {κ : Type} [DecidableEq κ]
/-- a row without a key -/
def less (l : List (It κ)) (k : κ) : List (It κ) := l.filter (fun x => decide (x.key ≠ k))
theorem ks_less (l : List (It κ)) (k : κ) : ks (less l k) = cut (ks l) k := by
  unfold ks less cut
  rw [List.filter_map]
  rfl
/-- a use of a key -/
def used (key : κ) (x : It κ) : It κ := if x.key = key then ⟨x.key, min 3 (x.n + 1)⟩ else x
theorem used_key (key : κ) (x : It κ) : (used key x).key = x.key := by unfold used; split <;> rfl
theorem ks_used (l : List (It κ)) (key : κ) : ks (l.map (used key)) = ks l := by
  unfold ks
  rw [List.map_map]
  exact List.map_congr_left (fun x _ => used_key key x)
def noGhost (s : St κ) (key : κ) : St κ := { s with b1 := less s.b1 key }
def touch (s : St κ) (key : κ) : St κ := { s with t1 := s.t1.map (used key), t2 := s.t2.map (used key) }
def comes (s : St κ) (key : κ) : St κ := if key ∈ ghosts s then again (noGhost s key) key else newest s key
def access (s : St κ) (key : κ) : Bool × List κ × St κ :=
  if key ∈ keys s then (true, [], touch s key) else (false, (reclaim s).1, comes (reclaim s).2 key)
def load (s : St κ) (key : κ) : Bool × St κ :=
  if key ∈ keys s ∨ s.c ≤ (keys s).length then (false, s) else (true, again (noGhost s key) key)
def gone (s : St κ) (key : κ) : St κ := { s with t1 := less s.t1 key, t2 := less s.t2 key }
def remove (s : St κ) (key : κ) : Bool × St κ := if key ∈ keys s then (true, gone s key) else (false, s)
def evict (s : St κ) : List κ × St κ := if (keys s).length = 0 then ([], s) else goes s

/-! ### what holds of it always -/
structure Ok (s : St κ) : Prop where
  lo : 1 ≤ s.c
  hi : s.c ≤ 1024
  one : ∀ k, cnt k (ks s.t1) + cnt k (ks s.t2) + cnt k (ks s.b1) ≤ 1
  res : s.t1.length + s.t2.length ≤ s.c
  out : s.b1.length ≤ gmax s
  few : ∀ x ∈ s.t1 ++ s.t2, x.n ≤ 3
theorem start_ok {c : Nat} (h : 1 ≤ c) (h2 : c ≤ 1024) : Ok (start c : St κ) :=
  ⟨h, h2, fun k => by simp [start, cnt, ks], by simp [start], by simp [start], by simp [start]⟩
theorem keys_cnt (s : St κ) (k : κ) : cnt k (keys s) = cnt k (ks s.t1) + cnt k (ks s.t2) := cnt_append _ _ _
theorem ghosts_cnt (s : St κ) (k : κ) : cnt k (ghosts s) = cnt k (ks s.b1) := rfl
end
theorem keys_length {κ : Type} (s : St κ) : (keys s).length = s.t1.length + s.t2.length := by simp [keys, ks]
section
variable {κ : Type} [DecidableEq κ]
theorem one_comm (a b : κ) : one a b = one b a := by
  unfold one
  by_cases h : a = b
  · simp [h]
  · simp [h, Ne.symm h]
theorem cnt_cut_one {k j : κ} {l : List κ} (h : cnt j l ≤ 1) (hj : 1 ≤ cnt j l) : cnt k (cut l j) + one j k = cnt k l := by
  rw [cnt_cut]
  by_cases e : k = j
  · subst e
    rw [one_self]
    simp
    omega
  · rw [one_ne (Ne.symm e)]
    simp [e]
theorem length_cut_one {j : κ} {l : List κ} (h : ∀ k, cnt k l ≤ 1) (hj : 1 ≤ cnt j l) : (cut l j).length + 1 = l.length := length_cut h (cnt_pos.1 hj)
theorem drop_cnt (k : κ) (l : List κ) : ∀ n, cnt k (l.drop n) ≤ cnt k l := by
  induction l with
  | nil => intro n; simp
  | cons x l ih =>
    intro n
    cases n with
    | zero => simp
    | succ n => rw [List.drop_succ_cons, cnt_cons]; have := ih n; omega
end
theorem trim_length {κ : Type} (n : Nat) (l : List (It κ)) : (trim n l).length ≤ n := by unfold trim; simp; omega
section
variable {κ : Type} [DecidableEq κ]
theorem trim_cnt (n : Nat) (k : κ) (l : List (It κ)) : cnt k (ks (trim n l)) ≤ cnt k (ks l) := by
  unfold trim ks
  rw [List.map_drop]
  exact drop_cnt _ _ _
/-- one went by it, of those that were resident -/
structure Went (s s' : St κ) (g : κ) : Prop where
  cs : s'.c = s.c
  key : ∀ k, cnt k (ks s'.t1) + cnt k (ks s'.t2) + A.one g k = cnt k (ks s.t1) + cnt k (ks s.t2)
  gho : ∀ k, cnt k (ks s'.b1) ≤ cnt k (ks s.b1) + A.one g k
  lr : s'.t1.length + s'.t2.length + 1 = s.t1.length + s.t2.length
  out : s.b1.length ≤ gmax s → s'.b1.length ≤ gmax s
  few : (∀ x ∈ s.t1 ++ s.t2, x.n ≤ 3) → ∀ x ∈ s'.t1 ++ s'.t2, x.n ≤ 3
/-- what goes from S, what is left -/
theorem fromS_one (S M : List (It κ)) : (∃ k r m, fromS S M = (some k, r, m) ∧ (∀ y, cnt y (ks r) + cnt y (ks m) + A.one k y = cnt y (ks S) + cnt y (ks M)) ∧ r.length + m.length + 1 = S.length + M.length ∧ ((∀ x ∈ S ++ M, x.n ≤ 3) → ∀ x ∈ r ++ m, x.n ≤ 3)) ∨
    (∃ m, fromS S M = (none, [], m) ∧ (∀ y, cnt y (ks m) = cnt y (ks S) + cnt y (ks M)) ∧ m.length = S.length + M.length ∧ ((∀ x ∈ S ++ M, x.n ≤ 3) → ∀ x ∈ m, x.n ≤ 3)) := by
  induction S generalizing M with
  | nil => exact .inr ⟨M, rfl, fun y => by simp [ks_nil, cnt], by simp, fun h x hx => h x (by simpa using hx)⟩
  | cons x S ih =>
    by_cases hx : 1 < x.n
    · have e : fromS (x :: S) M = fromS S (M ++ [⟨x.key, 0⟩]) := by show (if 1 < x.n then _ else _) = _; rw [if_pos hx]
      rw [e]
      rcases ih (M ++ [⟨x.key, 0⟩]) with ⟨k, r, m, h1, h2, h3, h4⟩ | ⟨m, h1, h2, h3, h4⟩
      · refine .inl ⟨k, r, m, h1, fun y => ?_, ?_, fun h => h4 ?_⟩
        · rw [h2, ks_snoc, cnt_snoc, ks_cons, cnt_cons]; simp only []; omega
        · rw [h3]; simp; omega
        · intro z hz
          simp only [List.mem_append, List.mem_singleton] at hz
          rcases hz with hz | hz | hz
          · exact h z (by simp [hz])
          · exact h z (by simp [hz])
          · subst hz; simp
      · refine .inr ⟨m, h1, fun y => ?_, ?_, fun h => h4 ?_⟩
        · rw [h2, ks_snoc, cnt_snoc, ks_cons, cnt_cons]; simp only []; omega
        · rw [h3]; simp; omega
        · intro z hz
          simp only [List.mem_append, List.mem_singleton] at hz
          rcases hz with hz | hz | hz
          · exact h z (by simp [hz])
          · exact h z (by simp [hz])
          · subst hz; simp
    · refine .inl ⟨x.key, S, M, ?_, fun y => ?_, ?_, fun h z hz => h z ?_⟩
      · show (if 1 < x.n then _ else _) = _; rw [if_neg hx]
      · rw [ks_cons, cnt_cons]; omega
      · simp; omega
      · simp only [List.mem_append, List.mem_cons] at hz ⊢
        rcases hz with hz | hz
        · exact .inl (.inr hz)
        · exact .inr hz
theorem fromM_one (M : List (It κ)) (h : 0 < M.length) : ∃ k m, fromM M = ([k], m) ∧ (∀ y, cnt y (ks m) + A.one k y = cnt y (ks M)) ∧ m.length + 1 = M.length ∧ ((∀ x ∈ M, x.n ≤ 3) → ∀ x ∈ m, x.n ≤ 3) := by
  generalize ht : total M = t
  induction t generalizing M with
  | zero =>
    match M, h with
    | x :: r, _ =>
      have hx : x.n = 0 := by simp [total] at ht; omega
      exact ⟨x.key, r, fromM_zero x r hx, fun y => by rw [ks_cons, cnt_cons]; omega, by simp, fun h z hz => h z (by simp [hz])⟩
  | succ t ih =>
    match M, h with
    | x :: r, _ =>
      rcases Nat.eq_zero_or_pos x.n with hx | hx
      · exact ⟨x.key, r, fromM_zero x r hx, fun y => by rw [ks_cons, cnt_cons]; omega, by simp, fun h z hz => h z (by simp [hz])⟩
      · have e : total (r ++ [⟨x.key, x.n - 1⟩]) = t := by rw [total_append]; simp [total] at ht ⊢; omega
        obtain ⟨k, m, h1, h2, h3, h4⟩ := ih (r ++ [⟨x.key, x.n - 1⟩]) (by simp) e
        refine ⟨k, m, (fromM_more x r hx).trans h1, fun y => ?_, ?_, fun h => h4 ?_⟩
        · rw [h2, ks_snoc, cnt_snoc, ks_cons, cnt_cons]; simp only []; omega
        · rw [h3]; simp
        · intro z hz
          simp only [List.mem_append, List.mem_singleton] at hz
          rcases hz with hz | hz
          · exact h z (by simp [hz])
          · subst hz
            have := h x (by simp)
            simp only []
            omega
theorem goesM_one {s : St κ} (h : 0 < s.t2.length) : ∃ g s', goesM s = ([g], s') ∧ Went s s' g := by
  obtain ⟨k, m, h1, h2, h3, h4⟩ := fromM_one s.t2 h
  refine ⟨k, { s with t2 := m }, by unfold goesM; rw [h1], rfl, fun y => ?_, fun y => ?_, ?_, fun h => h, fun h x hx => ?_⟩
  · have := h2 y
    simp only []
    omega
  · simp only []; omega
  · simp only []; omega
  · simp only [List.mem_append] at hx h
    rcases hx with hx | hx
    · exact h x (.inl hx)
    · exact h4 (fun z hz => h z (.inr hz)) x hx
theorem goesS_one {s : St κ} (h : 0 < s.t1.length + s.t2.length) : ∃ g s', goesS s = ([g], s') ∧ Went s s' g := by
  rcases fromS_one s.t1 s.t2 with ⟨k, r, m, h1, h2, h3, h4⟩ | ⟨m, h1, h2, h3, h4⟩
  · refine ⟨k, ghosted { s with t1 := r, t2 := m } k, by unfold goesS; rw [h1], rfl, h2, fun y => ?_, h3, fun _ => trim_length _ _, h4⟩
    have := trim_cnt (gmax s) y (s.b1 ++ [⟨k, 0⟩])
    rw [ks_snoc, cnt_snoc] at this
    exact this
  · obtain ⟨g, s', e, hw⟩ := goesM_one (s := { s with t1 := [], t2 := m }) (by show 0 < m.length; omega)
    refine ⟨g, s', by unfold goesS; rw [h1]; exact e, hw.cs, fun y => ?_, hw.gho, ?_, hw.out, fun h => hw.few (fun x hx => ?_)⟩
    · have := hw.key y
      have := h2 y
      simp only [ks_nil, cnt_nil] at *
      omega
    · have := hw.lr
      simp only [List.length_nil] at this
      omega
    · simp only [List.nil_append] at hx
      exact h4 h x hx
theorem late_pos {κ : Type} {s : St κ} (h : late s = true) : 0 < s.t2.length := by
  unfold late at h
  simp at h
  cases hm : s.t2 with
  | nil => simp [hm] at h
  | cons x r => simp
theorem goes_one {s : St κ} (h : 0 < s.t1.length + s.t2.length) : ∃ g s', goes s = ([g], s') ∧ Went s s' g := by
  unfold goes
  cases hl : late s with
  | true => simpa using goesM_one (late_pos hl)
  | false => simpa using goesS_one h
/-- what reclaim does: nothing where there is room, else one goes -/
def Rep (s s' : St κ) (l : List κ) : Prop := (l = [] ∧ s' = s ∧ s.t1.length + s.t2.length < s.c) ∨ ∃ g, l = [g] ∧ s.t1.length + s.t2.length = s.c ∧ Went s s' g
end
theorem rec_room {κ : Type} {s : St κ} (h : s.t1.length + s.t2.length < s.c) : reclaim s = ([], s) := by unfold reclaim; rw [if_pos h]
theorem rec_full {κ : Type} {s : St κ} (h : s.c ≤ s.t1.length + s.t2.length) : reclaim s = goes s := by unfold reclaim; rw [if_neg (by omega)]
section
variable {κ : Type} [DecidableEq κ]
theorem rec_any {s : St κ} (h1 : 1 ≤ s.c) (h : s.t1.length + s.t2.length ≤ s.c) : Rep s (reclaim s).2 (reclaim s).1 := by
  rcases Nat.lt_or_ge (s.t1.length + s.t2.length) s.c with hl | hg
  · rw [rec_room hl]
    exact .inl ⟨rfl, rfl, hl⟩
  · obtain ⟨g, s', e, hw⟩ := goes_one (s := s) (by omega)
    rw [rec_full hg, e]
    exact .inr ⟨g, rfl, by omega, hw⟩
theorem gmax_c {κ : Type} {s s' : St κ} (h : s'.c = s.c) : gmax s' = gmax s := by unfold gmax small; rw [h]
/-- behind one that went nothing stands twice -/
theorem Went.ok {s s' : St κ} {g : κ} (hw : Went s s' g) (h : Ok s) : Ok s' := by
  have w3 := hw.lr; have w4 := hw.cs; have h1 := h.lo; have h2 := h.hi; have h3 := h.res
  refine ⟨by omega, by omega, fun k => ?_, by omega, ?_, hw.few h.few⟩
  · have := h.one k; have := hw.key k; have := hw.gho k; omega
  · rw [gmax_c w4]; exact hw.out h.out
theorem Rep.ok {s s' : St κ} {l : List κ} (hr : Rep s s' l) (h : Ok s) : Ok s' := by
  rcases hr with ⟨_, rfl, _⟩ | ⟨g, _, _, hw⟩
  · exact h
  · exact hw.ok h
/-- what an Access of a key does that was not resident -/
structure Missed (s s' : St κ) (key : κ) (l : List κ) : Prop where
  ok : Ok s'
  cs : s'.c = s.c
  went : (l = [] ∧ (keys s).length < s.c ∧ (∀ k, cnt k (keys s') = cnt k (keys s) + A.one key k) ∧ (keys s').length = (keys s).length + 1) ∨
    ∃ g, l = [g] ∧ (keys s).length = s.c ∧ 0 < cnt g (keys s) ∧ (∀ k, cnt k (keys s') + A.one g k = cnt k (keys s) + A.one key k) ∧ (keys s').length = s.c
/-- a key that is not resident comes -/
structure Came (s s' : St κ) (key : κ) : Prop where
  cs : s'.c = s.c
  all : ∀ k, cnt k (ks s'.t1) + cnt k (ks s'.t2) = cnt k (ks s.t1) + cnt k (ks s.t2) + A.one key k
  gho : ∀ k, cnt k (ks s'.b1) ≤ cnt k (ks s.b1)
  not : cnt key (ks s'.b1) = 0
  lr : s'.t1.length + s'.t2.length = s.t1.length + s.t2.length + 1
  out : s'.b1.length ≤ s.b1.length
  few : (∀ x ∈ s.t1 ++ s.t2, x.n ≤ 3) → ∀ x ∈ s'.t1 ++ s'.t2, x.n ≤ 3
theorem again_came (s : St κ) (key : κ) : Came s (again (noGhost s key) key) key := by
  refine ⟨rfl, fun k => ?_, fun k => ?_, ?_, ?_, List.length_filter_le _ _, fun h x hx => ?_⟩
  · simp only [again, noGhost, ks_snoc, cnt_snoc]; omega
  · simp only [again, noGhost, ks_less, cnt_cut]; split <;> omega
  · simp only [again, noGhost, ks_less, cnt_cut]; simp
  · simp only [again, noGhost, List.length_append, List.length_cons, List.length_nil]; omega
  · simp only [again, noGhost, List.mem_append, List.mem_singleton] at hx h
    rcases hx with hx | hx | hx
    · exact h x (.inl hx)
    · exact h x (.inr hx)
    · subst hx; simp
theorem newest_came {s : St κ} {key : κ} (hk : key ∉ ghosts s) : Came s (newest s key) key := by
  refine ⟨rfl, fun k => ?_, fun k => Nat.le_refl _, cnt_zero.2 hk, ?_, Nat.le_refl _, fun h x hx => ?_⟩
  · simp only [newest, ks_snoc, cnt_snoc]; omega
  · simp only [newest, List.length_append, List.length_cons, List.length_nil]; omega
  · simp only [newest, List.mem_append, List.mem_singleton] at hx h
    rcases hx with (hx | hx) | hx
    · exact h x (.inl hx)
    · subst hx; simp
    · exact h x (.inr hx)
theorem comes_came (s : St κ) (key : κ) : Came s (comes s key) key := by
  unfold comes
  by_cases h : key ∈ ghosts s
  · rw [if_pos h]; exact again_came s key
  · rw [if_neg h]; exact newest_came h
theorem Came.ok {s s' : St κ} {key : κ} (hc : Came s s' key) (h : Ok s) (hn : cnt key (ks s.t1) + cnt key (ks s.t2) = 0) (hr : s.t1.length + s.t2.length < s.c) : Ok s' := by
  have w3 := hc.lr; have w4 := hc.cs; have h1 := h.lo; have h2 := h.hi
  refine ⟨by omega, by omega, fun k => ?_, by omega, ?_, hc.few h.few⟩
  · have a := h.one k; have b := hc.all k; have d := hc.gho k
    by_cases e : key = k
    · subst e
      have := hc.not
      rw [one_self] at b
      omega
    · rw [one_ne e] at b
      omega
  · rw [gmax_c w4]; exact Nat.le_trans hc.out h.out
theorem acc_miss {s : St κ} {key : κ} (h : Ok s) (hk : key ∉ keys s) : (access s key).1 = false ∧ Missed s (access s key).2.2 key (access s key).2.1 := by
  have hn := cnt_zero.2 hk
  rw [keys_cnt] at hn
  unfold access
  rw [if_neg hk]
  refine ⟨rfl, ?_⟩
  have hr := rec_any h.lo h.res
  generalize (reclaim s).1 = l at *
  generalize (reclaim s).2 = s1 at *
  have hc := comes_came s1 key
  show Missed s (comes s1 key) key l
  generalize comes s1 key = s2 at *
  have hok1 := hr.ok h
  have hlo := h.lo; have hres := h.res
  have c1 := hc.lr; have c2 := hc.cs
  rcases hr with ⟨rfl, rfl, hl⟩ | ⟨g, rfl, hl, hw⟩
  · refine ⟨hc.ok hok1 hn hl, c2, .inl ⟨rfl, by rw [keys_length]; exact hl, fun k => ?_, ?_⟩⟩
    · rw [keys_cnt, keys_cnt]; exact hc.all k
    · rw [keys_length, keys_length]; exact c1
  · have w3 := hw.lr; have w4 := hw.cs
    have hgp : 0 < cnt g (ks s.t1) + cnt g (ks s.t2) := by have a := hw.key g; rw [one_self] at a; omega
    have hn1 : cnt key (ks s1.t1) + cnt key (ks s1.t2) = 0 := by have a := hw.key key; omega
    refine ⟨hc.ok hok1 hn1 (by omega), by omega, .inr ⟨g, rfl, by rw [keys_length]; exact hl, by rw [keys_cnt]; exact hgp, fun k => ?_, ?_⟩⟩
    · have a := hw.key k; have b := hc.all k
      rw [keys_cnt, keys_cnt]; omega
    · rw [keys_length]; omega
theorem keys_touch (s : St κ) (key : κ) : keys (touch s key) = keys s := by simp only [keys, touch, ks_used]
/-- what an Access of a resident key does -/
theorem acc_hit {s : St κ} {key : κ} (h : Ok s) (hk : key ∈ keys s) :
    (access s key).1 = true ∧ (access s key).2.1 = [] ∧ Ok (access s key).2.2 ∧ (access s key).2.2.c = s.c ∧ (∀ k, cnt k (keys (access s key).2.2) = cnt k (keys s)) ∧ (keys (access s key).2.2).length = (keys s).length := by
  unfold access
  rw [if_pos hk]
  refine ⟨rfl, rfl, (?_ : Ok (touch s key)), rfl, fun k => by rw [keys_touch], by rw [keys_touch]⟩
  refine ⟨h.lo, h.hi, fun k => ?_, ?_, h.out, ?_⟩
  · simp only [touch, ks_used]; exact h.one k
  · simp only [touch, List.length_map]; exact h.res
  · intro x hx
    simp only [touch, ← List.map_append] at hx
    obtain ⟨y, hy, rfl⟩ := List.mem_map.1 hx
    unfold used
    split
    · simp only []; omega
    · exact h.few y hy
/-- what an Access does, of whatever key -/
theorem acc_any {s : St κ} (h : Ok s) (key : κ) : Ok (access s key).2.2 ∧ (access s key).2.2.c = s.c := by
  by_cases hk : key ∈ keys s
  · have := acc_hit h hk; exact ⟨this.2.2.1, this.2.2.2.1⟩
  · have := (acc_miss h hk).2; exact ⟨this.ok, this.cs⟩

/-! ### Remove, Evict, Load -/
theorem rem_no {s : St κ} {key : κ} (hk : key ∉ keys s) : remove s key = (false, s) := by unfold remove; rw [if_neg hk]
theorem rem_yes {s : St κ} {key : κ} (h : Ok s) (hk : key ∈ keys s) :
    (remove s key).1 = true ∧ Ok (remove s key).2 ∧ (remove s key).2.c = s.c ∧ (∀ k, cnt k (keys (remove s key).2) + one key k = cnt k (keys s)) ∧ (keys (remove s key).2).length + 1 = (keys s).length ∧ ghosts (remove s key).2 = ghosts s := by
  unfold remove
  rw [if_pos hk]
  have hc := cnt_pos.2 hk
  rw [keys_cnt] at hc
  have hone := h.one
  have hcnt : ∀ k, cnt k (keys (gone s key)) + A.one key k = cnt k (keys s) := fun k => by
    rw [keys_cnt, keys_cnt]
    simp only [gone, ks_less, cnt_cut]
    have := hone key
    by_cases e : k = key
    · subst e; simp [one_self]; omega
    · simp [e, one_ne (Ne.symm e)]
  have hlen : (key :: keys (gone s key)).length = (keys s).length := length_of_cnt (fun k => by rw [cnt_cons, ← hcnt k]; omega)
  rw [List.length_cons] at hlen
  refine ⟨rfl, (?_ : Ok (gone s key)), rfl, hcnt, hlen, rfl⟩
  refine ⟨h.lo, h.hi, fun k => ?_, ?_, h.out, fun x hx => h.few x ?_⟩
  · have a := hcnt k
    rw [keys_cnt, keys_cnt] at a
    have b := hone k
    show cnt k (ks (gone s key).t1) + cnt k (ks (gone s key).t2) + cnt k (ks s.b1) ≤ 1
    omega
  · rw [keys_length, keys_length] at hlen
    have := h.res
    show _ ≤ s.c
    omega
  · simp only [gone, less, List.mem_append, List.mem_filter] at hx ⊢
    rcases hx with hx | hx
    · exact .inl hx.1
    · exact .inr hx.1
end
theorem evi_no {κ : Type} {s : St κ} (h : (keys s).length = 0) : evict s = ([], s) := by unfold evict; rw [if_pos h]
section
variable {κ : Type} [DecidableEq κ]
theorem evi_yes {s : St κ} (h : Ok s) (hk : (keys s).length ≠ 0) :
    ∃ g s', evict s = ([g], s') ∧ Ok s' ∧ s'.c = s.c ∧ (∀ k, cnt k (keys s') + one g k = cnt k (keys s)) ∧ (keys s').length + 1 = (keys s).length := by
  unfold evict
  rw [if_neg hk]
  rw [keys_length] at hk
  obtain ⟨g, s', e, hw⟩ := goes_one (s := s) (by omega)
  refine ⟨g, s', e, hw.ok h, hw.cs, fun k => ?_, ?_⟩
  · rw [keys_cnt, keys_cnt]; exact hw.key k
  · rw [keys_length, keys_length]; exact hw.lr
theorem load_no {s : St κ} {key : κ} (h : key ∈ keys s ∨ s.c ≤ (keys s).length) : load s key = (false, s) := by unfold load; rw [if_pos h]
theorem load_yes {s : St κ} {key : κ} (h : Ok s) (hk : key ∉ keys s) (hl : (keys s).length < s.c) :
    (load s key).1 = true ∧ Ok (load s key).2 ∧ (load s key).2.c = s.c ∧ keys (load s key).2 = ks s.t1 ++ (ks s.t2 ++ [key]) ∧ (∀ k, cnt k (keys (load s key).2) = cnt k (keys s) + one key k) ∧ (keys (load s key).2).length = (keys s).length + 1 := by
  unfold load
  rw [if_neg (by intro h2; rcases h2 with h2 | h2; exact hk h2; omega)]
  have hc := cnt_zero.2 hk
  rw [keys_cnt] at hc
  rw [keys_length] at hl
  have hw := again_came s key
  refine ⟨rfl, hw.ok h hc hl, rfl, by simp [keys, again, noGhost, ks], fun k => ?_, ?_⟩
  · rw [keys_cnt, keys_cnt]; exact hw.all k
  · rw [keys_length, keys_length]; exact hw.lr

/-! ### who is told -/
theorem tell_room {l : List κ} {key : κ} {s s' : St κ} (hi : ∀ k, cnt k l = cnt k (keys s)) (h : ∀ k, cnt k (keys s') = cnt k (keys s) + one key k) : ∀ k, cnt k (l ++ [key]) = cnt k (keys s') := fun k => by
  rw [cnt_snoc, hi, h]
theorem tell_full {l : List κ} {key g : κ} {s s' : St κ} (ho : Ok s) (hi : ∀ k, cnt k l = cnt k (keys s)) (hg : 0 < cnt g (keys s)) (h : ∀ k, cnt k (keys s') + one g k = cnt k (keys s) + one key k) : ∀ k, cnt k (cut l g ++ [key]) = cnt k (keys s') := fun k => by
  have := cnt_cut_one (k := k) (j := g) (l := l) (by rw [hi, keys_cnt]; have := ho.one g; omega) (by rw [hi]; exact hg)
  have := h k
  have := hi k
  rw [cnt_snoc]
  omega
end
theorem only {κ : Type} {l : List κ} {k : κ} (h : l.length = 1) (hk : k ∈ l) : l = [k] := by
  match l, h with
  | [x], _ => simp at hk; rw [hk]
section
variable {κ : Type} [DecidableEq κ]
end
end Go.Proofs.YtnbfokmodjgaaabDoor.A
