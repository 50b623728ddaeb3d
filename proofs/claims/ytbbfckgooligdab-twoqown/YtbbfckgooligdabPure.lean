/- The machine of chapter 11 over plain lists: three rows of keys (t1: A1in, b1: A1out, t2: Am), a room; what each act answers and leaves. No program is named here. -/
namespace Go.Proofs.Ytbbfckgooligdab.A

structure St (κ : Type) where
  t1 : List κ
  b1 : List κ
  t2 : List κ
  c : Nat

section
variable {κ : Type} [DecidableEq κ]

/-- a row without a key -/
def cut (l : List κ) (k : κ) : List κ := l.filter (fun x => decide (x ≠ k))
/-- 1 where two are one -/
def one (a b : κ) : Nat := if a = b then 1 else 0
/-- how often a key is in a row -/
def cnt (k : κ) : List κ → Nat
  | [] => 0
  | x :: l => one x k + cnt k l
theorem one_le (a b : κ) : one a b ≤ 1 := by unfold one; split <;> omega
theorem one_self (a : κ) : one a a = 1 := by simp [one]
theorem one_ne {a b : κ} (h : a ≠ b) : one a b = 0 := by simp [one, h]
theorem one_eq {a b : κ} (h : 0 < one a b) : a = b := by unfold one at h; split at h; assumption; omega
theorem cnt_nil (k : κ) : cnt k [] = 0 := rfl
theorem cnt_cons (k x : κ) (l : List κ) : cnt k (x :: l) = one x k + cnt k l := rfl
theorem cnt_append (k : κ) (l m : List κ) : cnt k (l ++ m) = cnt k l + cnt k m := by
  induction l with
  | nil => simp [cnt]
  | cons x l ih => simp [cnt, ih]; omega
theorem cnt_snoc (k x : κ) (l : List κ) : cnt k (l ++ [x]) = cnt k l + one x k := by rw [cnt_append]; simp [cnt]
theorem cnt_pos {k : κ} {l : List κ} : 0 < cnt k l ↔ k ∈ l := by
  induction l with
  | nil => simp [cnt]
  | cons x l ih =>
    rw [cnt_cons, List.mem_cons, ← ih]
    unfold one
    by_cases h : x = k
    · simp [h]; omega
    · simp [h, Ne.symm h]
theorem cnt_zero {k : κ} {l : List κ} : cnt k l = 0 ↔ k ∉ l := by rw [← cnt_pos]; omega
theorem cnt_cut (k j : κ) (l : List κ) : cnt k (cut l j) = if k = j then 0 else cnt k l := by
  induction l with
  | nil => simp [cut, cnt]
  | cons x l ih =>
    unfold cut at *
    by_cases h : x = j
    · subst h
      simp only [List.filter_cons]
      by_cases h2 : k = x
      · simp [h2] at *; exact ih
      · simp [h2, cnt_cons, one, Ne.symm h2] at *; exact ih
    · simp only [List.filter_cons]
      by_cases h2 : k = j
      · subst h2; simp [h, cnt_cons, one] at *; exact ih
      · simp [h, h2, cnt_cons] at *; exact ih
theorem cut_same {k : κ} {l : List κ} (h : k ∉ l) : cut l k = l := by
  unfold cut
  rw [List.filter_eq_self]
  intro x hx
  simp
  rintro rfl
  exact h hx
/-- each at most once -/
def Once (l : List κ) : Prop := ∀ k, cnt k l ≤ 1
theorem Once.nodup {l : List κ} (h : Once l) : l.Nodup := by
  induction l with
  | nil => simp
  | cons x l ih =>
    rw [List.nodup_cons]
    refine ⟨fun hx => ?_, ih (fun k => by have := h k; rw [cnt_cons] at this; omega)⟩
    have := h x
    rw [cnt_cons, one_self] at this
    have := cnt_pos.2 hx
    omega
theorem once_of_nodup {l : List κ} (h : l.Nodup) : Once l := by
  induction l with
  | nil => intro k; simp [cnt]
  | cons x l ih =>
    rw [List.nodup_cons] at h
    intro k
    rw [cnt_cons]
    by_cases e : x = k
    · subst e
      rw [cnt_zero.2 h.1, one_self]
      omega
    · rw [one_ne e]
      have := ih h.2 k
      omega
theorem cnt_count (k : κ) (l : List κ) : cnt k l = l.count k := by
  induction l with
  | nil => rfl
  | cons x l ih =>
    rw [cnt_cons, List.count_cons, ih]
    by_cases h : x = k
    · simp [h, one]; omega
    · simp [h, one]
/-- rows of the same keys are as long -/
theorem length_of_cnt {l m : List κ} (h : ∀ k, cnt k l = cnt k m) : l.length = m.length := by
  apply List.Perm.length_eq
  rw [List.perm_iff_count]
  intro k
  rw [← cnt_count, ← cnt_count, h]
theorem length_cut {l : List κ} {k : κ} (h : Once l) (hk : k ∈ l) : (cut l k).length + 1 = l.length := by
  have : (k :: cut l k).length = l.length := by
    apply length_of_cnt
    intro j
    rw [cnt_cons, cnt_cut]
    have := h j
    by_cases e : j = k
    · subst e
      have := cnt_pos.2 hk
      rw [one_self]
      simp
      omega
    · rw [one_ne (Ne.symm e)]
      simp [e]
  simpa using this
theorem length_cut_le (l : List κ) (k : κ) : (cut l k).length ≤ l.length := List.length_filter_le _ _
/-- the oldest of a row with each key once: cut by its key it is the rest -/
theorem cut_head {x : κ} {l : List κ} (h : Once (x :: l)) : cut (x :: l) x = l := by
  have hx : x ∉ l := by
    rw [← cnt_zero]
    have := h x
    rw [cnt_cons, one_self] at this
    omega
  have : cut (x :: l) x = cut l x := by simp [cut]
  rw [this, cut_same hx]

/-! ### the machine -/
def keys (s : St κ) : List κ := s.t1 ++ s.t2
def ghosts (s : St κ) : List κ := s.b1
def start (c : Nat) : St κ := ⟨[], [], [], c⟩
def kin (s : St κ) : Nat := max 1 (s.c / 4)
def kout (s : St κ) : Nat := max 1 (s.c / 2)
/-- no more than so many of the newest -/
def trim (n : Nat) (l : List κ) : List κ := l.drop (l.length - n)
/-- is it one of Am that goes? -/
def late (s : St κ) : Bool := decide (s.t1.length ≤ kin s) && decide (0 < s.t2.length)
/-- one goes -/
def goes (s : St κ) : List κ × St κ :=
  if late s then match s.t2 with
    | [] => ([], s)
    | k :: r => ([k], { s with t2 := r })
  else match s.t1 with
    | [] => ([], s)
    | k :: r => ([k], { s with t1 := r, b1 := trim (kout s) (s.b1 ++ [k]) })
def reclaim (s : St κ) : List κ × St κ := if s.t1.length + s.t2.length < s.c then ([], s) else goes s
def noGhost (s : St κ) (key : κ) : St κ := { s with b1 := cut s.b1 key }
def again (s : St κ) (key : κ) : St κ := { s with t2 := s.t2 ++ [key] }
def newest (s : St κ) (key : κ) : St κ := { s with t1 := s.t1 ++ [key] }
def touch (s : St κ) (key : κ) : St κ := { s with t2 := cut s.t2 key ++ [key] }
def known (s : St κ) (key : κ) : List κ × St κ := ((reclaim (noGhost s key)).1, again (reclaim (noGhost s key)).2 key)
def fresh (s : St κ) (key : κ) : List κ × St κ := ((reclaim s).1, newest (reclaim s).2 key)
def access (s : St κ) (key : κ) : Bool × List κ × St κ :=
  if key ∈ s.t2 then (true, [], touch s key)
  else if key ∈ s.t1 then (true, [], s)
  else if key ∈ s.b1 then (false, known s key)
  else (false, fresh s key)
def load (s : St κ) (key : κ) : Bool × St κ :=
  if key ∈ keys s ∨ s.c ≤ (keys s).length then (false, s) else (true, again (noGhost s key) key)
def gone (s : St κ) (key : κ) : St κ := { s with t1 := cut s.t1 key, t2 := cut s.t2 key }
def remove (s : St κ) (key : κ) : Bool × St κ := if key ∈ keys s then (true, gone s key) else (false, s)
def evict (s : St κ) : List κ × St κ := if (keys s).length = 0 then ([], s) else goes s

/-! ### what holds of it always -/
structure Ok (s : St κ) : Prop where
  lo : 1 ≤ s.c
  hi : s.c ≤ 1024
  one : ∀ k, cnt k s.t1 + cnt k s.t2 + cnt k s.b1 ≤ 1
  res : s.t1.length + s.t2.length ≤ s.c
  out : s.b1.length ≤ kout s
theorem start_ok {c : Nat} (h : 1 ≤ c) (h2 : c ≤ 1024) : Ok (start c : St κ) :=
  ⟨h, h2, fun k => by simp [start, cnt], by simp [start], by simp [start]⟩
theorem keys_cnt (s : St κ) (k : κ) : cnt k (keys s) = cnt k s.t1 + cnt k s.t2 := cnt_append _ _ _
theorem ghosts_cnt (s : St κ) (k : κ) : cnt k (ghosts s) = cnt k s.b1 := rfl
end
theorem keys_length {κ : Type} (s : St κ) : (keys s).length = s.t1.length + s.t2.length := by simp [keys]
section
variable {κ : Type} [DecidableEq κ]
theorem one_comm (a b : κ) : one a b = one b a := by
  unfold one
  by_cases h : a = b
  · simp [h]
  · simp [h, Ne.symm h]
theorem cnt_cut_one {k j : κ} {l : List κ} (h : cnt j l ≤ 1) (hj : 1 ≤ cnt j l) : cnt k (cut l j) + one j k = cnt k l := by
  rw [cnt_cut]
  by_cases e : k = j
  · subst e
    rw [one_self]
    simp
    omega
  · rw [one_ne (Ne.symm e)]
    simp [e]
theorem length_cut_one {j : κ} {l : List κ} (h : ∀ k, cnt k l ≤ 1) (hj : 1 ≤ cnt j l) : (cut l j).length + 1 = l.length := length_cut h (cnt_pos.1 hj)
theorem drop_cnt (k : κ) (l : List κ) : ∀ n, cnt k (l.drop n) ≤ cnt k l := by
  induction l with
  | nil => intro n; simp
  | cons x l ih =>
    intro n
    cases n with
    | zero => simp
    | succ n => rw [List.drop_succ_cons, cnt_cons]; have := ih n; omega
end
theorem trim_length {κ : Type} (n : Nat) (l : List κ) : (trim n l).length ≤ n := by unfold trim; simp; omega
section
variable {κ : Type} [DecidableEq κ]
theorem trim_cnt (n : Nat) (k : κ) (l : List κ) : cnt k (trim n l) ≤ cnt k l := drop_cnt _ _ _
/-- one went by it, of those that were resident -/
structure Went (s s' : St κ) (g : κ) : Prop where
  cs : s'.c = s.c
  key : ∀ k, cnt k s'.t1 + cnt k s'.t2 + A.one g k = cnt k s.t1 + cnt k s.t2
  gho : ∀ k, cnt k s'.b1 ≤ cnt k s.b1 + A.one g k
  lr : s'.t1.length + s'.t2.length + 1 = s.t1.length + s.t2.length
  out : s.b1.length ≤ kout s → s'.b1.length ≤ kout s
end
theorem goes_late {κ : Type} {s : St κ} (h : late s = true) : ∃ g r, s.t2 = g :: r ∧ goes s = ([g], { s with t2 := r }) := by
  obtain ⟨t1, b1, t2, c⟩ := s
  cases t2 with
  | nil => simp [late] at h
  | cons g r =>
    refine ⟨g, r, rfl, ?_⟩
    unfold goes
    rw [if_pos h]
section
variable {κ : Type} [DecidableEq κ]
end
theorem goes_early {κ : Type} {s : St κ} (h : late s = false) (h1 : 0 < s.t1.length + s.t2.length) : ∃ g r, s.t1 = g :: r ∧ goes s = ([g], { s with t1 := r, b1 := trim (kout s) (s.b1 ++ [g]) }) := by
  obtain ⟨t1, b1, t2, c⟩ := s
  cases t1 with
  | nil =>
    exfalso
    simp [late] at h
    simp [h] at h1
  | cons g r =>
    refine ⟨g, r, rfl, ?_⟩
    unfold goes
    rw [if_neg (by rw [h]; exact Bool.false_ne_true)]
section
variable {κ : Type} [DecidableEq κ]
theorem goes_one {s : St κ} (h : 0 < s.t1.length + s.t2.length) : ∃ g s', goes s = ([g], s') ∧ Went s s' g := by
  cases hl : late s with
  | true =>
    obtain ⟨g, r, ht, e⟩ := goes_late hl
    refine ⟨g, _, e, rfl, fun k => ?_, fun k => ?_, ?_, fun h => h⟩
    · rw [ht]; simp only [cnt_cons]; omega
    · simp only []; omega
    · rw [ht]; simp; omega
  | false =>
    obtain ⟨g, r, ht, e⟩ := goes_early hl h
    refine ⟨g, _, e, rfl, fun k => ?_, fun k => ?_, ?_, fun _ => trim_length _ _⟩
    · rw [ht]; simp only [cnt_cons]; omega
    · have := trim_cnt (kout s) k (s.b1 ++ [g])
      rw [cnt_snoc] at this
      exact this
    · rw [ht]; simp; omega
/-- what reclaim does: nothing where there is room, else one goes -/
def Rep (s s' : St κ) (l : List κ) : Prop := (l = [] ∧ s' = s ∧ s.t1.length + s.t2.length < s.c) ∨ ∃ g, l = [g] ∧ s.t1.length + s.t2.length = s.c ∧ Went s s' g
end
theorem rec_room {κ : Type} {s : St κ} (h : s.t1.length + s.t2.length < s.c) : reclaim s = ([], s) := by unfold reclaim; rw [if_pos h]
section
variable {κ : Type} [DecidableEq κ]
end
theorem rec_full {κ : Type} {s : St κ} (h : s.c ≤ s.t1.length + s.t2.length) : reclaim s = goes s := by unfold reclaim; rw [if_neg (by omega)]
section
variable {κ : Type} [DecidableEq κ]
theorem rec_any {s : St κ} (h1 : 1 ≤ s.c) (h : s.t1.length + s.t2.length ≤ s.c) : Rep s (reclaim s).2 (reclaim s).1 := by
  rcases Nat.lt_or_ge (s.t1.length + s.t2.length) s.c with hl | hg
  · rw [rec_room hl]
    exact .inl ⟨rfl, rfl, hl⟩
  · obtain ⟨g, s', e, hw⟩ := goes_one (s := s) (by omega)
    rw [rec_full hg, e]
    exact .inr ⟨g, rfl, by omega, hw⟩
/-- what an Access of a key does that was not resident -/
structure Missed (s s' : St κ) (key : κ) (l : List κ) : Prop where
  ok : Ok s'
  cs : s'.c = s.c
  went : (l = [] ∧ (keys s).length < s.c ∧ (∀ k, cnt k (keys s') = cnt k (keys s) + A.one key k) ∧ (keys s').length = (keys s).length + 1) ∨
    ∃ g, l = [g] ∧ (keys s).length = s.c ∧ 0 < cnt g (keys s) ∧ (∀ k, cnt k (keys s') + A.one g k = cnt k (keys s) + A.one key k) ∧ (keys s').length = s.c
/-- s2 is s1 with one key more, among the residents -/
theorem comes_missed {s s0 s1 s2 : St κ} {key : κ} {l : List κ} (h : Ok s0) (e1 : s0.t1 = s.t1) (e2 : s0.t2 = s.t2) (e3 : s0.c = s.c) (hr : Rep s0 s1 l) (hn : cnt key s0.t1 + cnt key s0.t2 + cnt key s0.b1 = 0)
    (c2 : s2.c = s1.c) (b2 : s2.b1 = s1.b1) (k2 : ∀ k, cnt k s2.t1 + cnt k s2.t2 = cnt k s1.t1 + cnt k s1.t2 + A.one key k) (l2 : s2.t1.length + s2.t2.length = s1.t1.length + s1.t2.length + 1) : Missed s s2 key l := by
  have ho := h.one
  have hks : ∀ k, cnt k (keys s2) = cnt k s1.t1 + cnt k s1.t2 + A.one key k := fun k => by rw [keys_cnt, k2]
  have hkl : (keys s2).length = s1.t1.length + s1.t2.length + 1 := by rw [keys_length, l2]
  have hlo := h.lo; have hhi := h.hi; have hres := h.res; have hout := h.out
  rcases hr with ⟨rfl, rfl, hl⟩ | ⟨g, rfl, hl, hw⟩
  · refine ⟨⟨by omega, by omega, fun k => ?_, by omega, ?_⟩, by omega, .inl ⟨rfl, by rw [keys_length, ← e1, ← e2]; omega, fun k => ?_, ?_⟩⟩
    · have a := k2 k
      rw [b2]
      by_cases e : key = k
      · subst e
        rw [one_self] at a
        omega
      · rw [one_ne e] at a
        have := ho k
        omega
    · rw [b2]; unfold kout at *; rw [c2]; exact hout
    · rw [hks, keys_cnt, e1, e2]
    · rw [hkl, keys_length, e1, e2]
  · have w3 := hw.lr; have w4 := hw.cs
    have hgp : 0 < cnt g s0.t1 + cnt g s0.t2 := by have a := hw.key g; rw [one_self] at a; omega
    have hgk : g ≠ key := by
      rintro rfl
      omega
    refine ⟨⟨by omega, by omega, fun k => ?_, by omega, ?_⟩, by omega, .inr ⟨g, rfl, by rw [keys_length, ← e1, ← e2]; omega, ?_, fun k => ?_, ?_⟩⟩
    · have a := k2 k
      have b := hw.key k
      have c := hw.gho k
      have d := ho k
      rw [b2]
      by_cases e : key = k
      · subst e
        rw [one_self] at a
        rw [one_ne hgk] at b c
        omega
      · rw [one_ne e] at a
        omega
    · rw [b2]
      have := hw.out hout
      unfold kout at *
      rw [c2, w4]
      exact this
    · rw [keys_cnt, ← e1, ← e2]; omega
    · have a := hw.key k
      rw [hks, keys_cnt, ← e1, ← e2]; omega
    · rw [hkl]; omega
theorem Ok.noGhost {s : St κ} (h : Ok s) (key : κ) : Ok (noGhost s key) := by
  refine ⟨h.lo, h.hi, fun k => ?_, h.res, Nat.le_trans (length_cut_le _ _) h.out⟩
  have := h.one k
  simp only [A.noGhost, cnt_cut]
  split <;> omega
theorem Ok.reclaim {s : St κ} (h : Ok s) : (∀ k, cnt k (reclaim s).2.t1 + cnt k (reclaim s).2.t2 + cnt k (reclaim s).2.b1 ≤ 1) := by
  intro k
  have ho := h.one k
  rcases rec_any h.lo h.res with ⟨_, e, _⟩ | ⟨g, _, _, hw⟩
  · rw [e]; exact ho
  · have a := hw.key k
    have b := hw.gho k
    omega
theorem fresh_missed {s : St κ} {key : κ} (h : Ok s) (hn : cnt key s.t1 + cnt key s.t2 + cnt key s.b1 = 0) : Missed s (fresh s key).2 key (fresh s key).1 := by
  refine comes_missed h rfl rfl rfl (rec_any h.lo h.res) hn rfl rfl (fun k => ?_) ?_
  · simp only [fresh, newest, cnt_snoc]; omega
  · simp only [fresh, newest, List.length_append, List.length_cons, List.length_nil]; omega
theorem known_missed {s : St κ} {key : κ} (h : Ok s) (hk : cnt key s.t1 + cnt key s.t2 = 0) : Missed s (known s key).2 key (known s key).1 := by
  refine comes_missed (h.noGhost key) rfl rfl rfl (rec_any h.lo h.res) ?_ rfl rfl (fun k => ?_) ?_
  · simp only [noGhost, cnt_cut]; simp; omega
  · simp only [known, again, cnt_snoc]; omega
  · simp only [known, again, List.length_append, List.length_cons, List.length_nil]; omega
theorem acc_miss {s : St κ} {key : κ} (h : Ok s) (hk : key ∉ keys s) : (access s key).1 = false ∧ Missed s (access s key).2.2 key (access s key).2.1 := by
  have a := cnt_zero.2 hk
  rw [keys_cnt] at a
  unfold keys at hk
  rw [List.mem_append] at hk
  unfold access
  rw [if_neg (fun h => hk (.inr h)), if_neg (fun h => hk (.inl h))]
  by_cases hg : key ∈ s.b1
  · rw [if_pos hg]
    exact ⟨rfl, known_missed h a⟩
  · rw [if_neg hg]
    have b := cnt_zero.2 hg
    exact ⟨rfl, fresh_missed h (by omega)⟩
/-- what an Access of a resident key does -/
theorem acc_hit {s : St κ} {key : κ} (h : Ok s) (hk : key ∈ keys s) :
    (access s key).1 = true ∧ (access s key).2.1 = [] ∧ Ok (access s key).2.2 ∧ (access s key).2.2.c = s.c ∧ (∀ k, cnt k (keys (access s key).2.2) = cnt k (keys s)) ∧ (keys (access s key).2.2).length = (keys s).length := by
  unfold access
  by_cases h2 : key ∈ s.t2
  · rw [if_pos h2]
    have hc := cnt_pos.2 h2
    have hone := h.one
    have hcnt : ∀ k, cnt k (keys (touch s key)) = cnt k (keys s) := fun k => by
      rw [keys_cnt, keys_cnt]
      simp only [touch, cnt_snoc, cnt_cut]
      have := hone key
      by_cases e : k = key
      · subst e; simp [one_self]; omega
      · simp [e, one_ne (Ne.symm e)]
    have hlen : (keys (touch s key)).length = (keys s).length := length_of_cnt hcnt
    have hl := hlen
    rw [keys_length, keys_length] at hl
    refine ⟨rfl, rfl, (?_ : Ok (touch s key)), rfl, hcnt, hlen⟩
    refine ⟨h.lo, h.hi, fun k => ?_, ?_, h.out⟩
    · have a := hcnt k
      rw [keys_cnt, keys_cnt] at a
      have b := hone k
      have e1 : (touch s key).b1 = s.b1 := rfl
      rw [e1]
      omega
    · have := h.res
      have e : (touch s key).c = s.c := rfl
      omega
  · rw [if_neg h2]
    have h1 : key ∈ s.t1 := by
      unfold keys at hk
      rcases List.mem_append.1 hk with h | h
      · exact h
      · exact absurd h h2
    rw [if_pos h1]
    exact ⟨rfl, rfl, h, rfl, fun _ => rfl, rfl⟩
/-- what an Access does, of whatever key -/
theorem acc_any {s : St κ} (h : Ok s) (key : κ) : Ok (access s key).2.2 ∧ (access s key).2.2.c = s.c := by
  by_cases hk : key ∈ keys s
  · have := acc_hit h hk; exact ⟨this.2.2.1, this.2.2.2.1⟩
  · have := (acc_miss h hk).2; exact ⟨this.ok, this.cs⟩

/-! ### Remove, Evict, Load -/
theorem rem_no {s : St κ} {key : κ} (hk : key ∉ keys s) : remove s key = (false, s) := by unfold remove; rw [if_neg hk]
theorem rem_yes {s : St κ} {key : κ} (h : Ok s) (hk : key ∈ keys s) :
    (remove s key).1 = true ∧ Ok (remove s key).2 ∧ (remove s key).2.c = s.c ∧ (∀ k, cnt k (keys (remove s key).2) + one key k = cnt k (keys s)) ∧ (keys (remove s key).2).length + 1 = (keys s).length ∧ ghosts (remove s key).2 = ghosts s := by
  unfold remove
  rw [if_pos hk]
  have hc := cnt_pos.2 hk
  rw [keys_cnt] at hc
  have hone := h.one
  have hcnt : ∀ k, cnt k (keys (gone s key)) + A.one key k = cnt k (keys s) := fun k => by
    rw [keys_cnt, keys_cnt]
    simp only [gone, cnt_cut]
    have := hone key
    by_cases e : k = key
    · subst e; simp [one_self]; omega
    · simp [e, one_ne (Ne.symm e)]
  have hlen : (key :: keys (gone s key)).length = (keys s).length := length_of_cnt (fun k => by rw [cnt_cons, ← hcnt k]; omega)
  rw [List.length_cons] at hlen
  have l1 : (gone s key).t1.length ≤ s.t1.length := length_cut_le _ _
  have l2 : (gone s key).t2.length ≤ s.t2.length := length_cut_le _ _
  have e : (gone s key).c = s.c := rfl
  have e1 : (gone s key).b1 = s.b1 := rfl
  refine ⟨rfl, (?_ : Ok (gone s key)), rfl, hcnt, hlen, rfl⟩
  refine ⟨h.lo, h.hi, fun k => ?_, ?_, h.out⟩
  · have a := hcnt k
    rw [keys_cnt, keys_cnt] at a
    have b := hone k
    rw [e1]
    omega
  · have := h.res; omega
end
theorem evi_no {κ : Type} {s : St κ} (h : (keys s).length = 0) : evict s = ([], s) := by unfold evict; rw [if_pos h]
section
variable {κ : Type} [DecidableEq κ]
theorem evi_yes {s : St κ} (h : Ok s) (hk : (keys s).length ≠ 0) :
    ∃ g s', evict s = ([g], s') ∧ Ok s' ∧ s'.c = s.c ∧ (∀ k, cnt k (keys s') + one g k = cnt k (keys s)) ∧ (keys s').length + 1 = (keys s).length := by
  unfold evict
  rw [if_neg hk]
  rw [keys_length] at hk
  obtain ⟨g, s', e, hw⟩ := goes_one (s := s) (by omega)
  have w3 := hw.lr; have w4 := hw.cs
  have hlo := h.lo; have hhi := h.hi; have hres := h.res
  refine ⟨g, s', e, ⟨by omega, by omega, fun k => ?_, by omega, ?_⟩, w4, fun k => ?_, ?_⟩
  · have := h.one k; have := hw.key k; have := hw.gho k; omega
  · have := hw.out h.out; unfold kout at *; rw [w4]; exact this
  · have := hw.key k; rw [keys_cnt, keys_cnt]; omega
  · rw [keys_length, keys_length]; omega
theorem load_no {s : St κ} {key : κ} (h : key ∈ keys s ∨ s.c ≤ (keys s).length) : load s key = (false, s) := by unfold load; rw [if_pos h]
theorem load_yes {s : St κ} {key : κ} (h : Ok s) (hk : key ∉ keys s) (hl : (keys s).length < s.c) :
    (load s key).1 = true ∧ Ok (load s key).2 ∧ (load s key).2.c = s.c ∧ keys (load s key).2 = s.t1 ++ (s.t2 ++ [key]) ∧ (∀ k, cnt k (keys (load s key).2) = cnt k (keys s) + one key k) ∧ (keys (load s key).2).length = (keys s).length + 1 := by
  unfold load
  rw [if_neg (by intro h2; rcases h2 with h2 | h2; exact hk h2; omega)]
  have hc := cnt_zero.2 hk
  rw [keys_cnt] at hc
  rw [keys_length] at hl
  have hcnt : ∀ k, cnt k (keys (again (noGhost s key) key)) = cnt k (keys s) + A.one key k := fun k => by
    rw [keys_cnt, keys_cnt]; simp only [again, noGhost, cnt_snoc]; omega
  refine ⟨rfl, (?_ : Ok (again (noGhost s key) key)), rfl, rfl, hcnt, ?_⟩
  · refine ⟨h.lo, h.hi, fun k => ?_, ?_, Nat.le_trans (length_cut_le _ _) h.out⟩
    · have a := hcnt k
      rw [keys_cnt, keys_cnt] at a
      have b := h.one k
      have e1 : (again (noGhost s key) key).b1 = cut s.b1 key := rfl
      rw [e1, cnt_cut]
      by_cases e : key = k
      · subst e
        rw [one_self] at a
        simp
        omega
      · rw [one_ne e] at a
        simp [Ne.symm e]
        omega
    · simp only [again, noGhost, List.length_append, List.length_cons, List.length_nil]; omega
  · rw [keys_length, keys_length]; simp only [again, noGhost, List.length_append, List.length_cons, List.length_nil]; omega

/-! ### keys that come once go in the order in which they came -/
structure First (s : St κ) (l : List κ) (i : Nat) : Prop where
  ok : Ok s
  t1 : s.t1 = (l.take i).drop (i - s.c)
  t2 : s.t2 = []
  out : ∀ k, k ∈ s.b1 → k ∈ l.take i
theorem start_first {c : Nat} (h : 1 ≤ c) (h2 : c ≤ 1024) (l : List κ) : First (start c : St κ) l 0 := ⟨start_ok h h2, by simp [start], rfl, by simp [start]⟩
end
theorem mem_trim {κ : Type} {n : Nat} {l : List κ} {k : κ} (h : k ∈ trim n l) : k ∈ l := List.mem_of_mem_drop h
section
variable {κ : Type} [DecidableEq κ]
theorem first_new {s : St κ} {l : List κ} {i : Nat} {key : κ} (h : First s l i) (hi : l[i]? = some key) (hn : key ∉ l.take i) :
    First (access s key).2.2 l (i + 1) ∧ (access s key).2.2.c = s.c ∧ (access s key).1 = false ∧ (access s key).2.1 = (if i < s.c then [] else (l[i - s.c]?).toList) := by
  have hil : i < l.length := by
    rcases Nat.lt_or_ge i l.length with h | h
    · exact h
    · rw [List.getElem?_eq_none h] at hi; cases hi
  have hk1 : key ∉ s.t1 := fun h1 => hn (by rw [h.t1] at h1; exact List.mem_of_mem_drop h1)
  have hk2 : key ∉ s.t2 := by rw [h.t2]; simp
  have hk3 : key ∉ s.b1 := fun h1 => hn (h.out key h1)
  have hlen : s.t1.length = i - (i - s.c) := by rw [h.t1]; simp; omega
  have hlo := h.ok.lo
  have hl2 : s.t2.length = 0 := by rw [h.t2]; rfl
  have hM := acc_any h.ok key
  have hacc : access s key = (false, fresh s key) := by
    unfold access
    rw [if_neg hk2, if_neg hk1, if_neg hk3]
  have htk : l.take (i + 1) = l.take i ++ [key] := by rw [List.take_add_one, hi]; rfl
  rw [hacc] at hM ⊢
  rcases Nat.lt_or_ge i s.c with hc | hc
  · have hr := rec_room (s := s) (by omega)
    have hf : fresh s key = ([], newest s key) := by unfold fresh; rw [hr]
    rw [hf] at hM ⊢
    refine ⟨⟨hM.1, ?_, h.t2, fun k hk => ?_⟩, rfl, rfl, by rw [if_pos hc]⟩
    · show s.t1 ++ [key] = (l.take (i + 1)).drop (i + 1 - s.c)
      rw [h.t1, htk, show i + 1 - s.c = 0 by omega, show i - s.c = 0 by omega]
      rfl
    · rw [htk]; exact List.mem_append_left _ (h.out k hk)
  · have hr := rec_full (s := s) (by omega)
    have hlate : late s = false := by unfold late; rw [hl2]; simp
    obtain ⟨g, r, ht, hg⟩ := goes_early hlate (by omega)
    have hf : fresh s key = ([g], newest { s with t1 := r, b1 := trim (kout s) (s.b1 ++ [g]) } key) := by unfold fresh; rw [hr, hg]
    rw [hf] at hM ⊢
    have hgl : l[i - s.c]? = some g := by
      have h1 : s.t1[0]? = some g := by rw [ht]; rfl
      rw [h.t1, List.getElem?_drop, Nat.add_zero, List.getElem?_take] at h1
      rw [if_pos (by omega)] at h1
      exact h1
    have hr' : r = (l.take i).drop (i - s.c + 1) := by
      have h1 : s.t1.drop 1 = r := by rw [ht]; rfl
      rw [← h1, h.t1, List.drop_drop]
    refine ⟨⟨hM.1, ?_, h.t2, fun k hk => ?_⟩, rfl, rfl, by rw [if_neg (by omega), hgl]; rfl⟩
    · show r ++ [key] = (l.take (i + 1)).drop (i + 1 - s.c)
      rw [hr', htk, show i + 1 - s.c = i - s.c + 1 by omega, List.drop_append_of_le_length (by simp; omega)]
    · rw [htk]
      have h1 := mem_trim hk
      rcases List.mem_append.1 h1 with h2 | h2
      · exact List.mem_append_left _ (h.out k h2)
      · simp at h2
        subst h2
        refine List.mem_append_left _ ?_
        have : k ∈ s.t1 := by rw [ht]; simp
        rw [h.t1] at this
        exact List.mem_of_mem_drop this

/-! ### who is told -/
theorem tell_room {l : List κ} {key : κ} {s s' : St κ} (hi : ∀ k, cnt k l = cnt k (keys s)) (h : ∀ k, cnt k (keys s') = cnt k (keys s) + one key k) : ∀ k, cnt k (l ++ [key]) = cnt k (keys s') := fun k => by
  rw [cnt_snoc, hi, h]
theorem tell_full {l : List κ} {key g : κ} {s s' : St κ} (ho : Ok s) (hi : ∀ k, cnt k l = cnt k (keys s)) (hg : 0 < cnt g (keys s)) (h : ∀ k, cnt k (keys s') + one g k = cnt k (keys s) + one key k) : ∀ k, cnt k (cut l g ++ [key]) = cnt k (keys s') := fun k => by
  have := cnt_cut_one (k := k) (j := g) (l := l) (by rw [hi, keys_cnt]; have := ho.one g; omega) (by rw [hi]; exact hg)
  have := h k
  have := hi k
  rw [cnt_snoc]
  omega
end
theorem only {κ : Type} {l : List κ} {k : κ} (h : l.length = 1) (hk : k ∈ l) : l = [k] := by
  match l, h with
  | [x], _ => simp at hk; rw [hk]
section
variable {κ : Type} [DecidableEq κ]
end
end Go.Proofs.Ytbbfckgooligdab.A
