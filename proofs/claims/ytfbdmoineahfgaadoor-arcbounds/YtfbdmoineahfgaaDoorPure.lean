/- The machine of chapter 10 over plain lists: four rows of keys, a number, a room; what each act answers and leaves. No program is named here. -/
namespace Go.Proofs.YtfbdmoineahfgaaDoor.A

structure St (κ : Type) where
  t1 : List κ
  t2 : List κ
  b1 : List κ
  b2 : List κ
  p : Nat
  c : Nat

section
variable {κ : Type} [DecidableEq κ]

/-- a row without a key -/
def cut (l : List κ) (k : κ) : List κ := l.filter (fun x => decide (x ≠ k))
/-- 1 where two are one -/
def one (a b : κ) : Nat := if a = b then 1 else 0
/-- how often a key is in a row -/
def cnt (k : κ) : List κ → Nat
  | [] => 0
  | x :: l => one x k + cnt k l
theorem one_le (a b : κ) : one a b ≤ 1 := by unfold one; split <;> omega
theorem one_self (a : κ) : one a a = 1 := by simp [one]
theorem one_ne {a b : κ} (h : a ≠ b) : one a b = 0 := by simp [one, h]
theorem one_eq {a b : κ} (h : 0 < one a b) : a = b := by unfold one at h; split at h; assumption; omega
theorem cnt_nil (k : κ) : cnt k [] = 0 := rfl
theorem cnt_cons (k x : κ) (l : List κ) : cnt k (x :: l) = one x k + cnt k l := rfl
theorem cnt_append (k : κ) (l m : List κ) : cnt k (l ++ m) = cnt k l + cnt k m := by
  induction l with
  | nil => simp [cnt]
  | cons x l ih => simp [cnt, ih]; omega
theorem cnt_snoc (k x : κ) (l : List κ) : cnt k (l ++ [x]) = cnt k l + one x k := by rw [cnt_append]; simp [cnt]
theorem cnt_pos {k : κ} {l : List κ} : 0 < cnt k l ↔ k ∈ l := by
  induction l with
  | nil => simp [cnt]
  | cons x l ih =>
    rw [cnt_cons, List.mem_cons, ← ih]
    unfold one
    by_cases h : x = k
    · simp [h]; omega
    · simp [h, Ne.symm h]
theorem cnt_zero {k : κ} {l : List κ} : cnt k l = 0 ↔ k ∉ l := by rw [← cnt_pos]; omega
theorem cnt_cut (k j : κ) (l : List κ) : cnt k (cut l j) = if k = j then 0 else cnt k l := by
  induction l with
  | nil => simp [cut, cnt]
  | cons x l ih =>
    unfold cut at *
    by_cases h : x = j
    · subst h
      simp only [List.filter_cons]
      by_cases h2 : k = x
      · simp [h2] at *; exact ih
      · simp [h2, cnt_cons, one, Ne.symm h2] at *; exact ih
    · simp only [List.filter_cons]
      by_cases h2 : k = j
      · subst h2; simp [h, cnt_cons, one] at *; exact ih
      · simp [h, h2, cnt_cons] at *; exact ih
theorem cut_same {k : κ} {l : List κ} (h : k ∉ l) : cut l k = l := by
  unfold cut
  rw [List.filter_eq_self]
  intro x hx
  simp
  rintro rfl
  exact h hx
/-- each at most once -/
def Once (l : List κ) : Prop := ∀ k, cnt k l ≤ 1
theorem Once.nodup {l : List κ} (h : Once l) : l.Nodup := by
  induction l with
  | nil => simp
  | cons x l ih =>
    rw [List.nodup_cons]
    refine ⟨fun hx => ?_, ih (fun k => by have := h k; rw [cnt_cons] at this; omega)⟩
    have := h x
    rw [cnt_cons, one_self] at this
    have := cnt_pos.2 hx
    omega
theorem once_of_nodup {l : List κ} (h : l.Nodup) : Once l := by
  induction l with
  | nil => intro k; simp [cnt]
  | cons x l ih =>
    rw [List.nodup_cons] at h
    intro k
    rw [cnt_cons]
    by_cases e : x = k
    · subst e
      rw [cnt_zero.2 h.1, one_self]
      omega
    · rw [one_ne e]
      have := ih h.2 k
      omega
theorem cnt_count (k : κ) (l : List κ) : cnt k l = l.count k := by
  induction l with
  | nil => rfl
  | cons x l ih =>
    rw [cnt_cons, List.count_cons, ih]
    by_cases h : x = k
    · simp [h, one]; omega
    · simp [h, one]
/-- rows of the same keys are as long -/
theorem length_of_cnt {l m : List κ} (h : ∀ k, cnt k l = cnt k m) : l.length = m.length := by
  apply List.Perm.length_eq
  rw [List.perm_iff_count]
  intro k
  rw [← cnt_count, ← cnt_count, h]
theorem length_cut {l : List κ} {k : κ} (h : Once l) (hk : k ∈ l) : (cut l k).length + 1 = l.length := by
  have : (k :: cut l k).length = l.length := by
    apply length_of_cnt
    intro j
    rw [cnt_cons, cnt_cut]
    have := h j
    by_cases e : j = k
    · subst e
      have := cnt_pos.2 hk
      rw [one_self]
      simp
      omega
    · rw [one_ne (Ne.symm e)]
      simp [e]
  simpa using this
theorem length_cut_le (l : List κ) (k : κ) : (cut l k).length ≤ l.length := List.length_filter_le _ _
/-- the oldest of a row with each key once: cut by its key it is the rest -/
theorem cut_head {x : κ} {l : List κ} (h : Once (x :: l)) : cut (x :: l) x = l := by
  have hx : x ∉ l := by
    rw [← cnt_zero]
    have := h x
    rw [cnt_cons, one_self] at this
    omega
  have : cut (x :: l) x = cut l x := by simp [cut]
  rw [this, cut_same hx]

/-! ### the machine -/
def keys (s : St κ) : List κ := s.t1 ++ s.t2
def ghosts (s : St κ) : List κ := s.b1 ++ s.b2
def start (c : Nat) : St κ := ⟨[], [], [], [], 0, c⟩
/-- one goes, from T1 or from T2 -/
def goes (s : St κ) : Bool → List κ × St κ
  | true => match s.t1 with
    | [] => ([], s)
    | k :: r => ([k], { s with t1 := r, b1 := s.b1 ++ [k] })
  | false => match s.t2 with
    | [] => ([], s)
    | k :: r => ([k], { s with t2 := r, b2 := s.b2 ++ [k] })
/-- is it one of T1 that goes? -/
def first (s : St κ) (b : Bool) : Bool := decide (0 < s.t1.length) && (decide (s.p < s.t1.length) || (decide (s.t1.length = s.p) && b) || decide (s.t2.length = 0))
def replace (s : St κ) (key : κ) : List κ × St κ :=
  if s.t1.length + s.t2.length < s.c then ([], s) else goes s (first s (decide (key ∈ s.b2)))
def more (s : St κ) : St κ := { s with p := min s.c (s.p + max 1 (s.b2.length / s.b1.length)) }
def less (s : St κ) : St κ := { s with p := s.p - max 1 (s.b1.length / s.b2.length) }
def fromB1 (s : St κ) (key : κ) : St κ := { s with b1 := cut s.b1 key, t2 := s.t2 ++ [key] }
def fromB2 (s : St κ) (key : κ) : St κ := { s with b2 := cut s.b2 key, t2 := s.t2 ++ [key] }
def newest (s : St κ) (key : κ) : St κ := { s with t1 := s.t1 ++ [key] }
def known (s : St κ) (key : κ) : List κ × St κ :=
  if key ∈ s.b1 then ((replace (more s) key).1, fromB1 (replace (more s) key).2 key)
  else ((replace (less s) key).1, fromB2 (replace (less s) key).2 key)
/-- what is done for a key that nobody knows, ahead of its coming in -/
def clears (s : St κ) (key : κ) : List κ × St κ :=
  if s.c ≤ s.t1.length + s.b1.length then
    if s.t1.length < s.c then replace { s with b1 := s.b1.tail } key
    else (s.t1.head?.toList, { s with t1 := s.t1.tail })
  else if s.c ≤ s.t1.length + s.t2.length + s.b1.length + s.b2.length then
    if 2 * s.c ≤ s.t1.length + s.t2.length + s.b1.length + s.b2.length then replace { s with b2 := s.b2.tail } key
    else replace s key
  else ([], s)
def fresh (s : St κ) (key : κ) : List κ × St κ := ((clears s key).1, newest (clears s key).2 key)
def touch (s : St κ) (key : κ) : St κ := { s with t1 := cut s.t1 key, t2 := cut s.t2 key ++ [key] }
def access (s : St κ) (key : κ) : Bool × List κ × St κ :=
  if key ∈ keys s then (true, [], touch s key)
  else if key ∈ ghosts s then (false, known s key)
  else (false, fresh s key)
/-- the oldest of B1 go till no more than c are left of T1 and B1 -/
def trim1 (s : St κ) : St κ := { s with b1 := s.b1.drop (s.t1.length + s.b1.length - s.c) }
def trim2 (s : St κ) : St κ := { s with b2 := s.b2.drop (s.t1.length + s.t2.length + s.b1.length + s.b2.length - 2 * s.c) }
def comes (s : St κ) (key : κ) : St κ := { s with b1 := cut s.b1 key, b2 := cut s.b2 key, t1 := s.t1 ++ [key] }
def load (s : St κ) (key : κ) : Bool × St κ :=
  if key ∈ keys s ∨ s.c ≤ (keys s).length then (false, s) else (true, trim2 (trim1 (comes s key)))
def gone (s : St κ) (key : κ) : St κ := { s with t1 := cut s.t1 key, t2 := cut s.t2 key }
def remove (s : St κ) (key : κ) : Bool × St κ := if key ∈ keys s then (true, gone s key) else (false, s)
def evict (s : St κ) : List κ × St κ := if (keys s).length = 0 then ([], s) else goes s (first s false)

/-! ### what holds of it always -/
structure Ok (s : St κ) : Prop where
  lo : 1 ≤ s.c
  hi : s.c ≤ 1024
  pc : s.p ≤ s.c
  one : ∀ k, cnt k s.t1 + cnt k s.t2 + cnt k s.b1 + cnt k s.b2 ≤ 1
  res : s.t1.length + s.t2.length ≤ s.c
  low : s.t1.length + s.b1.length ≤ s.c
  all : s.t1.length + s.t2.length + s.b1.length + s.b2.length ≤ 2 * s.c
theorem start_ok {c : Nat} (h : 1 ≤ c) (h2 : c ≤ 1024) : Ok (start c : St κ) :=
  ⟨h, h2, by simp [start], fun k => by simp [start, cnt], by simp [start], by simp [start], by simp [start]⟩
theorem keys_cnt (s : St κ) (k : κ) : cnt k (keys s) = cnt k s.t1 + cnt k s.t2 := cnt_append _ _ _
theorem ghosts_cnt (s : St κ) (k : κ) : cnt k (ghosts s) = cnt k s.b1 + cnt k s.b2 := cnt_append _ _ _
end
theorem keys_length {κ : Type} (s : St κ) : (keys s).length = s.t1.length + s.t2.length := by simp [keys]
section
variable {κ : Type} [DecidableEq κ]
end
theorem ghosts_length {κ : Type} (s : St κ) : (ghosts s).length = s.b1.length + s.b2.length := by simp [ghosts]
section
variable {κ : Type} [DecidableEq κ]
/-- one went by it, of those that were resident; what else is known is as it was -/
structure Went (s s' : St κ) (g : κ) : Prop where
  cs : s'.c = s.c
  ps : s'.p = s.p
  key : ∀ k, cnt k s'.t1 + cnt k s'.t2 + A.one g k = cnt k s.t1 + cnt k s.t2
  old1 : ∀ k, cnt k s.b1 ≤ cnt k s'.b1
  old2 : ∀ k, cnt k s.b2 ≤ cnt k s'.b2
  gho : ∀ k, cnt k s'.b1 + cnt k s'.b2 = cnt k s.b1 + cnt k s.b2 + A.one g k
  l1 : s'.t1.length + s'.b1.length = s.t1.length + s.b1.length
  l2 : s'.t2.length + s'.b2.length = s.t2.length + s.b2.length
  lr : s'.t1.length + s'.t2.length + 1 = s.t1.length + s.t2.length
theorem goes_true {s : St κ} (h : 0 < s.t1.length) : ∃ g s', goes s true = ([g], s') ∧ Went s s' g := by
  obtain ⟨t1, t2, b1, b2, p, c⟩ := s
  cases t1 with
  | nil => simp at h
  | cons g r =>
    refine ⟨g, _, rfl, rfl, rfl, fun k => ?_, fun k => ?_, fun k => Nat.le_refl _, fun k => ?_, ?_, rfl, ?_⟩
    · simp only [cnt_cons]; omega
    · simp only [cnt_snoc]; omega
    · simp only [cnt_snoc]; omega
    · simp; omega
    · simp; omega
theorem goes_false {s : St κ} (h : 0 < s.t2.length) : ∃ g s', goes s false = ([g], s') ∧ Went s s' g := by
  obtain ⟨t1, t2, b1, b2, p, c⟩ := s
  cases t2 with
  | nil => simp at h
  | cons g r =>
    refine ⟨g, _, rfl, rfl, rfl, fun k => ?_, fun k => Nat.le_refl _, fun k => ?_, fun k => ?_, rfl, ?_, ?_⟩
    · simp only [cnt_cons]; omega
    · simp only [cnt_snoc]; omega
    · simp only [cnt_snoc]; omega
    · simp; omega
    · simp; omega
theorem goes_one {s : St κ} (b : Bool) (h : 0 < s.t1.length + s.t2.length) : ∃ g s', goes s (first s b) = ([g], s') ∧ Went s s' g := by
  cases hf : first s b with
  | true => exact goes_true (by simp [first] at hf; omega)
  | false =>
    refine goes_false ?_
    rcases Nat.eq_zero_or_pos s.t2.length with e | e
    · exfalso
      simp [first, e] at hf
      rw [hf] at h
      simp [e] at h
    · exact e
theorem rep_room {s : St κ} (key : κ) (h : s.t1.length + s.t2.length < s.c) : replace s key = ([], s) := by unfold replace; rw [if_pos h]
theorem rep_full {s : St κ} (key : κ) (h1 : 1 ≤ s.c) (h : s.c ≤ s.t1.length + s.t2.length) : ∃ g s', replace s key = ([g], s') ∧ Went s s' g := by
  unfold replace
  rw [if_neg (by omega)]
  exact goes_one _ (by omega)
/-- what replace does: nothing where there is room, else one goes -/
def Rep (s s' : St κ) (l : List κ) : Prop := (l = [] ∧ s' = s ∧ s.t1.length + s.t2.length < s.c) ∨ ∃ g, l = [g] ∧ s.t1.length + s.t2.length = s.c ∧ Went s s' g
theorem rep_any {s : St κ} (key : κ) (h1 : 1 ≤ s.c) (h : s.t1.length + s.t2.length ≤ s.c) : Rep s (replace s key).2 (replace s key).1 := by
  rcases Nat.lt_or_ge (s.t1.length + s.t2.length) s.c with hl | hg
  · rw [rep_room key hl]
    exact .inl ⟨rfl, rfl, hl⟩
  · obtain ⟨g, s', e, hw⟩ := rep_full key h1 hg
    rw [e]
    exact .inr ⟨g, rfl, by omega, hw⟩
/-- what an Access of a key does that was not resident -/
structure Missed (s s' : St κ) (key : κ) (l : List κ) : Prop where
  ok : Ok s'
  cs : s'.c = s.c
  went : (l = [] ∧ (keys s).length < s.c ∧ (∀ k, cnt k (keys s') = cnt k (keys s) + A.one key k) ∧ (keys s').length = (keys s).length + 1) ∨
    ∃ g, l = [g] ∧ (keys s).length = s.c ∧ 0 < cnt g (keys s) ∧ (∀ k, cnt k (keys s') + A.one g k = cnt k (keys s) + A.one key k) ∧ (keys s').length = s.c
theorem one_comm (a b : κ) : one a b = one b a := by
  unfold one
  by_cases h : a = b
  · simp [h]
  · simp [h, Ne.symm h]
theorem cnt_cut_one {k j : κ} {l : List κ} (h : cnt j l ≤ 1) (hj : 1 ≤ cnt j l) : cnt k (cut l j) + one j k = cnt k l := by
  rw [cnt_cut]
  by_cases e : k = j
  · subst e
    rw [one_self]
    simp
    omega
  · rw [one_ne (Ne.symm e)]
    simp [e]
theorem length_cut_one {j : κ} {l : List κ} (h : ∀ k, cnt k l ≤ 1) (hj : 1 ≤ cnt j l) : (cut l j).length + 1 = l.length := length_cut h (cnt_pos.1 hj)
theorem b1_missed {s s0 s1 : St κ} {key : κ} {l : List κ} (h : Ok s0) (e1 : s0.t1 = s.t1) (e2 : s0.t2 = s.t2) (e3 : s0.c = s.c) (hr : Rep s0 s1 l) (hb : 1 ≤ cnt key s0.b1) : Missed s (fromB1 s1 key) key l := by
  have ho := h.one
  have hks : ∀ k, cnt k (keys (fromB1 s1 key)) = cnt k s1.t1 + cnt k s1.t2 + A.one key k := fun k => by rw [keys_cnt]; simp only [fromB1, cnt_snoc]; omega
  have hkl : (keys (fromB1 s1 key)).length = s1.t1.length + s1.t2.length + 1 := by rw [keys_length]; simp [fromB1]; omega
  have hlo := h.lo; have hhi := h.hi; have hpc := h.pc; have hres := h.res; have hlow := h.low; have hall := h.all
  rcases hr with ⟨rfl, rfl, hl⟩ | ⟨g, rfl, hl, hw⟩
  · have hlen := length_cut_one (l := s1.b1) (j := key) (fun k => by have := ho k; omega) hb
    refine ⟨⟨hlo, hhi, hpc, fun k => ?_, ?_, ?_, ?_⟩, e3, .inl ⟨rfl, by rw [keys_length, ← e1, ← e2]; omega, fun k => ?_, ?_⟩⟩
    · have := cnt_cut_one (k := k) (j := key) (l := s1.b1) (by have := ho key; omega) hb
      have := ho k
      simp only [fromB1, cnt_snoc]; omega
    · simp [fromB1]; omega
    · simp [fromB1]; omega
    · simp [fromB1]; omega
    · rw [hks, keys_cnt, e1, e2]
    · rw [hkl, keys_length, e1, e2]
  · have ho1 : ∀ k, cnt k s1.t1 + cnt k s1.t2 + cnt k s1.b1 + cnt k s1.b2 ≤ 1 := fun k => by have a := ho k; have b := hw.key k; have c := hw.gho k; omega
    have hb1 : 1 ≤ cnt key s1.b1 := Nat.le_trans hb (hw.old1 key)
    have hlen := length_cut_one (l := s1.b1) (j := key) (fun k => by have := ho1 k; omega) hb1
    have w1 := hw.l1; have w2 := hw.l2; have w3 := hw.lr; have w4 := hw.cs; have w5 := hw.ps
    refine ⟨⟨by simp only [fromB1]; omega, by simp only [fromB1]; omega, by simp only [fromB1]; omega, fun k => ?_, ?_, ?_, ?_⟩, by simp only [fromB1]; omega, .inr ⟨g, rfl, by rw [keys_length, ← e1, ← e2]; omega, ?_, fun k => ?_, ?_⟩⟩
    · have := cnt_cut_one (k := k) (j := key) (l := s1.b1) (by have := ho1 key; omega) hb1
      have := ho1 k
      simp only [fromB1, cnt_snoc]; omega
    · simp [fromB1]; omega
    · simp [fromB1]; omega
    · simp [fromB1]; omega
    · have a := hw.key g
      rw [one_self] at a
      rw [keys_cnt, ← e1, ← e2]; omega
    · have a := hw.key k
      rw [hks, keys_cnt, ← e1, ← e2]; omega
    · rw [hkl]; omega
theorem b2_missed {s s0 s1 : St κ} {key : κ} {l : List κ} (h : Ok s0) (e1 : s0.t1 = s.t1) (e2 : s0.t2 = s.t2) (e3 : s0.c = s.c) (hr : Rep s0 s1 l) (hb : 1 ≤ cnt key s0.b2) : Missed s (fromB2 s1 key) key l := by
  have ho := h.one
  have hks : ∀ k, cnt k (keys (fromB2 s1 key)) = cnt k s1.t1 + cnt k s1.t2 + A.one key k := fun k => by rw [keys_cnt]; simp only [fromB2, cnt_snoc]; omega
  have hkl : (keys (fromB2 s1 key)).length = s1.t1.length + s1.t2.length + 1 := by rw [keys_length]; simp [fromB2]; omega
  have hlo := h.lo; have hhi := h.hi; have hpc := h.pc; have hres := h.res; have hlow := h.low; have hall := h.all
  rcases hr with ⟨rfl, rfl, hl⟩ | ⟨g, rfl, hl, hw⟩
  · have hlen := length_cut_one (l := s1.b2) (j := key) (fun k => by have := ho k; omega) hb
    refine ⟨⟨hlo, hhi, hpc, fun k => ?_, ?_, ?_, ?_⟩, e3, .inl ⟨rfl, by rw [keys_length, ← e1, ← e2]; omega, fun k => ?_, ?_⟩⟩
    · have := cnt_cut_one (k := k) (j := key) (l := s1.b2) (by have := ho key; omega) hb
      have := ho k
      simp only [fromB2, cnt_snoc]; omega
    · simp [fromB2]; omega
    · simp [fromB2]; omega
    · simp [fromB2]; omega
    · rw [hks, keys_cnt, e1, e2]
    · rw [hkl, keys_length, e1, e2]
  · have ho1 : ∀ k, cnt k s1.t1 + cnt k s1.t2 + cnt k s1.b1 + cnt k s1.b2 ≤ 1 := fun k => by have a := ho k; have b := hw.key k; have c := hw.gho k; omega
    have hb1 : 1 ≤ cnt key s1.b2 := Nat.le_trans hb (hw.old2 key)
    have hlen := length_cut_one (l := s1.b2) (j := key) (fun k => by have := ho1 k; omega) hb1
    have w1 := hw.l1; have w2 := hw.l2; have w3 := hw.lr; have w4 := hw.cs; have w5 := hw.ps
    refine ⟨⟨by simp only [fromB2]; omega, by simp only [fromB2]; omega, by simp only [fromB2]; omega, fun k => ?_, ?_, ?_, ?_⟩, by simp only [fromB2]; omega, .inr ⟨g, rfl, by rw [keys_length, ← e1, ← e2]; omega, ?_, fun k => ?_, ?_⟩⟩
    · have := cnt_cut_one (k := k) (j := key) (l := s1.b2) (by have := ho1 key; omega) hb1
      have := ho1 k
      simp only [fromB2, cnt_snoc]; omega
    · simp [fromB2]; omega
    · simp [fromB2]; omega
    · simp [fromB2]; omega
    · have a := hw.key g
      rw [one_self] at a
      rw [keys_cnt, ← e1, ← e2]; omega
    · have a := hw.key k
      rw [hks, keys_cnt, ← e1, ← e2]; omega
    · rw [hkl]; omega
theorem new_missed {s s0 s1 : St κ} {key : κ} {l : List κ} (h : Ok s0) (e1 : s0.t1 = s.t1) (e2 : s0.t2 = s.t2) (e3 : s0.c = s.c) (hr : Rep s0 s1 l)
    (hn : cnt key s0.t1 + cnt key s0.t2 + cnt key s0.b1 + cnt key s0.b2 = 0) (h2 : s0.t1.length + s0.b1.length < s0.c) (h3 : s0.t1.length + s0.t2.length + s0.b1.length + s0.b2.length < 2 * s0.c) : Missed s (newest s1 key) key l := by
  have ho := h.one
  have hks : ∀ k, cnt k (keys (newest s1 key)) = cnt k s1.t1 + cnt k s1.t2 + A.one key k := fun k => by rw [keys_cnt]; simp only [newest, cnt_snoc]; omega
  have hkl : (keys (newest s1 key)).length = s1.t1.length + s1.t2.length + 1 := by rw [keys_length]; simp [newest]; omega
  have hlo := h.lo; have hhi := h.hi; have hpc := h.pc; have hres := h.res; have hlow := h.low; have hall := h.all
  have hone : ∀ k, cnt k s0.t1 + cnt k s0.t2 + cnt k s0.b1 + cnt k s0.b2 + A.one key k ≤ 1 := fun k => by
    by_cases e : key = k
    · subst e; rw [one_self]; omega
    · rw [one_ne e]; exact ho k
  rcases hr with ⟨rfl, rfl, hl⟩ | ⟨g, rfl, hl, hw⟩
  · refine ⟨⟨hlo, hhi, hpc, fun k => ?_, ?_, ?_, ?_⟩, e3, .inl ⟨rfl, by rw [keys_length, ← e1, ← e2]; omega, fun k => ?_, ?_⟩⟩
    · have := hone k
      simp only [newest, cnt_snoc]; omega
    · simp [newest]; omega
    · simp [newest]; omega
    · simp [newest]; omega
    · rw [hks, keys_cnt, e1, e2]
    · rw [hkl, keys_length, e1, e2]
  · have w1 := hw.l1; have w2 := hw.l2; have w3 := hw.lr; have w4 := hw.cs; have w5 := hw.ps
    refine ⟨⟨by simp only [newest]; omega, by simp only [newest]; omega, by simp only [newest]; omega, fun k => ?_, ?_, ?_, ?_⟩, by simp only [newest]; omega, .inr ⟨g, rfl, by rw [keys_length, ← e1, ← e2]; omega, ?_, fun k => ?_, ?_⟩⟩
    · have a := hone k; have b := hw.key k; have c := hw.gho k
      simp only [newest, cnt_snoc]; omega
    · simp [newest]; omega
    · simp [newest]; omega
    · simp [newest]; omega
    · have a := hw.key g
      rw [one_self] at a
      rw [keys_cnt, ← e1, ← e2]; omega
    · have a := hw.key k
      rw [hks, keys_cnt, ← e1, ← e2]; omega
    · rw [hkl]; omega
theorem tail_cnt (k : κ) (l : List κ) : cnt k l.tail ≤ cnt k l := by
  cases l with
  | nil => exact Nat.le_refl _
  | cons x l => rw [cnt_cons, List.tail_cons]; omega
theorem Ok.tailB1 {s : St κ} (h : Ok s) : Ok { s with b1 := s.b1.tail } :=
  ⟨h.lo, h.hi, h.pc, fun k => by have := h.one k; have := tail_cnt k s.b1; simp only; omega, h.res, by have := h.low; simp; omega, by have := h.all; simp; omega⟩
theorem Ok.tailB2 {s : St κ} (h : Ok s) : Ok { s with b2 := s.b2.tail } :=
  ⟨h.lo, h.hi, h.pc, fun k => by have := h.one k; have := tail_cnt k s.b2; simp only; omega, h.res, h.low, by have := h.all; simp; omega⟩
theorem Ok.more {s : St κ} (h : Ok s) : Ok (more s) := ⟨h.lo, h.hi, by simp only [A.more]; omega, h.one, h.res, h.low, h.all⟩
theorem Ok.less {s : St κ} (h : Ok s) : Ok (less s) := ⟨h.lo, h.hi, by have := h.pc; simp only [A.less]; omega, h.one, h.res, h.low, h.all⟩
theorem fresh_missed {s : St κ} {key : κ} (h : Ok s) (hn : cnt key s.t1 + cnt key s.t2 + cnt key s.b1 + cnt key s.b2 = 0) : Missed s (fresh s key).2 key (fresh s key).1 := by
  have hlo := h.lo; have hres := h.res; have hlow := h.low; have hall := h.all
  unfold fresh clears
  simp only
  by_cases c1 : s.c ≤ s.t1.length + s.b1.length
  · simp only [if_pos c1]
    by_cases c2 : s.t1.length < s.c
    · simp only [if_pos c2]
      have := tail_cnt key s.b1
      refine new_missed h.tailB1 rfl rfl rfl (rep_any key hlo hres) (by simp only; omega) (by simp; omega) (by simp; omega)
    · simp only [if_neg c2]
      obtain ⟨t1, t2, b1, b2, p, c⟩ := s
      simp only at *
      cases t1 with
      | nil => simp at c2; omega
      | cons g r =>
        have hone : ∀ k, cnt k (g :: r) + cnt k t2 + cnt k b1 + cnt k b2 + A.one key k ≤ 1 := fun k => by
          by_cases e : key = k
          · subst e; rw [one_self]; omega
          · rw [one_ne e]; exact h.one k
        simp only [List.length_cons] at *
        refine ⟨⟨hlo, h.hi, h.pc, fun k => ?_, ?_, ?_, ?_⟩, rfl, .inr ⟨g, rfl, ?_, ?_, fun k => ?_, ?_⟩⟩
        · have := hone k
          simp only [newest, List.tail_cons, cnt_snoc, cnt_cons] at *; omega
        · simp [newest]; omega
        · simp [newest]; omega
        · simp [newest]; omega
        · simp [keys]; omega
        · rw [keys_cnt]; simp only [cnt_cons, one_self]; omega
        · rw [keys_cnt, keys_cnt]; simp only [newest, List.tail_cons, cnt_snoc, cnt_cons]; omega
        · simp [keys, newest]; omega
  · simp only [if_neg c1]
    by_cases c2 : s.c ≤ s.t1.length + s.t2.length + s.b1.length + s.b2.length
    · simp only [if_pos c2]
      by_cases c3 : 2 * s.c ≤ s.t1.length + s.t2.length + s.b1.length + s.b2.length
      · simp only [if_pos c3]
        have := tail_cnt key s.b2
        refine new_missed h.tailB2 rfl rfl rfl (rep_any key hlo hres) (by simp only; omega) (by simp only; omega) (by simp; omega)
      · simp only [if_neg c3]
        exact new_missed h rfl rfl rfl (rep_any key hlo hres) hn (by omega) (by omega)
    · simp only [if_neg c2]
      exact new_missed h rfl rfl rfl (.inl ⟨rfl, rfl, by omega⟩) hn (by omega) (by omega)
theorem known_missed {s : St κ} {key : κ} (h : Ok s) (hg : key ∈ ghosts s) : Missed s (known s key).2 key (known s key).1 := by
  have hlo := h.lo; have hres := h.res
  have hc := cnt_pos.2 hg
  rw [ghosts_cnt] at hc
  unfold known
  by_cases hb : key ∈ s.b1
  · simp only [if_pos hb]
    exact b1_missed h.more rfl rfl rfl (rep_any key hlo hres) (cnt_pos.2 hb)
  · simp only [if_neg hb]
    have := cnt_zero.2 hb
    exact b2_missed h.less rfl rfl rfl (rep_any key hlo hres) (by simp only [less]; omega)
theorem acc_miss {s : St κ} {key : κ} (h : Ok s) (hk : key ∉ keys s) : (access s key).1 = false ∧ Missed s (access s key).2.2 key (access s key).2.1 := by
  unfold access
  rw [if_neg hk]
  by_cases hg : key ∈ ghosts s
  · rw [if_pos hg]
    exact ⟨rfl, known_missed h hg⟩
  · rw [if_neg hg]
    have a := cnt_zero.2 hk
    have b := cnt_zero.2 hg
    rw [keys_cnt] at a
    rw [ghosts_cnt] at b
    exact ⟨rfl, fresh_missed h (by omega)⟩
/-- what an Access of a resident key does -/
theorem acc_hit {s : St κ} {key : κ} (h : Ok s) (hk : key ∈ keys s) :
    (access s key).1 = true ∧ (access s key).2.1 = [] ∧ Ok (access s key).2.2 ∧ (access s key).2.2.c = s.c ∧ (∀ k, cnt k (keys (access s key).2.2) = cnt k (keys s)) ∧ (keys (access s key).2.2).length = (keys s).length := by
  unfold access
  rw [if_pos hk]
  have hc := cnt_pos.2 hk
  rw [keys_cnt] at hc
  have hone := h.one
  have hcnt : ∀ k, cnt k (keys (touch s key)) = cnt k (keys s) := fun k => by
    rw [keys_cnt, keys_cnt]
    simp only [touch, cnt_snoc, cnt_cut]
    have := hone key
    by_cases e : k = key
    · subst e; simp [one_self]; omega
    · simp [e, one_ne (Ne.symm e)]
  have hlen : (keys (touch s key)).length = (keys s).length := length_of_cnt hcnt
  have hl := hlen
  rw [keys_length, keys_length] at hl
  have l1 : (touch s key).t1.length ≤ s.t1.length := length_cut_le _ _
  refine ⟨rfl, rfl, (?_ : Ok (touch s key)), rfl, hcnt, hlen⟩
  refine ⟨h.lo, h.hi, h.pc, fun k => ?_, ?_, ?_, ?_⟩
  · have a := hcnt k
    rw [keys_cnt, keys_cnt] at a
    have b := hone k
    have e1 : (touch s key).b1 = s.b1 := rfl
    have e2 : (touch s key).b2 = s.b2 := rfl
    rw [e1, e2]
    omega
  · have := h.res
    have e : (touch s key).c = s.c := rfl
    omega
  · have := h.low
    have e : (touch s key).c = s.c := rfl
    have e1 : (touch s key).b1 = s.b1 := rfl
    rw [e1]
    omega
  · have := h.all
    have e : (touch s key).c = s.c := rfl
    have e1 : (touch s key).b1 = s.b1 := rfl
    have e2 : (touch s key).b2 = s.b2 := rfl
    rw [e1, e2]
    omega
/-- what an Access does, of whatever key -/
theorem acc_any {s : St κ} (h : Ok s) (key : κ) : Ok (access s key).2.2 ∧ (access s key).2.2.c = s.c := by
  by_cases hk : key ∈ keys s
  · have := acc_hit h hk; exact ⟨this.2.2.1, this.2.2.2.1⟩
  · have := (acc_miss h hk).2; exact ⟨this.ok, this.cs⟩

/-! ### Remove, Evict, Load -/
theorem rem_no {s : St κ} {key : κ} (hk : key ∉ keys s) : remove s key = (false, s) := by unfold remove; rw [if_neg hk]
theorem rem_yes {s : St κ} {key : κ} (h : Ok s) (hk : key ∈ keys s) :
    (remove s key).1 = true ∧ Ok (remove s key).2 ∧ (remove s key).2.c = s.c ∧ (∀ k, cnt k (keys (remove s key).2) + one key k = cnt k (keys s)) ∧ (keys (remove s key).2).length + 1 = (keys s).length ∧ ghosts (remove s key).2 = ghosts s := by
  unfold remove
  rw [if_pos hk]
  have hc := cnt_pos.2 hk
  rw [keys_cnt] at hc
  have hone := h.one
  have hcnt : ∀ k, cnt k (keys (gone s key)) + A.one key k = cnt k (keys s) := fun k => by
    rw [keys_cnt, keys_cnt]
    simp only [gone, cnt_cut]
    have := hone key
    by_cases e : k = key
    · subst e; simp [one_self]; omega
    · simp [e, one_ne (Ne.symm e)]
  have hlen : (key :: keys (gone s key)).length = (keys s).length := length_of_cnt (fun k => by rw [cnt_cons, ← hcnt k]; omega)
  rw [List.length_cons] at hlen
  have l1 : (gone s key).t1.length ≤ s.t1.length := length_cut_le _ _
  have l2 : (gone s key).t2.length ≤ s.t2.length := length_cut_le _ _
  have e : (gone s key).c = s.c := rfl
  have e1 : (gone s key).b1 = s.b1 := rfl
  have e2 : (gone s key).b2 = s.b2 := rfl
  refine ⟨rfl, (?_ : Ok (gone s key)), rfl, hcnt, hlen, rfl⟩
  refine ⟨h.lo, h.hi, h.pc, fun k => ?_, ?_, ?_, ?_⟩
  · have a := hcnt k
    rw [keys_cnt, keys_cnt] at a
    have b := hone k
    rw [e1, e2]
    omega
  · have := h.res; omega
  · have := h.low; rw [e1]; omega
  · have := h.all; rw [e1, e2]; omega
end
theorem evi_no {κ : Type} {s : St κ} (h : (keys s).length = 0) : evict s = ([], s) := by unfold evict; rw [if_pos h]
section
variable {κ : Type} [DecidableEq κ]
theorem evi_yes {s : St κ} (h : Ok s) (hk : (keys s).length ≠ 0) :
    ∃ g s', evict s = ([g], s') ∧ Ok s' ∧ s'.c = s.c ∧ (∀ k, cnt k (keys s') + one g k = cnt k (keys s)) ∧ (keys s').length + 1 = (keys s).length := by
  unfold evict
  rw [if_neg hk]
  rw [keys_length] at hk
  obtain ⟨g, s', e, hw⟩ := goes_one (s := s) false (by omega)
  have w1 := hw.l1; have w2 := hw.l2; have w3 := hw.lr; have w4 := hw.cs; have w5 := hw.ps
  have hlo := h.lo; have hhi := h.hi; have hpc := h.pc; have hres := h.res; have hlow := h.low; have hall := h.all
  refine ⟨g, s', e, ⟨by omega, by omega, by omega, fun k => ?_, by omega, by omega, by omega⟩, w4, fun k => ?_, ?_⟩
  · have := h.one k; have := hw.key k; have := hw.gho k; omega
  · have := hw.key k; rw [keys_cnt, keys_cnt]; omega
  · rw [keys_length, keys_length]; omega
theorem drop_cnt (k : κ) (l : List κ) : ∀ n, cnt k (l.drop n) ≤ cnt k l := by
  induction l with
  | nil => intro n; simp
  | cons x l ih =>
    intro n
    cases n with
    | zero => simp
    | succ n => rw [List.drop_succ_cons, cnt_cons]; have := ih n; omega
theorem load_no {s : St κ} {key : κ} (h : key ∈ keys s ∨ s.c ≤ (keys s).length) : load s key = (false, s) := by unfold load; rw [if_pos h]
theorem load_yes {s : St κ} {key : κ} (h : Ok s) (hk : key ∉ keys s) (hl : (keys s).length < s.c) :
    (load s key).1 = true ∧ Ok (load s key).2 ∧ (load s key).2.c = s.c ∧ keys (load s key).2 = s.t1 ++ [key] ++ s.t2 ∧ (∀ k, cnt k (keys (load s key).2) = cnt k (keys s) + one key k) ∧ (keys (load s key).2).length = (keys s).length + 1 := by
  unfold load
  rw [if_neg (by intro h2; rcases h2 with h2 | h2; exact hk h2; omega)]
  have hc := cnt_zero.2 hk
  rw [keys_cnt] at hc
  rw [keys_length] at hl
  have hlo := h.lo; have hhi := h.hi; have hpc := h.pc; have hres := h.res; have hlow := h.low; have hall := h.all
  have l1 := length_cut_le s.b1 key
  have l2 := length_cut_le s.b2 key
  refine ⟨rfl, ⟨hlo, hhi, hpc, fun k => ?_, ?_, ?_, ?_⟩, rfl, rfl, fun k => ?_, ?_⟩
  · have a := h.one k
    have d1 := drop_cnt k (cut s.b1 key) ((s.t1 ++ [key]).length + (cut s.b1 key).length - s.c)
    have d2 := drop_cnt k (cut s.b2 key) ((s.t1 ++ [key]).length + s.t2.length + ((cut s.b1 key).drop ((s.t1 ++ [key]).length + (cut s.b1 key).length - s.c)).length + (cut s.b2 key).length - 2 * s.c)
    simp only [trim2, trim1, comes, cnt_snoc] at *
    rw [cnt_cut] at d1 d2
    by_cases e : k = key
    · subst e
      simp at d1 d2
      rw [one_self]
      simp at *
      omega
    · rw [one_ne (Ne.symm e)]
      simp [e] at d1 d2
      simp at *
      omega
  · simp [trim2, trim1, comes]; omega
  · simp [trim2, trim1, comes]; omega
  · simp [trim2, trim1, comes]; omega
  · rw [keys_cnt, keys_cnt]; simp only [trim2, trim1, comes, cnt_snoc]; omega
  · rw [keys_length, keys_length]; simp [trim2, trim1, comes]; omega

/-! ### who comes often stays -/
/-- behind keys that came twice each, fewer than there is room for -/
structure Twice (s : St κ) : Prop where
  ok : Ok s
  t1 : s.t1 = []
  b1 : s.b1 = []
  b2 : s.b2 = []
  p : s.p = 0
theorem start_twice {c : Nat} (h : 1 ≤ c) (h2 : c ≤ 1024) : Twice (start c : St κ) := ⟨start_ok h h2, rfl, rfl, rfl, rfl⟩
theorem twice_new {s : St κ} {key : κ} (h : Twice s) (hk : key ∉ s.t2) (hl : s.t2.length < s.c) : (access s key).2.2 = { s with t1 := [key] } := by
  have hks : key ∉ keys s := by simp [keys, h.t1, hk]
  have hgs : key ∉ ghosts s := by simp [ghosts, h.b1, h.b2]
  have hlo := h.ok.lo
  have e1 := h.t1; have e2 := h.b1; have e3 := h.b2
  unfold access
  rw [if_neg hks, if_neg hgs]
  simp only [fresh, clears]
  rw [if_neg (by simp [e1, e2]; omega), if_neg (by simp [e1, e2, e3]; omega)]
  simp [newest, e1]
theorem twice_two {s : St κ} (h : Twice s) (key : κ) (hl : s.t2.length < s.c) :
    Twice (access (access s key).2.2 key).2.2 ∧ (access (access s key).2.2 key).2.2.c = s.c ∧ (∀ k, k ∈ (access (access s key).2.2 key).2.2.t2 ↔ k ∈ s.t2 ∨ k = key) ∧ (access (access s key).2.2 key).2.2.t2.length ≤ s.t2.length + 1 := by
  obtain ⟨o1, c1⟩ := acc_any h.ok key
  obtain ⟨o2, c2⟩ := acc_any o1 key
  by_cases hk : key ∈ s.t2
  · have hks : key ∈ keys s := by simp [keys, hk]
    have e : (access s key).2.2 = touch s key := by unfold access; rw [if_pos hks]
    have hks2 : key ∈ keys (touch s key) := by simp [keys, touch]
    have e2 : (access (access s key).2.2 key).2.2 = touch (touch s key) key := by rw [e]; unfold access; rw [if_pos hks2]
    have hc := fun k => (acc_hit o1 (key := key) (by rw [e]; exact hks2)).2.2.2.2.1 k
    have hd := fun k => (acc_hit h.ok hks).2.2.2.2.1 k
    have hm : ∀ k, cnt k (access (access s key).2.2 key).2.2.t2 = cnt k s.t2 := fun k => by
      have a := hc k
      rw [hd k, keys_cnt, keys_cnt, h.t1] at a
      have z : (access (access s key).2.2 key).2.2.t1 = [] := by rw [e2]; simp [touch, h.t1, cut]
      rw [z] at a
      simpa [cnt] using a
    refine ⟨⟨o2, ?_, ?_, ?_, ?_⟩, by rw [c2, c1], fun k => ?_, ?_⟩
    · rw [e2]; simp [touch, h.t1, cut]
    · rw [e2]; exact h.b1
    · rw [e2]; exact h.b2
    · rw [e2]; exact h.p
    · rw [← cnt_pos, hm, cnt_pos]
      constructor
      · exact .inl
      · rintro (x | rfl)
        · exact x
        · exact hk
    · rw [length_of_cnt hm]; omega
  · have e := twice_new h hk hl
    have hks2 : key ∈ keys ({ s with t1 := [key] } : St κ) := by simp [keys]
    have e2 : (access (access s key).2.2 key).2.2 = { s with t1 := [], t2 := s.t2 ++ [key] } := by
      rw [e]
      unfold access
      rw [if_pos hks2]
      simp [touch, cut_same hk]
      simp [cut]
    refine ⟨⟨o2, ?_, ?_, ?_, ?_⟩, by rw [c2, c1], fun k => ?_, ?_⟩
    · rw [e2]
    · rw [e2]; exact h.b1
    · rw [e2]; exact h.b2
    · rw [e2]; exact h.p
    · rw [e2]; simp
    · rw [e2]; simp
/-- and while others come once each -/
structure Often (s : St κ) (m : List κ) : Prop where
  ok : Ok s
  t2 : s.t2 = m
  b2 : s.b2 = []
  p : s.p = 0
  lt : m.length < s.c
theorem Twice.often {s : St κ} (h : Twice s) (hl : s.t2.length < s.c) : Often s s.t2 := ⟨h.ok, rfl, h.b2, h.p, hl⟩
/-- replace, where p is 0 and T2 alone does not fill the room: it is one of T1 that goes -/
theorem rep_first {s : St κ} (key : κ) (hp : s.p = 0) (hl : s.t2.length < s.c) :
    (replace s key).2.t2 = s.t2 ∧ (replace s key).2.b2 = s.b2 ∧ (replace s key).2.p = 0 ∧ (replace s key).2.c = s.c ∧ ∀ k, cnt k (replace s key).2.t1 + cnt k (replace s key).2.b1 = cnt k s.t1 + cnt k s.b1 := by
  rcases Nat.lt_or_ge (s.t1.length + s.t2.length) s.c with h | h
  · rw [rep_room key h]
    exact ⟨rfl, rfl, hp, rfl, fun _ => rfl⟩
  · have hf : first s (decide (key ∈ s.b2)) = true := by simp [first, hp]; omega
    unfold replace
    rw [if_neg (by omega), hf]
    obtain ⟨t1, t2, b1, b2, p, c⟩ := s
    cases t1 with
    | nil => simp at h hl; omega
    | cons g r =>
      refine ⟨rfl, rfl, hp, rfl, fun k => ?_⟩
      simp only [goes, cnt_snoc, cnt_cons]
      omega
theorem often_new {s : St κ} {m : List κ} {key : κ} (h : Often s m) (hn : cnt key s.t1 + cnt key s.t2 + cnt key s.b1 + cnt key s.b2 = 0) :
    Often (access s key).2.2 m ∧ (access s key).2.2.c = s.c ∧ ∀ k, cnt k (access s key).2.2.t1 + cnt k (access s key).2.2.b1 ≤ cnt k s.t1 + cnt k s.b1 + one key k := by
  obtain ⟨o1, c1⟩ := acc_any h.ok key
  have hks : key ∉ keys s := by rw [← cnt_zero, keys_cnt]; omega
  have hgs : key ∉ ghosts s := by rw [← cnt_zero, ghosts_cnt]; omega
  have e : (access s key).2.2 = newest (clears s key).2 key := by unfold access; rw [if_neg hks, if_neg hgs]; rfl
  have hlo := h.ok.lo; have hres := h.ok.res; have hlow := h.ok.low
  have ht2 := h.t2; have hb2 := h.b2; have hp := h.p; have hlt := h.lt
  have lt2 : s.t2.length < s.c := by rw [ht2]; exact hlt
  have main : (clears s key).2.t2 = s.t2 ∧ (clears s key).2.b2 = s.b2 ∧ (clears s key).2.p = 0 ∧ ∀ k, cnt k (clears s key).2.t1 + cnt k (clears s key).2.b1 ≤ cnt k s.t1 + cnt k s.b1 := by
    unfold clears
    by_cases d1 : s.c ≤ s.t1.length + s.b1.length
    · rw [if_pos d1]
      by_cases d2 : s.t1.length < s.c
      · rw [if_pos d2]
        obtain ⟨r1, r2, r3, -, r5⟩ := rep_first (s := { s with b1 := s.b1.tail }) key hp lt2
        refine ⟨r1, r2, r3, fun k => ?_⟩
        have := r5 k
        have := tail_cnt k s.b1
        simp only at *
        omega
      · rw [if_neg d2]
        refine ⟨rfl, rfl, hp, fun k => ?_⟩
        have := tail_cnt k s.t1
        simp only
        omega
    · rw [if_neg d1]
      have nb : s.b2.length = 0 := by rw [hb2]; rfl
      by_cases d2 : s.c ≤ s.t1.length + s.t2.length + s.b1.length + s.b2.length
      · rw [if_pos d2, if_neg (by omega)]
        obtain ⟨r1, r2, r3, -, r5⟩ := rep_first (s := s) key hp lt2
        exact ⟨r1, r2, r3, fun k => by have := r5 k; omega⟩
      · rw [if_neg d2]
        exact ⟨rfl, rfl, hp, fun k => Nat.le_refl _⟩
  obtain ⟨m1, m2, m3, m4⟩ := main
  refine ⟨⟨o1, ?_, ?_, ?_, by rw [c1]; exact hlt⟩, c1, fun k => ?_⟩
  · rw [e]; simp only [newest]; rw [m1, ht2]
  · rw [e]; simp only [newest]; rw [m2, hb2]
  · rw [e]; exact m3
  · rw [e]
    simp only [newest, cnt_snoc]
    have := m4 k
    omega
theorem Often.has {s : St κ} {m : List κ} (h : Often s m) {k : κ} (hk : k ∈ m) : k ∈ keys s := by
  rw [keys, h.t2]
  exact List.mem_append_right _ hk

/-! ### who is told -/
theorem tell_room {l : List κ} {key : κ} {s s' : St κ} (hi : ∀ k, cnt k l = cnt k (keys s)) (h : ∀ k, cnt k (keys s') = cnt k (keys s) + one key k) : ∀ k, cnt k (l ++ [key]) = cnt k (keys s') := fun k => by
  rw [cnt_snoc, hi, h]
theorem tell_full {l : List κ} {key g : κ} {s s' : St κ} (ho : Ok s) (hi : ∀ k, cnt k l = cnt k (keys s)) (hg : 0 < cnt g (keys s)) (h : ∀ k, cnt k (keys s') + one g k = cnt k (keys s) + one key k) : ∀ k, cnt k (cut l g ++ [key]) = cnt k (keys s') := fun k => by
  have := cnt_cut_one (k := k) (j := g) (l := l) (by rw [hi, keys_cnt]; have := ho.one g; omega) (by rw [hi]; exact hg)
  have := h k
  have := hi k
  rw [cnt_snoc]
  omega
end
theorem only {κ : Type} {l : List κ} {k : κ} (h : l.length = 1) (hk : k ∈ l) : l = [k] := by
  match l, h with
  | [x], _ => simp at hk; rw [hk]
section
variable {κ : Type} [DecidableEq κ]
end
end Go.Proofs.YtfbdmoineahfgaaDoor.A
