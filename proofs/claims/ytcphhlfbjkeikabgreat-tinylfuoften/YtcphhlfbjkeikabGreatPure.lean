/- The machine of chapter 14 over plain lists: three rows of keys (t1: W, b1: A, t2: P, each from the one that was used longest ago), a room; what each act answers and leaves, where f tells how often a key was used. No program is named here. -/
namespace Go.Proofs.YtcphhlfbjkeikabGreat.A

structure St (κ : Type) where
  t1 : List κ
  b1 : List κ
  t2 : List κ
  c : Nat

section
variable {κ : Type} [DecidableEq κ]

/-- a row without a key -/
def cut (l : List κ) (k : κ) : List κ := l.filter (fun x => decide (x ≠ k))
/-- 1 where two are one -/
def one (a b : κ) : Nat := if a = b then 1 else 0
/-- how often a key is in a row -/
def cnt (k : κ) : List κ → Nat
  | [] => 0
  | x :: l => one x k + cnt k l
theorem one_le (a b : κ) : one a b ≤ 1 := by unfold one; split <;> omega
theorem one_self (a : κ) : one a a = 1 := by simp [one]
theorem one_ne {a b : κ} (h : a ≠ b) : one a b = 0 := by simp [one, h]
theorem one_eq {a b : κ} (h : 0 < one a b) : a = b := by unfold one at h; split at h; assumption; omega
theorem cnt_nil (k : κ) : cnt k [] = 0 := rfl
theorem cnt_cons (k x : κ) (l : List κ) : cnt k (x :: l) = one x k + cnt k l := rfl
theorem cnt_append (k : κ) (l m : List κ) : cnt k (l ++ m) = cnt k l + cnt k m := by
  induction l with
  | nil => simp [cnt]
  | cons x l ih => simp [cnt, ih]; omega
theorem cnt_snoc (k x : κ) (l : List κ) : cnt k (l ++ [x]) = cnt k l + one x k := by rw [cnt_append]; simp [cnt]
theorem cnt_pos {k : κ} {l : List κ} : 0 < cnt k l ↔ k ∈ l := by
  induction l with
  | nil => simp [cnt]
  | cons x l ih =>
    rw [cnt_cons, List.mem_cons, ← ih]
    unfold one
    by_cases h : x = k
    · simp [h]; omega
    · simp [h, Ne.symm h]
theorem cnt_zero {k : κ} {l : List κ} : cnt k l = 0 ↔ k ∉ l := by rw [← cnt_pos]; omega
theorem cnt_cut (k j : κ) (l : List κ) : cnt k (cut l j) = if k = j then 0 else cnt k l := by
  induction l with
  | nil => simp [cut, cnt]
  | cons x l ih =>
    unfold cut at *
    by_cases h : x = j
    · subst h
      simp only [List.filter_cons]
      by_cases h2 : k = x
      · simp [h2] at *; exact ih
      · simp [h2, cnt_cons, one, Ne.symm h2] at *; exact ih
    · simp only [List.filter_cons]
      by_cases h2 : k = j
      · subst h2; simp [h, cnt_cons, one] at *; exact ih
      · simp [h, h2, cnt_cons] at *; exact ih
theorem cut_same {k : κ} {l : List κ} (h : k ∉ l) : cut l k = l := by
  unfold cut
  rw [List.filter_eq_self]
  intro x hx
  simp
  rintro rfl
  exact h hx
/-- each at most once -/
def Once (l : List κ) : Prop := ∀ k, cnt k l ≤ 1
theorem Once.nodup {l : List κ} (h : Once l) : l.Nodup := by
  induction l with
  | nil => simp
  | cons x l ih =>
    rw [List.nodup_cons]
    refine ⟨fun hx => ?_, ih (fun k => by have := h k; rw [cnt_cons] at this; omega)⟩
    have := h x
    rw [cnt_cons, one_self] at this
    have := cnt_pos.2 hx
    omega
theorem once_of_nodup {l : List κ} (h : l.Nodup) : Once l := by
  induction l with
  | nil => intro k; simp [cnt]
  | cons x l ih =>
    rw [List.nodup_cons] at h
    intro k
    rw [cnt_cons]
    by_cases e : x = k
    · subst e
      rw [cnt_zero.2 h.1, one_self]
      omega
    · rw [one_ne e]
      have := ih h.2 k
      omega
theorem cnt_count (k : κ) (l : List κ) : cnt k l = l.count k := by
  induction l with
  | nil => rfl
  | cons x l ih =>
    rw [cnt_cons, List.count_cons, ih]
    by_cases h : x = k
    · simp [h, one]; omega
    · simp [h, one]
/-- rows of the same keys are as long -/
theorem length_of_cnt {l m : List κ} (h : ∀ k, cnt k l = cnt k m) : l.length = m.length := by
  apply List.Perm.length_eq
  rw [List.perm_iff_count]
  intro k
  rw [← cnt_count, ← cnt_count, h]
theorem length_cut {l : List κ} {k : κ} (h : Once l) (hk : k ∈ l) : (cut l k).length + 1 = l.length := by
  have : (k :: cut l k).length = l.length := by
    apply length_of_cnt
    intro j
    rw [cnt_cons, cnt_cut]
    have := h j
    by_cases e : j = k
    · subst e
      have := cnt_pos.2 hk
      rw [one_self]
      simp
      omega
    · rw [one_ne (Ne.symm e)]
      simp [e]
  simpa using this
theorem length_cut_le (l : List κ) (k : κ) : (cut l k).length ≤ l.length := List.length_filter_le _ _
/-- the oldest of a row with each key once: cut by its key it is the rest -/
theorem cut_head {x : κ} {l : List κ} (h : Once (x :: l)) : cut (x :: l) x = l := by
  have hx : x ∉ l := by
    rw [← cnt_zero]
    have := h x
    rw [cnt_cons, one_self] at this
    omega
  have : cut (x :: l) x = cut l x := by simp [cut]
  rw [this, cut_same hx]

theorem one_comm (a b : κ) : one a b = one b a := by
  unfold one
  by_cases h : a = b
  · simp [h]
  · simp [h, Ne.symm h]
theorem cnt_cut_one {k j : κ} {l : List κ} (h : cnt j l ≤ 1) (hj : 1 ≤ cnt j l) : cnt k (cut l j) + one j k = cnt k l := by
  rw [cnt_cut]
  by_cases e : k = j
  · subst e
    rw [one_self]
    simp
    omega
  · rw [one_ne (Ne.symm e)]
    simp [e]
theorem length_cut_one {j : κ} {l : List κ} (h : ∀ k, cnt k l ≤ 1) (hj : 1 ≤ cnt j l) : (cut l j).length + 1 = l.length := length_cut h (cnt_pos.1 hj)
/-! ### the machine -/

def keys (s : St κ) : List κ := s.t1 ++ (s.b1 ++ s.t2)
def start (c : Nat) : St κ := ⟨[], [], [], c⟩
def wroom (s : St κ) : Nat := max (s.c / 8) 1
def mroom (s : St κ) : Nat := s.c - wroom s
def proom (s : St κ) : Nat := mroom s * 4 / 5
/-- P has no more than it may: its first key goes back to A -/
def tame (s : St κ) : St κ := if proom s < s.t2.length then
    match s.t2 with
    | [] => s
    | x :: r => { s with b1 := s.b1 ++ [x], t2 := r }
  else s
def use (s : St κ) (k : κ) : St κ := if k ∈ s.t1 then { s with t1 := cut s.t1 k ++ [k] } else tame { s with b1 := cut s.b1 k, t2 := cut s.t2 k ++ [k] }
/-- the first of A and P -/
def victim (s : St κ) : List κ := match s.b1 with
  | v :: _ => [v]
  | [] => match s.t2 with
    | v :: _ => [v]
    | [] => []
/-- the one that leaves the window finds a place in A, or one goes -/
def settle (f : κ → Nat) (s : St κ) (x : κ) : List κ × St κ :=
  if s.b1.length + s.t2.length < mroom s then ([], { s with b1 := s.b1 ++ [x] })
  else match victim s with
    | [] => ([x], s)
    | v :: _ => if f x ≤ f v then ([x], s) else ([v], { s with b1 := cut s.b1 v ++ [x], t2 := cut s.t2 v })
def come (f : κ → Nat) (s : St κ) (k : κ) : List κ × St κ :=
  if s.t1.length < wroom s then ([], { s with t1 := s.t1 ++ [k] })
  else match s.t1 with
    | [] => ([], s)
    | x :: r => settle f { s with t1 := r ++ [k] } x
def access (f : κ → Nat) (s : St κ) (key : κ) : Bool × List κ × St κ :=
  if key ∈ keys s then (true, [], use s key) else (false, (come f s key).1, (come f s key).2)
def load (s : St κ) (key : κ) : Bool × St κ :=
  if key ∈ keys s ∨ s.c ≤ (keys s).length then (false, s)
  else if mroom s ≤ s.b1.length + s.t2.length then (true, { s with t1 := s.t1 ++ [key] }) else (true, { s with b1 := s.b1 ++ [key] })
def remove (s : St κ) (key : κ) : Bool × St κ := if key ∈ keys s then (true, { s with t1 := cut s.t1 key, b1 := cut s.b1 key, t2 := cut s.t2 key }) else (false, s)
def evict (s : St κ) : List κ × St κ := match s.b1 with
  | x :: r => ([x], { s with b1 := r })
  | [] => match s.t2 with
    | x :: r => ([x], { s with t2 := r })
    | [] => match s.t1 with
      | x :: r => ([x], { s with t1 := r })
      | [] => ([], s)

/-! ### what holds of its rows always -/
structure Ok (s : St κ) : Prop where
  lo : 1 ≤ s.c
  hi : s.c ≤ 1024
  one : ∀ k, cnt k s.t1 + cnt k s.b1 + cnt k s.t2 ≤ 1
  win : s.t1.length ≤ wroom s
  main : s.b1.length + s.t2.length ≤ mroom s
  prot : s.t2.length ≤ proom s
theorem keys_cnt (s : St κ) (k : κ) : cnt k (keys s) = cnt k s.t1 + cnt k s.b1 + cnt k s.t2 := by unfold keys; rw [cnt_append, cnt_append]; omega
omit [DecidableEq κ] in
theorem keys_length (s : St κ) : (keys s).length = s.t1.length + s.b1.length + s.t2.length := by simp [keys]; omega
omit [DecidableEq κ] in
theorem wroom_le {s : St κ} (h : 1 ≤ s.c) : 1 ≤ wroom s ∧ wroom s ≤ s.c := by unfold wroom; omega
theorem Ok.res {s : St κ} (h : Ok s) : (keys s).length ≤ s.c := by
  have h1 := h.win; have h2 := h.main; have h3 := wroom_le h.lo
  rw [keys_length]
  unfold mroom at h2
  omega
theorem Ok.once {s : St κ} (h : Ok s) (k : κ) : cnt k (keys s) ≤ 1 := by rw [keys_cnt]; exact h.one k
theorem start_ok {c : Nat} (h : 1 ≤ c) (h2 : c ≤ 1024) : Ok (start c : St κ) :=
  ⟨h, h2, fun k => by simp [start, cnt], by simp [start], by simp [start], by simp [start]⟩
theorem len_more {l m : List κ} {key : κ} (h : ∀ k, cnt k m = cnt k l + one key k) : m.length = l.length + 1 := by
  have : m.length = (key :: l).length := length_of_cnt (fun k => by rw [h, cnt_cons]; omega)
  simpa using this
theorem len_one {l : List κ} {j : κ} (h : ∀ k, cnt k l ≤ 1) : (cut l j).length + cnt j l = l.length := by
  by_cases hj : j ∈ l
  · have h1 := length_cut (l := l) h hj
    have h2 := cnt_pos.2 hj
    have h3 := h j
    omega
  · rw [cut_same hj, cnt_zero.2 hj]; omega
/-! ### Access -/
theorem tame_ok {s : St κ} (lo : 1 ≤ s.c) (hi : s.c ≤ 1024) (ho : ∀ k, cnt k s.t1 + cnt k s.b1 + cnt k s.t2 ≤ 1) (hw : s.t1.length ≤ wroom s) (hm : s.b1.length + s.t2.length ≤ mroom s) (hp : s.t2.length ≤ proom s + 1) :
    Ok (tame s) ∧ (tame s).c = s.c ∧ ∀ k, cnt k (keys (tame s)) = cnt k (keys s) := by
  unfold tame
  by_cases h : proom s < s.t2.length
  · rw [if_pos h]
    cases ht : s.t2 with
    | nil => rw [ht] at h; simp at h
    | cons x r =>
      rw [ht] at hm hp ho
      simp only [List.length_cons] at hm hp
      refine ⟨⟨lo, hi, fun k => ?_, hw, ?_, ?_⟩, rfl, fun k => ?_⟩
      · have := ho k; simp only [cnt_snoc, cnt_cons] at this ⊢; omega
      · show (s.b1 ++ [x]).length + r.length ≤ mroom s; simp; omega
      · show r.length ≤ proom s; omega
      · rw [keys_cnt, keys_cnt, ht]; simp only [cnt_snoc, cnt_cons]; omega
  · rw [if_neg h]
    exact ⟨⟨lo, hi, ho, hw, hm, by omega⟩, rfl, fun _ => rfl⟩
theorem use_ok {s : St κ} {key : κ} (h : Ok s) (hk : key ∈ keys s) : Ok (use s key) ∧ (use s key).c = s.c ∧ ∀ k, cnt k (keys (use s key)) = cnt k (keys s) := by
  have hc := cnt_pos.2 hk
  rw [keys_cnt] at hc
  have h1 := h.one key
  unfold use
  by_cases hw : key ∈ s.t1
  · rw [if_pos hw]
    have hp := cnt_pos.2 hw
    have hm : ∀ j, cnt j (cut s.t1 key ++ [key]) = cnt j s.t1 := fun j => by
      rw [cnt_snoc, cnt_cut]
      by_cases e : j = key
      · subst e; rw [if_pos rfl, one_self]; omega
      · rw [if_neg e, one_ne (Ne.symm e)]; omega
    have hl : (cut s.t1 key ++ [key]).length = s.t1.length := length_of_cnt hm
    exact ⟨⟨h.lo, h.hi, fun k => by show cnt k (cut s.t1 key ++ [key]) + _ + _ ≤ 1; rw [hm]; exact h.one k, by show (cut s.t1 key ++ [key]).length ≤ wroom s; rw [hl]; exact h.win, h.main, h.prot⟩, rfl, fun k => by rw [keys_cnt, keys_cnt]; simp only [hm]⟩
  · rw [if_neg hw]
    have h0 := cnt_zero.2 hw
    have lb := len_one (l := s.b1) (j := key) (fun k => by have := h.one k; omega)
    have lp := len_one (l := s.t2) (j := key) (fun k => by have := h.one k; omega)
    have hm := h.main
    have hp := h.prot
    have hcn : ∀ k, cnt k (cut s.b1 key) + cnt k (cut s.t2 key ++ [key]) = cnt k s.b1 + cnt k s.t2 := fun k => by
      rw [cnt_snoc, cnt_cut, cnt_cut]
      by_cases e : k = key
      · subst e; rw [if_pos rfl, if_pos rfl, one_self]; omega
      · rw [if_neg e, if_neg e, one_ne (Ne.symm e)]; omega
    obtain ⟨a, b, c⟩ := tame_ok (s := { s with b1 := cut s.b1 key, t2 := cut s.t2 key ++ [key] }) h.lo h.hi (fun k => by have := hcn k; have := h.one k; show cnt k s.t1 + cnt k (cut s.b1 key) + cnt k (cut s.t2 key ++ [key]) ≤ 1; omega) h.win
      (by show (cut s.b1 key).length + (cut s.t2 key ++ [key]).length ≤ mroom s; simp only [List.length_append, List.length_cons, List.length_nil]; omega)
      (by show (cut s.t2 key ++ [key]).length ≤ proom s + 1; simp only [List.length_append, List.length_cons, List.length_nil]; omega)
    refine ⟨a, b, fun k => ?_⟩
    rw [c, keys_cnt, keys_cnt]
    have := hcn k
    show cnt k s.t1 + cnt k (cut s.b1 key) + cnt k (cut s.t2 key ++ [key]) = _
    omega
theorem acc_hit {f : κ → Nat} {s : St κ} {key : κ} (h : Ok s) (hk : key ∈ keys s) :
    (access f s key).1 = true ∧ (access f s key).2.1 = [] ∧ Ok (access f s key).2.2 ∧ (access f s key).2.2.c = s.c ∧ (∀ k, cnt k (keys (access f s key).2.2) = cnt k (keys s)) ∧ (keys (access f s key).2.2).length = (keys s).length := by
  unfold access
  rw [if_pos hk]
  obtain ⟨a, b, c⟩ := use_ok h hk
  exact ⟨rfl, rfl, a, b, c, length_of_cnt c⟩
/-- what an Access of a key does that was not resident -/
structure Missed (s s' : St κ) (key : κ) (l : List κ) : Prop where
  ok : Ok s'
  cs : s'.c = s.c
  went : (l = [] ∧ (keys s).length < s.c ∧ (∀ k, cnt k (keys s') = cnt k (keys s) + A.one key k) ∧ (keys s').length = (keys s).length + 1) ∨
    ∃ g, l = [g] ∧ (keys s).length = s.c ∧ 0 < cnt g (keys s) ∧ (∀ k, cnt k (keys s') + A.one g k = cnt k (keys s) + A.one key k) ∧ (keys s').length = s.c
theorem cnt_nokey {s : St κ} {key : κ} (hk : key ∉ keys s) : cnt key s.t1 = 0 ∧ cnt key s.b1 = 0 ∧ cnt key s.t2 = 0 := by
  have := cnt_zero.2 hk
  rw [keys_cnt] at this
  omega
omit [DecidableEq κ] in
/-- who is looked at is the first of A and P -/
theorem victim_is (s : St κ) : (victim s = [] ∧ s.b1 = [] ∧ s.t2 = []) ∨ (∃ v r, victim s = [v] ∧ s.b1 = v :: r) ∨ ∃ v r, victim s = [v] ∧ s.b1 = [] ∧ s.t2 = v :: r := by
  unfold victim
  cases hb : s.b1 with
  | cons v r => exact .inr (.inl ⟨v, r, rfl, rfl⟩)
  | nil =>
    cases ht : s.t2 with
    | cons v r => exact .inr (.inr ⟨v, r, rfl, rfl, rfl⟩)
    | nil => exact .inl ⟨rfl, rfl, rfl⟩
/-- one leaves a window that has one too many; w: the window without it -/
theorem settle_missed {f : κ → Nat} {s : St κ} {x : κ} {r : List κ} {key : κ} (h : Ok s) (ht : s.t1 = x :: r) (hf : s.t1.length = wroom s) (hk : key ∉ keys s) :
    Missed s (settle f { s with t1 := r ++ [key] } x).2 key (settle f { s with t1 := r ++ [key] } x).1 := by
  obtain ⟨k1, k2, k3⟩ := cnt_nokey hk
  have hw := wroom_le h.lo
  have hkl := keys_length s
  have hres := h.res
  have hm := h.main
  have hp := h.prot
  have hmr : mroom s = s.c - wroom s := rfl
  have hlen : r.length + 1 = wroom s := by rw [ht] at hf; simpa using hf
  have hc1 : ∀ k, cnt k s.t1 = one x k + cnt k r := fun k => by rw [ht, cnt_cons]
  have hcx : cnt x s.t1 = 1 + cnt x r := by rw [hc1, one_self]
  have hox := h.one x
  have hxk : ¬ x = key := by rintro rfl; omega
  generalize hS : ({ s with t1 := r ++ [key] } : St κ) = S
  unfold settle
  by_cases hroom : s.b1.length + s.t2.length < mroom s
  · rw [if_pos (show S.b1.length + S.t2.length < mroom S by rw [← hS]; exact hroom)]
    rw [← hS]
    refine ⟨⟨h.lo, h.hi, fun k => ?_, ?_, ?_, hp⟩, rfl, .inl ⟨rfl, by omega, fun k => ?_, ?_⟩⟩
    · show cnt k (r ++ [key]) + cnt k (s.b1 ++ [x]) + cnt k s.t2 ≤ 1
      have := h.one k; have := hc1 k
      rw [cnt_snoc, cnt_snoc]
      by_cases e : key = k
      · subst e; rw [one_self, one_ne hxk]; rw [one_ne hxk] at this; omega
      · rw [one_ne e]; omega
    · show (r ++ [key]).length ≤ wroom s; simp; omega
    · show (s.b1 ++ [x]).length + s.t2.length ≤ mroom s; simp; omega
    · have := hc1 k
      rw [keys_cnt, keys_cnt]
      show cnt k (r ++ [key]) + cnt k (s.b1 ++ [x]) + cnt k s.t2 = _
      rw [cnt_snoc, cnt_snoc]; omega
    · rw [keys_length, keys_length]
      show (r ++ [key]).length + (s.b1 ++ [x]).length + s.t2.length = _
      simp; omega
  · rw [if_neg (show ¬ S.b1.length + S.t2.length < mroom S by rw [← hS]; exact hroom)]
    rw [← hS]
    have hfull : (keys s).length = s.c := by omega
    have drop : Missed s { s with t1 := r ++ [key] } key [x] := by
      refine ⟨⟨h.lo, h.hi, fun k => ?_, ?_, hm, hp⟩, rfl, .inr ⟨x, rfl, hfull, by rw [keys_cnt]; omega, fun k => ?_, ?_⟩⟩
      · show cnt k (r ++ [key]) + cnt k s.b1 + cnt k s.t2 ≤ 1
        have := h.one k; have := hc1 k
        rw [cnt_snoc]
        by_cases e : key = k
        · subst e; rw [one_self]; omega
        · rw [one_ne e]; omega
      · show (r ++ [key]).length ≤ wroom s; simp; omega
      · have := hc1 k
        rw [keys_cnt, keys_cnt]
        show cnt k (r ++ [key]) + cnt k s.b1 + cnt k s.t2 + one x k = _
        rw [cnt_snoc]; omega
      · rw [keys_length]
        show (r ++ [key]).length + s.b1.length + s.t2.length = s.c
        simp; omega
    have swap : ∀ v, cnt v s.b1 + cnt v s.t2 = 1 → Missed s { s with t1 := r ++ [key], b1 := cut s.b1 v ++ [x], t2 := cut s.t2 v } key [v] := fun v hv => by
      have lb := len_one (l := s.b1) (j := v) (fun k => by have := h.one k; omega)
      have lp := len_one (l := s.t2) (j := v) (fun k => by have := h.one k; omega)
      have hov := h.one v
      have hvx : ¬ v = x := by rintro rfl; omega
      have hcv : ∀ k, cnt k (cut s.b1 v) + cnt k (cut s.t2 v) + one v k = cnt k s.b1 + cnt k s.t2 := fun k => by
        rw [cnt_cut, cnt_cut]
        by_cases e : k = v
        · subst e; rw [if_pos rfl, if_pos rfl, one_self]; omega
        · rw [if_neg e, if_neg e, one_ne (Ne.symm e)]; omega
      have hrk := cnt_snoc (κ := κ)
      refine ⟨⟨h.lo, h.hi, fun k => ?_, ?_, ?_, ?_⟩, rfl, .inr ⟨v, rfl, hfull, by rw [keys_cnt]; omega, fun k => ?_, ?_⟩⟩
      · show cnt k (r ++ [key]) + cnt k (cut s.b1 v ++ [x]) + cnt k (cut s.t2 v) ≤ 1
        have := h.one k; have := hc1 k; have := hcv k
        rw [cnt_snoc, cnt_snoc]
        by_cases e : key = k
        · subst e; rw [one_self]; omega
        · rw [one_ne e]; omega
      · show (r ++ [key]).length ≤ wroom s; simp; omega
      · show (cut s.b1 v ++ [x]).length + (cut s.t2 v).length ≤ mroom s; simp; omega
      · show (cut s.t2 v).length ≤ proom s; omega
      · have := hc1 k; have := hcv k
        rw [keys_cnt, keys_cnt]
        show cnt k (r ++ [key]) + cnt k (cut s.b1 v ++ [x]) + cnt k (cut s.t2 v) + one v k = _
        rw [cnt_snoc, cnt_snoc]; omega
      · rw [keys_length]
        show (r ++ [key]).length + (cut s.b1 v ++ [x]).length + (cut s.t2 v).length = s.c
        simp; omega
    rcases victim_is ({ s with t1 := r ++ [key] } : St κ) with ⟨e, _, _⟩ | ⟨v, q, e, hb⟩ | ⟨v, q, e, hb, hb2⟩
    · rw [e]; exact drop
    · rw [e]
      simp only
      by_cases hfv : f x ≤ f v
      · rw [if_pos hfv]; exact drop
      · rw [if_neg hfv]
        refine swap v ?_
        have hb' : s.b1 = v :: q := hb
        have := h.one v
        have h1 : cnt v s.b1 = 1 + cnt v q := by rw [hb', cnt_cons, one_self]
        omega
    · rw [e]
      simp only
      by_cases hfv : f x ≤ f v
      · rw [if_pos hfv]; exact drop
      · rw [if_neg hfv]
        refine swap v ?_
        have hb' : s.t2 = v :: q := hb2
        have := h.one v
        have h1 : cnt v s.t2 = 1 + cnt v q := by rw [hb', cnt_cons, one_self]
        omega
theorem acc_miss {f : κ → Nat} {s : St κ} {key : κ} (h : Ok s) (hk : key ∉ keys s) : (access f s key).1 = false ∧ Missed s (access f s key).2.2 key (access f s key).2.1 := by
  unfold access
  rw [if_neg hk]
  refine ⟨rfl, ?_⟩
  obtain ⟨k1, k2, k3⟩ := cnt_nokey hk
  have hw := wroom_le h.lo
  have hwin := h.win
  unfold come
  by_cases hl : s.t1.length < wroom s
  · rw [if_pos hl]
    have hkl := keys_length s
    have hm := h.main
    have hmr : mroom s = s.c - wroom s := rfl
    refine ⟨⟨h.lo, h.hi, fun k => ?_, ?_, hm, h.prot⟩, rfl, .inl ⟨rfl, by omega, fun k => ?_, ?_⟩⟩
    · show cnt k (s.t1 ++ [key]) + cnt k s.b1 + cnt k s.t2 ≤ 1
      have := h.one k
      rw [cnt_snoc]
      by_cases e : key = k
      · subst e; rw [one_self]; omega
      · rw [one_ne e]; omega
    · show (s.t1 ++ [key]).length ≤ wroom s; simp; omega
    · rw [keys_cnt, keys_cnt]
      show cnt k (s.t1 ++ [key]) + cnt k s.b1 + cnt k s.t2 = _
      rw [cnt_snoc]; omega
    · rw [keys_length, keys_length]
      show (s.t1 ++ [key]).length + s.b1.length + s.t2.length = _
      simp; omega
  · rw [if_neg hl]
    cases ht : s.t1 with
    | nil => rw [ht] at hl; simp at hl; omega
    | cons x r => exact settle_missed h ht (by omega) hk
theorem acc_any {f : κ → Nat} {s : St κ} (h : Ok s) (key : κ) : Ok (access f s key).2.2 ∧ (access f s key).2.2.c = s.c := by
  by_cases hk : key ∈ keys s
  · have := acc_hit (f := f) h hk; exact ⟨this.2.2.1, this.2.2.2.1⟩
  · have := (acc_miss (f := f) h hk).2; exact ⟨this.ok, this.cs⟩
/-! ### Remove, Evict, Load -/
theorem rem_no {s : St κ} {key : κ} (hk : key ∉ keys s) : remove s key = (false, s) := by unfold remove; rw [if_neg hk]
theorem rem_yes {s : St κ} {key : κ} (h : Ok s) (hk : key ∈ keys s) :
    (remove s key).1 = true ∧ Ok (remove s key).2 ∧ (remove s key).2.c = s.c ∧ (∀ k, cnt k (keys (remove s key).2) + one key k = cnt k (keys s)) ∧ (keys (remove s key).2).length + 1 = (keys s).length := by
  have hc := cnt_pos.2 hk
  rw [keys_cnt] at hc
  have ho := h.one key
  have lw := len_one (l := s.t1) (j := key) (fun k => by have := h.one k; omega)
  have lb := len_one (l := s.b1) (j := key) (fun k => by have := h.one k; omega)
  have lp := len_one (l := s.t2) (j := key) (fun k => by have := h.one k; omega)
  have h1 := h.win; have h2 := h.main; have h3 := h.prot
  unfold remove
  rw [if_pos hk]
  refine ⟨rfl, ⟨h.lo, h.hi, fun k => ?_, ?_, ?_, ?_⟩, rfl, fun k => ?_, ?_⟩
  · have := h.one k
    show cnt k (cut s.t1 key) + cnt k (cut s.b1 key) + cnt k (cut s.t2 key) ≤ 1
    rw [cnt_cut, cnt_cut, cnt_cut]
    split <;> omega
  · show (cut s.t1 key).length ≤ wroom s; omega
  · show (cut s.b1 key).length + (cut s.t2 key).length ≤ mroom s; omega
  · show (cut s.t2 key).length ≤ proom s; omega
  · rw [keys_cnt, keys_cnt]
    show cnt k (cut s.t1 key) + cnt k (cut s.b1 key) + cnt k (cut s.t2 key) + one key k = _
    rw [cnt_cut, cnt_cut, cnt_cut]
    by_cases e : k = key
    · subst e; rw [if_pos rfl, if_pos rfl, if_pos rfl, one_self]; omega
    · rw [if_neg e, if_neg e, if_neg e, one_ne (Ne.symm e)]; omega
  · rw [keys_length, keys_length]
    show (cut s.t1 key).length + (cut s.b1 key).length + (cut s.t2 key).length + 1 = _
    omega
theorem rem_any {s : St κ} (h : Ok s) (key : κ) : Ok (remove s key).2 ∧ (remove s key).2.c = s.c := by
  by_cases hk : key ∈ keys s
  · have := rem_yes h hk; exact ⟨this.2.1, this.2.2.1⟩
  · rw [rem_no hk]; exact ⟨h, rfl⟩
omit [DecidableEq κ] in
theorem evi_no {s : St κ} (h : (keys s).length = 0) : evict s = ([], s) := by
  rw [keys_length] at h
  have h1 : s.b1 = [] := List.eq_nil_of_length_eq_zero (by omega)
  have h2 : s.t2 = [] := List.eq_nil_of_length_eq_zero (by omega)
  have h3 : s.t1 = [] := List.eq_nil_of_length_eq_zero (by omega)
  unfold evict
  rw [h1, h2, h3]
theorem evi_yes {s : St κ} (h : Ok s) (hk : (keys s).length ≠ 0) :
    ∃ g s', evict s = ([g], s') ∧ Ok s' ∧ s'.c = s.c ∧ (∀ k, cnt k (keys s') + one g k = cnt k (keys s)) ∧ (keys s').length + 1 = (keys s).length := by
  rw [keys_length] at hk
  have h1 := h.win; have h2 := h.main; have h3 := h.prot
  unfold evict
  cases hb : s.b1 with
  | cons x r =>
    rw [hb] at h2 hk
    simp only [List.length_cons] at h2 hk
    refine ⟨x, _, rfl, ⟨h.lo, h.hi, fun k => ?_, h1, ?_, h3⟩, rfl, fun k => ?_, ?_⟩
    · have := h.one k
      rw [hb, cnt_cons] at this
      show cnt k s.t1 + cnt k r + cnt k s.t2 ≤ 1; omega
    · show r.length + s.t2.length ≤ mroom s; omega
    · rw [keys_cnt, keys_cnt, hb, cnt_cons]; simp only; omega
    · rw [keys_length, keys_length, hb]; simp only [List.length_cons]; omega
  | nil =>
    rw [hb] at h2 hk
    simp only [List.length_nil, Nat.zero_add, Nat.add_zero] at h2 hk
    simp only
    cases hp : s.t2 with
    | cons x r =>
      rw [hp] at h2 h3 hk
      simp only [List.length_cons] at h2 h3 hk
      refine ⟨x, _, rfl, ⟨h.lo, h.hi, fun k => ?_, h1, ?_, ?_⟩, rfl, fun k => ?_, ?_⟩
      · have := h.one k
        rw [hp, cnt_cons] at this
        show cnt k s.t1 + cnt k ([] : List κ) + cnt k r ≤ 1; rw [cnt_nil]; omega
      · show ([] : List κ).length + r.length ≤ mroom s; simp; omega
      · show r.length ≤ proom s; omega
      · rw [keys_cnt, keys_cnt, hp, cnt_cons, hb]; simp only; omega
      · rw [keys_length, keys_length, hp, hb]; simp only [List.length_cons]; omega
    | nil =>
      rw [hp] at hk
      simp only
      cases ht : s.t1 with
      | cons x r =>
        rw [ht] at h1
        simp only [List.length_cons] at h1
        refine ⟨x, _, rfl, ⟨h.lo, h.hi, fun k => ?_, ?_, ?_, ?_⟩, rfl, fun k => ?_, ?_⟩
        · have := h.one k
          rw [ht, cnt_cons] at this
          show cnt k r + cnt k ([] : List κ) + cnt k ([] : List κ) ≤ 1; rw [cnt_nil]; omega
        · show r.length ≤ wroom s; omega
        · exact Nat.zero_le _
        · exact Nat.zero_le _
        · rw [keys_cnt, keys_cnt, ht, cnt_cons, hb, hp]; simp only; omega
        · rw [keys_length, keys_length, ht, hb, hp]; simp only [List.length_cons]; omega
      | nil => rw [ht] at hk; simp at hk
theorem evi_any {s : St κ} (h : Ok s) : Ok (evict s).2 ∧ (evict s).2.c = s.c := by
  by_cases hk : (keys s).length = 0
  · rw [evi_no hk]; exact ⟨h, rfl⟩
  · obtain ⟨g, s', e, h1, h2, _⟩ := evi_yes h hk
    rw [e]; exact ⟨h1, h2⟩
theorem load_no {s : St κ} {key : κ} (h : key ∈ keys s ∨ s.c ≤ (keys s).length) : load s key = (false, s) := by unfold load; rw [if_pos h]
theorem load_yes {s : St κ} {key : κ} (h : Ok s) (hk : key ∉ keys s) (hl : (keys s).length < s.c) :
    (load s key).1 = true ∧ Ok (load s key).2 ∧ (load s key).2.c = s.c ∧ (∀ k, cnt k (keys (load s key).2) = cnt k (keys s) + one key k) ∧ (keys (load s key).2).length = (keys s).length + 1 := by
  obtain ⟨k1, k2, k3⟩ := cnt_nokey hk
  have hkl := keys_length s
  have h1 := h.win; have h2 := h.main; have h3 := h.prot
  have hw := wroom_le h.lo
  have hmr : mroom s = s.c - wroom s := rfl
  unfold load
  rw [if_neg (by rintro (e | e); exact hk e; omega)]
  by_cases hm : mroom s ≤ s.b1.length + s.t2.length
  · rw [if_pos hm]
    refine ⟨rfl, ⟨h.lo, h.hi, fun k => ?_, ?_, h2, h3⟩, rfl, fun k => ?_, ?_⟩
    · show cnt k (s.t1 ++ [key]) + cnt k s.b1 + cnt k s.t2 ≤ 1
      have := h.one k
      rw [cnt_snoc]
      by_cases e : key = k
      · subst e; rw [one_self]; omega
      · rw [one_ne e]; omega
    · show (s.t1 ++ [key]).length ≤ wroom s; simp; omega
    · rw [keys_cnt, keys_cnt]
      show cnt k (s.t1 ++ [key]) + cnt k s.b1 + cnt k s.t2 = _
      rw [cnt_snoc]; omega
    · rw [keys_length, keys_length]
      show (s.t1 ++ [key]).length + s.b1.length + s.t2.length = _
      simp; omega
  · rw [if_neg hm]
    refine ⟨rfl, ⟨h.lo, h.hi, fun k => ?_, h1, ?_, h3⟩, rfl, fun k => ?_, ?_⟩
    · show cnt k s.t1 + cnt k (s.b1 ++ [key]) + cnt k s.t2 ≤ 1
      have := h.one k
      rw [cnt_snoc]
      by_cases e : key = k
      · subst e; rw [one_self]; omega
      · rw [one_ne e]; omega
    · show (s.b1 ++ [key]).length + s.t2.length ≤ mroom s; simp; omega
    · rw [keys_cnt, keys_cnt]
      show cnt k s.t1 + cnt k (s.b1 ++ [key]) + cnt k s.t2 = _
      rw [cnt_snoc]; omega
    · rw [keys_length, keys_length]
      show s.t1.length + (s.b1 ++ [key]).length + s.t2.length = _
      simp; omega
theorem load_any {s : St κ} (h : Ok s) (key : κ) : Ok (load s key).2 ∧ (load s key).2.c = s.c := by
  by_cases hh : key ∈ keys s ∨ s.c ≤ (keys s).length
  · rw [load_no hh]; exact ⟨h, rfl⟩
  · have := load_yes h (fun e => hh (.inl e)) (by rcases Nat.lt_or_ge (keys s).length s.c with e | e; exact e; exact absurd (.inr e) hh)
    exact ⟨this.2.1, this.2.2.1⟩
/-! ### who is told -/
theorem tell_room {l : List κ} {key : κ} {s s' : St κ} (hi : ∀ k, cnt k l = cnt k (keys s)) (h : ∀ k, cnt k (keys s') = cnt k (keys s) + one key k) : ∀ k, cnt k (l ++ [key]) = cnt k (keys s') := fun k => by
  rw [cnt_snoc, hi, h]
theorem tell_full {l : List κ} {key g : κ} {s s' : St κ} (ho : Ok s) (hi : ∀ k, cnt k l = cnt k (keys s)) (hg : 0 < cnt g (keys s)) (h : ∀ k, cnt k (keys s') + one g k = cnt k (keys s) + one key k) : ∀ k, cnt k (cut l g ++ [key]) = cnt k (keys s') := fun k => by
  have h1 := h k
  have h2 := cnt_cut_one (k := k) (j := g) (l := l) (by rw [hi]; exact ho.once g) (by rw [hi]; exact hg)
  rw [cnt_snoc]
  have h3 := hi k
  omega
end
end Go.Proofs.YtcphhlfbjkeikabGreat.A
