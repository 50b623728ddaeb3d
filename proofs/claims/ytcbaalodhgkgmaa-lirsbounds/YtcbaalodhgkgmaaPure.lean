/- The machine of chapter 13 over plain lists: three rows of keys (t1: S from the bottom on, b1: Q from the front on, t2: the ghosts of S), a room; what each act answers and leaves. No program is named here. -/
namespace Go.Proofs.Ytcbaalodhgkgmaa.A

structure St (κ : Type) where
  t1 : List κ
  b1 : List κ
  t2 : List κ
  c : Nat

section
variable {κ : Type} [DecidableEq κ]

/-- a row without a key -/
def cut (l : List κ) (k : κ) : List κ := l.filter (fun x => decide (x ≠ k))
/-- 1 where two are one -/
def one (a b : κ) : Nat := if a = b then 1 else 0
/-- how often a key is in a row -/
def cnt (k : κ) : List κ → Nat
  | [] => 0
  | x :: l => one x k + cnt k l
theorem one_le (a b : κ) : one a b ≤ 1 := by unfold one; split <;> omega
theorem one_self (a : κ) : one a a = 1 := by simp [one]
theorem one_ne {a b : κ} (h : a ≠ b) : one a b = 0 := by simp [one, h]
theorem one_eq {a b : κ} (h : 0 < one a b) : a = b := by unfold one at h; split at h; assumption; omega
theorem cnt_nil (k : κ) : cnt k [] = 0 := rfl
theorem cnt_cons (k x : κ) (l : List κ) : cnt k (x :: l) = one x k + cnt k l := rfl
theorem cnt_append (k : κ) (l m : List κ) : cnt k (l ++ m) = cnt k l + cnt k m := by
  induction l with
  | nil => simp [cnt]
  | cons x l ih => simp [cnt, ih]; omega
theorem cnt_snoc (k x : κ) (l : List κ) : cnt k (l ++ [x]) = cnt k l + one x k := by rw [cnt_append]; simp [cnt]
theorem cnt_pos {k : κ} {l : List κ} : 0 < cnt k l ↔ k ∈ l := by
  induction l with
  | nil => simp [cnt]
  | cons x l ih =>
    rw [cnt_cons, List.mem_cons, ← ih]
    unfold one
    by_cases h : x = k
    · simp [h]; omega
    · simp [h, Ne.symm h]
theorem cnt_zero {k : κ} {l : List κ} : cnt k l = 0 ↔ k ∉ l := by rw [← cnt_pos]; omega
theorem cnt_cut (k j : κ) (l : List κ) : cnt k (cut l j) = if k = j then 0 else cnt k l := by
  induction l with
  | nil => simp [cut, cnt]
  | cons x l ih =>
    unfold cut at *
    by_cases h : x = j
    · subst h
      simp only [List.filter_cons]
      by_cases h2 : k = x
      · simp [h2] at *; exact ih
      · simp [h2, cnt_cons, one, Ne.symm h2] at *; exact ih
    · simp only [List.filter_cons]
      by_cases h2 : k = j
      · subst h2; simp [h, cnt_cons, one] at *; exact ih
      · simp [h, h2, cnt_cons] at *; exact ih
theorem cut_same {k : κ} {l : List κ} (h : k ∉ l) : cut l k = l := by
  unfold cut
  rw [List.filter_eq_self]
  intro x hx
  simp
  rintro rfl
  exact h hx
/-- each at most once -/
def Once (l : List κ) : Prop := ∀ k, cnt k l ≤ 1
theorem Once.nodup {l : List κ} (h : Once l) : l.Nodup := by
  induction l with
  | nil => simp
  | cons x l ih =>
    rw [List.nodup_cons]
    refine ⟨fun hx => ?_, ih (fun k => by have := h k; rw [cnt_cons] at this; omega)⟩
    have := h x
    rw [cnt_cons, one_self] at this
    have := cnt_pos.2 hx
    omega
theorem once_of_nodup {l : List κ} (h : l.Nodup) : Once l := by
  induction l with
  | nil => intro k; simp [cnt]
  | cons x l ih =>
    rw [List.nodup_cons] at h
    intro k
    rw [cnt_cons]
    by_cases e : x = k
    · subst e
      rw [cnt_zero.2 h.1, one_self]
      omega
    · rw [one_ne e]
      have := ih h.2 k
      omega
theorem cnt_count (k : κ) (l : List κ) : cnt k l = l.count k := by
  induction l with
  | nil => rfl
  | cons x l ih =>
    rw [cnt_cons, List.count_cons, ih]
    by_cases h : x = k
    · simp [h, one]; omega
    · simp [h, one]
/-- rows of the same keys are as long -/
theorem length_of_cnt {l m : List κ} (h : ∀ k, cnt k l = cnt k m) : l.length = m.length := by
  apply List.Perm.length_eq
  rw [List.perm_iff_count]
  intro k
  rw [← cnt_count, ← cnt_count, h]
theorem length_cut {l : List κ} {k : κ} (h : Once l) (hk : k ∈ l) : (cut l k).length + 1 = l.length := by
  have : (k :: cut l k).length = l.length := by
    apply length_of_cnt
    intro j
    rw [cnt_cons, cnt_cut]
    have := h j
    by_cases e : j = k
    · subst e
      have := cnt_pos.2 hk
      rw [one_self]
      simp
      omega
    · rw [one_ne (Ne.symm e)]
      simp [e]
  simpa using this
theorem length_cut_le (l : List κ) (k : κ) : (cut l k).length ≤ l.length := List.length_filter_le _ _
/-- the oldest of a row with each key once: cut by its key it is the rest -/
theorem cut_head {x : κ} {l : List κ} (h : Once (x :: l)) : cut (x :: l) x = l := by
  have hx : x ∉ l := by
    rw [← cnt_zero]
    have := h x
    rw [cnt_cons, one_self] at this
    omega
  have : cut (x :: l) x = cut l x := by simp [cut]
  rw [this, cut_same hx]

theorem one_comm (a b : κ) : one a b = one b a := by
  unfold one
  by_cases h : a = b
  · simp [h]
  · simp [h, Ne.symm h]
theorem cnt_cut_one {k j : κ} {l : List κ} (h : cnt j l ≤ 1) (hj : 1 ≤ cnt j l) : cnt k (cut l j) + one j k = cnt k l := by
  rw [cnt_cut]
  by_cases e : k = j
  · subst e
    rw [one_self]
    simp
    omega
  · rw [one_ne (Ne.symm e)]
    simp [e]
theorem length_cut_one {j : κ} {l : List κ} (h : ∀ k, cnt k l ≤ 1) (hj : 1 ≤ cnt j l) : (cut l j).length + 1 = l.length := length_cut h (cnt_pos.1 hj)
/-! ### the machine -/
/-- last of a row -/
def lay (l : List κ) (k : κ) : List κ := cut l k ++ [k]
/-- of a key of S: is it hot? -/
def isHot (q g : List κ) (k : κ) : Bool := decide (k ∉ q) && decide (k ∉ g)
def hots (s : St κ) : List κ := s.t1.filter (isHot s.b1 s.t2)
def keys (s : St κ) : List κ := s.b1 ++ hots s
def ghosts (s : St κ) : List κ := s.t2
def start (c : Nat) : St κ := ⟨[], [], [], c⟩
def most (s : St κ) : Nat := s.c - max 1 (s.c / 10)
def heat (s : St κ) (k : κ) : St κ := ⟨lay s.t1 k, cut s.b1 k, cut s.t2 k, s.c⟩
def layCold (s : St κ) (k : κ) : St κ := ⟨lay s.t1 k, lay s.b1 k, cut s.t2 k, s.c⟩
def demote (s : St κ) : St κ := match s.t1 with
  | [] => s
  | k :: r => ⟨r, s.b1 ++ [k], s.t2, s.c⟩
def cool (s : St κ) : St κ := if most s < (hots s).length then demote s else s
/-- S and its ghosts, less what is not hot at the bottom -/
def pr (q : List κ) : List κ → List κ → List κ × List κ
  | [], g => ([], g)
  | k :: r, g => if isHot q g k then (k :: r, g) else pr q r (cut g k)
def prune (s : St κ) : St κ := ⟨(pr s.b1 s.t1 s.t2).1, s.b1, (pr s.b1 s.t1 s.t2).2, s.c⟩
/-- S and its ghosts, less the lowest ones that are too many -/
def fo (c : Nat) : List κ → List κ → List κ × List κ
  | [], t => (t, [])
  | x :: g, t => if c < (x :: g).length then fo c g (cut t x) else (t, x :: g)
def forget (s : St κ) : St κ := ⟨(fo s.c s.t2 s.t1).1, s.b1, (fo s.c s.t2 s.t1).2, s.c⟩
/-- the first of Q goes -/
def out (s : St κ) (k : κ) (r : List κ) : St κ := ⟨s.t1, r, if k ∈ s.t1 then s.t2 ++ [k] else s.t2, s.c⟩
def ready (s : St κ) : St κ := if s.b1 = [] then demote s else s
/-- one goes -/
def goes (s : St κ) : List κ × St κ := match (ready s).b1 with
  | [] => ([], s)
  | k :: r => ([k], prune (forget (out (ready s) k r)))
def reclaim (s : St κ) : List κ × St κ := if (keys s).length < s.c then ([], s) else goes s
def use (s : St κ) (k : κ) : St κ := if k ∈ s.t1 then prune (cool (heat s k)) else prune (layCold s k)
def admit (s : St κ) (k : κ) : St κ := if (hots s).length < most s ∨ k ∈ s.t2 then prune (cool (heat s k)) else prune (layCold s k)
def access (s : St κ) (key : κ) : Bool × List κ × St κ :=
  if key ∈ keys s then (true, [], use s key) else (false, (reclaim s).1, admit (reclaim s).2 key)
def put (s : St κ) (k : κ) : St κ := if (hots s).length < most s then heat s k else layCold s k
def load (s : St κ) (key : κ) : Bool × St κ :=
  if key ∈ keys s ∨ s.c ≤ (keys s).length then (false, s) else (true, prune (put s key))
def gone (s : St κ) (key : κ) : St κ := ⟨cut s.t1 key, cut s.b1 key, s.t2, s.c⟩
def remove (s : St κ) (key : κ) : Bool × St κ := if key ∈ keys s then (true, prune (gone s key)) else (false, s)
def evict (s : St κ) : List κ × St κ := if (keys s).length = 0 then ([], s) else goes s

/-! ### what holds of its rows always -/
structure Base (s : St κ) : Prop where
  lo : 1 ≤ s.c
  hi : s.c ≤ 1024
  ot : ∀ k, cnt k s.t1 ≤ 1
  oq : ∀ k, cnt k s.b1 ≤ 1
  og : ∀ k, cnt k s.t2 ≤ 1
  sub : ∀ k, k ∈ s.t2 → k ∈ s.t1
  dis : ∀ k, k ∈ s.t2 → k ∉ s.b1
  ord : ∃ l, s.t1.filter (fun k => !isHot s.b1 s.t2 k) = s.t2 ++ l ∧ l.Sublist s.b1
structure Ok (s : St κ) : Prop extends Base s where
  res : (keys s).length ≤ s.c
  hot : (hots s).length ≤ most s
  bot : ∀ k r, s.t1 = k :: r → isHot s.b1 s.t2 k = true
  gho : s.t2.length ≤ s.c
theorem start_ok {c : Nat} (h : 1 ≤ c) (h2 : c ≤ 1024) : Ok (start c : St κ) :=
  ⟨⟨h, h2, fun k => by simp [start, cnt], fun k => by simp [start, cnt], fun k => by simp [start, cnt], by simp [start], by simp [start], [], by simp [start], by simp [start]⟩, by simp [start, keys, hots], by simp [start, hots], by simp [start], by simp [start]⟩
theorem isHot_iff {q g : List κ} {k : κ} : isHot q g k = true ↔ k ∉ q ∧ k ∉ g := by unfold isHot; simp
theorem isHot_not {q g : List κ} {k : κ} : isHot q g k = false ↔ k ∈ q ∨ k ∈ g := by
  rw [← Bool.not_eq_true, isHot_iff]
  by_cases h : k ∈ q <;> by_cases h2 : k ∈ g <;> simp [h, h2]
theorem mem_cut {j k : κ} {l : List κ} : j ∈ cut l k ↔ j ∈ l ∧ j ≠ k := by unfold cut; simp
theorem mem_lay {j k : κ} {l : List κ} : j ∈ lay l k ↔ j ∈ l ∨ j = k := by
  unfold lay
  rw [List.mem_append, mem_cut, List.mem_singleton]
  by_cases h : j = k <;> simp [h]
theorem cnt_lay (j k : κ) (l : List κ) : cnt j (lay l k) = if j = k then 1 else cnt j l := by
  unfold lay
  rw [cnt_snoc, cnt_cut]
  by_cases h : j = k
  · subst h; simp [one_self]
  · simp [h, one_ne (Ne.symm h)]
/-- a filter and a cut -/
theorem cut_filter (p : κ → Bool) (l : List κ) (k : κ) : cut (l.filter p) k = (cut l k).filter p := by
  unfold cut
  rw [List.filter_filter, List.filter_filter]
  congr 1
  funext x
  exact Bool.and_comm _ _
theorem filter_cut_congr {p p' : κ → Bool} {l : List κ} {k : κ} (h : ∀ x, x ≠ k → p x = p' x) : (cut l k).filter p = (cut l k).filter p' := by
  apply List.filter_congr
  intro x hx
  exact h x (mem_cut.1 hx).2
theorem cut_append (l m : List κ) (k : κ) : cut (l ++ m) k = cut l k ++ cut m k := by unfold cut; exact List.filter_append _ _
theorem cut_cut (l : List κ) (k : κ) : cut (cut l k) k = cut l k := cut_same (fun h => (mem_cut.1 h).2 rfl)
theorem cut_sub {l m : List κ} (h : l.Sublist m) (k : κ) : (cut l k).Sublist (cut m k) := h.filter _
theorem isHot_cut {q g : List κ} {k x : κ} (h : x ≠ k) : isHot (cut q k) (cut g k) x = isHot q g x := by
  unfold isHot
  have e1 : x ∉ cut q k ↔ x ∉ q := by rw [mem_cut]; simp [h]
  have e2 : x ∉ cut g k ↔ x ∉ g := by rw [mem_cut]; simp [h]
  rw [decide_eq_decide.2 e1, decide_eq_decide.2 e2]
theorem isHot_lay {q g : List κ} {k x : κ} (h : x ≠ k) : isHot (lay q k) (cut g k) x = isHot q g x := by
  unfold isHot
  have e1 : x ∉ lay q k ↔ x ∉ q := by rw [mem_lay]; simp [h]
  have e2 : x ∉ cut g k ↔ x ∉ g := by rw [mem_cut]; simp [h]
  rw [decide_eq_decide.2 e1, decide_eq_decide.2 e2]
/-- hot keys, when a key becomes hot -/
theorem hots_heat (s : St κ) (k : κ) : hots (heat s k) = cut (hots s) k ++ [k] := by
  unfold hots heat lay
  simp only
  rw [List.filter_append, filter_cut_congr (fun x hx => isHot_cut hx), cut_filter]
  have : isHot (cut s.b1 k) (cut s.t2 k) k = true := isHot_iff.2 ⟨fun h => (mem_cut.1 h).2 rfl, fun h => (mem_cut.1 h).2 rfl⟩
  simp [this]
theorem hots_cold (s : St κ) (k : κ) : hots (layCold s k) = cut (hots s) k := by
  unfold hots layCold
  show (cut s.t1 k ++ [k]).filter _ = _
  rw [List.filter_append, filter_cut_congr (fun x hx => isHot_lay hx), cut_filter]
  have : isHot (lay s.b1 k) (cut s.t2 k) k = false := isHot_not.2 (.inl (mem_lay.2 (.inr rfl)))
  simp [this]
theorem keys_heat (s : St κ) (k : κ) : keys (heat s k) = cut (keys s) k ++ [k] := by
  unfold keys
  rw [hots_heat, cut_append, List.append_assoc]
  rfl
theorem keys_cold (s : St κ) (k : κ) : keys (layCold s k) = cut s.b1 k ++ k :: cut (hots s) k := by
  unfold keys
  rw [hots_cold]
  show (cut s.b1 k ++ [k]) ++ _ = _
  simp
theorem mem_hots {s : St κ} {k : κ} : k ∈ hots s ↔ k ∈ s.t1 ∧ k ∉ s.b1 ∧ k ∉ s.t2 := by
  unfold hots
  rw [List.mem_filter, isHot_iff]
theorem cnt_filter_le (p : κ → Bool) (k : κ) (l : List κ) : cnt k (l.filter p) ≤ cnt k l := by
  rw [cnt_count, cnt_count]
  exact List.Sublist.count_le k List.filter_sublist
theorem mem_keys {s : St κ} {k : κ} : k ∈ keys s ↔ k ∈ s.b1 ∨ k ∈ hots s := by unfold keys; exact List.mem_append
theorem keys_cnt (s : St κ) (k : κ) : cnt k (keys s) = cnt k s.b1 + cnt k (hots s) := cnt_append _ _ _
theorem Base.once {s : St κ} (h : Base s) (k : κ) : cnt k (keys s) ≤ 1 := by
  rw [keys_cnt]
  have h1 := h.oq k
  have h2 := Nat.le_trans (cnt_filter_le (isHot s.b1 s.t2) k s.t1) (h.ot k)
  by_cases e : k ∈ hots s
  · have := cnt_zero.2 (mem_hots.1 e).2.1
    unfold hots
    omega
  · have := cnt_zero.2 e
    omega
theorem Base.ghost {s : St κ} (h : Base s) {k : κ} (hk : k ∈ s.t2) : k ∉ keys s := by
  rw [mem_keys]
  rintro (h1 | h1)
  · exact h.dis k hk h1
  · exact (mem_hots.1 h1).2.2 hk

/-! ### what is left out of S -/
structure Lt (s s' : St κ) : Prop where
  base : Base s'
  hots : hots s' = hots s
  b1 : s'.b1 = s.b1
  c : s'.c = s.c
  gl : s'.t2.length ≤ s.t2.length
  gs : ∀ k, k ∈ s'.t2 → k ∈ s.t2
theorem Lt.refl {s : St κ} (h : Base s) : Lt s s := ⟨h, rfl, rfl, rfl, Nat.le_refl _, fun _ h => h⟩
theorem Lt.trans {a b c : St κ} (h : Lt a b) (k : Lt b c) : Lt a c :=
  ⟨k.base, k.hots.trans h.hots, k.b1.trans h.b1, k.c.trans h.c, Nat.le_trans k.gl h.gl, fun x hx => h.gs x (k.gs x hx)⟩
theorem Lt.keys {s s' : St κ} (h : Lt s s') : keys s' = keys s := by unfold A.keys; rw [h.b1, h.hots]
theorem Lt.most {s s' : St κ} (h : Lt s s') : most s' = most s := by unfold A.most; rw [h.c]
theorem cut_tail {k : κ} {r : List κ} (h : ∀ j, cnt j (k :: r) ≤ 1) : cut r k = r := by
  apply cut_same
  have := h k
  rw [cnt_cons, one_self] at this
  exact cnt_zero.1 (by omega)
theorem drop_bottom {s : St κ} {k : κ} {r : List κ} (h : Base s) (ht : s.t1 = k :: r) (hn : isHot s.b1 s.t2 k = false) : Lt s ⟨r, s.b1, cut s.t2 k, s.c⟩ := by
  obtain ⟨t, q, g, c⟩ := s
  simp only at ht hn ⊢
  subst ht
  have hr : cut r k = r := cut_tail h.ot
  have hcg : ∀ x, x ≠ k → isHot q (cut g k) x = isHot q g x := by
    intro x hx
    unfold isHot
    have e2 : x ∉ cut g k ↔ x ∉ g := by rw [mem_cut]; simp [hx]
    rw [decide_eq_decide.2 e2]
  have e1 : r.filter (isHot q (cut g k)) = r.filter (isHot q g) := by rw [← hr]; exact filter_cut_congr hcg
  have e2 : r.filter (fun x => !isHot q (cut g k) x) = r.filter (fun x => !isHot q g x) := by rw [← hr]; exact filter_cut_congr (fun x hx => by rw [hcg x hx])
  refine ⟨⟨h.lo, h.hi, fun j => ?_, h.oq, fun j => ?_, fun j hj => ?_, fun j hj => h.dis j (mem_cut.1 hj).1, ?_⟩, ?_, rfl, rfl, length_cut_le _ _, fun j hj => (mem_cut.1 hj).1⟩
  · have := h.ot j; rw [cnt_cons] at this; simp only; omega
  · have := h.og j; simp only [cnt_cut] at this ⊢; split <;> omega
  · obtain ⟨h1, h2⟩ := mem_cut.1 hj
    have := h.sub j h1
    simp only [List.mem_cons] at this
    exact this.resolve_left h2
  · obtain ⟨l, hl, hs⟩ := h.ord
    simp only [List.filter_cons, hn, Bool.not_false, if_true] at hl
    simp only [e2]
    cases g with
    | nil =>
      simp only [List.nil_append] at hl
      refine ⟨r.filter (fun x => !isHot q [] x), by simp [cut], ?_⟩
      rw [← hl] at hs
      exact (List.sublist_cons_self _ _).trans hs
    | cons x g =>
      simp only [List.cons_append, List.cons.injEq] at hl
      obtain ⟨rfl, hl⟩ := hl
      refine ⟨l, ?_, hs⟩
      rw [cut_head h.og]
      exact hl
  · unfold A.hots
    simp only [List.filter_cons, hn, e1]
    rfl
theorem drop_ghost {s : St κ} {x : κ} {g : List κ} (h : Base s) (hg : s.t2 = x :: g) : Lt s ⟨cut s.t1 x, s.b1, g, s.c⟩ := by
  obtain ⟨t, q, g', c⟩ := s
  simp only at hg ⊢
  subst hg
  have hr : cut g x = g := cut_tail h.og
  have hcg : ∀ y, y ≠ x → isHot q g y = isHot q (x :: g) y := by
    intro y hy
    unfold isHot
    have e2 : y ∉ g ↔ y ∉ x :: g := by simp [hy]
    rw [decide_eq_decide.2 e2]
  have hx : isHot q (x :: g) x = false := isHot_not.2 (.inr (by simp))
  refine ⟨⟨h.lo, h.hi, fun j => ?_, h.oq, fun j => ?_, fun j hj => ?_, fun j hj => h.dis j (List.mem_cons_of_mem _ hj), ?_⟩, ?_, rfl, rfl, ?_, fun j hj => List.mem_cons_of_mem _ hj⟩
  · have := h.ot j; simp only [cnt_cut] at this ⊢; split <;> omega
  · have := h.og j; simp only [cnt_cons] at this ⊢; omega
  · refine mem_cut.2 ⟨h.sub j (List.mem_cons_of_mem _ hj), ?_⟩
    rintro rfl
    exact (mem_cut.1 (hr.symm ▸ hj : j ∈ cut g j)).2 rfl
  · obtain ⟨l, hl, hs⟩ := h.ord
    refine ⟨cut l x, ?_, List.Sublist.trans List.filter_sublist hs⟩
    simp only at hl ⊢
    rw [filter_cut_congr (p' := fun y => !isHot q (x :: g) y) (fun y hy => by rw [hcg y hy]), ← cut_filter, hl, cut_append, cut_head h.og]
  · unfold A.hots
    simp only
    rw [filter_cut_congr hcg, ← cut_filter]
    exact cut_same (fun h2 => by rw [List.mem_filter, hx] at h2; exact absurd h2.2 (by simp))
  · simp
/-- S's bottom is hot, or S is empty -/
def Bot (s : St κ) : Prop := ∀ k r, s.t1 = k :: r → isHot s.b1 s.t2 k = true
theorem prune_step {s : St κ} {k : κ} {r : List κ} (h : s.t1 = k :: r) (hn : isHot s.b1 s.t2 k = false) : prune ⟨r, s.b1, cut s.t2 k, s.c⟩ = prune s := by
  obtain ⟨t, q, g, c⟩ := s
  simp only at h hn
  subst h
  simp [prune, pr, hn]
theorem prune_stop {s : St κ} (h : Bot s) : prune s = s := by
  obtain ⟨t, q, g, c⟩ := s
  cases t with
  | nil => rfl
  | cons k r =>
    have := h k r rfl
    simp only at this
    simp [prune, pr, this]
theorem prune_lt {s : St κ} (h : Base s) : Lt s (prune s) ∧ Bot (prune s) := by
  obtain ⟨t, q, g, c⟩ := s
  induction t generalizing g with
  | nil => exact ⟨Lt.refl h, fun k r e => by cases e⟩
  | cons k r ih =>
    cases hn : isHot q g k with
    | true =>
      have hb : Bot (⟨k :: r, q, g, c⟩ : St κ) := fun k' r' e => by cases e; exact hn
      rw [prune_stop hb]
      exact ⟨Lt.refl h, hb⟩
    | false =>
      have hl := drop_bottom h (k := k) (r := r) rfl hn
      have := ih _ hl.base
      rw [← prune_step (s := ⟨k :: r, q, g, c⟩) rfl hn]
      exact ⟨hl.trans this.1, this.2⟩
theorem forget_step {s : St κ} {x : κ} {g : List κ} (h : s.t2 = x :: g) (hc : s.c < s.t2.length) : forget ⟨cut s.t1 x, s.b1, g, s.c⟩ = forget s := by
  obtain ⟨t, q, g', c⟩ := s
  simp only at h hc
  subst h
  unfold forget
  simp only [fo, hc, if_true]
theorem forget_stop {s : St κ} (h : s.t2.length ≤ s.c) : forget s = s := by
  obtain ⟨t, q, g, c⟩ := s
  simp only at h
  cases g with
  | nil => rfl
  | cons x g =>
    unfold forget
    simp only [fo, if_neg (Nat.not_lt.2 h)]
theorem forget_lt {s : St κ} (h : Base s) : Lt s (forget s) ∧ (forget s).t2.length ≤ s.c := by
  obtain ⟨t, q, g, c⟩ := s
  induction g generalizing t with
  | nil => exact ⟨Lt.refl h, Nat.zero_le _⟩
  | cons x g ih =>
    rcases Nat.lt_or_ge c (x :: g).length with hc | hc
    · have hl := drop_ghost h (x := x) (g := g) rfl
      have := ih _ hl.base
      rw [← forget_step (s := ⟨t, q, x :: g, c⟩) rfl hc]
      exact ⟨hl.trans this.1, this.2⟩
    · rw [forget_stop (by exact hc)]
      exact ⟨Lt.refl h, hc⟩

/-! ### a key becomes hot, or cold; the lowest hot one becomes cold; one goes -/
theorem heat_base {s : St κ} (h : Base s) (k : κ) : Base (heat s k) := by
  refine ⟨h.lo, h.hi, fun j => ?_, fun j => ?_, fun j => ?_, fun j hj => ?_, fun j hj => ?_, ?_⟩
  · have := h.ot j; simp only [heat, cnt_lay]; split <;> omega
  · have := h.oq j; simp only [heat, cnt_cut]; split <;> omega
  · have := h.og j; simp only [heat, cnt_cut]; split <;> omega
  · exact mem_lay.2 (.inl (h.sub j (mem_cut.1 hj).1))
  · exact fun h2 => h.dis j (mem_cut.1 hj).1 (mem_cut.1 h2).1
  · obtain ⟨l, hl, hs⟩ := h.ord
    refine ⟨cut l k, ?_, cut_sub hs k⟩
    show (cut s.t1 k ++ [k]).filter _ = cut s.t2 k ++ cut l k
    have e : (!isHot (heat s k).b1 (heat s k).t2 k) = false := by
      rw [Bool.not_eq_false']
      exact isHot_iff.2 ⟨fun h => (mem_cut.1 h).2 rfl, fun h => (mem_cut.1 h).2 rfl⟩
    rw [List.filter_append, List.filter_cons, e, if_neg Bool.false_ne_true, List.filter_nil, List.append_nil, filter_cut_congr (p' := fun x => !isHot s.b1 s.t2 x) (fun x hx => by rw [show isHot (heat s k).b1 (heat s k).t2 x = isHot s.b1 s.t2 x from isHot_cut hx]), ← cut_filter, hl, cut_append]
theorem cold_base {s : St κ} (h : Base s) (k : κ) : Base (layCold s k) := by
  refine ⟨h.lo, h.hi, fun j => ?_, fun j => ?_, fun j => ?_, fun j hj => ?_, fun j hj => ?_, ?_⟩
  · have := h.ot j; simp only [layCold, cnt_lay]; split <;> omega
  · have := h.oq j; simp only [layCold, cnt_lay]; split <;> omega
  · have := h.og j; simp only [layCold, cnt_cut]; split <;> omega
  · exact mem_lay.2 (.inl (h.sub j (mem_cut.1 hj).1))
  · intro h2
    rcases mem_lay.1 h2 with h3 | h3
    · exact h.dis j (mem_cut.1 hj).1 h3
    · exact (mem_cut.1 hj).2 h3
  · obtain ⟨l, hl, hs⟩ := h.ord
    refine ⟨cut l k ++ [k], ?_, (cut_sub hs k).append (List.Sublist.refl _)⟩
    show (cut s.t1 k ++ [k]).filter _ = cut s.t2 k ++ (cut l k ++ [k])
    have e : (!isHot (layCold s k).b1 (layCold s k).t2 k) = true := by
      rw [Bool.not_eq_true']
      exact isHot_not.2 (.inl (mem_lay.2 (.inr rfl)))
    rw [List.filter_append, List.filter_cons, e, if_pos rfl, List.filter_nil, filter_cut_congr (p' := fun x => !isHot s.b1 s.t2 x) (fun x hx => by rw [show isHot (layCold s k).b1 (layCold s k).t2 x = isHot s.b1 s.t2 x from isHot_lay hx]), ← cut_filter, hl, cut_append, List.append_assoc]
theorem demote_is {s : St κ} {k : κ} {r : List κ} (h : Base s) (ht : s.t1 = k :: r) (hk : isHot s.b1 s.t2 k = true) :
    demote s = ⟨r, s.b1 ++ [k], s.t2, s.c⟩ ∧ Base (demote s) ∧ hots s = k :: hots (demote s) ∧ keys (demote s) = keys s := by
  obtain ⟨t, q, g, c⟩ := s
  simp only at ht hk
  subst ht
  obtain ⟨hq, hg⟩ := isHot_iff.1 hk
  have hr : cut r k = r := cut_tail h.ot
  have hcg : ∀ x, x ≠ k → isHot (q ++ [k]) g x = isHot q g x := by
    intro x hx
    unfold isHot
    have e2 : x ∉ q ++ [k] ↔ x ∉ q := by simp [hx]
    rw [decide_eq_decide.2 e2]
  have e1 : r.filter (isHot (q ++ [k]) g) = r.filter (isHot q g) := by rw [← hr]; exact filter_cut_congr hcg
  have e2 : r.filter (fun x => !isHot (q ++ [k]) g x) = r.filter (fun x => !isHot q g x) := by rw [← hr]; exact filter_cut_congr (fun x hx => by rw [hcg x hx])
  have hh : hots (⟨k :: r, q, g, c⟩ : St κ) = k :: hots (⟨r, q ++ [k], g, c⟩ : St κ) := by
    unfold hots
    simp only [List.filter_cons, hk, if_true, e1]
  refine ⟨rfl, ⟨h.lo, h.hi, fun j => ?_, fun j => ?_, h.og, fun j hj => ?_, fun j hj => ?_, ?_⟩, hh, ?_⟩
  · have := h.ot j; rw [cnt_cons] at this; simp only [demote]; omega
  · have := h.oq j
    simp only [demote, cnt_snoc] at this ⊢
    by_cases e : k = j
    · subst e; have := cnt_zero.2 hq; rw [one_self]; omega
    · rw [one_ne e]; omega
  · have h1 := h.sub j hj
    simp only [List.mem_cons] at h1
    rcases h1 with rfl | h1
    · exact absurd hj hg
    · exact h1
  · simp only [demote]
    rw [List.mem_append, List.mem_singleton]
    rintro (h1 | rfl)
    · exact h.dis j hj h1
    · exact hg hj
  · obtain ⟨l, hl, hs⟩ := h.ord
    refine ⟨l, ?_, hs.trans (List.sublist_append_left _ _)⟩
    simp only [List.filter_cons, hk, Bool.not_true] at hl
    simp only [demote, e2]
    exact hl
  · unfold keys
    rw [hh]
    simp [demote]
theorem out_is {s : St κ} {k : κ} {r : List κ} (h : Base s) (hq : s.b1 = k :: r) : Base (out s k r) ∧ hots (out s k r) = hots s ∧ keys s = k :: keys (out s k r) ∧ (out s k r).t2.length ≤ s.t2.length + 1 ∧ ∀ j, j ∈ (out s k r).t2 → j ∈ s.t2 ∨ j = k := by
  obtain ⟨t, q, g, c⟩ := s
  simp only at hq
  subst hq
  have hkr : k ∉ r := by
    have := h.oq k
    simp only [cnt_cons, one_self] at this
    exact cnt_zero.1 (by omega)
  have hkg : k ∉ g := fun h1 => h.dis k h1 (by simp)
  unfold out
  simp only
  by_cases hk : k ∈ t
  · rw [if_pos hk]
    have he : isHot r (g ++ [k]) = isHot (k :: r) g := by
      funext x
      unfold isHot
      by_cases e : x = k
      · subst e; simp
      · have e1 : x ∉ g ++ [k] ↔ x ∉ g := by simp [e]
        have e2 : x ∉ k :: r ↔ x ∉ r := by simp [e]
        rw [decide_eq_decide.2 e1, decide_eq_decide.2 e2]
    have hh : hots (⟨t, r, g ++ [k], c⟩ : St κ) = hots (⟨t, k :: r, g, c⟩ : St κ) := by
      unfold hots
      simp only [he]
    refine ⟨⟨h.lo, h.hi, h.ot, fun j => ?_, fun j => ?_, fun j hj => ?_, fun j hj => ?_, ?_⟩, hh, ?_, ?_, fun j hj => ?_⟩
    · have := h.oq j; simp only [cnt_cons] at this ⊢; omega
    · have := h.og j
      simp only [cnt_snoc] at this ⊢
      by_cases e : k = j
      · subst e; have := cnt_zero.2 hkg; rw [one_self]; omega
      · rw [one_ne e]; omega
    · simp only [List.mem_append, List.mem_singleton] at hj
      rcases hj with hj | rfl
      · exact h.sub j hj
      · exact hk
    · simp only [List.mem_append, List.mem_singleton] at hj
      rcases hj with hj | rfl
      · exact fun h1 => h.dis j hj (List.mem_cons_of_mem _ h1)
      · exact hkr
    · obtain ⟨l, hl, hs⟩ := h.ord
      simp only [he]
      have hkl : k ∈ l := by
        have h1 : k ∈ t.filter (fun x => !isHot (k :: r) g x) := List.mem_filter.2 ⟨hk, by simp [isHot]⟩
        simp only at hl
        rw [hl, List.mem_append] at h1
        exact h1.resolve_left hkg
      have : ∃ l', l = k :: l' ∧ l'.Sublist r := by
        cases hs with
        | cons _ h2 => exact absurd (h2.subset hkl) hkr
        | cons_cons _ h2 => exact ⟨_, rfl, h2⟩
      obtain ⟨l', rfl, hs'⟩ := this
      exact ⟨l', by simp only at hl; rw [hl]; simp, hs'⟩
    · unfold keys
      rw [hh]
      simp
    · simp
    · simpa using hj
  · rw [if_neg hk]
    have he : ∀ x, x ∈ t → isHot r g x = isHot (k :: r) g x := by
      intro x hx
      have e : x ≠ k := by rintro rfl; exact hk hx
      unfold isHot
      have e2 : x ∉ k :: r ↔ x ∉ r := by simp [e]
      rw [decide_eq_decide.2 e2]
    have hh : hots (⟨t, r, g, c⟩ : St κ) = hots (⟨t, k :: r, g, c⟩ : St κ) := by
      unfold hots
      exact List.filter_congr he
    refine ⟨⟨h.lo, h.hi, h.ot, fun j => ?_, h.og, h.sub, fun j hj h1 => h.dis j hj (List.mem_cons_of_mem _ h1), ?_⟩, hh, ?_, ?_, fun j hj => .inl hj⟩
    · have := h.oq j; simp only [cnt_cons] at this ⊢; omega
    · obtain ⟨l, hl, hs⟩ := h.ord
      simp only at hl
      refine ⟨l, ?_, ?_⟩
      · rw [← hl]
        exact List.filter_congr (fun x hx => by rw [he x hx])
      · have hkl : k ∉ l := fun h1 => hk (by
          have h3 : k ∈ t.filter (fun x => !isHot (k :: r) g x) := by rw [hl]; exact List.mem_append_right _ h1
          exact (List.mem_filter.1 h3).1)
        cases hs with
        | cons _ h2 => exact h2
        | cons_cons _ h2 => exact absurd (by simp) hkl
    · unfold keys
      rw [hh]
      simp
    · simp
end
theorem most_of {κ : Type} {s s' : St κ} (h : s'.c = s.c) : most s' = most s := by unfold most; rw [h]
section
variable {κ : Type} [DecidableEq κ]
theorem keys_length (s : St κ) : (keys s).length = s.b1.length + (hots s).length := by simp [keys]
theorem Ok.once_hots {s : St κ} (h : Base s) : Once (hots s) := fun k => Nat.le_trans (cnt_filter_le _ k s.t1) (h.ot k)
/-- where somebody is resident Q has one, once the lowest hot one is cold -/
theorem Ok.ready {s : St κ} (h : Ok s) (hk : (keys s).length ≠ 0) :
    ∃ k r, (ready s).b1 = k :: r ∧ Base (A.ready s) ∧ keys (A.ready s) = keys s ∧ (hots (A.ready s)).length ≤ (hots s).length ∧ (A.ready s).c = s.c ∧ (A.ready s).t2 = s.t2 := by
  unfold A.ready
  by_cases hq : s.b1 = []
  · rw [if_pos hq]
    have hh : (hots s).length ≠ 0 := by rw [keys_length, hq] at hk; simpa using hk
    cases ht : s.t1 with
    | nil => unfold hots at hh; rw [ht] at hh; simp at hh
    | cons k r =>
      obtain ⟨e, h1, h2, h3⟩ := demote_is h.toBase ht (h.bot k r ht)
      refine ⟨k, [], ?_, h1, h3, ?_, ?_, ?_⟩
      · rw [e, hq]; rfl
      · rw [h2]; simp
      · rw [e]
      · rw [e]
  · rw [if_neg hq]
    cases hb : s.b1 with
    | nil => exact absurd hb hq
    | cons k r => exact ⟨k, r, rfl, h.toBase, rfl, Nat.le_refl _, rfl, rfl⟩
theorem goes_is {s : St κ} {k : κ} {r : List κ} (h : (ready s).b1 = k :: r) : goes s = ([k], prune (forget (out (ready s) k r))) := by
  unfold goes
  rw [h]
theorem goes_one {s : St κ} (h : Ok s) (hk : (keys s).length ≠ 0) : ∃ g s', goes s = ([g], s') ∧ Ok s' ∧ s'.c = s.c ∧ keys s = g :: keys s' ∧ ∀ j, j ∈ s'.t2 → j ∈ s.t2 ∨ j = g := by
  obtain ⟨k, r, hb, h1, h2, h3, h4, h5⟩ := h.ready hk
  obtain ⟨o1, o2, o3, o4, o5⟩ := out_is h1 hb
  obtain ⟨f1, f2⟩ := forget_lt o1
  obtain ⟨p1, p2⟩ := prune_lt f1.base
  have hl := f1.trans p1
  have hc : (out (A.ready s) k r).c = s.c := h4
  have hks : keys s = k :: keys (prune (forget (out (A.ready s) k r))) := by rw [hl.keys, ← o3, h2]
  refine ⟨k, _, goes_is hb, ⟨hl.base, ?_, ?_, p2, ?_⟩, by rw [hl.c, hc], hks, fun j hj => ?_⟩
  · have := h.res
    rw [hks, List.length_cons] at this
    rw [hl.c, hc]
    omega
  · rw [most_of (hl.c.trans hc), hl.hots, o2]
    exact Nat.le_trans h3 h.hot
  · rw [hl.c]
    exact Nat.le_trans p1.gl f2
  · have := o5 j (hl.gs j hj)
    rwa [h5] at this
theorem bot_heat {s : St κ} {k : κ} (h : Bot s) (hk : k ∈ s.t1) (hn : isHot s.b1 s.t2 k = false) : Bot (heat s k) := by
  cases ht : s.t1 with
  | nil => rw [ht] at hk; cases hk
  | cons x r =>
    have hx := h x r ht
    have hne : x ≠ k := by rintro rfl; rw [hn] at hx; cases hx
    intro k' r' e
    have : (heat s k).t1 = x :: (cut r k ++ [k]) := by
      show cut s.t1 k ++ [k] = _
      rw [ht]
      simp [cut, hne]
    rw [this] at e
    cases e
    exact (isHot_cut hne).trans hx
theorem cool_is {s : St κ} (h : Base s) (hb : (hots s).length ≤ most s ∨ Bot s) :
    Base (cool s) ∧ keys (cool s) = keys s ∧ (cool s).c = s.c ∧ (cool s).t2 = s.t2 ∧ ((hots s).length ≤ most s + 1 → (hots (cool s)).length ≤ most s) := by
  unfold cool
  by_cases hl : most s < (hots s).length
  · rw [if_pos hl]
    have hbot : Bot s := hb.resolve_left (by omega)
    cases ht : s.t1 with
    | nil => unfold hots at hl; rw [ht] at hl; simp at hl
    | cons k r =>
      obtain ⟨e, h1, h2, h3⟩ := demote_is h ht (hbot k r ht)
      refine ⟨h1, h3, by rw [e], by rw [e], fun h4 => ?_⟩
      rw [h2, List.length_cons] at h4
      omega
  · rw [if_neg hl]
    exact ⟨h, rfl, rfl, rfl, fun _ => by omega⟩
theorem heated_ok {s : St κ} {k : κ} (h : Ok s) (hb : (hots (heat s k)).length ≤ most s ∨ (k ∈ s.t1 ∧ isHot s.b1 s.t2 k = false)) (hres : (keys (heat s k)).length ≤ s.c) :
    Ok (prune (cool (heat s k))) ∧ keys (prune (cool (heat s k))) = cut (keys s) k ++ [k] ∧ (prune (cool (heat s k))).c = s.c ∧ ∀ j, j ∈ (prune (cool (heat s k))).t2 → j ∈ s.t2 := by
  have hB := heat_base h.toBase k
  obtain ⟨c1, c2, c3, c4, c5⟩ := cool_is hB (hb.imp (fun x => x) (fun x => bot_heat h.bot x.1 x.2))
  obtain ⟨p1, p2⟩ := prune_lt c1
  have hc : (prune (cool (heat s k))).c = s.c := p1.c.trans c3
  have hhot : (hots (heat s k)).length ≤ most s + 1 := by
    rw [hots_heat]
    have := length_cut_le (hots s) k
    have := h.hot
    simp
    omega
  have hk : keys (prune (cool (heat s k))) = keys (heat s k) := by rw [p1.keys, c2]
  refine ⟨⟨p1.base, by rw [hk, hc]; exact hres, ?_, p2, ?_⟩, by rw [hk, keys_heat], hc, fun j hj => ?_⟩
  · rw [most_of hc, p1.hots]
    exact c5 hhot
  · rw [hc]
    refine Nat.le_trans p1.gl ?_
    rw [c4]
    exact Nat.le_trans (length_cut_le _ _) h.gho
  · have := p1.gs j hj
    rw [c4] at this
    exact (mem_cut.1 this).1
theorem cold_ok {s : St κ} {k : κ} (h : Ok s) (hres : (keys (layCold s k)).length ≤ s.c) :
    Ok (prune (layCold s k)) ∧ keys (prune (layCold s k)) = cut s.b1 k ++ k :: cut (hots s) k ∧ (prune (layCold s k)).c = s.c ∧ (∀ j, j ∈ (prune (layCold s k)).t2 → j ∈ s.t2) ∧ hots (prune (layCold s k)) = cut (hots s) k := by
  have hB := cold_base h.toBase k
  obtain ⟨p1, p2⟩ := prune_lt hB
  have hc : (prune (layCold s k)).c = s.c := p1.c
  refine ⟨⟨p1.base, by rw [p1.keys, hc]; exact hres, ?_, p2, ?_⟩, by rw [p1.keys, keys_cold], hc, fun j hj => (mem_cut.1 (p1.gs j hj)).1, by rw [p1.hots, hots_cold]⟩
  · rw [most_of hc, p1.hots, hots_cold]
    exact Nat.le_trans (length_cut_le _ _) h.hot
  · rw [hc]
    exact Nat.le_trans p1.gl (Nat.le_trans (length_cut_le _ _) h.gho)
theorem cnt_moved {l : List κ} {k : κ} (h : Once l) (hk : k ∈ l) (j : κ) : cnt j (cut l k ++ [k]) = cnt j l := by
  rw [cnt_snoc]
  exact cnt_cut_one (h k) (cnt_pos.2 hk)
theorem cnt_cold (s : St κ) (k j : κ) : cnt j (cut s.b1 k ++ k :: cut (hots s) k) = cnt j (cut (keys s) k ++ [k]) := by
  unfold keys
  rw [cut_append, cnt_append, cnt_cons, cnt_snoc, cnt_append]
  omega
theorem use_ok {s : St κ} {key : κ} (h : Ok s) (hk : key ∈ keys s) : Ok (use s key) ∧ (use s key).c = s.c ∧ (∀ k, cnt k (keys (use s key)) = cnt k (keys s)) := by
  have ho : Once (keys s) := h.toBase.once
  have hm := fun j => cnt_moved ho hk j
  have hl := length_of_cnt hm
  have hres := h.res
  unfold use
  by_cases ht : key ∈ s.t1
  · rw [if_pos ht]
    have hb : (hots (heat s key)).length ≤ most s ∨ (key ∈ s.t1 ∧ isHot s.b1 s.t2 key = false) := by
      cases hh : isHot s.b1 s.t2 key with
      | false => exact .inr ⟨ht, rfl⟩
      | true =>
        left
        rw [hots_heat, length_of_cnt (fun j => cnt_moved (Ok.once_hots h.toBase) (List.mem_filter.2 ⟨ht, hh⟩) j)]
        exact h.hot
    obtain ⟨a, b, c, -⟩ := heated_ok h hb (by rw [keys_heat]; omega)
    exact ⟨a, c, fun k => by rw [b]; exact hm k⟩
  · rw [if_neg ht]
    obtain ⟨a, b, c, -, -⟩ := cold_ok (k := key) h (by rw [keys_cold, length_of_cnt (cnt_cold s key)]; omega)
    exact ⟨a, c, fun k => by rw [b, cnt_cold]; exact hm k⟩
theorem cnt_come {l : List κ} {k : κ} (hk : k ∉ l) (j : κ) : cnt j (cut l k ++ [k]) = cnt j l + one k j := by rw [cnt_snoc, cut_same hk]
theorem come_len {l : List κ} {k : κ} (hk : k ∉ l) : (cut l k ++ [k]).length = l.length + 1 := by rw [cut_same hk]; simp
theorem admit_ok {s : St κ} {key : κ} (h : Ok s) (hk : key ∉ keys s) (hl : (keys s).length < s.c) : Ok (admit s key) ∧ (admit s key).c = s.c ∧ (∀ k, cnt k (keys (admit s key)) = cnt k (keys s) + one key k) := by
  have hm := fun j => cnt_come hk j
  have hle := come_len hk
  unfold admit
  by_cases hc : (hots s).length < most s ∨ key ∈ s.t2
  · rw [if_pos hc]
    have hb : (hots (heat s key)).length ≤ most s ∨ (key ∈ s.t1 ∧ isHot s.b1 s.t2 key = false) := by
      rcases hc with h1 | h1
      · left
        rw [hots_heat]
        have := length_cut_le (hots s) key
        simp
        omega
      · exact .inr ⟨h.sub key h1, isHot_not.2 (.inr h1)⟩
    obtain ⟨a, b, c, -⟩ := heated_ok h hb (by rw [keys_heat]; omega)
    exact ⟨a, c, fun k => by rw [b]; exact hm k⟩
  · rw [if_neg hc]
    obtain ⟨a, b, c, -, -⟩ := cold_ok (k := key) h (by rw [keys_cold, length_of_cnt (cnt_cold s key)]; omega)
    exact ⟨a, c, fun k => by rw [b, cnt_cold]; exact hm k⟩
theorem cool_room {s : St κ} (h : (hots s).length ≤ most s) : cool s = s := by unfold cool; rw [if_neg (by omega)]
theorem put_ok {s : St κ} {key : κ} (h : Ok s) (hk : key ∉ keys s) (hl : (keys s).length < s.c) : Ok (prune (put s key)) ∧ (prune (put s key)).c = s.c ∧ (∀ k, cnt k (keys (prune (put s key))) = cnt k (keys s) + one key k) := by
  have hm := fun j => cnt_come hk j
  have hle := come_len hk
  unfold put
  by_cases hc : (hots s).length < most s
  · rw [if_pos hc]
    have hb : (hots (heat s key)).length ≤ most s := by
      rw [hots_heat]
      have := length_cut_le (hots s) key
      simp
      omega
    have e := cool_room (s := heat s key) (by show (hots (heat s key)).length ≤ most s; exact hb)
    obtain ⟨a, b, c, -⟩ := heated_ok h (.inl hb) (by rw [keys_heat]; omega)
    rw [e] at a b c
    exact ⟨a, c, fun k => by rw [b]; exact hm k⟩
  · rw [if_neg hc]
    obtain ⟨a, b, c, -, -⟩ := cold_ok (k := key) h (by rw [keys_cold, length_of_cnt (cnt_cold s key)]; omega)
    exact ⟨a, c, fun k => by rw [b, cnt_cold]; exact hm k⟩

/-! ### what each act does -/
theorem rec_room {s : St κ} (h : (keys s).length < s.c) : reclaim s = ([], s) := by unfold reclaim; rw [if_pos h]
theorem rec_full {s : St κ} (h : s.c ≤ (keys s).length) : reclaim s = goes s := by unfold reclaim; rw [if_neg (by omega)]
/-- what an Access of a key does that was not resident -/
structure Missed (s s' : St κ) (key : κ) (l : List κ) : Prop where
  ok : Ok s'
  cs : s'.c = s.c
  went : (l = [] ∧ (keys s).length < s.c ∧ (∀ k, cnt k (keys s') = cnt k (keys s) + A.one key k) ∧ (keys s').length = (keys s).length + 1) ∨
    ∃ g, l = [g] ∧ (keys s).length = s.c ∧ 0 < cnt g (keys s) ∧ (∀ k, cnt k (keys s') + A.one g k = cnt k (keys s) + A.one key k) ∧ (keys s').length = s.c
theorem len_more {l m : List κ} {key : κ} (h : ∀ k, cnt k m = cnt k l + one key k) : m.length = l.length + 1 := by
  have : m.length = (key :: l).length := length_of_cnt (fun k => by rw [h, cnt_cons]; omega)
  simpa using this
/-- behind what went there is room for one -/
theorem rec_ok {s : St κ} (h : Ok s) : Ok (reclaim s).2 ∧ (reclaim s).2.c = s.c ∧ (keys (reclaim s).2).length < s.c ∧ (∀ k, k ∈ keys (reclaim s).2 → k ∈ keys s) ∧
    (((reclaim s).1 = [] ∧ (reclaim s).2 = s) ∨ ∃ g, (reclaim s).1 = [g] ∧ (keys s).length = s.c ∧ keys s = g :: keys (reclaim s).2) := by
  rcases Nat.lt_or_ge (keys s).length s.c with hl | hl
  · rw [rec_room hl]
    exact ⟨h, rfl, hl, fun _ h => h, .inl ⟨rfl, rfl⟩⟩
  · have hlo := h.lo
    obtain ⟨g, s', e, h1, h2, h3, h4⟩ := goes_one h (by omega)
    rw [rec_full hl, e]
    have hres := h.res
    have hlen : (keys s).length = (keys s').length + 1 := by rw [h3]; simp
    exact ⟨h1, h2, by show (keys s').length < s.c; omega, fun k hk => by rw [h3]; exact List.mem_cons_of_mem _ hk, .inr ⟨g, rfl, by omega, h3⟩⟩
theorem acc_miss {s : St κ} {key : κ} (h : Ok s) (hk : key ∉ keys s) : (access s key).1 = false ∧ Missed s (access s key).2.2 key (access s key).2.1 := by
  unfold access
  rw [if_neg hk]
  obtain ⟨r1, r2, r3, r4, r5⟩ := rec_ok h
  obtain ⟨a1, a2, a3⟩ := admit_ok r1 (fun h2 => hk (r4 key h2)) (by rw [r2]; exact r3)
  have hlen := len_more a3
  refine ⟨rfl, a1, a2.trans r2, ?_⟩
  simp only
  rcases r5 with ⟨e1, e2⟩ | ⟨g, e1, e2, e3⟩
  · rw [e2] at a3 r3 hlen
    rw [e1, e2]
    exact .inl ⟨rfl, r3, a3, hlen⟩
  · have hl : (keys s).length = (keys (reclaim s).2).length + 1 := by rw [e3]; simp
    refine .inr ⟨g, e1, e2, cnt_pos.2 (by rw [e3]; simp), fun k => ?_, by omega⟩
    rw [a3, e3, cnt_cons]
    omega
theorem acc_hit {s : St κ} {key : κ} (h : Ok s) (hk : key ∈ keys s) :
    (access s key).1 = true ∧ (access s key).2.1 = [] ∧ Ok (access s key).2.2 ∧ (access s key).2.2.c = s.c ∧ (∀ k, cnt k (keys (access s key).2.2) = cnt k (keys s)) ∧ (keys (access s key).2.2).length = (keys s).length := by
  unfold access
  rw [if_pos hk]
  obtain ⟨a, b, c⟩ := use_ok h hk
  exact ⟨rfl, rfl, a, b, c, length_of_cnt c⟩
theorem acc_any {s : St κ} (h : Ok s) (key : κ) : Ok (access s key).2.2 ∧ (access s key).2.2.c = s.c := by
  by_cases hk : key ∈ keys s
  · have := acc_hit h hk; exact ⟨this.2.2.1, this.2.2.2.1⟩
  · have := (acc_miss h hk).2; exact ⟨this.ok, this.cs⟩

/-! ### Remove, Evict, Load -/
theorem rem_no {s : St κ} {key : κ} (hk : key ∉ keys s) : remove s key = (false, s) := by unfold remove; rw [if_neg hk]
theorem gone_base {s : St κ} {key : κ} (h : Base s) (hg : key ∉ s.t2) : Base (gone s key) ∧ hots (gone s key) = cut (hots s) key := by
  have hgc : cut s.t2 key = s.t2 := cut_same hg
  have hi : ∀ x, x ≠ key → isHot (cut s.b1 key) s.t2 x = isHot s.b1 s.t2 x := fun x hx => by
    have := isHot_cut (q := s.b1) (g := s.t2) hx
    rwa [hgc] at this
  refine ⟨⟨h.lo, h.hi, fun j => ?_, fun j => ?_, h.og, fun j hj => ?_, fun j hj => ?_, ?_⟩, ?_⟩
  · have := h.ot j; simp only [gone, cnt_cut]; split <;> omega
  · have := h.oq j; simp only [gone, cnt_cut]; split <;> omega
  · exact mem_cut.2 ⟨h.sub j hj, by rintro rfl; exact hg hj⟩
  · exact fun h2 => h.dis j hj (mem_cut.1 h2).1
  · obtain ⟨l, hl, hs⟩ := h.ord
    refine ⟨cut l key, ?_, cut_sub hs key⟩
    show (cut s.t1 key).filter (fun x => !isHot (cut s.b1 key) s.t2 x) = s.t2 ++ cut l key
    rw [filter_cut_congr (p' := fun x => !isHot s.b1 s.t2 x) (fun x hx => by rw [hi x hx]), ← cut_filter, hl, cut_append, hgc]
  · unfold hots gone
    show (cut s.t1 key).filter (isHot (cut s.b1 key) s.t2) = _
    rw [filter_cut_congr hi, cut_filter]
theorem rem_yes {s : St κ} {key : κ} (h : Ok s) (hk : key ∈ keys s) :
    (remove s key).1 = true ∧ Ok (remove s key).2 ∧ (remove s key).2.c = s.c ∧ (∀ k, cnt k (keys (remove s key).2) + one key k = cnt k (keys s)) ∧ (keys (remove s key).2).length + 1 = (keys s).length ∧ ∀ j, j ∈ ghosts (remove s key).2 → j ∈ ghosts s := by
  unfold remove
  rw [if_pos hk]
  have hg : key ∉ s.t2 := fun h2 => h.toBase.ghost h2 hk
  obtain ⟨b1, b2⟩ := gone_base h.toBase hg
  obtain ⟨p1, p2⟩ := prune_lt b1
  have hks : keys (prune (gone s key)) = cut (keys s) key := by
    rw [p1.keys]
    unfold keys
    rw [b2, cut_append]
    rfl
  have hc : (prune (gone s key)).c = s.c := p1.c
  have hlen := length_cut (l := keys s) h.toBase.once hk
  have hres := h.res
  refine ⟨rfl, (?_ : Ok (prune (gone s key))), hc, fun k => ?_, ?_, fun j hj => p1.gs j hj⟩
  · refine ⟨p1.base, by rw [hks, hc]; omega, ?_, p2, ?_⟩
    · rw [most_of hc, p1.hots, b2]
      exact Nat.le_trans (length_cut_le _ _) h.hot
    · rw [hc]
      exact Nat.le_trans p1.gl h.gho
  · simp only [hks]
    exact cnt_cut_one (h.toBase.once key) (cnt_pos.2 hk)
  · simp only [hks]
    exact hlen
theorem evi_no {s : St κ} (h : (keys s).length = 0) : evict s = ([], s) := by unfold evict; rw [if_pos h]
theorem evi_yes {s : St κ} (h : Ok s) (hk : (keys s).length ≠ 0) :
    ∃ g s', evict s = ([g], s') ∧ Ok s' ∧ s'.c = s.c ∧ (∀ k, cnt k (keys s') + one g k = cnt k (keys s)) ∧ (keys s').length + 1 = (keys s).length := by
  unfold evict
  rw [if_neg hk]
  obtain ⟨g, s', e, h1, h2, h3, -⟩ := goes_one h hk
  exact ⟨g, s', e, h1, h2, fun k => by rw [h3, cnt_cons]; omega, by rw [h3]; simp⟩
theorem load_no {s : St κ} {key : κ} (h : key ∈ keys s ∨ s.c ≤ (keys s).length) : load s key = (false, s) := by unfold load; rw [if_pos h]
theorem load_yes {s : St κ} {key : κ} (h : Ok s) (hk : key ∉ keys s) (hl : (keys s).length < s.c) :
    (load s key).1 = true ∧ Ok (load s key).2 ∧ (load s key).2.c = s.c ∧ (∀ k, cnt k (keys (load s key).2) = cnt k (keys s) + one key k) ∧ (keys (load s key).2).length = (keys s).length + 1 := by
  unfold load
  rw [if_neg (by intro h2; rcases h2 with h2 | h2; exact hk h2; omega)]
  obtain ⟨a, b, c⟩ := put_ok h hk hl
  exact ⟨rfl, a, b, c, len_more c⟩
theorem rem_any {s : St κ} (h : Ok s) (key : κ) : Ok (remove s key).2 ∧ (remove s key).2.c = s.c := by
  by_cases hk : key ∈ keys s
  · have := rem_yes h hk; exact ⟨this.2.1, this.2.2.1⟩
  · rw [rem_no hk]; exact ⟨h, rfl⟩
theorem evi_any {s : St κ} (h : Ok s) : Ok (evict s).2 ∧ (evict s).2.c = s.c := by
  by_cases hk : (keys s).length = 0
  · rw [evi_no hk]; exact ⟨h, rfl⟩
  · obtain ⟨g, s', e, h1, h2, -⟩ := evi_yes h hk
    rw [e]; exact ⟨h1, h2⟩
theorem load_any {s : St κ} (h : Ok s) (key : κ) : Ok (load s key).2 ∧ (load s key).2.c = s.c := by
  by_cases hk : key ∈ keys s
  · rw [load_no (.inl hk)]; exact ⟨h, rfl⟩
  · rcases Nat.lt_or_ge (keys s).length s.c with hl | hl
    · have := load_yes h hk hl; exact ⟨this.2.1, this.2.2.1⟩
    · rw [load_no (.inr hl)]; exact ⟨h, rfl⟩
/-- how many a row has -/
theorem Base.small {s : St κ} (h : Base s) : s.t1.length ≤ (hots s).length + s.t2.length + s.b1.length := by
  obtain ⟨l, hl, hs⟩ := h.ord
  have h1 := hs.length_le
  have h2 : (hots s).length + (s.t1.filter (fun k => !isHot s.b1 s.t2 k)).length = s.t1.length := by
    unfold hots
    rw [← List.countP_eq_length_filter, ← List.countP_eq_length_filter, List.length_eq_countP_add_countP (isHot s.b1 s.t2)]
    congr 1
    exact List.countP_congr (fun x _ => by simp)
  rw [hl, List.length_append] at h2
  omega

/-! ### hot keys stay, however many others come once -/
structure Scan (s : St κ) (H l : List κ) (i : Nat) : Prop where
  ok : Ok s
  hot : hots s = H
  all : H.length = most s
  q : ∀ k, k ∈ s.b1 → k ∈ l.take i
  g : ∀ k, k ∈ s.t2 → k ∈ l.take i
theorem scan_next {s : St κ} {H l : List κ} {i : Nat} {key : κ} (h : Scan s H l i) (hc : 2 ≤ s.c) (hi : l[i]? = some key) (hn : key ∉ l.take i) (hH : key ∉ H) : Scan (access s key).2.2 H l (i + 1) ∧ (access s key).2.2.c = s.c := by
  have htk : l.take (i + 1) = l.take i ++ [key] := by rw [List.take_add_one, hi]; rfl
  have hk : key ∉ keys s := by
    rw [mem_keys]
    rintro (h1 | h1)
    · exact hn (h.q key h1)
    · rw [h.hot] at h1; exact hH h1
  have hM := acc_any h.ok key
  have hmost : most s < s.c := by unfold most; omega
  obtain ⟨s1, hs1, ho1, hc1, hh1, hq1, hg1, hl1⟩ : ∃ s1, (reclaim s).2 = s1 ∧ Ok s1 ∧ s1.c = s.c ∧ hots s1 = H ∧ (∀ k, k ∈ s1.b1 → k ∈ l.take i) ∧ (∀ k, k ∈ s1.t2 → k ∈ l.take i) ∧ (keys s1).length < s.c := by
    obtain ⟨r1, r2, r3, -, -⟩ := rec_ok h.ok
    rcases Nat.lt_or_ge (keys s).length s.c with hl | hl
    · rw [rec_room hl]
      exact ⟨s, rfl, h.ok, rfl, h.hot, h.q, h.g, hl⟩
    · refine ⟨_, rfl, r1, r2, ?_, ?_, ?_, r3⟩
      all_goals
        have hkl := keys_length s
        have hcall := h.all
        have hhl : (hots s).length = H.length := by rw [h.hot]
        have hne : s.b1 ≠ [] := by intro e; rw [e] at hkl; simp at hkl; omega
        have hrd : ready s = s := by unfold ready; rw [if_neg hne]
        cases hb : s.b1 with
        | nil => exact absurd hb hne
        | cons k r =>
          have hb' : (ready s).b1 = k :: r := by rw [hrd]; exact hb
          obtain ⟨o1, o2, o3, o4, o5⟩ := out_is h.ok.toBase hb
          obtain ⟨f1, f2⟩ := forget_lt o1
          obtain ⟨p1, p2⟩ := prune_lt f1.base
          have hlt := f1.trans p1
          rw [rec_full hl, goes_is hb', hrd]
          first
            | (show hots (prune (forget (out s k r))) = H; rw [hlt.hots, o2, h.hot])
            | (intro j hj
               have hj' : j ∈ (prune (forget (out s k r))).b1 := hj
               rw [hlt.b1] at hj'
               exact h.q j (by rw [hb]; exact List.mem_cons_of_mem _ hj'))
            | (intro j hj
               have hj' : j ∈ (prune (forget (out s k r))).t2 := hj
               rcases o5 j (hlt.gs j hj') with h1 | h1
               · exact h.g j h1
               · exact h.q j (by rw [hb, h1]; simp))
  have hacc : access s key = (false, (reclaim s).1, admit s1 key) := by
    unfold access
    rw [if_neg hk, hs1]
  have hg2 : key ∉ s1.t2 := fun h2 => hn (hg1 key h2)
  have hcold : admit s1 key = prune (layCold s1 key) := by
    unfold admit
    rw [if_neg]
    rintro (h2 | h2)
    · rw [hh1, h.all, most_of hc1] at h2
      omega
    · exact hg2 h2
  rw [hacc, hcold] at hM ⊢
  have hk1 : key ∉ keys s1 := by
    rw [mem_keys]
    rintro (h1 | h1)
    · exact hn (hq1 key h1)
    · rw [hh1] at h1; exact hH h1
  obtain ⟨a, b, c, d, e⟩ := cold_ok (k := key) ho1 (by rw [keys_cold, length_of_cnt (cnt_cold s1 key), come_len hk1]; omega)
  refine ⟨⟨a, ?_, ?_, fun k hk2 => ?_, fun k hk2 => ?_⟩, hM.2⟩
  · show hots (prune (layCold s1 key)) = H
    rw [e, hh1, cut_same hH]
  · show H.length = most (prune (layCold s1 key))
    rw [most_of c, most_of hc1]
    exact h.all
  · have h2 : k ∈ lay s1.b1 key := hk2
    rw [htk, List.mem_append, List.mem_singleton]
    rcases mem_lay.1 h2 with h3 | h3
    · exact .inl (hq1 k h3)
    · exact .inr h3
  · rw [htk, List.mem_append]
    exact .inl (hg1 k (d k hk2))
/-- the first ones become hot -/
theorem hot_next {s : St κ} {l : List κ} {key : κ} {c : Nat} (hs : s = ⟨l, [], [], c⟩) (hk : key ∉ l) (hl : l.length < c - max 1 (c / 10)) : access s key = (false, [], ⟨l ++ [key], [], [], c⟩) := by
  subst hs
  have hh : hots (⟨l, [], [], c⟩ : St κ) = l := by
    unfold hots
    rw [List.filter_eq_self]
    intro x _
    simp [isHot]
  have hks : keys (⟨l, [], [], c⟩ : St κ) = l := by unfold keys; rw [hh]; rfl
  unfold access
  rw [hks, if_neg hk, rec_room (by rw [hks]; simp only; omega)]
  have e1 : heat (⟨l, [], [], c⟩ : St κ) key = ⟨l ++ [key], [], [], c⟩ := by
    unfold heat lay
    simp only [cut_same hk]
    rfl
  have hh2 : hots (⟨l ++ [key], [], [], c⟩ : St κ) = l ++ [key] := by
    unfold hots
    rw [List.filter_eq_self]
    intro x _
    simp [isHot]
  have e2 : admit (⟨l, [], [], c⟩ : St κ) key = ⟨l ++ [key], [], [], c⟩ := by
    unfold admit
    rw [if_pos (.inl (by rw [hh]; exact hl)), e1, cool_room (by rw [hh2]; unfold most; simp; omega)]
    exact prune_stop (fun k r _ => by simp [isHot])
  simp only [e2]

/-! ### who is told -/
theorem tell_room {l : List κ} {key : κ} {s s' : St κ} (hi : ∀ k, cnt k l = cnt k (keys s)) (h : ∀ k, cnt k (keys s') = cnt k (keys s) + one key k) : ∀ k, cnt k (l ++ [key]) = cnt k (keys s') := fun k => by
  rw [cnt_snoc, hi, h]
theorem tell_full {l : List κ} {key g : κ} {s s' : St κ} (ho : Ok s) (hi : ∀ k, cnt k l = cnt k (keys s)) (hg : 0 < cnt g (keys s)) (h : ∀ k, cnt k (keys s') + one g k = cnt k (keys s) + one key k) : ∀ k, cnt k (cut l g ++ [key]) = cnt k (keys s') := fun k => by
  have := cnt_cut_one (k := k) (j := g) (l := l) (by rw [hi]; exact ho.toBase.once g) (by rw [hi]; exact hg)
  have := h k
  have := hi k
  rw [cnt_snoc]
  omega
end
theorem only {κ : Type} {l : List κ} {k : κ} (h : l.length = 1) (hk : k ∈ l) : l = [k] := by
  match l, h with
  | [x], _ => simp at hk; rw [hk]
end Go.Proofs.Ytcbaalodhgkgmaa.A
