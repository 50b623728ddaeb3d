/- The document's machine says what the program's engine is: S with what each key is, and Q. -/
import Derived.Test.YtcbaalodhgkgmaaRfi
namespace Go.Proofs.Ytcbaalodhgkgmaa
open Go.RowKit

namespace A
section
variable {κ : Type} [DecidableEq κ]
/-- what a key of S is -/
def sig (q g : List κ) (k : κ) : Nat := if k ∈ g then 103 else if k ∈ q then 99 else 104
theorem sig_ghost {q g : List κ} {k : κ} (h : k ∈ g) : sig q g k = 103 := if_pos h
theorem sig_cold {q g : List κ} {k : κ} (h : k ∉ g) (h2 : k ∈ q) : sig q g k = 99 := by unfold sig; rw [if_neg h, if_pos h2]
theorem sig_hot {q g : List κ} {k : κ} (h : k ∉ g) (h2 : k ∉ q) : sig q g k = 104 := by unfold sig; rw [if_neg h, if_neg h2]
theorem sig_is (q g : List κ) (k : κ) : sig q g k = 103 ∨ sig q g k = 99 ∨ sig q g k = 104 := by
  unfold sig
  split
  · exact .inl rfl
  · split
    · exact .inr (.inl rfl)
    · exact .inr (.inr rfl)
theorem sig_104 {q g : List κ} {k : κ} : sig q g k = 104 ↔ isHot q g k = true := by
  rw [isHot_iff]
  unfold sig
  split
  · rename_i h; simp [h]
  · rename_i h
    split
    · rename_i h2; simp [h2]
    · rename_i h2; simp [h, h2]
theorem sig_103 {q g : List κ} {k : κ} : sig q g k = 103 ↔ k ∈ g := by
  unfold sig
  split
  · rename_i h; simp [h]
  · rename_i h
    split <;> simp [h]
theorem sig_99 {q g : List κ} {k : κ} (h : sig q g k = 99) : k ∈ q := by
  unfold sig at h
  split at h
  · cases h
  · split at h
    · assumption
    · cases h
theorem sig_congr {q g q' g' : List κ} {k : κ} (hq : k ∈ q ↔ k ∈ q') (hg : k ∈ g ↔ k ∈ g') : sig q g k = sig q' g' k := by
  unfold sig
  by_cases h : k ∈ g
  · rw [if_pos h, if_pos (hg.1 h)]
  · rw [if_neg h, if_neg (fun e => h (hg.2 e))]
    by_cases h2 : k ∈ q
    · rw [if_pos h2, if_pos (hq.1 h2)]
    · rw [if_neg h2, if_neg (fun e => h2 (hq.2 e))]
/-- the ghosts, a key that stood in S with them -/
def more (t g : List κ) (k : κ) : List κ := if k ∈ t then g ++ [k] else g
theorem more_in {t g : List κ} {k : κ} (h : k ∈ t) : more t g k = g ++ [k] := if_pos h
theorem more_out {t g : List κ} {k : κ} (h : k ∉ t) : more t g k = g := if_neg h
theorem out_more (s : St κ) (k : κ) (r : List κ) : out s k r = ⟨s.t1, r, more s.t1 s.t2 k, s.c⟩ := rfl
theorem ghosts_first {s : St κ} (h : Base s) {x : κ} {g : List κ} (hg : s.t2 = x :: g) : ∃ a b, s.t1 = a ++ x :: b ∧ ∀ y, y ∈ a → y ∉ s.t2 := by
  obtain ⟨l, h1, _⟩ := h.ord
  rw [hg, List.cons_append] at h1
  obtain ⟨a, b, h2, h3, h4⟩ : ∃ a b, s.t1 = a ++ x :: b ∧ (∀ y, y ∈ a → (!isHot s.b1 s.t2 y) = false) ∧ (!isHot s.b1 s.t2 x) = true := by
    have hc := List.filter_eq_cons_iff.1 h1
    rw [← hg] at hc
    obtain ⟨a, b, e1, e2, e3, _⟩ := hc
    exact ⟨a, b, e1, fun y hy => by simpa using e2 y hy, e3⟩
  refine ⟨a, b, h2, fun y hy hy2 => ?_⟩
  have := h3 y hy
  have h5 : isHot s.b1 s.t2 y = true := by simpa using this
  exact (isHot_iff.1 h5).2 hy2
theorem ghosts_count {s : St κ} (h : Base s) : s.t1.countP (fun k => decide (k ∈ s.t2)) = s.t2.length := by
  obtain ⟨l, h1, h2⟩ := h.ord
  have e1 : s.t1.countP (fun k => decide (k ∈ s.t2)) = (s.t1.filter (fun k => !isHot s.b1 s.t2 k)).countP (fun k => decide (k ∈ s.t2)) := by
    rw [List.countP_filter]
    refine List.countP_congr (fun x _ => ?_)
    by_cases hx : x ∈ s.t2
    · have : isHot s.b1 s.t2 x = false := isHot_not.2 (.inr hx)
      simp [hx, this]
    · simp [hx]
  rw [e1, h1, List.countP_append]
  have a1 : s.t2.countP (fun k => decide (k ∈ s.t2)) = s.t2.length := by
    rw [List.countP_eq_length]
    intro x hx
    simpa using hx
  have a2 : l.countP (fun k => decide (k ∈ s.t2)) = 0 := by
    rw [List.countP_eq_zero]
    intro x hx hx2
    exact h.dis x (by simpa using hx2) (h2.mem hx)
  omega
/-- ready, S pruned once more: it makes no odds -/
theorem goes_pruned {s : St κ} (h : Ok s) {k : κ} {r : List κ} (hb : s.b1 = []) (ht : s.t1 = k :: r) : prune (forget (out (prune (demote s)) k [])) = prune (forget (out (demote s) k [])) := by
  obtain ⟨e, h1, h2, h3⟩ := demote_is h.toBase ht (h.bot k r ht)
  have hkr : k ∉ r := by
    have := h.ot k
    rw [ht, cnt_cons, one_self] at this
    exact cnt_zero.1 (by omega)
  have hpl := prune_lt h1
  have hgho : (demote s).t2.length ≤ s.c := by rw [e]; exact h.gho
  have hpr : ∀ (t g : List κ), k ∉ t → pr [k] t g = pr [] t g := by
    intro t
    induction t with
    | nil => intro g _; rfl
    | cons y t ih =>
      intro g hy
      have hne : y ≠ k := fun e => hy (by simp [e])
      have e1 : isHot [k] g y = isHot [] g y := by simp [isHot, hne]
      unfold pr
      rw [e1]
      split
      · rfl
      · exact ih _ (fun hm => hy (List.mem_cons_of_mem _ hm))
  have e2 : demote s = ⟨r, [k], s.t2, s.c⟩ := by rw [e, hb]; rfl
  have hsub : ∀ y, y ∈ (prune (demote s)).t1 → y ∈ r := by
    have : ∀ (q t g : List κ), ∀ y, y ∈ (pr q t g).1 → y ∈ t := by
      intro q t
      induction t with
      | nil => intro g y hy; exact hy
      | cons z t ih =>
        intro g y hy
        unfold pr at hy
        split at hy
        · exact hy
        · exact List.mem_cons_of_mem _ (ih _ _ hy)
    intro y hy
    rw [e2] at hy
    exact this _ _ _ y hy
  have a1 : out (demote s) k [] = ⟨r, [], s.t2, s.c⟩ := by rw [out_more, e2]; simp only [more_out hkr]
  have a2 : out (prune (demote s)) k [] = prune ⟨r, [], s.t2, s.c⟩ := by
    rw [out_more, more_out (fun hm => hkr (hsub k hm)), e2]
    unfold prune
    simp only [hpr r s.t2 hkr]
  have hb0 : Base (⟨r, [], s.t2, s.c⟩ : St κ) := by
    rw [← a1]
    exact (out_is h1 (k := k) (r := []) (by rw [e2])).1
  rw [a1, a2]
  have f1 : forget (⟨r, [], s.t2, s.c⟩ : St κ) = ⟨r, [], s.t2, s.c⟩ := forget_stop h.gho
  obtain ⟨p1, p2⟩ := prune_lt hb0
  have f2 : forget (prune (⟨r, [], s.t2, s.c⟩ : St κ)) = prune ⟨r, [], s.t2, s.c⟩ := forget_stop (Nat.le_trans p1.gl h.gho)
  rw [f1, f2]
  exact prune_stop p2
end
end A

/-- S's keys, each with what it is -/
def cels (t q g : List ByteArray) : List C.It := t.map (fun k => ⟨k, A.sig q g k⟩)
/-- the document's machine of an engine -/
def cel (s : Stt) : Rs := ⟨cels s.t1 s.b1 s.t2, s.b1, s.c⟩
theorem cels_len (t q g : List ByteArray) : (cels t q g).length = t.length := by simp [cels]
theorem cels_congr {t q g q' g' : List ByteArray} (h : ∀ x, x ∈ t → A.sig q g x = A.sig q' g' x) : cels t q g = cels t q' g' := by
  unfold cels
  exact List.map_congr_left (fun x hx => by rw [h x hx])
theorem cels_out (t q g : List ByteArray) (k : ByteArray) : C.out (cels t q g) k = cels (A.cut t k) q g := by
  unfold C.out cels A.cut
  rw [List.filter_map]
  rfl
theorem cels_cut {t q g q' g' : List ByteArray} {k : ByteArray} (h : ∀ x, x ≠ k → A.sig q g x = A.sig q' g' x) : cels (A.cut t k) q g = cels (A.cut t k) q' g' := cels_congr (fun x hx => h x (A.mem_cut.1 hx).2)
theorem sig_cut {q g : List ByteArray} {k x : ByteArray} (h : x ≠ k) : A.sig q g x = A.sig (A.cut q k) (A.cut g k) x := A.sig_congr (by rw [A.mem_cut]; simp [h]) (by rw [A.mem_cut]; simp [h])
theorem sig_lay {q g : List ByteArray} {k x : ByteArray} (h : x ≠ k) : A.sig q g x = A.sig (A.lay q k) (A.cut g k) x := A.sig_congr (by rw [A.mem_lay]; simp [h]) (by rw [A.mem_cut]; simp [h])
theorem cels_hot (t q g : List ByteArray) (k : ByteArray) : C.top (cels t q g) k 104 = cels (A.lay t k) (A.cut q k) (A.cut g k) := by
  unfold C.top A.lay
  rw [cels_out, cels_cut (fun x h => sig_cut h)]
  have : A.sig (A.cut q k) (A.cut g k) k = 104 := A.sig_hot (fun h => (A.mem_cut.1 h).2 rfl) (fun h => (A.mem_cut.1 h).2 rfl)
  simp [cels, this]
theorem cels_cold (t q g : List ByteArray) (k : ByteArray) : C.top (cels t q g) k 99 = cels (A.lay t k) (A.lay q k) (A.cut g k) := by
  unfold C.top
  rw [cels_out, cels_cut (fun x h => sig_lay h)]
  have : A.sig (A.lay q k) (A.cut g k) k = 99 := A.sig_cold (fun h => (A.mem_cut.1 h).2 rfl) (A.mem_lay.2 (.inr rfl))
  unfold cels A.lay at *
  simp [this]
theorem cels_pr {t q g : List ByteArray} (ho : ∀ k, A.cnt k t ≤ 1) : C.pr (cels t q g) = cels (A.pr q t g).1 q (A.pr q t g).2 := by
  induction t generalizing g with
  | nil => rfl
  | cons k r ih =>
    have hkr : A.cut r k = r := A.cut_tail ho
    have hor : ∀ j, A.cnt j r ≤ 1 := fun j => by have := ho j; rw [A.cnt_cons] at this; omega
    show C.pr (⟨k, A.sig q g k⟩ :: cels r q g) = _
    unfold A.pr
    cases hn : A.isHot q g k with
    | true =>
      rw [C.pr_stop (A.sig_104.2 hn)]
      rfl
    | false =>
      rw [C.pr_step (z := ⟨k, A.sig q g k⟩) (fun e => by have := A.sig_104.1 e; rw [hn] at this; cases this)]
      simp only [Bool.false_eq_true, if_false]
      rw [← ih hor, ← hkr, cels_cut (q' := q) (g' := A.cut g k) (fun x h => A.sig_congr Iff.rfl (by rw [A.mem_cut]; simp [h]))]
theorem cel_prune {s : Stt} (h : ∀ k, A.cnt k s.t1 ≤ 1) : cel (A.prune s) = { cel s with s := C.pr (cel s).s } := by
  show (⟨cels (A.pr s.b1 s.t1 s.t2).1 s.b1 (A.pr s.b1 s.t1 s.t2).2, s.b1, s.c⟩ : Rs) = ⟨C.pr (cels s.t1 s.b1 s.t2), s.b1, s.c⟩
  rw [cels_pr h]
theorem cels_cnt (t q g : List ByteArray) : C.cnt 104 (cels t q g) = (t.filter (A.isHot q g)).length := by
  unfold C.cnt cels
  rw [List.countP_map, ← List.countP_eq_length_filter]
  refine List.countP_congr (fun x _ => ?_)
  simp [A.sig_104]
theorem cel_hots (s : Stt) : C.cnt 104 (cel s).s = (A.hots s).length := cels_cnt _ _ _
theorem cel_len (s : Stt) : lenR (cel s) = (A.keys s).length := by
  unfold lenR
  rw [cel_hots, A.keys_length]
  rfl
theorem cel_most (s : Stt) : mostR (cel s) = A.most s := rfl
theorem cels_find_in {t q g : List ByteArray} {k : ByteArray} (h : k ∈ t) : C.isOf (cels t q g) k = A.sig q g k := by
  induction t with
  | nil => cases h
  | cons y t ih =>
    by_cases e : y = k
    · subst e; simp [C.isOf, cels]
    · have h2 : k ∈ t := by
        rcases List.mem_cons.1 h with h | h
        · exact absurd h.symm e
        · exact h
      have := ih h2
      unfold C.isOf cels at this ⊢
      rw [List.map_cons, List.find?_cons_of_neg (by simpa using e)]
      exact this
theorem cels_find_out {t q g : List ByteArray} {k : ByteArray} (h : k ∉ t) : C.isOf (cels t q g) k = 0 := by
  have : (cels t q g).find? (fun z => decide (z.key = k)) = none := by
    rw [List.find?_eq_none]
    intro z hz
    unfold cels at hz
    obtain ⟨y, hy, rfl⟩ := List.mem_map.1 hz
    simp
    rintro rfl
    exact h hy
  unfold C.isOf
  rw [this]
theorem cel_is_hot {s : Stt} {k : ByteArray} : C.isOf (cel s).s k = 104 ↔ k ∈ A.hots s := by
  show C.isOf (cels s.t1 s.b1 s.t2) k = 104 ↔ _
  by_cases h : k ∈ s.t1
  · rw [cels_find_in h, A.sig_104, A.isHot_iff, A.mem_hots]
    exact ⟨fun e => ⟨h, e.1, e.2⟩, fun e => e.2⟩
  · rw [cels_find_out h, A.mem_hots]
    exact ⟨fun e => (by cases e), fun e => absurd e.1 h⟩
theorem cel_is_ghost {s : Stt} (hb : A.Base s) {k : ByteArray} : C.isOf (cel s).s k = 103 ↔ k ∈ s.t2 := by
  show C.isOf (cels s.t1 s.b1 s.t2) k = 103 ↔ _
  by_cases h : k ∈ s.t1
  · rw [cels_find_in h, A.sig_103]
  · rw [cels_find_out h]
    exact ⟨fun e => (by cases e), fun e => absurd (hb.sub k e) h⟩
theorem cel_has {s : Stt} {k : ByteArray} : hasR (cel s) k = true ↔ k ∈ A.keys s := by
  unfold hasR
  rw [A.mem_keys, Bool.or_eq_true, decide_eq_true_eq, cel_is_hot, inn_iff]
  exact ⟨fun h => h.symm, fun h => h.symm⟩
theorem cel_hasnt {s : Stt} {k : ByteArray} (h : k ∉ A.keys s) : hasR (cel s) k = false := by
  cases hv : hasR (cel s) k with
  | false => rfl
  | true => exact absurd (cel_has.1 hv) h
theorem cel_heat (s : Stt) (k : ByteArray) : cel (A.heat s k) = hotR (cel s) k := by
  show (⟨cels (A.lay s.t1 k) (A.cut s.b1 k) (A.cut s.t2 k), A.cut s.b1 k, s.c⟩ : Rs) = ⟨C.top (cels s.t1 s.b1 s.t2) k 104, A.cut s.b1 k, s.c⟩
  rw [cels_hot]
theorem cel_layCold (s : Stt) (k : ByteArray) : cel (A.layCold s k) = { cel s with s := C.top (cel s).s k 99, q := A.cut s.b1 k ++ [k] } := by
  show (⟨cels (A.lay s.t1 k) (A.lay s.b1 k) (A.cut s.t2 k), A.lay s.b1 k, s.c⟩ : Rs) = ⟨C.top (cels s.t1 s.b1 s.t2) k 99, A.cut s.b1 k ++ [k], s.c⟩
  rw [cels_cold]
  rfl
/-- where the bottom is hot: it becomes cold -/
theorem cel_cools {s : Stt} (hb : A.Base s) {k : ByteArray} {r : List ByteArray} (ht : s.t1 = k :: r) (hk : A.isHot s.b1 s.t2 k = true) : coolsR (cel s) = cel (A.prune (A.demote s)) := by
  obtain ⟨e, h1, _, _⟩ := A.demote_is hb ht hk
  have ho := hb.ot
  rw [ht] at ho
  have hkr := A.cut_tail ho
  have hc : (cel s).s = ⟨k, A.sig s.b1 s.t2 k⟩ :: cels r s.b1 s.t2 := by show cels s.t1 s.b1 s.t2 = _; rw [ht]; rfl
  have hf : C.fst 104 (cel s).s = some ⟨k, A.sig s.b1 s.t2 k⟩ := by
    rw [hc]
    unfold C.fst
    rw [List.find?_cons_of_pos]
    simpa using A.sig_104.2 hk
  unfold coolsR
  rw [hf, cel_prune h1.ot, e]
  show (⟨C.pr (C.out (cels s.t1 s.b1 s.t2) k), s.b1 ++ [k], s.c⟩ : Rs) = ⟨C.pr (cels r (s.b1 ++ [k]) s.t2), s.b1 ++ [k], s.c⟩
  rw [cels_out, ht, A.cut_head ho, ← hkr, cels_cut (q' := s.b1 ++ [k]) (g' := s.t2) (fun x h => A.sig_congr (by simp [h]) Iff.rfl)]
theorem gh_cons (z : C.It) (l : List C.It) (k : ByteArray) : C.gh (z :: l) k = if z.key = k then ⟨k, 103⟩ :: l else z :: C.gh l k := by
  unfold C.gh
  rw [List.findIdx?_cons]
  by_cases h : z.key = k
  · simp [h]
  · simp only [h, decide_false, Bool.false_eq_true, if_false]
    cases l.findIdx? (fun z => decide (z.key = k)) with
    | none => rfl
    | some i => rfl
theorem cels_gh {t q g : List ByteArray} {k : ByteArray} {r : List ByteArray} (ho : ∀ j, A.cnt j t ≤ 1) (hq : q = k :: r) (hoq : ∀ j, A.cnt j q ≤ 1) : C.gh (cels t q g) k = cels t r (A.more t g k) := by
  have hkr : k ∉ r := by
    have := hoq k
    rw [hq, A.cnt_cons, A.one_self] at this
    exact A.cnt_zero.1 (by omega)
  have key : ∀ (t G : List ByteArray), (∀ j, A.cnt j t ≤ 1) → (∀ x, x ∈ t → x ≠ k → (x ∈ G ↔ x ∈ g)) → (k ∈ t → k ∈ G) → C.gh (cels t q g) k = cels t r G := by
    intro t
    induction t with
    | nil => intro G _ _ _; rfl
    | cons y t ih =>
      intro G hot hG hk
      have hot2 : ∀ j, A.cnt j t ≤ 1 := fun j => by have := hot j; rw [A.cnt_cons] at this; omega
      have hG2 : ∀ x, x ≠ k → x ∈ y :: t → A.sig q g x = A.sig r G x := fun x hx hm => A.sig_congr (by rw [hq]; simp [hx]) (hG x hm hx).symm
      show C.gh (⟨y, A.sig q g y⟩ :: cels t q g) k = ⟨y, A.sig r G y⟩ :: cels t r G
      rw [gh_cons]
      by_cases e : y = k
      · rw [if_pos e]
        have hyt : k ∉ t := by
          have := hot k
          rw [A.cnt_cons, e, A.one_self] at this
          exact A.cnt_zero.1 (by omega)
        have e1 : A.sig r G y = 103 := by rw [e]; exact A.sig_ghost (hk (by simp [e]))
        rw [e1, e]
        rw [cels_congr (q' := r) (g' := G) (fun x hx => hG2 x (fun e2 => hyt (e2 ▸ hx)) (List.mem_cons_of_mem _ hx))]
      · rw [if_neg e, hG2 y e (by simp), ih G hot2 (fun x hx => hG x (List.mem_cons_of_mem _ hx)) (fun h => hk (List.mem_cons_of_mem _ h))]
  refine key t _ ho (fun x hx hne => ?_) (fun h => ?_)
  · by_cases hm : k ∈ t
    · rw [A.more_in hm]; simp [hne]
    · rw [A.more_out hm]
  · rw [A.more_in h]; simp
theorem cels_ghosts {s : Stt} (h : A.Base s) : C.cnt 103 (cel s).s = s.t2.length := by
  rw [← A.ghosts_count h]
  show C.cnt 103 (cels s.t1 s.b1 s.t2) = _
  unfold C.cnt cels
  rw [List.countP_map]
  refine List.countP_congr (fun x _ => ?_)
  simp [A.sig_103]
theorem cel_forget {s : Stt} (h : A.Base s) {l : List C.It} (hf : C.Forgot s.c (cel s).s l) : l = (cel (A.forget s)).s := by
  obtain ⟨t, q, g, c⟩ := s
  induction g generalizing t with
  | nil =>
    have hz := cels_ghosts h
    cases hf with
    | done _ => rfl
    | step h1 _ _ => rw [hz] at h1; simp at h1
  | cons x g ih =>
    have hz := cels_ghosts h
    cases hf with
    | done h1 =>
      rw [hz] at h1
      rw [A.forget_stop h1]
    | step h1 h2 h3 =>
      rw [hz] at h1
      rename_i z
      obtain ⟨a, b, e1, e2⟩ := A.ghosts_first h (x := x) (g := g) rfl
      have hzx : z = ⟨x, 103⟩ := by
        have : C.fst 103 (cel ⟨t, q, x :: g, c⟩).s = some ⟨x, 103⟩ := by
          show C.fst 103 (cels t q (x :: g)) = _
          simp only at e1 e2
          rw [e1]
          unfold C.fst cels
          rw [List.map_append, List.find?_append]
          have hn : (a.map (fun k => (⟨k, A.sig q (x :: g) k⟩ : C.It))).find? (fun z => decide (z.n = 103)) = none := by
            rw [List.find?_eq_none]
            intro z hz
            obtain ⟨y, hy, rfl⟩ := List.mem_map.1 hz
            simp only [decide_eq_true_eq]
            rw [A.sig_103]
            exact e2 y hy
          rw [hn, List.map_cons, List.find?_cons_of_pos]
          · rw [A.sig_ghost (by simp)]; rfl
          · simp [A.sig_ghost]
        rw [this] at h2
        exact (Option.some.inj h2).symm
      subst hzx
      have hl := A.drop_ghost h (x := x) (g := g) rfl
      rw [← A.forget_step (s := ⟨t, q, x :: g, c⟩) rfl h1]
      refine ih _ hl.base ?_
      have e3 : C.out (cel ⟨t, q, x :: g, c⟩).s x = (cel ⟨A.cut t x, q, g, c⟩).s := by
        show C.out (cels t q (x :: g)) x = cels (A.cut t x) q g
        rw [cels_out]
        exact cels_cut (fun y hy => A.sig_congr Iff.rfl (by simp [hy]))
      rw [← e3]
      exact h3
end Go.Proofs.Ytcbaalodhgkgmaa
