/- A ring of handles, both ways; who is there, who is free: what tie, untie and give make of it. Numbers and lists alone. -/
import Derived.Test.YtdiggfiapbifpaaLm
namespace Go.Proofs.Ytdiggfiapbifpaa.Ls

def St.tie {α : Type} (s : St α) (h a b : Nat) : St α := { s with pv := upd (upd s.pv h a) b h, nx := upd (upd s.nx h b) a h }
def St.untie {α : Type} (s : St α) (h : Nat) : St α := { s with nx := upd s.nx (s.pv h) (s.nx h), pv := upd s.pv (s.nx h) (s.pv h) }
def St.hand {α : Type} (s : St α) : Nat := if s.free = 0 then s.n + 1 else s.free
def St.give {α : Type} (s : St α) (v : α) : St α :=
  { pv := upd s.pv s.hand 0, nx := upd s.nx s.hand 0, th := upd s.th s.hand true, va := upd s.va s.hand v, free := if s.free = 0 then 0 else s.nx s.free, n := if s.free = 0 then s.n + 1 else s.n, count := s.count + 1 }
def St.drop {α : Type} (s : St α) (h : Nat) (z : α) : St α :=
  { s with pv := upd s.pv h 0, nx := upd s.nx h s.free, th := upd s.th h false, va := upd s.va h z, free := h, count := s.count - 1 }

theorem nodup_middle {l r : List Nat} {h : Nat} : (l ++ h :: r).Nodup ↔ (h :: (l ++ r)).Nodup := List.perm_middle.nodup_iff
/-- each behind the other, both ways -/
def Linked (pv nx : Nat → Nat) : List Nat → Prop
  | [] => True
  | a :: r => (match r with | [] => True | b :: _ => nx a = b ∧ pv b = a) ∧ Linked pv nx r
theorem linked_cons {pv nx : Nat → Nat} {a b : Nat} {r : List Nat} : Linked pv nx (a :: b :: r) ↔ nx a = b ∧ pv b = a ∧ Linked pv nx (b :: r) := by
  rw [Linked]; exact and_assoc
theorem linked_append {pv nx : Nat → Nat} {a : Nat} {ys : List Nat} : ∀ {xs : List Nat}, Linked pv nx (xs ++ a :: ys) ↔ Linked pv nx (xs ++ [a]) ∧ Linked pv nx (a :: ys)
  | [] => by simp [Linked]
  | [x] => by simp only [List.cons_append, List.nil_append, linked_cons]; simp [Linked, and_assoc]
  | x :: y :: r => by
    have := linked_append (pv := pv) (nx := nx) (a := a) (ys := ys) (xs := y :: r)
    simp only [List.cons_append, linked_cons] at this ⊢
    rw [this]
    simp only [and_assoc]
theorem linked_congr {pv nx pv' nx' : Nat → Nat} : ∀ {xs : List Nat}, (∀ x ∈ xs.dropLast, nx' x = nx x) → (∀ y ∈ xs.tail, pv' y = pv y) → Linked pv nx xs → Linked pv' nx' xs
  | [], _, _, _ => trivial
  | [x], _, _, _ => by simp [Linked]
  | x :: y :: r, h1, h2, h => by
    rw [linked_cons] at h ⊢
    refine ⟨(h1 x (by simp)).trans h.1, (h2 y (by simp)).trans h.2.1, linked_congr (xs := y :: r) (fun z hz => h1 z ?_) (fun z hz => h2 z ?_) h.2.2⟩
    · simp only [List.dropLast_cons_cons, List.mem_cons] at hz ⊢
      exact .inr hz
    · simp only [List.tail_cons] at hz ⊢
      exact List.mem_cons_of_mem _ hz
/-- who stands ahead of a place in the ring, and who behind -/
theorem ring_ahead (l : List Nat) : ∃ L a, 0 :: l = L ++ [a] := ⟨(0 :: l).dropLast, (0 :: l).getLast (by simp), (List.dropLast_concat_getLast (by simp)).symm⟩
theorem ring_behind (r : List Nat) : ∃ b R, r ++ [0] = b :: R := by
  cases r with
  | nil => exact ⟨0, [], rfl⟩
  | cons b r => exact ⟨b, r ++ [0], rfl⟩
theorem linked_insert {pv nx : Nat → Nat} {l r : List Nat} {h a b : Nat} {L R : List Nat} (hnd : (0 :: (l ++ r)).Nodup) (h0 : h ≠ 0) (hh : h ∉ l ++ r) (ha : 0 :: l = L ++ [a]) (hb : r ++ [0] = b :: R)
    (H : Linked pv nx (0 :: (l ++ r ++ [0]))) : Linked (upd (upd pv h a) b h) (upd (upd nx h b) a h) (0 :: (l ++ h :: r ++ [0])) := by
  have e1 : 0 :: (l ++ r ++ [0]) = L ++ a :: b :: R := by
    have : 0 :: (l ++ r ++ [0]) = (0 :: l) ++ (r ++ [0]) := by simp
    rw [this, ha, hb]; simp
  have e2 : 0 :: (l ++ h :: r ++ [0]) = L ++ a :: h :: b :: R := by
    have : 0 :: (l ++ h :: r ++ [0]) = (0 :: l) ++ (h :: (r ++ [0])) := by simp
    rw [this, ha, hb]; simp
  rw [e1, linked_append, linked_cons] at H
  obtain ⟨HL, -, -, HR⟩ := H
  -- who is where
  have hnd1 : (0 :: l).Nodup := by
    refine hnd.sublist ?_
    exact (List.sublist_append_left l r).cons_cons 0
  have hl0 : 0 ∉ l := by simp at hnd1; exact hnd1.1
  have hr0 : 0 ∉ r := by simp at hnd; exact fun e => hnd.1.2 e
  have hdis : ∀ x, x ∈ l → x ∈ r → False := by
    intro x h1 h2
    simp only [List.nodup_cons, List.nodup_append] at hnd
    exact hnd.2.2.2 x h1 x h2 rfl
  have haL : a ∉ L := by
    rw [ha, List.nodup_append] at hnd1
    intro e
    exact hnd1.2.2 a e a (by simp) rfl
  have ha' : a = 0 ∨ a ∈ l := by have : a ∈ 0 :: l := by rw [ha]; simp
                                 simpa using this
  have hLs : ∀ x ∈ L, x = 0 ∨ x ∈ l := by
    intro x hx
    have : x ∈ 0 :: l := by rw [ha]; simp [hx]
    simpa using this
  have hb' : b = 0 ∨ b ∈ r := by
    have : b ∈ r ++ [0] := by rw [hb]; simp
    simpa [or_comm] using this
  have hndr : (r ++ [0]).Nodup := by
    rw [List.nodup_append]
    simp only [List.nodup_cons, List.nodup_append] at hnd
    refine ⟨hnd.2.2.1, by simp, ?_⟩
    intro x hx y hy e
    simp at hy
    exact hr0 (by rw [← hy, ← e]; exact hx)
  have hbR : b ∉ R := by rw [hb] at hndr; simp at hndr; exact hndr.1
  have hRs : ∀ x ∈ R, x = 0 ∨ x ∈ r := by
    intro x hx
    have : x ∈ r ++ [0] := by rw [hb]; simp [hx]
    simpa [or_comm] using this
  have hhl : h ∉ l := fun e => hh (by simp [e])
  have hhr : h ∉ r := fun e => hh (by simp [e])
  have hah : a ≠ h := by rintro rfl; rcases ha' with e | e <;> simp_all
  have hbh : b ≠ h := by rintro rfl; rcases hb' with e | e <;> simp_all
  rw [e2, linked_append, linked_cons, linked_cons]
  refine ⟨linked_congr ?_ ?_ HL, upd_same _ _ _, ?_, ?_, upd_same _ _ _, linked_congr ?_ ?_ HR⟩
  · intro x hx
    simp only [List.dropLast_concat] at hx
    rw [upd_far _ _ (by rintro rfl; exact haL hx), upd_far _ _ (by rintro rfl; rcases hLs _ hx with e | e <;> simp_all)]
  · intro y hy
    rw [← ha, List.tail_cons] at hy
    rw [upd_far _ _ (by rintro rfl; rcases hb' with e | e; · exact hl0 (e ▸ hy)
                        · exact hdis _ hy e), upd_far _ _ (by rintro rfl; exact hhl hy)]
  · rw [upd_far _ _ hbh.symm, upd_same]
  · rw [upd_far _ _ hah.symm, upd_same]
  · intro x hx
    rw [← hb, List.dropLast_concat] at hx
    rw [upd_far _ _ (by rintro rfl; rcases ha' with e | e; · exact hr0 (e ▸ hx)
                        · exact hdis _ e hx), upd_far _ _ (by rintro rfl; exact hhr hx)]
  · intro y hy
    rw [List.tail_cons] at hy
    rw [upd_far _ _ (by rintro rfl; exact hbR hy), upd_far _ _ (by rintro rfl; rcases hRs _ hy with e | e <;> simp_all)]
/-- who stands in the midst: whom it has beside it -/
theorem linked_beside {pv nx : Nat → Nat} {l r : List Nat} {h a b : Nat} {L R : List Nat} (ha : 0 :: l = L ++ [a]) (hb : r ++ [0] = b :: R) (H : Linked pv nx (0 :: (l ++ h :: r ++ [0]))) : pv h = a ∧ nx h = b := by
  have e2 : 0 :: (l ++ h :: r ++ [0]) = L ++ a :: h :: b :: R := by
    have : 0 :: (l ++ h :: r ++ [0]) = (0 :: l) ++ (h :: (r ++ [0])) := by simp
    rw [this, ha, hb]; simp
  rw [e2, linked_append, linked_cons, linked_cons] at H
  exact ⟨H.2.2.1, H.2.2.2.1⟩
theorem linked_remove {pv nx : Nat → Nat} {l r : List Nat} {h a b : Nat} {L R : List Nat} (hnd : (0 :: (l ++ h :: r)).Nodup) (ha : 0 :: l = L ++ [a]) (hb : r ++ [0] = b :: R)
    (H : Linked pv nx (0 :: (l ++ h :: r ++ [0]))) : Linked (upd pv b a) (upd nx a b) (0 :: (l ++ r ++ [0])) := by
  have e1 : 0 :: (l ++ r ++ [0]) = L ++ a :: b :: R := by
    have : 0 :: (l ++ r ++ [0]) = (0 :: l) ++ (r ++ [0]) := by simp
    rw [this, ha, hb]; simp
  have e2 : 0 :: (l ++ h :: r ++ [0]) = L ++ a :: h :: b :: R := by
    have : 0 :: (l ++ h :: r ++ [0]) = (0 :: l) ++ (h :: (r ++ [0])) := by simp
    rw [this, ha, hb]; simp
  rw [e2, linked_append, linked_cons, linked_cons] at H
  obtain ⟨HL, -, -, -, -, HR⟩ := H
  have hnd : (0 :: (l ++ r)).Nodup := hnd.sublist (((List.sublist_cons_self h r).append_left l).cons_cons 0)
  have hnd1 : (0 :: l).Nodup := hnd.sublist ((List.sublist_append_left l r).cons_cons 0)
  have hl0 : 0 ∉ l := by simp at hnd1; exact hnd1.1
  have hr0 : 0 ∉ r := by simp at hnd; exact fun e => hnd.1.2 e
  have hdis : ∀ x, x ∈ l → x ∈ r → False := by
    intro x h1 h2
    simp only [List.nodup_cons, List.nodup_append] at hnd
    exact hnd.2.2.2 x h1 x h2 rfl
  have haL : a ∉ L := by
    rw [ha, List.nodup_append] at hnd1
    intro e
    exact hnd1.2.2 a e a (by simp) rfl
  have ha' : a = 0 ∨ a ∈ l := by have : a ∈ 0 :: l := by rw [ha]; simp
                                 simpa using this
  have hb' : b = 0 ∨ b ∈ r := by
    have : b ∈ r ++ [0] := by rw [hb]; simp
    simpa [or_comm] using this
  have hndr : (r ++ [0]).Nodup := by
    rw [List.nodup_append]
    simp only [List.nodup_cons, List.nodup_append] at hnd
    refine ⟨hnd.2.2.1, by simp, ?_⟩
    intro x hx y hy e
    simp at hy
    exact hr0 (by rw [← hy, ← e]; exact hx)
  have hbR : b ∉ R := by rw [hb] at hndr; simp at hndr; exact hndr.1
  rw [e1, linked_append, linked_cons]
  refine ⟨linked_congr ?_ ?_ HL, upd_same _ _ _, upd_same _ _ _, linked_congr ?_ ?_ HR⟩
  · intro x hx
    simp only [List.dropLast_concat] at hx
    rw [upd_far _ _ (by rintro rfl; exact haL hx)]
  · intro y hy
    rw [← ha, List.tail_cons] at hy
    rw [upd_far _ _ (by rintro rfl; rcases hb' with e | e; · exact hl0 (e ▸ hy)
                        · exact hdis _ hy e)]
  · intro x hx
    rw [← hb, List.dropLast_concat] at hx
    rw [upd_far _ _ (by rintro rfl; rcases ha' with e | e; · exact hr0 (e ▸ hx)
                        · exact hdis _ e hx)]
  · intro y hy
    rw [List.tail_cons] at hy
    rw [upd_far _ _ (by rintro rfl; exact hbR hy)]

/-- the handles that were Removed, the last one first -/
def Free (nx : Nat → Nat) : Nat → List Nat → Prop
  | f, [] => f = 0
  | f, h :: r => f = h ∧ Free nx (nx h) r
theorem free_congr {nx nx' : Nat → Nat} : ∀ {fs : List Nat} {f : Nat}, (∀ x ∈ fs, nx' x = nx x) → Free nx f fs → Free nx' f fs
  | [], _, _, h => h
  | x :: r, _, h1, h => ⟨h.1, by rw [h1 x (by simp)]; exact free_congr (fun y hy => h1 y (by simp [hy])) h.2⟩
structure Rep {α : Type} (s : St α) (row free : List Nat) : Prop where
  nodup : (row ++ free).Nodup
  mem : ∀ h, h ∈ row ++ free ↔ 1 ≤ h ∧ h ≤ s.n
  links : Linked s.pv s.nx (0 :: (row ++ [0]))
  there : ∀ h ∈ row, s.th h = true
  gone : ∀ h ∈ free, s.th h = false
  chain : Free s.nx s.free free
  count : s.count = row.length
  len : row.length + free.length = s.n
section
variable {α : Type} {s : St α} {row free : List Nat}
theorem Rep.row0 (R : Rep s row free) : 0 ∉ row := fun e => by have := (R.mem 0).1 (by simp [e]); omega
theorem Rep.free0 (R : Rep s row free) : 0 ∉ free := fun e => by have := (R.mem 0).1 (by simp [e]); omega
theorem Rep.rowNd (R : Rep s row free) : (0 :: row).Nodup := by
  have := R.nodup
  rw [List.nodup_append] at this
  simp [R.row0, this.1]
theorem Rep.has_in (R : Rep s row free) {h : Nat} (hh : h ∈ row) : s.has h = true := by
  have := (R.mem h).1 (by simp [hh])
  simp [St.has, this.2, R.there h hh]
  omega
theorem Rep.has_out (R : Rep s row free) {h : Int} (hh : ∀ k ∈ row, h ≠ (k : Nat)) : s.has h = false := by
  by_cases h1 : 1 ≤ h
  · by_cases h2 : h ≤ s.n
    · have := (R.mem h.toNat).2 (by omega)
      rw [List.mem_append] at this
      rcases this with e | e
      · exact absurd (by omega) (hh _ e)
      · simp [St.has, R.gone _ e]
    · simp [St.has, h2]
  · simp [St.has, h1]
/-- an empty one -/
theorem Rep.empty (va : Nat → α) (th : Nat → Bool) : Rep (⟨fun _ => 0, fun _ => 0, th, va, 0, 0, 0⟩ : St α) [] [] :=
  ⟨by simp, by simp; omega, by simp [Linked], by simp, by simp, rfl, rfl, rfl⟩
theorem Rep.hand_eq (R : Rep s row free) : s.hand = free.headD (s.n + 1) ∧ s.free ≤ s.n := by
  cases free with
  | nil => have : s.free = 0 := R.chain; simp [St.hand, this]
  | cons f r =>
    have : s.free = f := R.chain.1
    have := (R.mem f).1 (by simp)
    constructor
    · simp only [St.hand, List.headD_cons]
      rw [if_neg (by omega)]
      assumption
    · omega
/-- a handle is given -/
theorem Rep.hand_new (R : Rep s row free) : s.hand ≠ 0 ∧ s.hand ∉ row ∧ s.hand ≤ (if s.free = 0 then s.n + 1 else s.n) ∧ s.hand ∉ free.tail := by
  cases free with
  | nil =>
    have : s.free = 0 := R.chain
    simp only [St.hand, this, if_true]
    refine ⟨by omega, fun e => ?_, by omega, by simp⟩
    have := (R.mem (s.n + 1)).1 (by simp [e])
    omega
  | cons f r =>
    have hf : s.free = f := R.chain.1
    have := (R.mem f).1 (by simp)
    have hnd := R.nodup
    rw [List.nodup_append] at hnd
    simp only [St.hand]
    rw [if_neg (by omega), if_neg (by omega), hf]
    refine ⟨by omega, fun e => hnd.2.2 f e f (by simp) rfl, by omega, ?_⟩
    have := hnd.2.1
    simp at this ⊢
    exact this.1
/-- who is given a handle stands between two that stand beside each other -/
theorem Rep.push {l r : List Nat} (R : Rep s (l ++ r) free) (v : α) {a b : Nat} {L Z : List Nat} (ha : 0 :: l = L ++ [a]) (hb : r ++ [0] = b :: Z) :
    Rep ((s.give v).tie s.hand a b) (l ++ s.hand :: r) free.tail := by
  obtain ⟨h0, hr, hle, hf⟩ := R.hand_new
  have hnd := R.nodup
  rw [List.nodup_append] at hnd
  have hft : free.tail.Nodup := hnd.2.1.sublist (List.tail_sublist _)
  have hdis : ∀ x, x ∈ l ++ r → x ∈ free.tail → False := fun x h1 h2 => hnd.2.2 x h1 x (List.mem_of_mem_tail h2) rfl
  have hmr : ∀ x, x ∈ l ++ s.hand :: r ↔ x = s.hand ∨ x ∈ l ++ r := by intro x; simp; grind
  have hrnd : (l ++ s.hand :: r).Nodup := by
    rw [nodup_middle]
    exact List.nodup_cons.2 ⟨hr, hnd.1⟩
  have ha' : a = 0 ∨ a ∈ l ++ r := by
    have : a ∈ 0 :: l := by rw [ha]; simp
    simp at this ⊢
    grind
  have hb' : b = 0 ∨ b ∈ l ++ r := by
    have : b ∈ r ++ [0] := by rw [hb]; simp
    simp at this ⊢
    grind
  have hlen : (l ++ s.hand :: r).length = (l ++ r).length + 1 := by simp; omega
  refine ⟨?_, ?_, ?_, ?_, ?_, ?_, ?_, ?_⟩
  · rw [List.nodup_append]
    refine ⟨hrnd, hft, ?_⟩
    intro x hx y hy e
    subst e
    rcases (hmr x).1 hx with e | e
    · exact hf (e ▸ hy)
    · exact hdis x e hy
  · intro x
    rw [List.mem_append, hmr]
    show _ ↔ 1 ≤ x ∧ x ≤ (if s.free = 0 then s.n + 1 else s.n)
    cases free with
    | nil =>
      have hz : s.free = 0 := R.chain
      have := R.mem x
      have e : s.hand = s.n + 1 := by simp [St.hand, hz]
      simp only [hz, if_true, e, List.tail_nil, List.append_nil] at this ⊢
      simp only [List.not_mem_nil, or_false, this]
      omega
    | cons f t =>
      have hz : s.free = f := R.chain.1
      have hfm := (R.mem f).1 (by simp)
      have := R.mem x
      have e : s.hand = f := by simp only [St.hand]; rw [if_neg (by omega), hz]
      rw [if_neg (by omega), e, ← this]
      simp only [List.mem_append, List.mem_cons, List.tail_cons]
      grind
  · have H0 : Linked (s.give v).pv (s.give v).nx (0 :: (l ++ r ++ [0])) := by
      refine linked_congr ?_ ?_ R.links
      · intro x hx
        refine upd_far _ _ ?_
        rintro rfl
        have : s.hand ∈ 0 :: (l ++ r) := by
          have e : (0 :: (l ++ r ++ [0])).dropLast = 0 :: (l ++ r) := by
            rw [show 0 :: (l ++ r ++ [0]) = (0 :: (l ++ r)) ++ [0] by simp, List.dropLast_concat]
          rw [e] at hx; exact hx
        rw [List.mem_cons] at this
        exact this.elim h0 hr
      · intro x hx
        refine upd_far _ _ ?_
        rintro rfl
        rw [List.tail_cons, List.mem_append] at hx
        rcases hx with e | e
        · exact hr e
        · simp at e; exact h0 e
    exact linked_insert R.rowNd h0 hr ha hb H0
  · intro x hx
    show upd s.th s.hand true x = true
    rcases (hmr x).1 hx with e | e
    · subst e; exact upd_same _ _ _
    · rw [upd_far _ _ (by rintro rfl; exact hr e)]
      exact R.there x e
  · intro x hx
    show upd s.th s.hand true x = false
    rw [upd_far _ _ (by rintro rfl; exact hf hx)]
    exact R.gone x (List.mem_of_mem_tail hx)
  · show Free (upd (upd (upd s.nx s.hand 0) s.hand b) a s.hand) (if s.free = 0 then 0 else s.nx s.free) free.tail
    have hfar : ∀ x ∈ free.tail, upd (upd (upd s.nx s.hand 0) s.hand b) a s.hand x = s.nx x := by
      intro x hx
      have hx0 : x ≠ 0 := by rintro rfl; exact R.free0 (List.mem_of_mem_tail hx)
      rw [upd_far _ _ (by rintro rfl; exact ha'.elim hx0 (fun e => hdis _ e hx)), upd_far _ _ (by rintro rfl; exact hf hx), upd_far _ _ (by rintro rfl; exact hf hx)]
    refine free_congr hfar ?_
    cases free with
    | nil => have hz : s.free = 0 := R.chain; simp [hz, Free]
    | cons f t =>
      have hz : s.free = f := R.chain.1
      have hfm := (R.mem f).1 (by simp)
      rw [if_neg (by omega), hz]
      exact R.chain.2
  · show s.count + 1 = _
    rw [hlen, R.count]
  · show _ = (if s.free = 0 then s.n + 1 else s.n)
    have hl := R.len
    cases free with
    | nil => have hz : s.free = 0 := R.chain; simp only [hz, if_true]; simp at hl ⊢; omega
    | cons f t =>
      have hz : s.free = f := R.chain.1
      have hfm := (R.mem f).1 (by simp)
      rw [if_neg (by omega), hlen]
      simp at hl ⊢
      omega
/-- one that is untied and tied again elsewhere: the row is another one, of the same -/
theorem Rep.beside {l r : List Nat} {h : Nat} (R : Rep s (l ++ h :: r) free) : s.pv h ≤ s.n ∧ s.nx h ≤ s.n ∧ h ≠ 0 ∧ h ≤ s.n := by
  obtain ⟨L, a, ha⟩ := ring_ahead l
  obtain ⟨b, Z, hb⟩ := ring_behind r
  obtain ⟨e1, e2⟩ := linked_beside ha hb (by simpa using R.links)
  have hm := R.mem
  have ha' : a = 0 ∨ a ∈ l := by
    have : a ∈ 0 :: l := by rw [ha]; simp
    simpa using this
  have hb' : b = 0 ∨ b ∈ r := by
    have : b ∈ r ++ [0] := by rw [hb]; simp
    simpa [or_comm] using this
  have h1 := (hm h).1 (by simp)
  refine ⟨?_, ?_, by omega, h1.2⟩
  · rw [e1]
    rcases ha' with e | e
    · omega
    · exact ((hm a).1 (by simp [e])).2
  · rw [e2]
    rcases hb' with e | e
    · omega
    · exact ((hm b).1 (by simp [e])).2
theorem Rep.untied {l r : List Nat} {h : Nat} (R : Rep s (l ++ h :: r) free) : Linked (s.untie h).pv (s.untie h).nx (0 :: (l ++ r ++ [0])) := by
  obtain ⟨L, a, ha⟩ := ring_ahead l
  obtain ⟨b, Z, hb⟩ := ring_behind r
  have H : Linked s.pv s.nx (0 :: (l ++ h :: r ++ [0])) := by simpa using R.links
  obtain ⟨e1, e2⟩ := linked_beside ha hb H
  have := linked_remove R.rowNd ha hb H
  show Linked (upd s.pv (s.nx h) (s.pv h)) (upd s.nx (s.pv h) (s.nx h)) _
  rw [e1, e2]
  exact this
theorem Rep.moved {l r l' r' : List Nat} {h : Nat} (R : Rep s (l ++ h :: r) free) (e : l ++ r = l' ++ r') {a b : Nat} {L Z : List Nat} (ha : 0 :: l' = L ++ [a]) (hb : r' ++ [0] = b :: Z) :
    Rep ((s.untie h).tie h a b) (l' ++ h :: r') free := by
  have hnd := R.nodup
  rw [List.nodup_append, nodup_middle, List.nodup_cons] at hnd
  obtain ⟨⟨hh, hlr⟩, hfr, hdis⟩ := hnd
  have hm := (R.mem h).1 (by simp)
  have hmr : ∀ x, x ∈ l' ++ h :: r' ↔ x ∈ l ++ h :: r := by
    intro x
    have : x ∈ l ++ r ↔ x ∈ l' ++ r' := by rw [e]
    simp at this ⊢
    grind
  have hnd2 : (l' ++ h :: r').Nodup := by
    rw [nodup_middle, List.nodup_cons, ← e]
    exact ⟨hh, hlr⟩
  have hbes : ∀ {x}, x = s.pv h ∨ x = s.nx h → x = 0 ∨ x ∈ l ++ r := by
    obtain ⟨L1, a1, ha1⟩ := ring_ahead l
    obtain ⟨b1, Z1, hb1⟩ := ring_behind r
    obtain ⟨e1, e2⟩ := linked_beside ha1 hb1 (by simpa using R.links)
    have ha' : a1 ∈ 0 :: l := by rw [ha1]; simp
    have hb' : b1 ∈ r ++ [0] := by rw [hb1]; simp
    simp at ha' hb' ⊢
    grind
  have hfar : ∀ x ∈ free, x ≠ 0 ∧ x ∉ l ++ h :: r := by
    intro x hx
    refine ⟨by rintro rfl; exact R.free0 hx, fun e => hdis x e x hx rfl⟩
  have ha' : a = 0 ∨ a ∈ l ++ r := by
    have : a ∈ 0 :: l' := by rw [ha]; simp
    rw [e]
    simp at this ⊢
    grind
  refine ⟨?_, ?_, ?_, ?_, R.gone, ?_, ?_, ?_⟩
  · rw [List.nodup_append]
    exact ⟨hnd2, hfr, fun x hx y hy => hdis x ((hmr x).1 hx) y hy⟩
  · intro x
    rw [List.mem_append, hmr, ← List.mem_append]
    exact R.mem x
  · have H0 := R.untied
    rw [e] at H0
    refine linked_insert ?_ (by omega) (by rw [← e]; exact hh) ha hb H0
    rw [← e]
    refine List.nodup_cons.2 ⟨fun x => R.row0 ?_, hlr⟩
    simp at x ⊢
    grind
  · intro x hx
    exact R.there x ((hmr x).1 hx)
  · show Free (upd (upd (upd s.nx (s.pv h) (s.nx h)) h b) a h) s.free free
    refine free_congr ?_ R.chain
    intro x hx
    obtain ⟨hx0, hxr⟩ := hfar x hx
    have hx1 : x ∉ l ++ r := fun e => hxr (by simp at e ⊢; grind)
    rw [upd_far _ _ (by rintro rfl; exact ha'.elim hx0 hx1), upd_far _ _ (by rintro rfl; exact hxr (by simp)), upd_far _ _ (by intro e2; exact (hbes (.inl e2)).elim hx0 hx1)]
  · show s.count = _
    rw [R.count]
    have : (l ++ r).length = (l' ++ r').length := by rw [e]
    simp at this ⊢
    omega
  · have h1 := R.len
    have : (l ++ r).length = (l' ++ r').length := by rw [e]
    show _ = s.n
    simp at this h1 ⊢
    omega
/-- one is taken away -/
theorem Rep.removed {l r : List Nat} {h : Nat} (R : Rep s (l ++ h :: r) free) (z : α) : Rep ((s.untie h).drop h z) (l ++ r) (h :: free) := by
  have hnd := R.nodup
  rw [List.nodup_append, nodup_middle, List.nodup_cons] at hnd
  obtain ⟨⟨hh, hlr⟩, hfr, hdis⟩ := hnd
  have hm := (R.mem h).1 (by simp)
  have hbes : ∀ {x}, x = s.pv h ∨ x = s.nx h → x = 0 ∨ x ∈ l ++ r := by
    obtain ⟨L1, a1, ha1⟩ := ring_ahead l
    obtain ⟨b1, Z1, hb1⟩ := ring_behind r
    obtain ⟨e1, e2⟩ := linked_beside ha1 hb1 (by simpa using R.links)
    have ha' : a1 ∈ 0 :: l := by rw [ha1]; simp
    have hb' : b1 ∈ r ++ [0] := by rw [hb1]; simp
    simp at ha' hb' ⊢
    grind
  have hsub : ∀ x ∈ l ++ r, x ∈ l ++ h :: r := by intro x hx; simp at hx ⊢; grind
  have hhf : h ∉ free := fun e => hdis h (by simp) h e rfl
  refine ⟨?_, ?_, ?_, ?_, ?_, ?_, ?_, ?_⟩
  · rw [List.nodup_append, List.nodup_cons]
    refine ⟨hlr, ⟨hhf, hfr⟩, ?_⟩
    intro x hx y hy e2
    subst e2
    rcases List.mem_cons.1 hy with rfl | e
    · exact hh hx
    · exact hdis x (hsub x hx) x e rfl
  · intro x
    show _ ↔ 1 ≤ x ∧ x ≤ s.n
    rw [← R.mem x]
    simp
    grind
  · refine linked_congr ?_ ?_ R.untied
    · intro x hx
      refine upd_far _ _ ?_
      rintro rfl
      rw [show 0 :: (l ++ r ++ [0]) = (0 :: (l ++ r)) ++ [0] by simp, List.dropLast_concat, List.mem_cons] at hx
      exact hx.elim (by omega) hh
    · intro x hx
      refine upd_far _ _ ?_
      rintro rfl
      rw [List.tail_cons, List.mem_append] at hx
      rcases hx with e | e
      · exact hh e
      · simp at e; omega
  · intro x hx
    show upd s.th h false x = true
    rw [upd_far _ _ (by rintro rfl; exact hh hx)]
    exact R.there x (hsub x hx)
  · intro x hx
    show upd s.th h false x = false
    rcases List.mem_cons.1 hx with rfl | e
    · exact upd_same _ _ _
    · rw [upd_far _ _ (by rintro rfl; exact hhf e)]
      exact R.gone x e
  · refine ⟨rfl, ?_⟩
    show Free (upd (upd s.nx (s.pv h) (s.nx h)) h s.free) (upd (upd s.nx (s.pv h) (s.nx h)) h s.free h) free
    rw [upd_same]
    refine free_congr ?_ R.chain
    intro x hx
    have hx0 : x ≠ 0 := by rintro rfl; exact R.free0 hx
    have hx1 : x ∉ l ++ r := fun e => hdis x (hsub x e) x hx rfl
    rw [upd_far _ _ (by rintro rfl; exact hhf hx), upd_far _ _ (by intro e2; exact (hbes (.inl e2)).elim hx0 hx1)]
  · show s.count - 1 = _
    rw [R.count]
    simp
  · have h1 := R.len
    show _ = s.n
    simp at h1 ⊢
    omega
theorem ring_ahead' (l : List Nat) : ∃ L, 0 :: l = L ++ [l.getLastD 0] := by
  rcases List.eq_nil_or_concat l with rfl | ⟨l', x, rfl⟩
  · exact ⟨[], rfl⟩
  · exact ⟨0 :: l', by simp⟩
theorem ring_behind' (r : List Nat) : ∃ R, r ++ [0] = r.headD 0 :: R := by
  cases r with
  | nil => exact ⟨[], rfl⟩
  | cons b r => exact ⟨r ++ [0], rfl⟩
theorem Rep.front (R : Rep s row free) : s.nx 0 = row.headD 0 := by
  have H := R.links
  cases row with
  | nil => simpa using (linked_cons.1 H).1
  | cons b r => simpa using (linked_cons.1 H).1
theorem Rep.back (R : Rep s row free) : s.pv 0 = row.getLastD 0 := by
  have H := R.links
  obtain ⟨L, hL⟩ := ring_ahead' row
  rw [show 0 :: (row ++ [0]) = (0 :: row) ++ [0] by simp, hL, show L ++ [row.getLastD 0] ++ [0] = L ++ row.getLastD 0 :: [0] by simp, linked_append, linked_cons] at H
  exact H.2.2.1
theorem Rep.aside {l r : List Nat} {h : Nat} (R : Rep s (l ++ h :: r) free) : s.pv h = l.getLastD 0 ∧ s.nx h = r.headD 0 := by
  obtain ⟨L, ha⟩ := ring_ahead' l
  obtain ⟨Z, hb⟩ := ring_behind' r
  exact linked_beside ha hb (by simpa using R.links)
theorem Rep.ends (R : Rep s row free) : s.nx 0 ≤ s.n ∧ s.pv 0 ≤ s.n := by
  have hm := R.mem
  rw [R.front, R.back]
  constructor
  · cases row with
    | nil => simp
    | cons b r => exact ((hm b).1 (by simp)).2
  · rcases List.eq_nil_or_concat row with e | ⟨l', x, e⟩
    · subst e; simp
    · subst e
      have := (hm x).1 (by simp)
      simpa using this.2
/-- a list in memory: its row, its free handles, what lies where, how many handles were given -/
def LA (V : α → Value) (te tl : TypeId) (B : Nat → Prop) (w : World) (p : Nat) (row free : List Nat) (va : Nat → α) (n : Nat) : Prop :=
  ∃ s : St α, ListAt V te tl B w p s ∧ Rep s row free ∧ s.va = va ∧ s.n = n
theorem ListIn.narrow {V : α → Value} {te tl : TypeId} {B : Nat → Prop} {w : World} {p : Nat} {ad : Option Addr} {cap : Nat} (h : ListIn V te tl B w p s ad cap) : ListIn V te tl (fun k => B k ∧ k < w.heap.size) w p s ad cap :=
  ⟨⟨h.1, lt_of_block h.2.1⟩, h.2.1, h.2.2.1, h.2.2.2.1, fun g e => ⟨h.2.2.2.2 g e, (h.2.2.1.lt g e).2⟩⟩
theorem ListIn.wide {V : α → Value} {te tl : TypeId} {B B' : Nat → Prop} {w : World} {p : Nat} {ad : Option Addr} {cap : Nat} (h : ListIn V te tl B w p s ad cap) (hB : ∀ k, B k → B' k) : ListIn V te tl B' w p s ad cap :=
  ⟨hB _ h.1, h.2.1, h.2.2.1, h.2.2.2.1, fun g e => hB _ (h.2.2.2.2 g e)⟩
/-- what it owns: blocks that are there -/
theorem LA.narrow {V : α → Value} {te tl : TypeId} {B : Nat → Prop} {w : World} {p : Nat} {va : Nat → α} {n : Nat} (h : LA V te tl B w p row free va n) : LA V te tl (fun k => B k ∧ k < w.heap.size) w p row free va n := by
  obtain ⟨s, ⟨ad, cap, H⟩, r⟩ := h
  exact ⟨s, ⟨ad, cap, H.narrow⟩, r⟩
theorem LA.wide {V : α → Value} {te tl : TypeId} {B B' : Nat → Prop} {w : World} {p : Nat} {va : Nat → α} {n : Nat} (h : LA V te tl B w p row free va n) (hB : ∀ k, B k → B' k) : LA V te tl B' w p row free va n := by
  obtain ⟨s, ⟨ad, cap, H⟩, r⟩ := h
  exact ⟨s, ⟨ad, cap, H.wide hB⟩, r⟩
/-- what others write leaves it alone -/
theorem LA.kept {V : α → Value} {te tl : TypeId} {B D : Nat → Prop} {w w' : World} {p : Nat} {va : Nat → α} {n : Nat} (h : LA V te tl B w p row free va n) (hk : Keeps D w w') (hd : ∀ k, B k → ¬ D k) : LA V te tl B w' p row free va n := by
  obtain ⟨s, ⟨ad, cap, H⟩, r⟩ := h
  refine ⟨s, ⟨ad, cap, H.1, ?_, ⟨H.2.2.1.1, ?_⟩, H.2.2.2.1, H.2.2.2.2⟩, r⟩
  · rw [hk.block p (lt_of_block H.2.1) (hd _ H.1)]
    exact H.2.1
  · rcases H.2.2.1.2 with h0 | ⟨g, c, cur, hv, hb, hg, rest⟩
    · exact .inl h0
    · refine .inr ⟨g, c, cur, hv, hb, ?_, rest⟩
      rw [hk.block g (lt_of_block hg) (hd _ (H.2.2.2.2 g (by rw [hv]; rfl)))]
      exact hg
def moreOf (free : List Nat) (n : Nat) : Nat := if free = [] then n + 1 else n
def handOf (free : List Nat) (n : Nat) : Nat := free.headD (n + 1)
theorem Rep.more (R : Rep s row free) : (if s.free = 0 then s.n + 1 else s.n) = moreOf free s.n ∧ s.hand = handOf free s.n := by
  refine ⟨?_, R.hand_eq.1⟩
  cases free with
  | nil => have hz : s.free = 0 := R.chain; simp [hz, moreOf]
  | cons f t =>
    have hz : s.free = f := R.chain.1
    have hfm := (R.mem f).1 (by simp)
    rw [if_neg (by omega)]
    simp [moreOf]
theorem ListIn.setDrop {V : α → Value} {te tl : TypeId} {B : Nat → Prop} {w : World} {p g cap : Nat} (h : ListIn V te tl B w p s (some ⟨g, 0, none⟩) cap) (i : Nat) (z : α) (c : Int) (hc : c = ((s.count - 1 : Nat) : Int)) :
    ListIn V te tl B ((((((w.setCell ⟨g, i * 4, none⟩ (.int .i64 0)).setCell ⟨g, i * 4 + 1, none⟩ (.int .i64 s.free)).setCell ⟨g, i * 4 + 2, none⟩ (.bool false)).setCell ⟨g, i * 4 + 3, none⟩ (V z)).setCell ⟨p, 3, none⟩ (.int .i64 ((i : Int) + 1))).setCell ⟨p, 4, none⟩ (.int .i64 c)) p
      (s.drop (i + 1) z) (some ⟨g, 0, none⟩) cap := by
  subst hc
  exact ((h.setSlot i 0 s.free false z).setFree (i + 1)).setCount (s.count - 1)
theorem linked_front {pv nx : Nat → Nat} {row : List Nat} (H : Linked pv nx (0 :: (row ++ [0]))) : nx 0 = row.headD 0 := by
  cases row with
  | nil => simpa using (linked_cons.1 H).1
  | cons b r => simpa using (linked_cons.1 H).1
theorem linked_back {pv nx : Nat → Nat} {row : List Nat} (H : Linked pv nx (0 :: (row ++ [0]))) : pv 0 = row.getLastD 0 := by
  obtain ⟨L, hL⟩ := ring_ahead' row
  rw [show 0 :: (row ++ [0]) = (0 :: row) ++ [0] by simp, hL, show L ++ [row.getLastD 0] ++ [0] = L ++ row.getLastD 0 :: [0] by simp, linked_append, linked_cons] at H
  exact H.2.2.1
theorem headD_le {row : List Nat} {n : Nat} (h : ∀ x ∈ row, x ≤ n) : row.headD 0 ≤ n := by
  cases row with
  | nil => simp
  | cons b r => exact h b (by simp)
theorem getLastD_le {row : List Nat} {n : Nat} (h : ∀ x ∈ row, x ≤ n) : row.getLastD 0 ≤ n := by
  rcases List.eq_nil_or_concat row with e | ⟨l', x, e⟩
  · subst e; simp
  · subst e; simpa using h x (by simp)
theorem Rep.untied_ends {l r : List Nat} {h : Nat} (R : Rep s (l ++ h :: r) free) :
    (s.untie h).nx 0 = (l ++ r).headD 0 ∧ (s.untie h).pv 0 = (l ++ r).getLastD 0 ∧ (s.untie h).nx 0 ≤ s.n ∧ (s.untie h).pv 0 ≤ s.n := by
  have hle : ∀ x ∈ l ++ r, x ≤ s.n := fun x hx => ((R.mem x).1 (by simp at hx ⊢; grind)).2
  have e1 := linked_front R.untied
  have e2 := linked_back R.untied
  exact ⟨e1, e2, e1 ▸ headD_le hle, e2 ▸ getLastD_le hle⟩
/-- the first, the last one: 0, if there is none -/
def hdOf (row : List Nat) : Nat := row.headD 0
def lsOf (row : List Nat) : Nat := row.getLastD 0
theorem Rep.front' (R : Rep s row free) : s.nx 0 = hdOf row := R.front
theorem Rep.back' (R : Rep s row free) : s.pv 0 = lsOf row := R.back
theorem Rep.aside' {l r : List Nat} {h : Nat} (R : Rep s (l ++ h :: r) free) : s.pv h = lsOf l ∧ s.nx h = hdOf r := R.aside
end
end Go.Proofs.Ytdiggfiapbifpaa.Ls
