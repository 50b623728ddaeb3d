/- An engine in memory: its struct, its three lists, its index, each in blocks of its own; what they say: three rows of keys. -/
import Derived.Test.YtnbfokmodjgaaabDoorLb
import Derived.Test.YtnbfokmodjgaaabDoorIe
import Derived.Test.YtnbfokmodjgaaabDoorPure
namespace Go.Proofs.YtnbfokmodjgaaabDoor
open Go.RowKit

namespace Ls
theorem LA.hand {te tl : TypeId} {B : Nat → Prop} {w : World} {p : Nat} {row free : List Nat} {va : Nat → It} {n : Nat} (h : LA te tl B w p row free va n) : handOf free n ∉ row ∧ row.Nodup := by
  obtain ⟨s, _, R, _, rfl⟩ := h
  obtain ⟨_, h1, _, _⟩ := R.hand_new
  rw [← R.more.2]
  exact ⟨fun e => h1 (by simp [e]), (List.nodup_append.1 R.nodup).1⟩
end Ls
/-- a list's state -/
structure Li where
  pr : Nat
  row : List Nat
  free : List Nat
  va : Nat → Ls.It
  n : Nat
abbrev LiAt (D : Nat → Prop) (w : World) (l : Li) : Prop := Ls.LA 105 103 D w l.pr l.row l.free l.va l.n
abbrev XAt (D : Nat → Prop) (w : World) (x : Nat) (m : ByteArray → Option Ix.Sp) (b : Nat) : Prop := Ix.IX 87 90 D w x m b
/-- the struct's cells -/
def enc (c : Nat) (R : Nat → Li) (x : Nat) : Array Value :=
  #[.int .i64 (c : Nat), .pointer (some ⟨(R 0).pr, 0, none⟩), .pointer (some ⟨(R 1).pr, 0, none⟩), .pointer (some ⟨(R 2).pr, 0, none⟩), .pointer (some ⟨x, 0, none⟩)]
/-- L tells whose a block is: 0 to 2 the lists', 4 the index's, 5 the struct's -/
structure EnIn (D : Nat → Prop) (L : Nat → Nat) (w : World) (e c : Nat) (R : Nat → Li) (x : Nat) (m : ByteArray → Option Ix.Sp) (b : Nat) : Prop where
  de : D e
  le : L e = 5
  top : w.heap[e]? = some (.cells (enc c R x) 53 (0, 0))
  li : ∀ i, i < 3 → LiAt (fun k => D k ∧ L k = i) w (R i)
  ix : XAt (fun k => D k ∧ L k = 4) w x m b
/-- new blocks are i's -/
def nlab (L : Nat → Nat) (n i : Nat) : Nat → Nat := fun g => if g < n then L g else i
theorem nlab_old {L : Nat → Nat} {n i g : Nat} (h : g < n) : nlab L n i g = L g := by simp [nlab, h]
theorem nlab_new {L : Nat → Nat} {n i g : Nat} (h : n ≤ g) : nlab L n i g = i := by simp [nlab, show ¬ g < n by omega]
section
variable {D D' : Nat → Prop} {L : Nat → Nat} {w w' : World} {e c : Nat} {R : Nat → Li} {x : Nat} {m m' : ByteArray → Option Ix.Sp} {b b' : Nat} {l : Li}
theorem EnIn.cells (H : EnIn D L w e c R x m b) :
    w.cell? ⟨e, 0, none⟩ = some (.int .i64 (c : Nat)) ∧ w.frozen? ⟨e, 0, none⟩ = false ∧ w.cell? ⟨e, 4, none⟩ = some (.pointer (some ⟨x, 0, none⟩)) ∧
    w.frozen? ⟨e, 1, none⟩ = false ∧ e < w.heap.size := by
  have h := H.top
  refine ⟨?_, frozen_of_block h, ?_, frozen_of_block h, lt_of_block h⟩ <;> (rw [cell_of_block h]; rfl)
theorem EnIn.four (H : EnIn D L w e c R x m b) :
    w.cell? ⟨e, 1, none⟩ = some (.pointer (some ⟨(R 0).pr, 0, none⟩)) ∧ w.cell? ⟨e, 2, none⟩ = some (.pointer (some ⟨(R 1).pr, 0, none⟩)) ∧ w.cell? ⟨e, 3, none⟩ = some (.pointer (some ⟨(R 2).pr, 0, none⟩)) := by
  have h := H.top
  refine ⟨?_, ?_, ?_⟩ <;> (rw [cell_of_block h]; rfl)
theorem EnIn.row (H : EnIn D L w e c R x m b) {i : Nat} (hi : i < 3) : w.cell? ⟨e, 1 + i, none⟩ = some (.pointer (some ⟨(R i).pr, 0, none⟩)) := by
  obtain ⟨h0, h1, h2⟩ := H.four
  have : i = 0 ∨ i = 1 ∨ i = 2 := by omega
  rcases this with e | e | e <;> subst e <;> assumption
theorem LiAt.old {D D' : Nat → Prop} {w w' : World} {l : Li} (h : LiAt D w l) (hk : Keeps D' w w') (hd : ∀ k, k < w.heap.size → D k → ¬ D' k) : LiAt (fun k => D k ∧ k < w.heap.size) w' l :=
  (Ls.LA.narrow h).kept hk (fun k e => hd k e.2 e.1)
theorem XAt.old {D D' : Nat → Prop} {w w' : World} (h : XAt D w x m b) (hk : Keeps D' w w') (hd : ∀ k, k < w.heap.size → D k → ¬ D' k) : XAt (fun k => D k ∧ k < w.heap.size) w' x m b :=
  (Ix.IX.narrow h).kept hk (fun k e => hd k e.2 e.1)
theorem EnIn.kept (H : EnIn D L w e c R x m b) (hk : Keeps D' w w') (hd : ∀ k, k < w.heap.size → D k → ¬ D' k) : EnIn D L w' e c R x m b :=
  ⟨H.de, H.le, (hk.block e (lt_of_block H.top) (hd _ (lt_of_block H.top) H.de)).trans H.top, fun i hi => ((H.li i hi).old hk (fun k a h => hd k a h.1)).wide (fun _ h => h.1), (XAt.old H.ix hk (fun k a h => hd k a h.1)).wide (fun _ h => h.1)⟩
theorem EnIn.below (H : EnIn D L w e c R x m b) (hb : Below w.heap.size w w') : EnIn D L w' e c R x m b := H.kept (D' := fun _ => False) (.of_below hb) (fun _ _ _ e => e)
theorem EnIn.wide (H : EnIn D L w e c R x m b) (hD : ∀ k, k < w.heap.size → D k → D' k) : EnIn D' L w e c R x m b :=
  ⟨hD _ (lt_of_block H.top) H.de, H.le, H.top, fun i hi => (Ls.LA.narrow (H.li i hi)).wide (fun k h => ⟨hD k h.2 h.1.1, h.1.2⟩), (Ix.IX.narrow H.ix).wide (fun k h => ⟨hD k h.2 h.1.1, h.1.2⟩)⟩
/-- what may be handed to list i's or the index's own functions -/
def own (D : Nat → Prop) (L : Nat → Nat) (n i : Nat) : Nat → Prop := fun k => (D k ∧ L k = i) ∨ n ≤ k
theorem own_new (D : Nat → Prop) (L : Nat → Nat) (n i : Nat) : ∀ k, n ≤ k → own D L n i k := fun _ h => .inr h
theorem EnIn.list (H : EnIn D L w e c R x m b) {i : Nat} (hi : i < 3) : LiAt (own D L w.heap.size i) w (R i) := Ls.LA.wide (H.li i hi) (fun _ h => .inl h)
theorem EnIn.index (H : EnIn D L w e c R x m b) : XAt (own D L w.heap.size 4) w x m b := Ix.IX.wide H.ix (fun _ h => .inl h)
theorem nlab_own (hD : ∀ k, w.heap.size ≤ k → D k) {i k : Nat} (h : own D L w.heap.size i k) : D k ∧ nlab L w.heap.size i k = i := by
  rcases Nat.lt_or_ge k w.heap.size with hk | hk
  · rw [nlab_old hk]
    rcases h with h | h
    · exact h
    · omega
  · exact ⟨hD k hk, nlab_new hk⟩
theorem own_not {i j k : Nat} (hij : j ≠ i) (hk : k < w.heap.size) (h : D k ∧ L k = j) : ¬ own D L w.heap.size i k := by
  rintro (h2 | h2)
  · exact hij (h.2.symm.trans h2.2)
  · omega
/-- list i is another one -/
theorem EnIn.putL (H : EnIn D L w e c R x m b) (hD : ∀ k, w.heap.size ≤ k → D k) {i : Nat} (hi : i < 3) (hk : Keeps (own D L w.heap.size i) w w') (hl : LiAt (own D L w.heap.size i) w' l) (hp : l.pr = (R i).pr) :
    EnIn D (nlab L w.heap.size i) w' e c (fun j => if j = i then l else R j) x m b := by
  have he := lt_of_block H.top
  refine ⟨H.de, by rw [nlab_old he]; exact H.le, ?_, fun j hj => ?_, (XAt.old H.ix hk (fun k a h => own_not (by omega) a h)).wide (fun k h => ⟨h.1.1, by rw [nlab_old h.2]; exact h.1.2⟩)⟩
  · rw [hk.block e he (own_not (j := 5) (by omega) he ⟨H.de, H.le⟩), H.top]
    have : enc c (fun j => if j = i then l else R j) x = enc c R x := by
      have : i = 0 ∨ i = 1 ∨ i = 2 := by omega
      rcases this with e | e | e <;> subst e <;> simp [enc, hp]
    rw [this]
  · by_cases hji : j = i
    · subst hji
      rw [if_pos rfl]
      exact Ls.LA.wide hl (fun k h => nlab_own hD h)
    · rw [if_neg hji]
      exact ((H.li j hj).old hk (fun k a h => own_not hji a h)).wide (fun k h => ⟨h.1.1, by rw [nlab_old h.2]; exact h.1.2⟩)
/-- the index is another one -/
theorem EnIn.putX (H : EnIn D L w e c R x m b) (hD : ∀ k, w.heap.size ≤ k → D k) (hk : Keeps (own D L w.heap.size 4) w w') (hx : XAt (own D L w.heap.size 4) w' x m' b') :
    EnIn D (nlab L w.heap.size 4) w' e c R x m' b' := by
  have he := lt_of_block H.top
  refine ⟨H.de, by rw [nlab_old he]; exact H.le, ?_, fun j hj => ?_, Ix.IX.wide hx (fun k h => nlab_own hD h)⟩
  · rw [hk.block e he (own_not (j := 5) (by omega) he ⟨H.de, H.le⟩), H.top]
  · exact ((H.li j hj).old hk (fun k a h => own_not (by omega) a h)).wide (fun k h => ⟨h.1.1, by rw [nlab_old h.2]; exact h.1.2⟩)
theorem own_keeps (hD : ∀ k, w.heap.size ≤ k → D k) {i : Nat} (hk : Keeps (own D L w.heap.size i) w w') : Keeps D w w' := hk.mono (fun _ _ h => (nlab_own (w := w) hD h).1)
end

/-! ### what the lists and the index say -/
structure Rel (R : Nat → Li) (m : ByteArray → Option Ix.Sp) (Q : Nat → List Ls.It) (b : Nat) : Prop where
  keys : ∀ i, i < 3 → (R i).row.map (R i).va = Q i
  spot : ∀ k i h, m k = some (i, h) ↔ i < 3 ∧ h ∈ (R i).row ∧ ((R i).va h).key = k
  few : ∀ i, i < 3 → (R i).n ≤ b
  size : ∀ i, i < 3 → ∀ k ∈ Q i, k.key.size ≤ 1000 ∧ k.n ≤ 3
  nodup : ∀ i, i < 3 → (R i).row.Nodup
section
variable {R : Nat → Li} {m : ByteArray → Option Ix.Sp} {Q : Nat → List Ls.It} {b : Nat}
theorem Rel.ks (H : Rel R m Q b) {i : Nat} (hi : i < 3) {k : ByteArray} : k ∈ A.ks (Q i) ↔ ∃ h ∈ (R i).row, ((R i).va h).key = k := by
  rw [← H.keys i hi, A.ks_mem]
  constructor
  · rintro ⟨x, hx, e⟩
    obtain ⟨h, hh, rfl⟩ := List.mem_map.1 hx
    exact ⟨h, hh, e⟩
  · rintro ⟨h, hh, e⟩
    exact ⟨_, List.mem_map.2 ⟨h, hh, rfl⟩, e⟩
theorem Rel.none (H : Rel R m Q b) {k : ByteArray} : m k = none ↔ ∀ i, i < 3 → k ∉ A.ks (Q i) := by
  constructor
  · intro h i hi hk
    obtain ⟨a, ha, hv⟩ := (H.ks hi).1 hk
    have := (H.spot k i a).2 ⟨hi, ha, hv⟩
    rw [h] at this; cases this
  · intro h
    cases hm : m k with
    | none => rfl
    | some v =>
      obtain ⟨i, a⟩ := v
      obtain ⟨h1, h2, h3⟩ := (H.spot k i a).1 hm
      exact absurd ((H.ks h1).2 ⟨a, h2, h3⟩) (h i h1)
theorem Rel.some (H : Rel R m Q b) {k : ByteArray} {i h : Nat} (hm : m k = some (i, h)) : i < 3 ∧ k ∈ A.ks (Q i) ∧ ∀ j, j < 3 → j ≠ i → k ∉ A.ks (Q j) := by
  obtain ⟨h1, h2, h3⟩ := (H.spot k i h).1 hm
  refine ⟨h1, (H.ks h1).2 ⟨h, h2, h3⟩, fun j hj hne hk => ?_⟩
  obtain ⟨a, ha, hv⟩ := (H.ks hj).1 hk
  have := (H.spot k j a).2 ⟨hj, ha, hv⟩
  rw [hm] at this
  cases this
  exact hne rfl
/-- a key that is nowhere is the newest of list i -/
theorem Rel.lay (H : Rel R m Q b) {k : ByteArray} (hn : m k = Option.none) {i : Nat} (hi : i < 3) (hs : k.size ≤ 1000) (hh : Ls.handOf (R i).free (R i).n ∉ (R i).row) :
    Rel (fun j => if j = i then { R i with row := (R i).row ++ [Ls.handOf (R i).free (R i).n], free := (R i).free.tail, va := Ls.upd (R i).va (Ls.handOf (R i).free (R i).n) ⟨k, 0⟩, n := Ls.moreOf (R i).free (R i).n } else R j)
      (Ix.put m k (.some (i, Ls.handOf (R i).free (R i).n))) (fun j => if j = i then Q j ++ [⟨k, 0⟩] else Q j) (b + 1) := by
  have hno := H.none.1 hn
  have hva : ∀ a ∈ (R i).row, Ls.upd (R i).va (Ls.handOf (R i).free (R i).n) ⟨k, 0⟩ a = (R i).va a := fun a ha => Ls.upd_far _ _ (by rintro rfl; exact hh ha)
  constructor
  · intro j hj
    by_cases e : j = i
    · subst e
      simp only [if_true, List.map_append, List.map_cons, List.map_nil, Ls.upd_same]
      rw [List.map_congr_left hva, H.keys j hj]
    · simp only [if_neg e]
      exact H.keys j hj
  · intro k' j a
    by_cases hk : k' = k
    · subst hk
      rw [Ix.put_same]
      constructor
      · intro e
        cases e
        refine ⟨hi, ?_, ?_⟩
        · simp
        · simp [Ls.upd_same]
      · rintro ⟨h1, h2, h3⟩
        by_cases e : j = i
        · subst e
          simp only [if_true, List.mem_append, List.mem_singleton] at h2 h3
          rcases h2 with h2 | h2
          · rw [hva a h2] at h3
            exact absurd ((H.ks h1).2 ⟨a, h2, h3⟩) (hno j h1)
          · rw [h2]
        · simp only [if_neg e] at h2 h3
          exact absurd ((H.ks h1).2 ⟨a, h2, h3⟩) (hno j h1)
    · rw [Ix.put_far hk, H.spot]
      by_cases e : j = i
      · subst e
        simp only [if_true, List.mem_append, List.mem_singleton]
        constructor
        · rintro ⟨h1, h2, h3⟩
          exact ⟨h1, .inl h2, by rw [hva a h2]; exact h3⟩
        · rintro ⟨h1, h2 | h2, h3⟩
          · exact ⟨h1, h2, by rw [hva a h2] at h3; exact h3⟩
          · subst h2
            rw [Ls.upd_same] at h3
            exact absurd h3.symm hk
      · simp only [if_neg e]
  · intro j hj
    have := H.few j hj
    by_cases e : j = i
    · subst e
      simp only [if_true, Ls.moreOf]
      split <;> omega
    · simp only [if_neg e]
      omega
  · intro j hj k' hk'
    by_cases e : j = i
    · subst e
      simp only [if_true, List.mem_append, List.mem_singleton] at hk'
      rcases hk' with h | h
      · exact H.size j hj k' h
      · subst h; exact ⟨hs, Nat.zero_le _⟩
    · simp only [if_neg e] at hk'
      exact H.size j hj k' hk'
  · intro j hj
    by_cases e : j = i
    · subst e
      simp only [if_true]
      rw [List.nodup_append]
      refine ⟨H.nodup j hj, by simp, ?_⟩
      intro a ha b' hb'
      simp at hb'
      subst hb'
      rintro rfl
      exact hh ha
    · simp only [if_neg e]
      exact H.nodup j hj
theorem less_same {l : List Ls.It} {k : ByteArray} (h : k ∉ A.ks l) : A.less l k = l := by
  unfold A.less
  rw [List.filter_eq_self]
  intro x hx
  simp only [decide_eq_true_eq]
  rintro rfl
  exact h (A.ks_mem.2 ⟨x, hx, rfl⟩)
/-- a key leaves list i -/
theorem Rel.take (H : Rel R m Q b) {k : ByteArray} {i h : Nat} (hm : m k = .some (i, h)) {l r : List Nat} (hr : (R i).row = l ++ h :: r) :
    Rel (fun j => if j = i then { R i with row := l ++ r, free := h :: (R i).free, va := Ls.upd (R i).va h Ls.It.none } else R j) (Ix.put m k Option.none) (fun j => A.less (Q j) k) b := by
  obtain ⟨hi, hin, hv⟩ := (H.spot k i h).1 hm
  obtain ⟨_, _, hot⟩ := H.some hm
  have hnd := H.nodup i hi
  rw [hr] at hnd
  have hnd2 := (List.perm_middle.nodup_iff.1 hnd)
  rw [List.nodup_cons] at hnd2
  have hva : ∀ a ∈ l ++ r, Ls.upd (R i).va h Ls.It.none a = (R i).va a := fun a ha => Ls.upd_far _ _ (by rintro rfl; exact hnd2.1 ha)
  have hkey : ∀ a ∈ l ++ r, ((R i).va a).key ≠ k := fun a ha e => by
    have ha' : a ∈ (R i).row := by rw [hr]; simp at ha ⊢; rcases ha with h | h <;> simp [h]
    have := (H.spot k i a).2 ⟨hi, ha', e⟩
    rw [hm] at this
    cases this
    exact hnd2.1 ha
  constructor
  · intro j hj
    by_cases e : j = i
    · subst e
      simp only [if_true]
      rw [List.map_congr_left hva, ← H.keys j hj, hr]
      unfold A.less
      rw [List.map_append, List.map_append, List.map_cons, List.filter_append, List.filter_cons, if_neg (by simp [hv])]
      rw [List.filter_eq_self.2, List.filter_eq_self.2]
      · intro y hy
        obtain ⟨a, ha, rfl⟩ := List.mem_map.1 hy
        simpa using hkey a (by simp [ha])
      · intro y hy
        obtain ⟨a, ha, rfl⟩ := List.mem_map.1 hy
        simpa using hkey a (by simp [ha])
    · simp only [if_neg e]
      rw [less_same (hot j hj e)]
      exact H.keys j hj
  · intro k' j a
    by_cases hk : k' = k
    · subst hk
      rw [Ix.put_same]
      constructor
      · intro e; cases e
      · rintro ⟨h1, h2, h3⟩
        by_cases e : j = i
        · subst e
          simp only [if_true] at h2 h3
          rw [hva a h2] at h3
          exact absurd h3 (hkey a h2)
        · simp only [if_neg e] at h2 h3
          exact absurd ((H.ks h1).2 ⟨a, h2, h3⟩) (hot j h1 e)
    · rw [Ix.put_far hk, H.spot]
      by_cases e : j = i
      · subst e
        simp only [if_true]
        constructor
        · rintro ⟨h1, h2, h3⟩
          have ha : a ∈ l ++ r := by
            rw [hr] at h2
            simp at h2 ⊢
            rcases h2 with h | h | h
            · exact .inl h
            · subst h; exact absurd (h3.symm.trans hv) hk
            · exact .inr h
          exact ⟨h1, ha, by rw [hva a ha]; exact h3⟩
        · rintro ⟨h1, h2, h3⟩
          rw [hva a h2] at h3
          exact ⟨h1, by rw [hr]; simp at h2 ⊢; rcases h2 with h | h <;> simp [h], h3⟩
      · simp only [if_neg e]
  · intro j hj
    by_cases e : j = i
    · subst e
      simp only [if_true]
      exact H.few j hj
    · simp only [if_neg e]
      exact H.few j hj
  · intro j hj k' hk'
    exact H.size j hj k' (List.mem_filter.1 hk').1
  · intro j hj
    by_cases e : j = i
    · subst e
      simp only [if_true]
      exact hnd2.2
    · simp only [if_neg e]
      exact H.nodup j hj
/-- another count of a key; the row in another order -/
theorem Rel.set (H : Rel R m Q b) {i h : Nat} (hi : i < 3) (hh : h ∈ (R i).row) (n : Nat) (hn : n ≤ 3) {row : List Nat} (hp : row.Perm (R i).row) :
    Rel (fun j => if j = i then { R i with row := row, va := Ls.upd (R i).va h ⟨((R i).va h).key, n⟩ } else R j) m (fun j => if j = i then row.map (Ls.upd (R i).va h ⟨((R i).va h).key, n⟩) else Q j) b := by
  have hkey : ∀ a, (Ls.upd (R i).va h ⟨((R i).va h).key, n⟩ a).key = ((R i).va a).key := fun a => by
    by_cases e : a = h
    · subst e; rw [Ls.upd_same]
    · rw [Ls.upd_far _ _ e]
  constructor
  · intro j hj
    by_cases e : j = i
    · subst e; simp only [if_true]
    · simp only [if_neg e]; exact H.keys j hj
  · intro k j a
    rw [H.spot]
    by_cases e : j = i
    · subst e
      simp only [if_true]
      rw [hkey, hp.mem_iff]
    · simp only [if_neg e]
  · intro j hj
    by_cases e : j = i
    · subst e; simp only [if_true]; exact H.few j hj
    · simp only [if_neg e]; exact H.few j hj
  · intro j hj k hk
    by_cases e : j = i
    · subst e
      simp only [if_true] at hk
      obtain ⟨a, ha, rfl⟩ := List.mem_map.1 hk
      have ha' := hp.mem_iff.1 ha
      have hs := H.size j hj ((R j).va a) (by rw [← H.keys j hj]; exact List.mem_map.2 ⟨a, ha', rfl⟩)
      by_cases e2 : a = h
      · subst e2; rw [Ls.upd_same]; exact ⟨hs.1, hn⟩
      · rw [Ls.upd_far _ _ e2]; exact hs
    · simp only [if_neg e] at hk
      exact H.size j hj k hk
  · intro j hj
    by_cases e : j = i
    · subst e
      simp only [if_true]
      exact hp.nodup_iff.2 (H.nodup j hj)
    · simp only [if_neg e]
      exact H.nodup j hj
theorem Rel.more (H : Rel R m Q b) {b' : Nat} (h : b ≤ b') : Rel R m Q b' := ⟨H.keys, H.spot, fun i hi => Nat.le_trans (H.few i hi) h, H.size, H.nodup⟩
end
/-- an engine in memory: three rows of keys; no more than b keys were laid -/
def EN (D : Nat → Prop) (w : World) (e c : Nat) (Q : Nat → List Ls.It) (b : Nat) : Prop := ∃ L R x m, EnIn D L w e c R x m b ∧ Rel R m Q b
section
variable {D D' : Nat → Prop} {w w' : World} {e c : Nat} {Q : Nat → List Ls.It} {b : Nat}
theorem EN.below (H : EN D w e c Q b) (hb : Below w.heap.size w w') : EN D w' e c Q b := by
  obtain ⟨L, R, x, m, h, r⟩ := H; exact ⟨L, R, x, m, h.below hb, r⟩
theorem EN.later (hb : Below w.heap.size w w') (H : EN D w e c Q b) : EN D w' e c Q b := H.below hb
theorem EN.kept (H : EN D w e c Q b) (hk : Keeps D' w w') (hd : ∀ k, k < w.heap.size → D k → ¬ D' k) : EN D w' e c Q b := by
  obtain ⟨L, R, x, m, h, r⟩ := H; exact ⟨L, R, x, m, h.kept hk hd, r⟩
theorem EN.wide (H : EN D w e c Q b) (hD : ∀ k, k < w.heap.size → D k → D' k) : EN D' w e c Q b := by
  obtain ⟨L, R, x, m, h, r⟩ := H; exact ⟨L, R, x, m, h.wide hD, r⟩
theorem EN.more (H : EN D w e c Q b) {b' : Nat} (hb : b ≤ b') : EN D w e c Q b' := by
  obtain ⟨L, R, x, m, h, r⟩ := H; exact ⟨L, R, x, m, ⟨h.de, h.le, h.top, h.li, Ix.IX.more h.ix hb⟩, r.more hb⟩
theorem EN.cells (H : EN D w e c Q b) : w.cell? ⟨e, 0, none⟩ = some (.int .i64 (c : Nat)) ∧ w.frozen? ⟨e, 0, none⟩ = false ∧ w.frozen? ⟨e, 1, none⟩ = false ∧ e < w.heap.size ∧ ∃ x, w.cell? ⟨e, 4, none⟩ = some (.pointer (some ⟨x, 0, none⟩)) := by
  obtain ⟨L, R, x, m, h, r⟩ := H
  obtain ⟨h0, h1, h2, h3, h4⟩ := h.cells
  exact ⟨h0, h1, h3, h4, x, h2⟩
theorem EN.congr {Q' : Nat → List Ls.It} (H : EN D w e c Q b) (h : ∀ i, i < 3 → Q' i = Q i) : EN D w e c Q' b := by
  obtain ⟨L, R, x, m, h1, r⟩ := H
  exact ⟨L, R, x, m, h1, fun i hi => (r.keys i hi).trans (h i hi).symm, r.spot, r.few, fun i hi k hk => r.size i hi k (by rw [← h i hi]; exact hk), r.nodup⟩
theorem EN.de (H : EN D w e c Q b) : D e := by
  obtain ⟨L, R, x, m, h, r⟩ := H; exact h.de
theorem EN.size (H : EN D w e c Q b) {i : Nat} (hi : i < 3) {k : Ls.It} (hk : k ∈ Q i) : k.key.size ≤ 1000 ∧ k.n ≤ 3 := by
  obtain ⟨L, R, x, m, h, r⟩ := H; exact r.size i hi k hk
end
end Go.Proofs.YtnbfokmodjgaaabDoor
