/- An engine in memory: its struct, its three lists, its index, each in blocks of its own; what they say: three rows of keys. -/
import Derived.Test.YtcbaalodhgkgmaaLb
import Derived.Test.YtcbaalodhgkgmaaIe
import Derived.Test.YtcbaalodhgkgmaaPure
namespace Go.Proofs.Ytcbaalodhgkgmaa
open Go.RowKit

namespace Ls
theorem LA.hand {α : Type} {V : α → Value} {te tl : TypeId} {B : Nat → Prop} {w : World} {p : Nat} {row free : List Nat} {va : Nat → α} {n : Nat} (h : LA V te tl B w p row free va n) : handOf free n ∉ row ∧ row.Nodup := by
  obtain ⟨s, _, R, _, rfl⟩ := h
  obtain ⟨_, h1, _, _⟩ := R.hand_new
  rw [← R.more.2]
  exact ⟨fun e => h1 (by simp [e]), (List.nodup_append.1 R.nodup).1⟩
theorem LA.hand0 {α : Type} {V : α → Value} {te tl : TypeId} {B : Nat → Prop} {w : World} {p : Nat} {row free : List Nat} {va : Nat → α} {n : Nat} (h : LA V te tl B w p row free va n) : handOf free n ≠ 0 := by
  obtain ⟨s, _, R, _, rfl⟩ := h
  obtain ⟨h0, _⟩ := R.hand_new
  rw [← R.more.2]
  exact h0
theorem LA.lens {α : Type} {V : α → Value} {te tl : TypeId} {B : Nat → Prop} {w : World} {p : Nat} {row free : List Nat} {va : Nat → α} {n : Nat} (h : LA V te tl B w p row free va n) : row.length + free.length = n := by
  obtain ⟨s, _, R, _, rfl⟩ := h
  exact R.len
end Ls
/-- a list's state -/
structure Li where
  pr : Nat
  row : List Nat
  free : List Nat
  va : Nat → ByteArray
  n : Nat
abbrev LiAt (D : Nat → Prop) (w : World) (l : Li) : Prop := Ls.LA Value.string 94 89 D w l.pr l.row l.free l.va l.n
abbrev XAt (D : Nat → Prop) (w : World) (x : Nat) (m : ByteArray → Option Ix.Sp) (b : Nat) : Prop := Ix.IX 100 84 D w x m b
/-- the struct's cells -/
def enc (c : Nat) (R : Nat → Li) (x : Nat) : Array Value :=
  #[.int .i64 (c : Nat), .pointer (some ⟨(R 0).pr, 0, none⟩), .pointer (some ⟨(R 1).pr, 0, none⟩), .pointer (some ⟨(R 2).pr, 0, none⟩), .pointer (some ⟨x, 0, none⟩)]
/-- L tells whose a block is: 0 to 2 the lists', 4 the index's, 5 the struct's -/
structure EnIn (D : Nat → Prop) (L : Nat → Nat) (w : World) (e c : Nat) (R : Nat → Li) (x : Nat) (m : ByteArray → Option Ix.Sp) (b : Nat) : Prop where
  de : D e
  le : L e = 5
  top : w.heap[e]? = some (.cells (enc c R x) 58 (0, 0))
  li : ∀ i, i < 3 → LiAt (fun k => D k ∧ L k = i) w (R i)
  ix : XAt (fun k => D k ∧ L k = 4) w x m b
/-- new blocks are i's -/
def nlab (L : Nat → Nat) (n i : Nat) : Nat → Nat := fun g => if g < n then L g else i
theorem nlab_old {L : Nat → Nat} {n i g : Nat} (h : g < n) : nlab L n i g = L g := by simp [nlab, h]
theorem nlab_new {L : Nat → Nat} {n i g : Nat} (h : n ≤ g) : nlab L n i g = i := by simp [nlab, show ¬ g < n by omega]
section
variable {D D' : Nat → Prop} {L : Nat → Nat} {w w' : World} {e c : Nat} {R : Nat → Li} {x : Nat} {m m' : ByteArray → Option Ix.Sp} {b b' : Nat} {l : Li}
theorem EnIn.cells (H : EnIn D L w e c R x m b) :
    w.cell? ⟨e, 0, none⟩ = some (.int .i64 (c : Nat)) ∧ w.frozen? ⟨e, 0, none⟩ = false ∧ w.cell? ⟨e, 4, none⟩ = some (.pointer (some ⟨x, 0, none⟩)) ∧
    w.frozen? ⟨e, 1, none⟩ = false ∧ e < w.heap.size := by
  have h := H.top
  refine ⟨?_, frozen_of_block h, ?_, frozen_of_block h, lt_of_block h⟩ <;> (rw [cell_of_block h]; rfl)
theorem EnIn.four (H : EnIn D L w e c R x m b) :
    w.cell? ⟨e, 1, none⟩ = some (.pointer (some ⟨(R 0).pr, 0, none⟩)) ∧ w.cell? ⟨e, 2, none⟩ = some (.pointer (some ⟨(R 1).pr, 0, none⟩)) ∧ w.cell? ⟨e, 3, none⟩ = some (.pointer (some ⟨(R 2).pr, 0, none⟩)) := by
  have h := H.top
  refine ⟨?_, ?_, ?_⟩ <;> (rw [cell_of_block h]; rfl)
theorem EnIn.row (H : EnIn D L w e c R x m b) {i : Nat} (hi : i < 3) : w.cell? ⟨e, 1 + i, none⟩ = some (.pointer (some ⟨(R i).pr, 0, none⟩)) := by
  obtain ⟨h0, h1, h2⟩ := H.four
  have : i = 0 ∨ i = 1 ∨ i = 2 := by omega
  rcases this with e | e | e <;> subst e <;> assumption
theorem LiAt.old {D D' : Nat → Prop} {w w' : World} {l : Li} (h : LiAt D w l) (hk : Keeps D' w w') (hd : ∀ k, k < w.heap.size → D k → ¬ D' k) : LiAt (fun k => D k ∧ k < w.heap.size) w' l :=
  (Ls.LA.narrow h).kept hk (fun k e => hd k e.2 e.1)
theorem XAt.old {D D' : Nat → Prop} {w w' : World} (h : XAt D w x m b) (hk : Keeps D' w w') (hd : ∀ k, k < w.heap.size → D k → ¬ D' k) : XAt (fun k => D k ∧ k < w.heap.size) w' x m b :=
  (Ix.IX.narrow h).kept hk (fun k e => hd k e.2 e.1)
theorem EnIn.kept (H : EnIn D L w e c R x m b) (hk : Keeps D' w w') (hd : ∀ k, k < w.heap.size → D k → ¬ D' k) : EnIn D L w' e c R x m b :=
  ⟨H.de, H.le, (hk.block e (lt_of_block H.top) (hd _ (lt_of_block H.top) H.de)).trans H.top, fun i hi => ((H.li i hi).old hk (fun k a h => hd k a h.1)).wide (fun _ h => h.1), (XAt.old H.ix hk (fun k a h => hd k a h.1)).wide (fun _ h => h.1)⟩
theorem EnIn.below (H : EnIn D L w e c R x m b) (hb : Below w.heap.size w w') : EnIn D L w' e c R x m b := H.kept (D' := fun _ => False) (.of_below hb) (fun _ _ _ e => e)
theorem EnIn.alloc' (H : EnIn D L w e c R x m b) (o : Obj) : EnIn D L (w.alloc o) e c R x m b := H.below ((Below.refl _ w).alloc (Nat.le_refl _) o)
theorem EnIn.drewI (H : EnIn D L w e c R x m b) : EnIn D L w.drew e c R x m b := H.kept (D' := fun _ => False) (Keeps.refl _ w).drew (fun _ _ _ e => e)
theorem EnIn.wide (H : EnIn D L w e c R x m b) (hD : ∀ k, k < w.heap.size → D k → D' k) : EnIn D' L w e c R x m b :=
  ⟨hD _ (lt_of_block H.top) H.de, H.le, H.top, fun i hi => (Ls.LA.narrow (H.li i hi)).wide (fun k h => ⟨hD k h.2 h.1.1, h.1.2⟩), (Ix.IX.narrow H.ix).wide (fun k h => ⟨hD k h.2 h.1.1, h.1.2⟩)⟩
/-- what may be handed to list i's or the index's own functions -/
def own (D : Nat → Prop) (L : Nat → Nat) (n i : Nat) : Nat → Prop := fun k => (D k ∧ L k = i) ∨ n ≤ k
theorem own_new (D : Nat → Prop) (L : Nat → Nat) (n i : Nat) : ∀ k, n ≤ k → own D L n i k := fun _ h => .inr h
theorem EnIn.list (H : EnIn D L w e c R x m b) {i : Nat} (hi : i < 3) : LiAt (own D L w.heap.size i) w (R i) := Ls.LA.wide (H.li i hi) (fun _ h => .inl h)
theorem EnIn.index (H : EnIn D L w e c R x m b) : XAt (own D L w.heap.size 4) w x m b := Ix.IX.wide H.ix (fun _ h => .inl h)
theorem nlab_own (hD : ∀ k, w.heap.size ≤ k → D k) {i k : Nat} (h : own D L w.heap.size i k) : D k ∧ nlab L w.heap.size i k = i := by
  rcases Nat.lt_or_ge k w.heap.size with hk | hk
  · rw [nlab_old hk]
    rcases h with h | h
    · exact h
    · omega
  · exact ⟨hD k hk, nlab_new hk⟩
theorem own_not {i j k : Nat} (hij : j ≠ i) (hk : k < w.heap.size) (h : D k ∧ L k = j) : ¬ own D L w.heap.size i k := by
  rintro (h2 | h2)
  · exact hij (h.2.symm.trans h2.2)
  · omega
/-- list i is another one -/
theorem EnIn.putL (H : EnIn D L w e c R x m b) (hD : ∀ k, w.heap.size ≤ k → D k) {i : Nat} (hi : i < 3) (hk : Keeps (own D L w.heap.size i) w w') (hl : LiAt (own D L w.heap.size i) w' l) (hp : l.pr = (R i).pr) :
    EnIn D (nlab L w.heap.size i) w' e c (fun j => if j = i then l else R j) x m b := by
  have he := lt_of_block H.top
  refine ⟨H.de, by rw [nlab_old he]; exact H.le, ?_, fun j hj => ?_, (XAt.old H.ix hk (fun k a h => own_not (by omega) a h)).wide (fun k h => ⟨h.1.1, by rw [nlab_old h.2]; exact h.1.2⟩)⟩
  · rw [hk.block e he (own_not (j := 5) (by omega) he ⟨H.de, H.le⟩), H.top]
    have : enc c (fun j => if j = i then l else R j) x = enc c R x := by
      have : i = 0 ∨ i = 1 ∨ i = 2 := by omega
      rcases this with e | e | e <;> subst e <;> simp [enc, hp]
    rw [this]
  · by_cases hji : j = i
    · subst hji
      rw [if_pos rfl]
      exact Ls.LA.wide hl (fun k h => nlab_own hD h)
    · rw [if_neg hji]
      exact ((H.li j hj).old hk (fun k a h => own_not hji a h)).wide (fun k h => ⟨h.1.1, by rw [nlab_old h.2]; exact h.1.2⟩)
/-- the index is another one -/
theorem EnIn.putX (H : EnIn D L w e c R x m b) (hD : ∀ k, w.heap.size ≤ k → D k) (hk : Keeps (own D L w.heap.size 4) w w') (hx : XAt (own D L w.heap.size 4) w' x m' b') :
    EnIn D (nlab L w.heap.size 4) w' e c R x m' b' := by
  have he := lt_of_block H.top
  refine ⟨H.de, by rw [nlab_old he]; exact H.le, ?_, fun j hj => ?_, Ix.IX.wide hx (fun k h => nlab_own hD h)⟩
  · rw [hk.block e he (own_not (j := 5) (by omega) he ⟨H.de, H.le⟩), H.top]
  · exact ((H.li j hj).old hk (fun k a h => own_not (by omega) a h)).wide (fun k h => ⟨h.1.1, by rw [nlab_old h.2]; exact h.1.2⟩)
theorem own_keeps (hD : ∀ k, w.heap.size ≤ k → D k) {i : Nat} (hk : Keeps (own D L w.heap.size i) w w') : Keeps D w w' := hk.mono (fun _ _ h => (nlab_own (w := w) hD h).1)
end

/-! ### what the lists and the index say -/
/-- a key's three handles -/
def trip (sp : ByteArray → Nat → Nat) (k : ByteArray) : Ix.Sp := (sp k 0, sp k 1, sp k 2)
def spOf (sp : ByteArray → Nat → Nat) (k : ByteArray) : Option Ix.Sp := if sp k 0 = 0 ∧ sp k 1 = 0 ∧ sp k 2 = 0 then none else some (trip sp k)
def spu (sp : ByteArray → Nat → Nat) (k : ByteArray) (i h : Nat) : ByteArray → Nat → Nat := fun k' j => if k' = k ∧ j = i then h else sp k' j
theorem spu_same (sp : ByteArray → Nat → Nat) (k : ByteArray) (i h : Nat) : spu sp k i h k i = h := by simp [spu]
theorem spu_row {sp : ByteArray → Nat → Nat} {k : ByteArray} {i h : Nat} {k' : ByteArray} {j : Nat} (e : j ≠ i) : spu sp k i h k' j = sp k' j := by simp [spu, e]
theorem spu_key {sp : ByteArray → Nat → Nat} {k : ByteArray} {i h : Nat} {k' : ByteArray} {j : Nat} (e : k' ≠ k) : spu sp k i h k' j = sp k' j := by simp [spu, e]
theorem spOf_key {sp : ByteArray → Nat → Nat} {k : ByteArray} {i h : Nat} {k' : ByteArray} (e : k' ≠ k) : spOf (spu sp k i h) k' = spOf sp k' := by
  unfold spOf trip
  simp only [spu_key e]
theorem spOf_get (sp : ByteArray → Nat → Nat) (k : ByteArray) : (spOf sp k).getD (0, 0, 0) = trip sp k := by
  unfold spOf
  split
  · rename_i h
    obtain ⟨h0, h1, h2⟩ := h
    simp [trip, h0, h1, h2]
  · rfl
structure Rel (R : Nat → Li) (m : ByteArray → Option Ix.Sp) (sp : ByteArray → Nat → Nat) (Q : Nat → List ByteArray) (b : Nat) : Prop where
  keys : ∀ i, i < 3 → (R i).row.map (R i).va = Q i
  spot : ∀ k, m k = spOf sp k
  at_ : ∀ k i, i < 3 → sp k i ≠ 0 → sp k i ∈ (R i).row ∧ (R i).va (sp k i) = k
  un : ∀ i, i < 3 → ∀ h, h ∈ (R i).row → sp ((R i).va h) i = h ∧ h ≠ 0
  few : ∀ i, i < 3 → (R i).n ≤ b
  size : ∀ i, i < 3 → ∀ k ∈ Q i, k.size ≤ 1000
  nodup : ∀ i, i < 3 → (R i).row.Nodup
theorem map_nodup {f : Nat → ByteArray} : ∀ {l : List Nat}, l.Nodup → (∀ a, a ∈ l → ∀ b, b ∈ l → f a = f b → a = b) → (l.map f).Nodup
  | [], _, _ => by simp
  | x :: l, h, hi => by
    rw [List.nodup_cons] at h
    rw [List.map_cons, List.nodup_cons]
    refine ⟨fun hm => ?_, map_nodup h.2 (fun a ha b hb e => hi a (List.mem_cons_of_mem _ ha) b (List.mem_cons_of_mem _ hb) e)⟩
    obtain ⟨a, ha, e⟩ := List.mem_map.1 hm
    have := hi a (List.mem_cons_of_mem _ ha) x (by simp) e
    subst this
    exact h.1 ha
section
variable {R : Nat → Li} {m : ByteArray → Option Ix.Sp} {sp : ByteArray → Nat → Nat} {Q : Nat → List ByteArray} {b : Nat}
theorem Rel.zero (H : Rel R m sp Q b) {k : ByteArray} {i : Nat} (hi : i < 3) : sp k i = 0 ↔ k ∉ Q i := by
  constructor
  · intro h hk
    rw [← H.keys i hi, List.mem_map] at hk
    obtain ⟨a, ha, hv⟩ := hk
    have := H.un i hi a ha
    rw [hv, h] at this
    exact this.2 this.1.symm
  · intro h
    by_cases e : sp k i = 0
    · exact e
    · obtain ⟨h1, h2⟩ := H.at_ k i hi e
      exact absurd (by rw [← H.keys i hi]; exact List.mem_map.2 ⟨_, h1, h2⟩) h
theorem Rel.once (H : Rel R m sp Q b) {i : Nat} (hi : i < 3) : (Q i).Nodup := by
  rw [← H.keys i hi]
  refine map_nodup (H.nodup i hi) (fun a ha c hc h => ?_)
  rw [← (H.un i hi a ha).1, ← (H.un i hi c hc).1, h]
theorem Rel.none (H : Rel R m sp Q b) {k : ByteArray} : m k = Option.none ↔ ∀ i, i < 3 → k ∉ Q i := by
  rw [H.spot k]
  unfold spOf
  constructor
  · intro h i hi
    split at h
    · rename_i h0
      have : i = 0 ∨ i = 1 ∨ i = 2 := by omega
      rcases this with e | e | e <;> subst e
      · exact (H.zero (by omega)).1 h0.1
      · exact (H.zero (by omega)).1 h0.2.1
      · exact (H.zero (by omega)).1 h0.2.2
    · cases h
  · intro h
    rw [if_pos ⟨(H.zero (by omega)).2 (h 0 (by omega)), (H.zero (by omega)).2 (h 1 (by omega)), (H.zero (by omega)).2 (h 2 (by omega))⟩]
/-- a key becomes the last of list i, where it did not stand -/
theorem Rel.lay (H : Rel R m sp Q b) {k : ByteArray} {i : Nat} (hi : i < 3) (hn : sp k i = 0) (hs : k.size ≤ 1000) (hh : Ls.handOf (R i).free (R i).n ∉ (R i).row) (h0 : Ls.handOf (R i).free (R i).n ≠ 0) (hb : Ls.moreOf (R i).free (R i).n ≤ b) :
    Rel (fun j => if j = i then { R i with row := (R i).row ++ [Ls.handOf (R i).free (R i).n], free := (R i).free.tail, va := Ls.upd (R i).va (Ls.handOf (R i).free (R i).n) k, n := Ls.moreOf (R i).free (R i).n } else R j)
      (Ix.put m k (.some (trip (spu sp k i (Ls.handOf (R i).free (R i).n)) k))) (spu sp k i (Ls.handOf (R i).free (R i).n)) (fun j => if j = i then Q j ++ [k] else Q j) b := by
  obtain ⟨hd, hhd⟩ : ∃ hd, hd = Ls.handOf (R i).free (R i).n := ⟨_, rfl⟩
  rw [← hhd] at hh h0 ⊢
  have hno : k ∉ Q i := (H.zero hi).1 hn
  have hva : ∀ a ∈ (R i).row, Ls.upd (R i).va hd k a = (R i).va a := fun a ha => Ls.upd_far _ _ (by rintro rfl; exact hh ha)
  have hkey : ∀ a ∈ (R i).row, (R i).va a ≠ k := fun a ha e => hno (by rw [← H.keys i hi]; exact List.mem_map.2 ⟨a, ha, e⟩)
  constructor
  · intro j hj
    by_cases e : j = i
    · subst e
      simp only [if_true, List.map_append, List.map_cons, List.map_nil, Ls.upd_same]
      rw [List.map_congr_left hva, H.keys j hj]
    · simp only [if_neg e]
      exact H.keys j hj
  · intro k'
    by_cases hk : k' = k
    · subst hk
      rw [Ix.put_same]
      unfold spOf
      rw [if_neg]
      rintro ⟨e0, e1, e2⟩
      have : spu sp k' i hd k' i = 0 := by
        have : i = 0 ∨ i = 1 ∨ i = 2 := by omega
        rcases this with e | e | e <;> subst e <;> assumption
      rw [spu_same] at this
      exact h0 this
    · rw [Ix.put_far hk, spOf_key hk, H.spot]
  · intro k' j hj hne
    by_cases e : j = i
    · subst e
      simp only [if_true]
      by_cases hk : k' = k
      · subst hk
        rw [spu_same]
        exact ⟨by simp, Ls.upd_same _ _ _⟩
      · rw [spu_key hk] at hne ⊢
        obtain ⟨h1, h2⟩ := H.at_ k' j hj hne
        exact ⟨List.mem_append_left _ h1, by rw [hva _ h1]; exact h2⟩
    · rw [spu_row e] at hne ⊢
      simp only [if_neg e]
      exact H.at_ k' j hj hne
  · intro j hj h hm
    by_cases e : j = i
    · subst e
      simp only [if_true, List.mem_append, List.mem_singleton] at hm ⊢
      rcases hm with hm | hm
      · rw [hva h hm, spu_key (hkey h hm)]
        exact H.un j hj h hm
      · subst hm
        rw [Ls.upd_same, spu_same]
        exact ⟨rfl, h0⟩
    · simp only [if_neg e] at hm ⊢
      rw [spu_row e]
      exact H.un j hj h hm
  · intro j hj
    by_cases e : j = i
    · subst e
      simp only [if_true]
      exact hb
    · simp only [if_neg e]
      exact H.few j hj
  · intro j hj k' hk'
    by_cases e : j = i
    · subst e
      simp only [if_true, List.mem_append, List.mem_singleton] at hk'
      rcases hk' with h | h
      · exact H.size j hj k' h
      · subst h; exact hs
    · simp only [if_neg e] at hk'
      exact H.size j hj k' hk'
  · intro j hj
    by_cases e : j = i
    · subst e
      simp only [if_true]
      rw [List.nodup_append]
      refine ⟨H.nodup j hj, by simp, ?_⟩
      intro a ha b' hb'
      simp at hb'
      subst hb'
      rintro rfl
      exact hh ha
    · simp only [if_neg e]
      exact H.nodup j hj
/-- where a key stands in a list, and what is left without it -/
theorem Rel.split (H : Rel R m sp Q b) {k : ByteArray} {i : Nat} (hi : i < 3) (hn : sp k i ≠ 0) {l r : List Nat} (hr : (R i).row = l ++ sp k i :: r) :
    (∀ a ∈ l ++ r, (R i).va a ≠ k ∧ a ≠ sp k i ∧ a ∈ (R i).row) ∧ (l ++ r).Nodup ∧ A.cut (Q i) k = (l ++ r).map (R i).va := by
  obtain ⟨hin, hv⟩ := H.at_ k i hi hn
  have hnd := H.nodup i hi
  rw [hr] at hnd
  have hnd2 := (List.perm_middle.nodup_iff.1 hnd)
  rw [List.nodup_cons] at hnd2
  have hne : ∀ a ∈ l ++ r, a ≠ sp k i := fun a ha e => hnd2.1 (e ▸ ha)
  have hmem : ∀ a ∈ l ++ r, a ∈ (R i).row := fun a ha => by rw [hr]; simp at ha ⊢; rcases ha with h | h <;> simp [h]
  have hkey : ∀ a ∈ l ++ r, (R i).va a ≠ k := fun a ha e => by
    have := (H.un i hi a (hmem a ha)).1
    rw [e] at this
    exact hne a ha this.symm
  refine ⟨fun a ha => ⟨hkey a ha, hne a ha, hmem a ha⟩, hnd2.2, ?_⟩
  rw [← H.keys i hi, hr]
  unfold A.cut
  rw [List.map_append, List.map_append, List.map_cons, List.filter_append, List.filter_cons, if_neg (by simp [hv])]
  rw [List.filter_eq_self.2, List.filter_eq_self.2]
  · intro y hy
    obtain ⟨a, ha, rfl⟩ := List.mem_map.1 hy
    simpa using hkey a (by simp [ha])
  · intro y hy
    obtain ⟨a, ha, rfl⟩ := List.mem_map.1 hy
    simpa using hkey a (by simp [ha])
/-- a key that stands in list i becomes its last -/
theorem Rel.touch (H : Rel R m sp Q b) {k : ByteArray} {i : Nat} (hi : i < 3) (hn : sp k i ≠ 0) {l r : List Nat} (hr : (R i).row = l ++ sp k i :: r) :
    Rel (fun j => if j = i then { R i with row := l ++ r ++ [sp k i] } else R j) m sp (fun j => if j = i then A.cut (Q j) k ++ [k] else Q j) b := by
  obtain ⟨hs, hnd, hc⟩ := H.split hi hn hr
  obtain ⟨hin, hv⟩ := H.at_ k i hi hn
  have hmem : ∀ a, a ∈ l ++ r ++ [sp k i] ↔ a ∈ (R i).row := by
    intro a
    rw [hr]
    simp only [List.mem_append, List.mem_cons, List.not_mem_nil, or_false]
    constructor
    · rintro ((h | h) | h)
      · exact .inl h
      · exact .inr (.inr h)
      · exact .inr (.inl h)
    · rintro (h | h | h)
      · exact .inl (.inl h)
      · exact .inr h
      · exact .inl (.inr h)
  constructor
  · intro j hj
    by_cases e : j = i
    · subst e
      simp only [if_true]
      rw [List.map_append, hc, List.map_cons, List.map_nil, hv]
    · simp only [if_neg e]
      exact H.keys j hj
  · exact H.spot
  · intro k' j hj hne
    by_cases e : j = i
    · subst e
      simp only [if_true]
      rw [hmem]
      exact H.at_ k' j hj hne
    · simp only [if_neg e]
      exact H.at_ k' j hj hne
  · intro j hj h hm
    by_cases e : j = i
    · subst e
      simp only [if_true] at hm ⊢
      rw [hmem] at hm
      exact H.un j hj h hm
    · simp only [if_neg e] at hm ⊢
      exact H.un j hj h hm
  · intro j hj
    by_cases e : j = i
    · subst e
      simp only [if_true]
      exact H.few j hj
    · simp only [if_neg e]
      exact H.few j hj
  · intro j hj k' hk'
    by_cases e : j = i
    · subst e
      simp only [if_true, List.mem_append, List.mem_singleton] at hk'
      refine H.size j hj k' ?_
      rcases hk' with h | h
      · exact (List.mem_filter.1 h).1
      · rw [h, ← H.keys j hj]
        exact List.mem_map.2 ⟨_, hin, hv⟩
    · simp only [if_neg e] at hk'
      exact H.size j hj k' hk'
  · intro j hj
    by_cases e : j = i
    · subst e
      simp only [if_true]
      rw [List.nodup_append]
      refine ⟨hnd, by simp, ?_⟩
      intro a ha b' hb'
      simp at hb'
      subst hb'
      exact (hs a ha).2.1
    · simp only [if_neg e]
      exact H.nodup j hj
/-- a key leaves list i -/
theorem Rel.leave (H : Rel R m sp Q b) {k : ByteArray} {i : Nat} (hi : i < 3) (hn : sp k i ≠ 0) {l r : List Nat} (hr : (R i).row = l ++ sp k i :: r) :
    Rel (fun j => if j = i then { R i with row := l ++ r, free := sp k i :: (R i).free, va := Ls.upd (R i).va (sp k i) ⟨#[]⟩ } else R j) (Ix.put m k (spOf (spu sp k i 0) k)) (spu sp k i 0) (fun j => if j = i then A.cut (Q j) k else Q j) b := by
  obtain ⟨hs, hnd, hc⟩ := H.split hi hn hr
  have hva : ∀ a ∈ l ++ r, Ls.upd (R i).va (sp k i) ⟨#[]⟩ a = (R i).va a := fun a ha => Ls.upd_far _ _ (hs a ha).2.1
  constructor
  · intro j hj
    by_cases e : j = i
    · subst e
      simp only [if_true]
      rw [List.map_congr_left hva, hc]
    · simp only [if_neg e]
      exact H.keys j hj
  · intro k'
    by_cases hk : k' = k
    · subst hk
      rw [Ix.put_same]
    · rw [Ix.put_far hk, spOf_key hk, H.spot]
  · intro k' j hj hne
    by_cases e : j = i
    · subst e
      simp only [if_true]
      by_cases hk : k' = k
      · subst hk
        rw [spu_same] at hne
        exact absurd rfl hne
      · rw [spu_key hk] at hne ⊢
        obtain ⟨h1, h2⟩ := H.at_ k' j hj hne
        have hx : sp k' j ∈ l ++ r := by
          rw [hr] at h1
          simp only [List.mem_append, List.mem_cons] at h1 ⊢
          rcases h1 with h | h | h
          · exact .inl h
          · rw [h] at h2
            exact absurd (h2.symm.trans (H.at_ k j hj hn).2) hk
          · exact .inr h
        exact ⟨hx, by rw [hva _ hx]; exact h2⟩
    · rw [spu_row e] at hne ⊢
      simp only [if_neg e]
      exact H.at_ k' j hj hne
  · intro j hj h hm
    by_cases e : j = i
    · subst e
      simp only [if_true] at hm ⊢
      rw [hva h hm, spu_key (hs h hm).1]
      exact H.un j hj h (hs h hm).2.2
    · simp only [if_neg e] at hm ⊢
      rw [spu_row e]
      exact H.un j hj h hm
  · intro j hj
    by_cases e : j = i
    · subst e
      simp only [if_true]
      exact H.few j hj
    · simp only [if_neg e]
      exact H.few j hj
  · intro j hj k' hk'
    by_cases e : j = i
    · subst e
      simp only [if_true] at hk'
      exact H.size j hj k' (List.mem_filter.1 hk').1
    · simp only [if_neg e] at hk'
      exact H.size j hj k' hk'
  · intro j hj
    by_cases e : j = i
    · subst e
      simp only [if_true]
      exact hnd
    · simp only [if_neg e]
      exact H.nodup j hj
end
theorem nodup_len : ∀ {l m : List ByteArray}, l.Nodup → (∀ k ∈ l, k ∈ m) → l.length ≤ m.length
  | [], _, _, _ => Nat.zero_le _
  | x :: l, m, hn, hs => by
    rw [List.nodup_cons] at hn
    obtain ⟨a, b, rfl⟩ := List.append_of_mem (hs x (by simp))
    have := nodup_len (l := l) (m := a ++ b) hn.2 (fun k hk => by
      have h1 := hs k (by simp [hk])
      simp only [List.mem_append, List.mem_cons] at h1 ⊢
      rcases h1 with h1 | h1 | h1
      · exact .inl h1
      · subst h1; exact absurd hk hn.1
      · exact .inr h1)
    simp at this ⊢
    omega
theorem Rel.fits {R : Nat → Li} {m : ByteArray → Option Ix.Sp} {sp : ByteArray → Nat → Nat} {Q : Nat → List ByteArray} {b : Nat} (H : Rel R m sp Q b) (l : List ByteArray) (hn : l.Nodup) (hs : ∀ k ∈ l, m k ≠ Option.none) : l.length ≤ (Q 0).length + (Q 1).length + (Q 2).length := by
  have := nodup_len (m := Q 0 ++ Q 1 ++ Q 2) hn (fun k hk => by
    have h1 := hs k hk
    rcases Classical.em (k ∈ Q 0 ++ Q 1 ++ Q 2) with h2 | h2
    · exact h2
    · refine absurd (H.none.2 (fun i hi hm => h2 ?_)) h1
      have : i = 0 ∨ i = 1 ∨ i = 2 := by omega
      rcases this with e | e | e <;> subst e <;> simp [hm])
  simp at this
  omega
/-- an engine in memory: three rows of keys; no more than b places were ever laid -/
def EN (D : Nat → Prop) (w : World) (e c : Nat) (Q : Nat → List ByteArray) (b : Nat) : Prop := ∃ L R x m sp, EnIn D L w e c R x m b ∧ Rel R m sp Q b
section
variable {D D' : Nat → Prop} {w w' : World} {e c : Nat} {Q : Nat → List ByteArray} {b : Nat}
theorem EN.below (H : EN D w e c Q b) (hb : Below w.heap.size w w') : EN D w' e c Q b := by
  obtain ⟨L, R, x, m, sp, h, r⟩ := H; exact ⟨L, R, x, m, sp, h.below hb, r⟩
theorem EN.later (hb : Below w.heap.size w w') (H : EN D w e c Q b) : EN D w' e c Q b := H.below hb
theorem EN.kept (H : EN D w e c Q b) (hk : Keeps D' w w') (hd : ∀ k, k < w.heap.size → D k → ¬ D' k) : EN D w' e c Q b := by
  obtain ⟨L, R, x, m, sp, h, r⟩ := H; exact ⟨L, R, x, m, sp, h.kept hk hd, r⟩
theorem EN.wide (H : EN D w e c Q b) (hD : ∀ k, k < w.heap.size → D k → D' k) : EN D' w e c Q b := by
  obtain ⟨L, R, x, m, sp, h, r⟩ := H; exact ⟨L, R, x, m, sp, h.wide hD, r⟩
theorem EN.cells (H : EN D w e c Q b) : w.cell? ⟨e, 0, none⟩ = some (.int .i64 (c : Nat)) ∧ w.frozen? ⟨e, 0, none⟩ = false ∧ w.frozen? ⟨e, 1, none⟩ = false ∧ e < w.heap.size ∧ ∃ x, w.cell? ⟨e, 4, none⟩ = some (.pointer (some ⟨x, 0, none⟩)) := by
  obtain ⟨L, R, x, m, sp, h, r⟩ := H
  obtain ⟨h0, h1, h2, h3, h4⟩ := h.cells
  exact ⟨h0, h1, h3, h4, x, h2⟩
theorem EN.congr {Q' : Nat → List ByteArray} (H : EN D w e c Q b) (h : ∀ i, i < 3 → Q' i = Q i) : EN D w e c Q' b := by
  obtain ⟨L, R, x, m, sp, h1, r⟩ := H
  exact ⟨L, R, x, m, sp, h1, fun i hi => (r.keys i hi).trans (h i hi).symm, r.spot, r.at_, r.un, r.few, fun i hi k hk => r.size i hi k (by rw [← h i hi]; exact hk), r.nodup⟩
theorem EN.de (H : EN D w e c Q b) : D e := by
  obtain ⟨L, R, x, m, sp, h, r⟩ := H; exact h.de
theorem EN.size (H : EN D w e c Q b) {i : Nat} (hi : i < 3) {k : ByteArray} (hk : k ∈ Q i) : k.size ≤ 1000 := by
  obtain ⟨L, R, x, m, sp, h, r⟩ := H; exact r.size i hi k hk
theorem EN.once (H : EN D w e c Q b) {i : Nat} (hi : i < 3) : (Q i).Nodup := by
  obtain ⟨L, R, x, m, sp, h, r⟩ := H; exact r.once hi
theorem EN.alloc (H : EN D w e c Q b) (o : Obj) : EN D (w.alloc o) e c Q b := H.below ((Below.refl _ w).alloc (Nat.le_refl _) o)
theorem EN.drew (H : EN D w e c Q b) : EN D w.drew e c Q b := H.kept (D' := fun _ => False) (Keeps.refl _ w).drew (fun _ _ _ e => e)
theorem EN.drewN (H : EN D w e c Q b) (q : Nat) : EN D (w.drewN q) e c Q b := H.kept (D' := fun _ => False) ((Keeps.refl _ w).drewN q) (fun _ _ _ e => e)
end
end Go.Proofs.Ytcbaalodhgkgmaa
