/- A ghost in memory: its struct, its list, its index, each in blocks of its own; what they say: a row of keys. -/
import Derived.Test.YtdiggfiapbifpaaLc
import Derived.Test.YtdiggfiapbifpaaIe
import Derived.Test.YtdiggfiapbifpaaGp
namespace Go.Proofs.Ytdiggfiapbifpaa
open Go.RowKit

namespace Ls
theorem LA.hand {α : Type} {V : α → Value} {te tl : TypeId} {B : Nat → Prop} {w : World} {p : Nat} {row free : List Nat} {va : Nat → α} {n : Nat} (h : LA V te tl B w p row free va n) : handOf free n ∉ row ∧ row.Nodup := by
  obtain ⟨s, _, R, _, rfl⟩ := h
  obtain ⟨_, h1, _, _⟩ := R.hand_new
  rw [← R.more.2]
  exact ⟨fun e => h1 (by simp [e]), (List.nodup_append.1 R.nodup).1⟩
end Ls
theorem below_trans' {a b c : World} (h : Below a.heap.size a b) (k : Below b.heap.size b c) : Below a.heap.size a c :=
  ((Keeps.of_below (D := fun _ => False) h).trans (Keeps.of_below k)).below (Nat.le_refl _) (fun _ e => e.elim)
theorem split_mem {l : List Nat} {h : Nat} (hm : h ∈ l) : ∃ a r, l = a ++ h :: r := by
  obtain ⟨a, r, e⟩ := List.append_of_mem hm
  exact ⟨a, r, e⟩
/-- a list's state -/
structure Li where
  pr : Nat
  row : List Nat
  free : List Nat
  va : Nat → ByteArray
  n : Nat
abbrev LiAt (D : Nat → Prop) (w : World) (l : Li) : Prop := Ls.LA Value.string 72 62 D w l.pr l.row l.free l.va l.n
abbrev XAt (D : Nat → Prop) (w : World) (x : Nat) (m : ByteArray → Option Int) (b : Nat) : Prop := Ix.IX Ix.V 67 65 D w x m b
/-- L tells whose a block is: 0 the list's, 1 the index's, 2 the struct's -/
structure GhIn (D : Nat → Prop) (L : Nat → Nat) (w : World) (e c : Nat) (R : Li) (x : Nat) (m : ByteArray → Option Int) (b : Nat) : Prop where
  de : D e
  le : L e = 2
  top : w.heap[e]? = some (.cells #[.int .i64 (c : Nat), .pointer (some ⟨R.pr, 0, none⟩), .pointer (some ⟨x, 0, none⟩)] 49 (0, 0))
  li : LiAt (fun k => D k ∧ L k = 0) w R
  ix : XAt (fun k => D k ∧ L k = 1) w x m b
/-- new blocks are i's -/
def nlab (L : Nat → Nat) (n i : Nat) : Nat → Nat := fun g => if g < n then L g else i
theorem nlab_old {L : Nat → Nat} {n i g : Nat} (h : g < n) : nlab L n i g = L g := by simp [nlab, h]
theorem nlab_new {L : Nat → Nat} {n i g : Nat} (h : n ≤ g) : nlab L n i g = i := by simp [nlab, show ¬ g < n by omega]
section
variable {D D' : Nat → Prop} {L : Nat → Nat} {w w' : World} {e c : Nat} {R : Li} {x : Nat} {m m' : ByteArray → Option Int} {b b' : Nat} {l : Li}
theorem GhIn.cells (H : GhIn D L w e c R x m b) :
    w.cell? ⟨e, 0, none⟩ = some (.int .i64 (c : Nat)) ∧ w.cell? ⟨e, 1, none⟩ = some (.pointer (some ⟨R.pr, 0, none⟩)) ∧ w.cell? ⟨e, 2, none⟩ = some (.pointer (some ⟨x, 0, none⟩)) ∧ e < w.heap.size := by
  have h := H.top
  refine ⟨?_, ?_, ?_, lt_of_block h⟩ <;> (rw [cell_of_block h]; rfl)
theorem LiAt.old {D D' : Nat → Prop} {w w' : World} {l : Li} (h : LiAt D w l) (hk : Keeps D' w w') (hd : ∀ k, k < w.heap.size → D k → ¬ D' k) : LiAt (fun k => D k ∧ k < w.heap.size) w' l :=
  (Ls.LA.narrow h).kept hk (fun k e => hd k e.2 e.1)
theorem XAt.old {D D' : Nat → Prop} {w w' : World} (h : XAt D w x m b) (hk : Keeps D' w w') (hd : ∀ k, k < w.heap.size → D k → ¬ D' k) : XAt (fun k => D k ∧ k < w.heap.size) w' x m b :=
  (Ix.IX.narrow h).kept hk (fun k e => hd k e.2 e.1)
theorem GhIn.kept (H : GhIn D L w e c R x m b) (hk : Keeps D' w w') (hd : ∀ k, k < w.heap.size → D k → ¬ D' k) : GhIn D L w' e c R x m b :=
  ⟨H.de, H.le, (hk.block e (lt_of_block H.top) (hd _ (lt_of_block H.top) H.de)).trans H.top, (LiAt.old H.li hk (fun k a h => hd k a h.1)).wide (fun _ h => h.1), (XAt.old H.ix hk (fun k a h => hd k a h.1)).wide (fun _ h => h.1)⟩
theorem GhIn.below (H : GhIn D L w e c R x m b) (hb : Below w.heap.size w w') : GhIn D L w' e c R x m b := H.kept (D' := fun _ => False) (.of_below hb) (fun _ _ _ e => e)
theorem GhIn.wide (H : GhIn D L w e c R x m b) (hD : ∀ k, k < w.heap.size → D k → D' k) : GhIn D' L w e c R x m b :=
  ⟨hD _ (lt_of_block H.top) H.de, H.le, H.top, (Ls.LA.narrow H.li).wide (fun k h => ⟨hD k h.2 h.1.1, h.1.2⟩), (Ix.IX.narrow H.ix).wide (fun k h => ⟨hD k h.2 h.1.1, h.1.2⟩)⟩
/-- what may be handed to the list's or the index's own functions -/
def own (D : Nat → Prop) (L : Nat → Nat) (n i : Nat) : Nat → Prop := fun k => (D k ∧ L k = i) ∨ n ≤ k
theorem own_new (D : Nat → Prop) (L : Nat → Nat) (n i : Nat) : ∀ k, n ≤ k → own D L n i k := fun _ h => .inr h
theorem GhIn.list (H : GhIn D L w e c R x m b) : LiAt (own D L w.heap.size 0) w R := Ls.LA.wide H.li (fun _ h => .inl h)
theorem GhIn.index (H : GhIn D L w e c R x m b) : XAt (own D L w.heap.size 1) w x m b := Ix.IX.wide H.ix (fun _ h => .inl h)
theorem nlab_own (hD : ∀ k, w.heap.size ≤ k → D k) {i k : Nat} (h : own D L w.heap.size i k) : D k ∧ nlab L w.heap.size i k = i := by
  rcases Nat.lt_or_ge k w.heap.size with hk | hk
  · rw [nlab_old hk]
    rcases h with h | h
    · exact h
    · omega
  · exact ⟨hD k hk, nlab_new hk⟩
theorem own_not {i j k : Nat} (hij : j ≠ i) (hk : k < w.heap.size) (h : D k ∧ L k = j) : ¬ own D L w.heap.size i k := by
  rintro (h2 | h2)
  · exact hij (h.2.symm.trans h2.2)
  · omega
/-- the list is another one -/
theorem GhIn.putL (H : GhIn D L w e c R x m b) (hD : ∀ k, w.heap.size ≤ k → D k) (hk : Keeps (own D L w.heap.size 0) w w') (hl : LiAt (own D L w.heap.size 0) w' l) (hp : l.pr = R.pr) :
    GhIn D (nlab L w.heap.size 0) w' e c l x m b := by
  have he := lt_of_block H.top
  refine ⟨H.de, by rw [nlab_old he]; exact H.le, ?_, Ls.LA.wide hl (fun k h => nlab_own hD h), (XAt.old H.ix hk (fun k a h => own_not (by omega) a h)).wide (fun k h => ⟨h.1.1, by rw [nlab_old h.2]; exact h.1.2⟩)⟩
  rw [hk.block e he (own_not (j := 2) (by omega) he ⟨H.de, H.le⟩), H.top, hp]
/-- the index is another one -/
theorem GhIn.putX (H : GhIn D L w e c R x m b) (hD : ∀ k, w.heap.size ≤ k → D k) (hk : Keeps (own D L w.heap.size 1) w w') (hx : XAt (own D L w.heap.size 1) w' x m' b') :
    GhIn D (nlab L w.heap.size 1) w' e c R x m' b' := by
  have he := lt_of_block H.top
  refine ⟨H.de, by rw [nlab_old he]; exact H.le, ?_, (LiAt.old H.li hk (fun k a h => own_not (by omega) a h)).wide (fun k h => ⟨h.1.1, by rw [nlab_old h.2]; exact h.1.2⟩), Ix.IX.wide hx (fun k h => nlab_own hD h)⟩
  rw [hk.block e he (own_not (j := 2) (by omega) he ⟨H.de, H.le⟩), H.top]
theorem own_keeps (hD : ∀ k, w.heap.size ≤ k → D k) {i : Nat} (hk : Keeps (own D L w.heap.size i) w w') : Keeps D w w' := hk.mono (fun _ _ h => (nlab_own (w := w) hD h).1)
end

/-! ### what the list and the index say -/
structure Rel (R : Li) (m : ByteArray → Option Int) (Q : List ByteArray) (b : Nat) : Prop where
  keys : R.row.map R.va = Q
  from_ : ∀ k v, m k = some v → ∃ h : Nat, v = (h : Nat) ∧ h ∈ R.row ∧ R.va h = k
  onto : ∀ h, h ∈ R.row → m (R.va h) = some ((h : Nat) : Int)
  few : R.n ≤ b
  size : ∀ k ∈ Q, k.size ≤ 1000
  nodup : R.row.Nodup
section
variable {R : Li} {m : ByteArray → Option Int} {Q : List ByteArray} {b : Nat}
theorem Rel.none (H : Rel R m Q b) {k : ByteArray} (hk : k ∉ Q) : m k = none := by
  cases hm : m k with
  | none => rfl
  | some v =>
    obtain ⟨h, -, h2, h3⟩ := H.from_ k v hm
    exact absurd (by rw [← H.keys]; exact List.mem_map.2 ⟨h, h2, h3⟩) hk
theorem Rel.some (H : Rel R m Q b) {k : ByteArray} (hk : k ∈ Q) : ∃ h : Nat, m k = some ((h : Nat) : Int) ∧ h ∈ R.row ∧ R.va h = k := by
  rw [← H.keys, List.mem_map] at hk
  obtain ⟨h, h1, h2⟩ := hk
  exact ⟨h, by rw [← h2]; exact H.onto h h1, h1, h2⟩
theorem Rel.inj (H : Rel R m Q b) {i j : Nat} (hi : i ∈ R.row) (hj : j ∈ R.row) (h : R.va i = R.va j) : i = j := by
  have h1 := H.onto i hi
  have h2 := H.onto j hj
  rw [h, h2] at h1
  simp at h1
  omega
theorem Rel.keysNd (H : Rel R m Q b) : Q.Nodup := by
  rw [← H.keys]
  have h1 := H.nodup
  have h2 : ∀ i ∈ R.row, ∀ j ∈ R.row, R.va i = R.va j → i = j := fun i hi j hj h => H.inj hi hj h
  clear H
  generalize R.row = l at *
  induction l with
  | nil => simp
  | cons a l ih =>
    rw [List.nodup_cons] at h1
    rw [List.map_cons, List.nodup_cons]
    refine ⟨?_, ih h1.2 (fun i hi j hj h => h2 i (by simp [hi]) j (by simp [hj]) h)⟩
    intro hm
    obtain ⟨j, hj, e⟩ := List.mem_map.1 hm
    have := h2 j (by simp [hj]) a (by simp) e
    subst this
    exact h1.1 hj
/-- a key that is nowhere is the newest -/
theorem Rel.lay (H : Rel R m Q b) {k : ByteArray} (hn : k ∉ Q) (hs : k.size ≤ 1000) (hh : Ls.handOf R.free R.n ∉ R.row) :
    Rel { R with row := R.row ++ [Ls.handOf R.free R.n], free := R.free.tail, va := Ls.upd R.va (Ls.handOf R.free R.n) k, n := Ls.moreOf R.free R.n } (Ix.put m k (.some ((Ls.handOf R.free R.n : Nat) : Int))) (Q ++ [k]) (b + 1) := by
  have hva : ∀ a ∈ R.row, Ls.upd R.va (Ls.handOf R.free R.n) k a = R.va a := fun a ha => Ls.upd_far _ _ (by rintro rfl; exact hh ha)
  have hne : ∀ a ∈ R.row, R.va a ≠ k := fun a ha e => hn (by rw [← H.keys]; exact List.mem_map.2 ⟨a, ha, e⟩)
  constructor
  · simp only [List.map_append, List.map_cons, List.map_nil, Ls.upd_same]
    rw [List.map_congr_left hva, H.keys]
  · intro k' v hv
    by_cases e : k' = k
    · subst e
      rw [Ix.put_same] at hv
      cases hv
      exact ⟨_, rfl, by simp, by simp [Ls.upd_same]⟩
    · rw [Ix.put_far e] at hv
      obtain ⟨h, h1, h2, h3⟩ := H.from_ k' v hv
      exact ⟨h, h1, by simp [h2], (hva h h2).trans h3⟩
  · intro h hm
    simp only [List.mem_append, List.mem_singleton] at hm
    rcases hm with hm | hm
    · show Ix.put m k _ (Ls.upd R.va _ k h) = _
      rw [hva h hm, Ix.put_far (hne h hm)]
      exact H.onto h hm
    · subst hm
      show Ix.put m k _ (Ls.upd R.va _ k _) = _
      rw [Ls.upd_same, Ix.put_same]
  · have := H.few
    show Ls.moreOf _ _ ≤ _
    unfold Ls.moreOf
    split <;> omega
  · intro k' hk'
    simp only [List.mem_append, List.mem_singleton] at hk'
    rcases hk' with h | h
    · exact H.size k' h
    · subst h; exact hs
  · show (R.row ++ _).Nodup
    rw [List.nodup_append]
    refine ⟨H.nodup, by simp, ?_⟩
    intro a ha b' hb'
    simp at hb'
    subst hb'
    rintro rfl
    exact hh ha
theorem Rel.split (H : Rel R m Q b) {l r : List Nat} {h : Nat} (hr : R.row = l ++ h :: r) : Q = l.map R.va ++ R.va h :: r.map R.va ∧ h ∉ l ++ r ∧ (∀ a ∈ l ++ r, R.va a ≠ R.va h) ∧ (∀ a ∈ l ++ r, a ∈ R.row) := by
  have hnd := H.nodup
  rw [hr] at hnd
  have hnd2 := (List.perm_middle.nodup_iff.1 hnd)
  rw [List.nodup_cons] at hnd2
  have hin : ∀ a ∈ l ++ r, a ∈ R.row := fun a ha => by rw [hr]; simp at ha ⊢; rcases ha with h | h <;> simp [h]
  refine ⟨?_, hnd2.1, ?_, hin⟩
  · have := H.keys
    rw [hr] at this
    rw [← this]; simp
  · intro a ha e
    have := H.inj (hin a ha) (by rw [hr]; simp) e
    subst this
    exact hnd2.1 ha
theorem Rel.cut (H : Rel R m Q b) {l r : List Nat} {h : Nat} (hr : R.row = l ++ h :: r) : G.cut Q (R.va h) = (l ++ r).map R.va := by
  obtain ⟨h1, h2, h3, h4⟩ := H.split hr
  rw [h1, G.cut_mid, List.map_append]
  · intro hm
    obtain ⟨a, ha, e⟩ := List.mem_map.1 hm
    exact h3 a (by simp [ha]) e
  · intro hm
    obtain ⟨a, ha, e⟩ := List.mem_map.1 hm
    exact h3 a (by simp [ha]) e
/-- a key goes to the back -/
theorem Rel.back (H : Rel R m Q b) {k : ByteArray} {h : Nat} {l r : List Nat} (hr : R.row = l ++ h :: r) (hv : R.va h = k) : Rel { R with row := l ++ r ++ [h] } m (G.laid Q k) b := by
  subst hv
  have hc := H.cut hr
  obtain ⟨h1, h2, h3, h4⟩ := H.split hr
  have hin : ∀ a, a ∈ l ++ r ++ [h] ↔ a ∈ R.row := by intro a; rw [hr]; simp; constructor <;> (intro h; rcases h with h | h | h <;> simp [h])
  constructor
  · show (l ++ r ++ [h]).map R.va = _
    unfold G.laid
    rw [hc]; simp
  · intro k' v hv
    obtain ⟨a, a1, a2, a3⟩ := H.from_ k' v hv
    exact ⟨a, a1, (hin a).2 a2, a3⟩
  · intro a ha
    exact H.onto a ((hin a).1 ha)
  · exact H.few
  · intro k' hk'
    unfold G.laid at hk'
    simp only [List.mem_append, List.mem_singleton] at hk'
    rcases hk' with h | h
    · exact H.size k' (G.mem_cut.1 h).1
    · subst h; exact H.size _ (by rw [h1]; simp)
  · show (l ++ r ++ [h]).Nodup
    have hnd := H.nodup
    rw [hr] at hnd
    have := (List.perm_middle.nodup_iff.1 hnd)
    rw [List.nodup_cons] at this
    rw [List.nodup_append]
    refine ⟨this.2, by simp, ?_⟩
    intro a ha b' hb' e
    simp at hb'
    subst hb'
    subst e
    exact h2 ha
/-- a key leaves -/
theorem Rel.take (H : Rel R m Q b) {k : ByteArray} {h : Nat} {l r : List Nat} (hr : R.row = l ++ h :: r) (hv : R.va h = k) :
    Rel { R with row := l ++ r, free := h :: R.free, va := Ls.upd R.va h ⟨#[]⟩ } (Ix.put m k Option.none) (G.cut Q k) b := by
  subst hv
  have hc := H.cut hr
  obtain ⟨h1, h2, h3, h4⟩ := H.split hr
  have hva : ∀ a ∈ l ++ r, Ls.upd R.va h ⟨#[]⟩ a = R.va a := fun a ha => Ls.upd_far _ _ (by rintro rfl; exact h2 ha)
  constructor
  · show (l ++ r).map (Ls.upd R.va h ⟨#[]⟩) = _
    rw [List.map_congr_left hva, hc]
  · intro k' v hv
    by_cases e : k' = R.va h
    · subst e
      rw [Ix.put_same] at hv
      cases hv
    · rw [Ix.put_far e] at hv
      obtain ⟨a, a1, a2, a3⟩ := H.from_ k' v hv
      have ha : a ∈ l ++ r := by
        rw [hr] at a2
        simp at a2 ⊢
        rcases a2 with h | h | h
        · exact .inl h
        · subst h; exact absurd a3.symm e
        · exact .inr h
      exact ⟨a, a1, ha, (hva a ha).trans a3⟩
  · intro a ha
    have ha : a ∈ l ++ r := ha
    show Ix.put m (R.va h) Option.none (Ls.upd R.va h ⟨#[]⟩ a) = _
    rw [hva a ha, Ix.put_far (h3 a ha)]
    exact H.onto a (h4 a ha)
  · exact H.few
  · intro k' hk'
    exact H.size k' (G.mem_cut.1 hk').1
  · show (l ++ r).Nodup
    have hnd := H.nodup
    rw [hr] at hnd
    exact (List.nodup_cons.1 (List.perm_middle.nodup_iff.1 hnd)).2
theorem Rel.more (H : Rel R m Q b) {b' : Nat} (h : b ≤ b') : Rel R m Q b' := ⟨H.keys, H.from_, H.onto, Nat.le_trans H.few h, H.size, H.nodup⟩
theorem Rel.len (H : Rel R m Q b) : R.row.length = Q.length := by rw [← H.keys]; simp
end
/-- a ghost in memory: a row of keys; no more than b keys were laid -/
def GH (e c b : Nat) (Q : List ByteArray) (D : Nat → Prop) (w : World) : Prop := ∃ L R x m, GhIn D L w e c R x m b ∧ Rel R m Q b
section
variable {D D' : Nat → Prop} {w w' : World} {e c b : Nat} {Q : List ByteArray}
theorem GH.below (H : GH e c b Q D w) (hb : Below w.heap.size w w') : GH e c b Q D w' := by
  obtain ⟨L, R, x, m, h, r⟩ := H; exact ⟨L, R, x, m, h.below hb, r⟩
theorem GH.kept (H : GH e c b Q D w) (hk : Keeps D' w w') (hd : ∀ k, k < w.heap.size → D k → ¬ D' k) : GH e c b Q D w' := by
  obtain ⟨L, R, x, m, h, r⟩ := H; exact ⟨L, R, x, m, h.kept hk hd, r⟩
theorem GH.wide (H : GH e c b Q D w) (hD : ∀ k, k < w.heap.size → D k → D' k) : GH e c b Q D' w := by
  obtain ⟨L, R, x, m, h, r⟩ := H; exact ⟨L, R, x, m, h.wide hD, r⟩
theorem GH.more (H : GH e c b Q D w) {b' : Nat} (hb : b ≤ b') : GH e c b' Q D w := by
  obtain ⟨L, R, x, m, h, r⟩ := H
  exact ⟨L, R, x, m, ⟨h.de, h.le, h.top, h.li, Ix.IX.more h.ix hb⟩, r.more hb⟩
theorem GH.size (H : GH e c b Q D w) {k : ByteArray} (hk : k ∈ Q) : k.size ≤ 1000 := by
  obtain ⟨L, R, x, m, h, r⟩ := H; exact r.size k hk
theorem GH.drew (H : GH e c b Q D w) : GH e c b Q D w.drew := H.kept (D' := fun _ => False) (Keeps.refl _ w).drew (fun _ _ _ e => e)
theorem GH.de (H : GH e c b Q D w) : D e ∧ e < w.heap.size := by
  obtain ⟨L, R, x, m, h, r⟩ := H; exact ⟨h.de, lt_of_block h.top⟩
end
end Go.Proofs.Ytdiggfiapbifpaa
