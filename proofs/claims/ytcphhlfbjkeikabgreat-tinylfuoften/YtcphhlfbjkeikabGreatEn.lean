/- An engine in memory: its struct, its three lists, its index, its Door, its Sketch, each in blocks of its own; what they say: three rows of keys, and how often keys were used. -/
import Derived.Test.YtcphhlfbjkeikabGreatLb
import Derived.Test.YtcphhlfbjkeikabGreatIe
import Derived.Test.YtcphhlfbjkeikabGreatPure
import Derived.Test.YtcphhlfbjkeikabGreatSk
import Derived.Test.YtcphhlfbjkeikabGreatDr
namespace Go.Proofs.YtcphhlfbjkeikabGreat
open Go.RowKit

namespace Ls
theorem LA.hand {α : Type} {V : α → Value} {te tl : TypeId} {B : Nat → Prop} {w : World} {p : Nat} {row free : List Nat} {va : Nat → α} {n : Nat} (h : LA V te tl B w p row free va n) : handOf free n ∉ row ∧ row.Nodup := by
  obtain ⟨s, _, R, _, rfl⟩ := h
  obtain ⟨_, h1, _, _⟩ := R.hand_new
  rw [← R.more.2]
  exact ⟨fun e => h1 (by simp [e]), (List.nodup_append.1 R.nodup).1⟩
end Ls
/-- a list's state -/
structure Li where
  pr : Nat
  row : List Nat
  free : List Nat
  va : Nat → ByteArray
  n : Nat
abbrev LiAt (D : Nat → Prop) (w : World) (l : Li) : Prop := Ls.LA Value.string 113 93 D w l.pr l.row l.free l.va l.n
abbrev XAt (D : Nat → Prop) (w : World) (x : Nat) (m : ByteArray → Option Ix.Sp) (b : Nat) : Prop := Ix.IX 111 82 D w x m b
/-- a Door and a Sketch: where they lie; the bits, the cells, the sum -/
structure Dk where
  pd : Nat
  pk : Nat
  K : Nat
  bs : Nat → Bool
  N : Nat
  ct : Nat → Nat
  sm : Nat
/-- the struct's cells -/
def enc (c : Nat) (R : Nat → Li) (x pd pk : Nat) : Array Value :=
  #[.int .i64 (c : Nat), .pointer (some ⟨(R 0).pr, 0, none⟩), .pointer (some ⟨(R 1).pr, 0, none⟩), .pointer (some ⟨(R 2).pr, 0, none⟩), .pointer (some ⟨x, 0, none⟩), .pointer (some ⟨pd, 0, none⟩), .pointer (some ⟨pk, 0, none⟩)]
/-- L tells whose a block is: 0 to 2 the lists', 4 the index's, 5 the struct's, 6 the Door's, 7 the Sketch's -/
structure EnIn (D : Nat → Prop) (L : Nat → Nat) (w : World) (e c : Nat) (R : Nat → Li) (x : Nat) (m : ByteArray → Option Ix.Sp) (b : Nat) (z : Dk) : Prop where
  de : D e
  le : L e = 5
  top : w.heap[e]? = some (.cells (enc c R x z.pd z.pk) 53 (0, 0))
  li : ∀ i, i < 3 → LiAt (fun k => D k ∧ L k = i) w (R i)
  ix : XAt (fun k => D k ∧ L k = 4) w x m b
  dr : Dr.DR z.pd z.K z.bs (fun k => D k ∧ L k = 6) w
  sk : Sk.SK z.pk z.N z.ct z.sm (fun k => D k ∧ L k = 7) w
/-- new blocks are i's -/
def nlab (L : Nat → Nat) (n i : Nat) : Nat → Nat := fun g => if g < n then L g else i
theorem nlab_old {L : Nat → Nat} {n i g : Nat} (h : g < n) : nlab L n i g = L g := by simp [nlab, h]
theorem nlab_new {L : Nat → Nat} {n i g : Nat} (h : n ≤ g) : nlab L n i g = i := by simp [nlab, show ¬ g < n by omega]
section
variable {D D' : Nat → Prop} {L : Nat → Nat} {w w' : World} {e c : Nat} {R : Nat → Li} {x : Nat} {m m' : ByteArray → Option Ix.Sp} {b b' : Nat} {l : Li} {z : Dk}
theorem EnIn.cells (H : EnIn D L w e c R x m b z) :
    w.cell? ⟨e, 0, none⟩ = some (.int .i64 (c : Nat)) ∧ w.frozen? ⟨e, 0, none⟩ = false ∧ w.cell? ⟨e, 4, none⟩ = some (.pointer (some ⟨x, 0, none⟩)) ∧
    w.frozen? ⟨e, 1, none⟩ = false ∧ e < w.heap.size := by
  have h := H.top
  refine ⟨?_, frozen_of_block h, ?_, frozen_of_block h, lt_of_block h⟩ <;> (rw [cell_of_block h]; rfl)
theorem EnIn.four (H : EnIn D L w e c R x m b z) :
    w.cell? ⟨e, 1, none⟩ = some (.pointer (some ⟨(R 0).pr, 0, none⟩)) ∧ w.cell? ⟨e, 2, none⟩ = some (.pointer (some ⟨(R 1).pr, 0, none⟩)) ∧ w.cell? ⟨e, 3, none⟩ = some (.pointer (some ⟨(R 2).pr, 0, none⟩)) := by
  have h := H.top
  refine ⟨?_, ?_, ?_⟩ <;> (rw [cell_of_block h]; rfl)
theorem EnIn.row (H : EnIn D L w e c R x m b z) {i : Nat} (hi : i < 3) : w.cell? ⟨e, 1 + i, none⟩ = some (.pointer (some ⟨(R i).pr, 0, none⟩)) := by
  obtain ⟨h0, h1, h2⟩ := H.four
  have : i = 0 ∨ i = 1 ∨ i = 2 := by omega
  rcases this with e | e | e <;> subst e <;> assumption
theorem LiAt.old {D D' : Nat → Prop} {w w' : World} {l : Li} (h : LiAt D w l) (hk : Keeps D' w w') (hd : ∀ k, k < w.heap.size → D k → ¬ D' k) : LiAt (fun k => D k ∧ k < w.heap.size) w' l :=
  (Ls.LA.narrow h).kept hk (fun k e => hd k e.2 e.1)
theorem XAt.old {D D' : Nat → Prop} {w w' : World} (h : XAt D w x m b) (hk : Keeps D' w w') (hd : ∀ k, k < w.heap.size → D k → ¬ D' k) : XAt (fun k => D k ∧ k < w.heap.size) w' x m b :=
  (Ix.IX.narrow h).kept hk (fun k e => hd k e.2 e.1)
theorem DrAt.old {p K : Nat} {bs : Nat → Bool} {D D' : Nat → Prop} {w w' : World} (h : Dr.DR p K bs D w) (hk : Keeps D' w w') (hd : ∀ k, k < w.heap.size → D k → ¬ D' k) : Dr.DR p K bs (fun k => D k ∧ k < w.heap.size) w' := by
  obtain ⟨v, f, e, g, h⟩ := h
  exact ⟨v, f, e, g, h.narrow.kept hk (fun k e => hd k e.2 e.1)⟩
theorem DrAt.wide {p K : Nat} {bs : Nat → Bool} {D D' : Nat → Prop} {w : World} (h : Dr.DR p K bs D w) (hD : ∀ k, k < w.heap.size → D k → D' k) : Dr.DR p K bs D' w := by
  obtain ⟨v, f, e, g, h⟩ := h
  exact ⟨v, f, e, g, h.narrow.wide (fun k e => hD k e.2 e.1)⟩
theorem SkAt.old {p N s : Nat} {c : Nat → Nat} {D D' : Nat → Prop} {w w' : World} (h : Sk.SK p N c s D w) (hk : Keeps D' w w') (hd : ∀ k, k < w.heap.size → D k → ¬ D' k) : Sk.SK p N c s (fun k => D k ∧ k < w.heap.size) w' := by
  obtain ⟨f, g, h⟩ := h
  exact ⟨f, g, h.narrow.kept hk (fun k e => hd k e.2 e.1)⟩
theorem SkAt.wide {p N s : Nat} {c : Nat → Nat} {D D' : Nat → Prop} {w : World} (h : Sk.SK p N c s D w) (hD : ∀ k, k < w.heap.size → D k → D' k) : Sk.SK p N c s D' w := by
  obtain ⟨f, g, h⟩ := h
  exact ⟨f, g, h.narrow.wide (fun k e => hD k e.2 e.1)⟩
theorem EnIn.kept (H : EnIn D L w e c R x m b z) (hk : Keeps D' w w') (hd : ∀ k, k < w.heap.size → D k → ¬ D' k) : EnIn D L w' e c R x m b z :=
  ⟨H.de, H.le, (hk.block e (lt_of_block H.top) (hd _ (lt_of_block H.top) H.de)).trans H.top, fun i hi => ((H.li i hi).old hk (fun k a h => hd k a h.1)).wide (fun _ h => h.1), (XAt.old H.ix hk (fun k a h => hd k a h.1)).wide (fun _ h => h.1), DrAt.wide (DrAt.old H.dr hk (fun k a h => hd k a h.1)) (fun _ _ h => h.1), SkAt.wide (SkAt.old H.sk hk (fun k a h => hd k a h.1)) (fun _ _ h => h.1)⟩
theorem EnIn.below (H : EnIn D L w e c R x m b z) (hb : Below w.heap.size w w') : EnIn D L w' e c R x m b z := H.kept (D' := fun _ => False) (.of_below hb) (fun _ _ _ e => e)
theorem EnIn.wide (H : EnIn D L w e c R x m b z) (hD : ∀ k, k < w.heap.size → D k → D' k) : EnIn D' L w e c R x m b z :=
  ⟨hD _ (lt_of_block H.top) H.de, H.le, H.top, fun i hi => (Ls.LA.narrow (H.li i hi)).wide (fun k h => ⟨hD k h.2 h.1.1, h.1.2⟩), (Ix.IX.narrow H.ix).wide (fun k h => ⟨hD k h.2 h.1.1, h.1.2⟩), DrAt.wide H.dr (fun k a h => ⟨hD k a h.1, h.2⟩), SkAt.wide H.sk (fun k a h => ⟨hD k a h.1, h.2⟩)⟩
/-- what may be handed to list i's or the index's own functions -/
def own (D : Nat → Prop) (L : Nat → Nat) (n i : Nat) : Nat → Prop := fun k => (D k ∧ L k = i) ∨ n ≤ k
theorem own_new (D : Nat → Prop) (L : Nat → Nat) (n i : Nat) : ∀ k, n ≤ k → own D L n i k := fun _ h => .inr h
theorem EnIn.list (H : EnIn D L w e c R x m b z) {i : Nat} (hi : i < 3) : LiAt (own D L w.heap.size i) w (R i) := Ls.LA.wide (H.li i hi) (fun _ h => .inl h)
theorem EnIn.index (H : EnIn D L w e c R x m b z) : XAt (own D L w.heap.size 4) w x m b := Ix.IX.wide H.ix (fun _ h => .inl h)
theorem nlab_own (hD : ∀ k, w.heap.size ≤ k → D k) {i k : Nat} (h : own D L w.heap.size i k) : D k ∧ nlab L w.heap.size i k = i := by
  rcases Nat.lt_or_ge k w.heap.size with hk | hk
  · rw [nlab_old hk]
    rcases h with h | h
    · exact h
    · omega
  · exact ⟨hD k hk, nlab_new hk⟩
theorem own_not {i j k : Nat} (hij : j ≠ i) (hk : k < w.heap.size) (h : D k ∧ L k = j) : ¬ own D L w.heap.size i k := by
  rintro (h2 | h2)
  · exact hij (h.2.symm.trans h2.2)
  · omega
/-- list i is another one -/
theorem EnIn.putL (H : EnIn D L w e c R x m b z) (hD : ∀ k, w.heap.size ≤ k → D k) {i : Nat} (hi : i < 3) (hk : Keeps (own D L w.heap.size i) w w') (hl : LiAt (own D L w.heap.size i) w' l) (hp : l.pr = (R i).pr) :
    EnIn D (nlab L w.heap.size i) w' e c (fun j => if j = i then l else R j) x m b z := by
  have he := lt_of_block H.top
  refine ⟨H.de, by rw [nlab_old he]; exact H.le, ?_, fun j hj => ?_, (XAt.old H.ix hk (fun k a h => own_not (by omega) a h)).wide (fun k h => ⟨h.1.1, by rw [nlab_old h.2]; exact h.1.2⟩), DrAt.wide (DrAt.old H.dr hk (fun k a h => own_not (by omega) a h)) (fun k _ h => ⟨h.1.1, by rw [nlab_old h.2]; exact h.1.2⟩), SkAt.wide (SkAt.old H.sk hk (fun k a h => own_not (by omega) a h)) (fun k _ h => ⟨h.1.1, by rw [nlab_old h.2]; exact h.1.2⟩)⟩
  · rw [hk.block e he (own_not (j := 5) (by omega) he ⟨H.de, H.le⟩), H.top]
    have : enc c (fun j => if j = i then l else R j) x z.pd z.pk = enc c R x z.pd z.pk := by
      have : i = 0 ∨ i = 1 ∨ i = 2 := by omega
      rcases this with e | e | e <;> subst e <;> simp [enc, hp]
    rw [this]
  · by_cases hji : j = i
    · subst hji
      rw [if_pos rfl]
      exact Ls.LA.wide hl (fun k h => nlab_own hD h)
    · rw [if_neg hji]
      exact ((H.li j hj).old hk (fun k a h => own_not hji a h)).wide (fun k h => ⟨h.1.1, by rw [nlab_old h.2]; exact h.1.2⟩)
/-- the index is another one -/
theorem EnIn.putX (H : EnIn D L w e c R x m b z) (hD : ∀ k, w.heap.size ≤ k → D k) (hk : Keeps (own D L w.heap.size 4) w w') (hx : XAt (own D L w.heap.size 4) w' x m' b') :
    EnIn D (nlab L w.heap.size 4) w' e c R x m' b' z := by
  have he := lt_of_block H.top
  refine ⟨H.de, by rw [nlab_old he]; exact H.le, ?_, fun j hj => ?_, Ix.IX.wide hx (fun k h => nlab_own hD h), DrAt.wide (DrAt.old H.dr hk (fun k a h => own_not (by omega) a h)) (fun k _ h => ⟨h.1.1, by rw [nlab_old h.2]; exact h.1.2⟩), SkAt.wide (SkAt.old H.sk hk (fun k a h => own_not (by omega) a h)) (fun k _ h => ⟨h.1.1, by rw [nlab_old h.2]; exact h.1.2⟩)⟩
  · rw [hk.block e he (own_not (j := 5) (by omega) he ⟨H.de, H.le⟩), H.top]
  · exact ((H.li j hj).old hk (fun k a h => own_not (by omega) a h)).wide (fun k h => ⟨h.1.1, by rw [nlab_old h.2]; exact h.1.2⟩)
/-- the Door is another one -/
theorem EnIn.putD (H : EnIn D L w e c R x m b z) (hD : ∀ k, w.heap.size ≤ k → D k) (hk : Keeps (own D L w.heap.size 6) w w') {bs : Nat → Bool} (hd : Dr.DR z.pd z.K bs (own D L w.heap.size 6) w') :
    EnIn D (nlab L w.heap.size 6) w' e c R x m b { z with bs := bs } := by
  have he := lt_of_block H.top
  refine ⟨H.de, by rw [nlab_old he]; exact H.le, ?_, fun j hj => ?_, (XAt.old H.ix hk (fun k a h => own_not (by omega) a h)).wide (fun k h => ⟨h.1.1, by rw [nlab_old h.2]; exact h.1.2⟩), DrAt.wide hd (fun k _ h => nlab_own hD h), SkAt.wide (SkAt.old H.sk hk (fun k a h => own_not (by omega) a h)) (fun k _ h => ⟨h.1.1, by rw [nlab_old h.2]; exact h.1.2⟩)⟩
  · rw [hk.block e he (own_not (j := 5) (by omega) he ⟨H.de, H.le⟩), H.top]
  · exact ((H.li j hj).old hk (fun k a h => own_not (by omega) a h)).wide (fun k h => ⟨h.1.1, by rw [nlab_old h.2]; exact h.1.2⟩)
/-- the Sketch is another one -/
theorem EnIn.putK (H : EnIn D L w e c R x m b z) (hD : ∀ k, w.heap.size ≤ k → D k) (hk : Keeps (own D L w.heap.size 7) w w') {ct : Nat → Nat} {sm : Nat} (hs : Sk.SK z.pk z.N ct sm (own D L w.heap.size 7) w') :
    EnIn D (nlab L w.heap.size 7) w' e c R x m b { z with ct := ct, sm := sm } := by
  have he := lt_of_block H.top
  refine ⟨H.de, by rw [nlab_old he]; exact H.le, ?_, fun j hj => ?_, (XAt.old H.ix hk (fun k a h => own_not (by omega) a h)).wide (fun k h => ⟨h.1.1, by rw [nlab_old h.2]; exact h.1.2⟩), DrAt.wide (DrAt.old H.dr hk (fun k a h => own_not (by omega) a h)) (fun k _ h => ⟨h.1.1, by rw [nlab_old h.2]; exact h.1.2⟩), SkAt.wide hs (fun k _ h => nlab_own hD h)⟩
  · rw [hk.block e he (own_not (j := 5) (by omega) he ⟨H.de, H.le⟩), H.top]
  · exact ((H.li j hj).old hk (fun k a h => own_not (by omega) a h)).wide (fun k h => ⟨h.1.1, by rw [nlab_old h.2]; exact h.1.2⟩)
theorem EnIn.door (H : EnIn D L w e c R x m b z) : Dr.DR z.pd z.K z.bs (own D L w.heap.size 6) w := DrAt.wide H.dr (fun _ _ h => .inl h)
theorem EnIn.sketch (H : EnIn D L w e c R x m b z) : Sk.SK z.pk z.N z.ct z.sm (own D L w.heap.size 7) w := SkAt.wide H.sk (fun _ _ h => .inl h)
theorem EnIn.two (H : EnIn D L w e c R x m b z) : w.cell? ⟨e, 5, none⟩ = some (.pointer (some ⟨z.pd, 0, none⟩)) ∧ w.cell? ⟨e, 6, none⟩ = some (.pointer (some ⟨z.pk, 0, none⟩)) := by
  have h := H.top
  refine ⟨?_, ?_⟩ <;> (rw [cell_of_block h]; rfl)
theorem own_keeps (hD : ∀ k, w.heap.size ≤ k → D k) {i : Nat} (hk : Keeps (own D L w.heap.size i) w w') : Keeps D w w' := hk.mono (fun _ _ h => (nlab_own (w := w) hD h).1)
end

/-! ### what the lists and the index say -/
structure Rel (R : Nat → Li) (m : ByteArray → Option Ix.Sp) (Q : Nat → List ByteArray) (b : Nat) : Prop where
  keys : ∀ i, i < 3 → (R i).row.map (R i).va = Q i
  spot : ∀ k i h, m k = some (i, h) ↔ i < 3 ∧ h ∈ (R i).row ∧ (R i).va h = k
  few : ∀ i, i < 3 → (R i).n ≤ b
  size : ∀ i, i < 3 → ∀ k ∈ Q i, k.size ≤ 1000
  nodup : ∀ i, i < 3 → (R i).row.Nodup
section
variable {R : Nat → Li} {m : ByteArray → Option Ix.Sp} {Q : Nat → List ByteArray} {b : Nat}
theorem Rel.none (H : Rel R m Q b) {k : ByteArray} : m k = none ↔ ∀ i, i < 3 → k ∉ Q i := by
  constructor
  · intro h i hi hk
    rw [← H.keys i hi, List.mem_map] at hk
    obtain ⟨a, ha, hv⟩ := hk
    have := (H.spot k i a).2 ⟨hi, ha, hv⟩
    rw [h] at this; cases this
  · intro h
    cases hm : m k with
    | none => rfl
    | some v =>
      obtain ⟨i, a⟩ := v
      obtain ⟨h1, h2, h3⟩ := (H.spot k i a).1 hm
      exact absurd (by rw [← H.keys i h1]; exact List.mem_map.2 ⟨a, h2, h3⟩) (h i h1)
theorem Rel.some (H : Rel R m Q b) {k : ByteArray} {i h : Nat} (hm : m k = some (i, h)) : i < 3 ∧ k ∈ Q i ∧ ∀ j, j < 3 → j ≠ i → k ∉ Q j := by
  obtain ⟨h1, h2, h3⟩ := (H.spot k i h).1 hm
  refine ⟨h1, by rw [← H.keys i h1]; exact List.mem_map.2 ⟨h, h2, h3⟩, fun j hj hne hk => ?_⟩
  rw [← H.keys j hj, List.mem_map] at hk
  obtain ⟨a, ha, hv⟩ := hk
  have := (H.spot k j a).2 ⟨hj, ha, hv⟩
  rw [hm] at this
  cases this
  exact hne rfl
/-- a key that is nowhere is the newest of list i -/
theorem Rel.lay (H : Rel R m Q b) {k : ByteArray} (hn : m k = Option.none) {i : Nat} (hi : i < 3) (hs : k.size ≤ 1000) (hh : Ls.handOf (R i).free (R i).n ∉ (R i).row) :
    Rel (fun j => if j = i then { R i with row := (R i).row ++ [Ls.handOf (R i).free (R i).n], free := (R i).free.tail, va := Ls.upd (R i).va (Ls.handOf (R i).free (R i).n) k, n := Ls.moreOf (R i).free (R i).n } else R j)
      (Ix.put m k (.some (i, Ls.handOf (R i).free (R i).n))) (fun j => if j = i then Q j ++ [k] else Q j) (b + 1) := by
  have hno := H.none.1 hn
  have hva : ∀ a ∈ (R i).row, Ls.upd (R i).va (Ls.handOf (R i).free (R i).n) k a = (R i).va a := fun a ha => Ls.upd_far _ _ (by rintro rfl; exact hh ha)
  constructor
  · intro j hj
    by_cases e : j = i
    · subst e
      simp only [if_true, List.map_append, List.map_cons, List.map_nil, Ls.upd_same]
      rw [List.map_congr_left hva, H.keys j hj]
    · simp only [if_neg e]
      exact H.keys j hj
  · intro k' j a
    by_cases hk : k' = k
    · subst hk
      rw [Ix.put_same]
      constructor
      · intro e
        cases e
        refine ⟨hi, ?_, ?_⟩
        · simp
        · simp [Ls.upd_same]
      · rintro ⟨h1, h2, h3⟩
        by_cases e : j = i
        · subst e
          simp only [if_true, List.mem_append, List.mem_singleton] at h2 h3
          rcases h2 with h2 | h2
          · rw [hva a h2] at h3
            exact absurd (by rw [← H.keys j h1]; exact List.mem_map.2 ⟨a, h2, h3⟩) (hno j h1)
          · rw [h2]
        · simp only [if_neg e] at h2 h3
          exact absurd (by rw [← H.keys j h1]; exact List.mem_map.2 ⟨a, h2, h3⟩) (hno j h1)
    · rw [Ix.put_far hk, H.spot]
      by_cases e : j = i
      · subst e
        simp only [if_true, List.mem_append, List.mem_singleton]
        constructor
        · rintro ⟨h1, h2, h3⟩
          exact ⟨h1, .inl h2, by rw [hva a h2]; exact h3⟩
        · rintro ⟨h1, h2 | h2, h3⟩
          · exact ⟨h1, h2, by rw [hva a h2] at h3; exact h3⟩
          · subst h2
            rw [Ls.upd_same] at h3
            exact absurd h3.symm hk
      · simp only [if_neg e]
  · intro j hj
    have := H.few j hj
    by_cases e : j = i
    · subst e
      simp only [if_true, Ls.moreOf]
      split <;> omega
    · simp only [if_neg e]
      omega
  · intro j hj k' hk'
    by_cases e : j = i
    · subst e
      simp only [if_true, List.mem_append, List.mem_singleton] at hk'
      rcases hk' with h | h
      · exact H.size j hj k' h
      · subst h; exact hs
    · simp only [if_neg e] at hk'
      exact H.size j hj k' hk'
  · intro j hj
    by_cases e : j = i
    · subst e
      simp only [if_true]
      rw [List.nodup_append]
      refine ⟨H.nodup j hj, by simp, ?_⟩
      intro a ha b' hb'
      simp at hb'
      subst hb'
      rintro rfl
      exact hh ha
    · simp only [if_neg e]
      exact H.nodup j hj
/-- a key leaves list i -/
theorem Rel.take (H : Rel R m Q b) {k : ByteArray} {i h : Nat} (hm : m k = .some (i, h)) {l r : List Nat} (hr : (R i).row = l ++ h :: r) :
    Rel (fun j => if j = i then { R i with row := l ++ r, free := h :: (R i).free, va := Ls.upd (R i).va h ⟨#[]⟩ } else R j) (Ix.put m k Option.none) (fun j => A.cut (Q j) k) b := by
  obtain ⟨hi, hin, hv⟩ := (H.spot k i h).1 hm
  obtain ⟨_, _, hot⟩ := H.some hm
  have hnd := H.nodup i hi
  rw [hr] at hnd
  have hnd2 := (List.perm_middle.nodup_iff.1 hnd)
  rw [List.nodup_cons] at hnd2
  have hva : ∀ a ∈ l ++ r, Ls.upd (R i).va h ⟨#[]⟩ a = (R i).va a := fun a ha => Ls.upd_far _ _ (by rintro rfl; exact hnd2.1 ha)
  have hkey : ∀ a ∈ l ++ r, (R i).va a ≠ k := fun a ha e => by
    have ha' : a ∈ (R i).row := by rw [hr]; simp at ha ⊢; rcases ha with h | h <;> simp [h]
    have := (H.spot k i a).2 ⟨hi, ha', e⟩
    rw [hm] at this
    cases this
    exact hnd2.1 ha
  constructor
  · intro j hj
    by_cases e : j = i
    · subst e
      simp only [if_true]
      rw [List.map_congr_left hva, ← H.keys j hj, hr]
      unfold A.cut
      rw [List.map_append, List.map_append, List.map_cons, List.filter_append, List.filter_cons, if_neg (by simp [hv])]
      rw [List.filter_eq_self.2, List.filter_eq_self.2]
      · intro y hy
        obtain ⟨a, ha, rfl⟩ := List.mem_map.1 hy
        simpa using hkey a (by simp [ha])
      · intro y hy
        obtain ⟨a, ha, rfl⟩ := List.mem_map.1 hy
        simpa using hkey a (by simp [ha])
    · simp only [if_neg e]
      rw [A.cut_same (hot j hj e)]
      exact H.keys j hj
  · intro k' j a
    by_cases hk : k' = k
    · subst hk
      rw [Ix.put_same]
      constructor
      · intro e; cases e
      · rintro ⟨h1, h2, h3⟩
        by_cases e : j = i
        · subst e
          simp only [if_true] at h2 h3
          rw [hva a h2] at h3
          exact absurd h3 (hkey a h2)
        · simp only [if_neg e] at h2 h3
          exact absurd (by rw [← H.keys j h1]; exact List.mem_map.2 ⟨a, h2, h3⟩) (hot j h1 e)
    · rw [Ix.put_far hk, H.spot]
      by_cases e : j = i
      · subst e
        simp only [if_true]
        constructor
        · rintro ⟨h1, h2, h3⟩
          have ha : a ∈ l ++ r := by
            rw [hr] at h2
            simp at h2 ⊢
            rcases h2 with h | h | h
            · exact .inl h
            · subst h; exact absurd (h3.symm.trans hv) hk
            · exact .inr h
          exact ⟨h1, ha, by rw [hva a ha]; exact h3⟩
        · rintro ⟨h1, h2, h3⟩
          rw [hva a h2] at h3
          exact ⟨h1, by rw [hr]; simp at h2 ⊢; rcases h2 with h | h <;> simp [h], h3⟩
      · simp only [if_neg e]
  · intro j hj
    by_cases e : j = i
    · subst e
      simp only [if_true]
      exact H.few j hj
    · simp only [if_neg e]
      exact H.few j hj
  · intro j hj k' hk'
    exact H.size j hj k' (List.mem_filter.1 hk').1
  · intro j hj
    by_cases e : j = i
    · subst e
      simp only [if_true]
      exact hnd2.2
    · simp only [if_neg e]
      exact H.nodup j hj
theorem Rel.more (H : Rel R m Q b) {b' : Nat} (h : b ≤ b') : Rel R m Q b' := ⟨H.keys, H.spot, fun i hi => Nat.le_trans (H.few i hi) h, H.size, H.nodup⟩
end
/-- an engine in memory: three rows of keys, where each stands; no more than b keys were laid -/
def EM (D : Nat → Prop) (w : World) (e c : Nat) (Q : Nat → List ByteArray) (m : ByteArray → Option Ix.Sp) (b : Nat) (z : Dk) : Prop := ∃ L R x, EnIn D L w e c R x m b z ∧ Rel R m Q b
def EN (D : Nat → Prop) (w : World) (e c : Nat) (Q : Nat → List ByteArray) (b : Nat) (z : Dk) : Prop := ∃ m, EM D w e c Q m b z
section
variable {D D' : Nat → Prop} {w w' : World} {e c : Nat} {Q : Nat → List ByteArray} {m : ByteArray → Option Ix.Sp} {b : Nat} {z : Dk}
theorem EM.kept (H : EM D w e c Q m b z) (hk : Keeps D' w w') (hd : ∀ k, k < w.heap.size → D k → ¬ D' k) : EM D w' e c Q m b z := by
  obtain ⟨L, R, x, h, r⟩ := H; exact ⟨L, R, x, h.kept hk hd, r⟩
theorem EM.below (H : EM D w e c Q m b z) (hb : Below w.heap.size w w') : EM D w' e c Q m b z := by
  obtain ⟨L, R, x, h, r⟩ := H; exact ⟨L, R, x, h.below hb, r⟩
theorem EM.alloc (H : EM D w e c Q m b z) (o : Obj) : EM D (w.alloc o) e c Q m b z := H.below ((Below.refl _ w).alloc (Nat.le_refl _) o)
theorem EM.drew (H : EM D w e c Q m b z) : EM D w.drew e c Q m b z := H.kept (D' := fun _ => False) (Keeps.refl _ w).drew (fun _ _ _ e => e)
theorem EM.drewN (H : EM D w e c Q m b z) (q : Nat) : EM D (w.drewN q) e c Q m b z := H.kept (D' := fun _ => False) ((Keeps.refl _ w).drewN q) (fun _ _ _ e => e)
theorem EM.wide (H : EM D w e c Q m b z) (hD : ∀ k, k < w.heap.size → D k → D' k) : EM D' w e c Q m b z := by
  obtain ⟨L, R, x, h, r⟩ := H; exact ⟨L, R, x, h.wide hD, r⟩
theorem EM.more (H : EM D w e c Q m b z) {b' : Nat} (hb : b ≤ b') : EM D w e c Q m b' z := by
  obtain ⟨L, R, x, h, r⟩ := H; exact ⟨L, R, x, ⟨h.de, h.le, h.top, h.li, Ix.IX.more h.ix hb, h.dr, h.sk⟩, r.more hb⟩
theorem EM.cells (H : EM D w e c Q m b z) : w.cell? ⟨e, 0, none⟩ = some (.int .i64 (c : Nat)) ∧ w.frozen? ⟨e, 0, none⟩ = false ∧ w.frozen? ⟨e, 1, none⟩ = false ∧ e < w.heap.size ∧ (∃ x, w.cell? ⟨e, 4, none⟩ = some (.pointer (some ⟨x, 0, none⟩))) ∧ w.cell? ⟨e, 5, none⟩ = some (.pointer (some ⟨z.pd, 0, none⟩)) ∧ w.cell? ⟨e, 6, none⟩ = some (.pointer (some ⟨z.pk, 0, none⟩)) := by
  obtain ⟨L, R, x, h, r⟩ := H
  obtain ⟨h0, h1, h2, h3, h4⟩ := h.cells
  exact ⟨h0, h1, h3, h4, ⟨x, h2⟩, h.two⟩
theorem EM.congr {Q' : Nat → List ByteArray} (H : EM D w e c Q m b z) (h : ∀ i, i < 3 → Q' i = Q i) : EM D w e c Q' m b z := by
  obtain ⟨L, R, x, h1, r⟩ := H
  exact ⟨L, R, x, h1, fun i hi => (r.keys i hi).trans (h i hi).symm, r.spot, r.few, fun i hi k hk => r.size i hi k (by rw [← h i hi]; exact hk), r.nodup⟩
theorem EM.de (H : EM D w e c Q m b z) : D e := by
  obtain ⟨L, R, x, h, r⟩ := H; exact h.de
theorem EM.size (H : EM D w e c Q m b z) {i : Nat} (hi : i < 3) {k : ByteArray} (hk : k ∈ Q i) : k.size ≤ 1000 := by
  obtain ⟨L, R, x, h, r⟩ := H; exact r.size i hi k hk
theorem EM.out (H : EM D w e c Q m b z) {k : ByteArray} : m k = none ↔ ∀ i, i < 3 → k ∉ Q i := by
  obtain ⟨L, R, x, h, r⟩ := H; exact r.none
theorem EM.spot (H : EM D w e c Q m b z) {k : ByteArray} {i h : Nat} (hm : m k = some (i, h)) : i < 3 ∧ k ∈ Q i ∧ ∀ j, j < 3 → j ≠ i → k ∉ Q j := by
  obtain ⟨L, R, x, h, r⟩ := H; exact r.some hm
theorem EM.has (H : EM D w e c Q m b z) {k : ByteArray} {i : Nat} (hi : i < 3) (hk : k ∈ Q i) : ∃ h, m k = some (i, h) := by
  cases hm : m k with
  | none => exact absurd hk (H.out.1 hm i hi)
  | some v =>
    obtain ⟨j, h⟩ := v
    obtain ⟨h1, h2, h3⟩ := H.spot hm
    by_cases e : i = j
    · subst e; exact ⟨h, rfl⟩
    · exact absurd hk (h3 i hi e)
theorem EN.kept (H : EN D w e c Q b z) (hk : Keeps D' w w') (hd : ∀ k, k < w.heap.size → D k → ¬ D' k) : EN D w' e c Q b z := by
  obtain ⟨m, h⟩ := H; exact ⟨m, h.kept hk hd⟩
theorem EN.below (H : EN D w e c Q b z) (hb : Below w.heap.size w w') : EN D w' e c Q b z := by
  obtain ⟨m, h⟩ := H; exact ⟨m, h.below hb⟩
theorem EN.later (hb : Below w.heap.size w w') (H : EN D w e c Q b z) : EN D w' e c Q b z := H.below hb
theorem EN.alloc (H : EN D w e c Q b z) (o : Obj) : EN D (w.alloc o) e c Q b z := H.below ((Below.refl _ w).alloc (Nat.le_refl _) o)
theorem EN.drew (H : EN D w e c Q b z) : EN D w.drew e c Q b z := H.kept (D' := fun _ => False) (Keeps.refl _ w).drew (fun _ _ _ e => e)
theorem EN.drewN (H : EN D w e c Q b z) (q : Nat) : EN D (w.drewN q) e c Q b z := H.kept (D' := fun _ => False) ((Keeps.refl _ w).drewN q) (fun _ _ _ e => e)
theorem EN.wide (H : EN D w e c Q b z) (hD : ∀ k, k < w.heap.size → D k → D' k) : EN D' w e c Q b z := by
  obtain ⟨m, h⟩ := H; exact ⟨m, h.wide hD⟩
theorem EN.more (H : EN D w e c Q b z) {b' : Nat} (hb : b ≤ b') : EN D w e c Q b' z := by
  obtain ⟨m, h⟩ := H; exact ⟨m, h.more hb⟩
theorem EN.cells (H : EN D w e c Q b z) : w.cell? ⟨e, 0, none⟩ = some (.int .i64 (c : Nat)) ∧ w.frozen? ⟨e, 0, none⟩ = false ∧ w.frozen? ⟨e, 1, none⟩ = false ∧ e < w.heap.size ∧ (∃ x, w.cell? ⟨e, 4, none⟩ = some (.pointer (some ⟨x, 0, none⟩))) ∧ w.cell? ⟨e, 5, none⟩ = some (.pointer (some ⟨z.pd, 0, none⟩)) ∧ w.cell? ⟨e, 6, none⟩ = some (.pointer (some ⟨z.pk, 0, none⟩)) := by
  obtain ⟨m, h⟩ := H; exact h.cells
theorem EN.congr {Q' : Nat → List ByteArray} (H : EN D w e c Q b z) (h : ∀ i, i < 3 → Q' i = Q i) : EN D w e c Q' b z := by
  obtain ⟨m, h1⟩ := H; exact ⟨m, h1.congr h⟩
theorem EN.de (H : EN D w e c Q b z) : D e := by
  obtain ⟨m, h⟩ := H; exact h.de
theorem EN.size (H : EN D w e c Q b z) {i : Nat} (hi : i < 3) {k : ByteArray} (hk : k ∈ Q i) : k.size ≤ 1000 := by
  obtain ⟨m, h⟩ := H; exact h.size hi hk
end
end Go.Proofs.YtcphhlfbjkeikabGreat
