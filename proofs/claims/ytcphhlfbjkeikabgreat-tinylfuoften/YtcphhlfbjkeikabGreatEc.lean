/- Of an engine: howOften; get; lay, move, drop. -/
import Derived.Test.YtcphhlfbjkeikabGreatEb
import Derived.Test.YtcphhlfbjkeikabGreatLc
namespace Go.Proofs.YtcphhlfbjkeikabGreat
open Go.RowKit

theorem Ls.LA.lens {te tl : TypeId} {B : Nat → Prop} {w : World} {p : Nat} {row free : List Nat} {va : Nat → ByteArray} {n : Nat} (h : Ls.LA Value.string te tl B w p row free va n) : row.length + free.length = n := by
  obtain ⟨s, _, R, _, rfl⟩ := h
  exact R.len
theorem nodup_len {α : Type} [DecidableEq α] {l m : List α} (h : l.Nodup) (hs : ∀ x ∈ l, x ∈ m) : l.length ≤ m.length := by
  induction l generalizing m with
  | nil => simp
  | cons x l ih =>
    rw [List.nodup_cons] at h
    have hx : x ∈ m := hs x (by simp)
    have := ih (m := m.erase x) h.2 (fun y hy => by
      have hne : y ≠ x := by rintro rfl; exact h.1 hy
      exact (List.mem_erase_of_ne hne).2 (hs y (by simp [hy])))
    rw [List.length_erase_of_mem hx] at this
    have : 0 < m.length := List.length_pos_of_mem hx
    simp
    omega
theorem cut_twice (l : List ByteArray) (k : ByteArray) : A.cut (A.cut l k) k = A.cut l k := by
  unfold A.cut
  rw [List.filter_filter]
  simp
/-- three rows, when a key becomes the newest of one -/
def laid (Q : Nat → List ByteArray) (k : ByteArray) (i : Nat) : Nat → List ByteArray := fun j => if j = i then A.cut (Q j) k ++ [k] else A.cut (Q j) k
/-- lists, when a key is pushed behind one; when one is taken out of one -/
def pushR (R : Nat → Li) (i : Nat) (k : ByteArray) : Nat → Li := fun j => if j = i then { R i with row := (R i).row ++ [Ls.handOf (R i).free (R i).n], free := (R i).free.tail, va := Ls.upd (R i).va (Ls.handOf (R i).free (R i).n) k, n := Ls.moreOf (R i).free (R i).n } else R j
def takeR (R : Nat → Li) (i h : Nat) (l r : List Nat) : Nat → Li := fun j => if j = i then { R i with row := l ++ r, free := h :: (R i).free, va := Ls.upd (R i).va h ⟨#[]⟩ } else R j
theorem put_put (m : ByteArray → Option Ix.Sp) (k : ByteArray) (u v : Option Ix.Sp) : Ix.put (Ix.put m k u) k v = Ix.put m k v := by
  funext j
  by_cases e : j = k
  · subst e; rw [Ix.put_same, Ix.put_same]
  · rw [Ix.put_far e, Ix.put_far e, Ix.put_far e]
section
variable {R : Nat → Li} {m : ByteArray → Option Ix.Sp} {Q : Nat → List ByteArray} {b : Nat}
theorem Rel.fits (H : Rel R m Q b) (l : List ByteArray) (hn : l.Nodup) (hs : ∀ k ∈ l, m k ≠ Option.none) : l.length ≤ (Q 0).length + (Q 1).length + (Q 2).length := by
  have := nodup_len (m := Q 0 ++ Q 1 ++ Q 2) hn (fun k hk => by
    have h1 := hs k hk
    cases hm : m k with
    | none => exact absurd hm h1
    | some v =>
      obtain ⟨i, h⟩ := v
      obtain ⟨h2, h3, -⟩ := H.some hm
      have : i = 0 ∨ i = 1 ∨ i = 2 := by omega
      rcases this with e | e | e <;> subst e <;> simp [h3])
  simp at this
  omega
theorem Rel.tight {b' : Nat} (H : Rel R m Q b') (h : ∀ i, i < 3 → (R i).n ≤ b) : Rel R m Q b := ⟨H.keys, H.spot, h, H.size, H.nodup⟩
theorem Rel.lens (H : Rel R m Q b) {i : Nat} (hi : i < 3) : (R i).row.length = (Q i).length := by rw [← H.keys i hi, List.length_map]
/-- a key that is nowhere is pushed -/
theorem Rel.push (H : Rel R m Q b) {k : ByteArray} (hn : m k = Option.none) {i : Nat} (hi : i < 3) (hs : k.size ≤ 1000) (hh : Ls.handOf (R i).free (R i).n ∉ (R i).row) (hl : (R i).row.length + (R i).free.length = (R i).n) (hf : (Q i).length + 1 ≤ b) :
    Rel (pushR R i k) (Ix.put m k (.some (i, Ls.handOf (R i).free (R i).n))) (laid Q k i) b := by
  have h1 := (H.lay hn hi hs hh).tight (b := b) (fun j hj => by
    by_cases e : j = i
    · subst e
      simp only [if_true, Ls.moreOf]
      have h2 := H.lens hj
      have h3 := H.few j hj
      split
      · rename_i hf2
        rw [hf2] at hl
        simp at hl
        omega
      · exact h3
    · simp only [if_neg e]
      exact H.few j hj)
  have hQ : (fun j => if j = i then Q j ++ [k] else Q j) = fun j => if j = i then Q j ++ [k] else Q j := rfl
  have hno := H.none.1 hn
  refine ⟨fun j hj => ?_, h1.spot, h1.few, fun j hj k' hk' => ?_, h1.nodup⟩
  · refine (h1.keys j hj).trans ?_
    unfold laid
    by_cases e : j = i
    · subst e; simp only [if_true]; rw [A.cut_same (hno j hj)]
    · simp only [if_neg e]; rw [A.cut_same (hno j hj)]
  · refine h1.size j hj k' ?_
    unfold laid at hk'
    by_cases e : j = i
    · subst e; simp only [if_true] at hk' ⊢; rw [A.cut_same (hno j hj)] at hk'; exact hk'
    · simp only [if_neg e] at hk' ⊢; rw [A.cut_same (hno j hj)] at hk'; exact hk'
/-- a key goes from one row to another -/
theorem Rel.move (H : Rel R m Q b) {k : ByteArray} {i h : Nat} (hm : m k = .some (i, h)) {l r : List Nat} (hr : (R i).row = l ++ h :: r) {i' : Nat} (hi' : i' < 3) (hne : i' ≠ i) (hh : Ls.handOf (R i').free (R i').n ∉ (R i').row) (hl : (R i').row.length + (R i').free.length = (R i').n) (hf : (Q i').length + 1 ≤ b) :
    Rel (pushR (takeR R i h l r) i' k) (Ix.put m k (.some (i', Ls.handOf (R i').free (R i').n))) (laid Q k i') b := by
  have h1 := H.take hm hr
  have e : takeR R i h l r i' = R i' := by unfold takeR; rw [if_neg hne]
  have hs : k.size ≤ 1000 := H.size i (H.some hm).1 k (H.some hm).2.1
  have hlen : (A.cut (Q i') k).length ≤ (Q i').length := A.length_cut_le _ _
  have h2 := Rel.push (R := takeR R i h l r) (i := i') h1 (Ix.put_same _ _) hi' hs (by rw [e]; exact hh) (by rw [e]; exact hl) (by omega)
  rw [put_put, e] at h2
  refine ⟨fun j hj => (h2.keys j hj).trans ?_, h2.spot, h2.few, fun j hj k' hk' => h2.size j hj k' ?_, h2.nodup⟩
  · unfold laid
    split <;> rw [cut_twice]
  · unfold laid at hk' ⊢
    by_cases e2 : j = i'
    · rw [if_pos e2] at hk' ⊢; rw [cut_twice]; exact hk'
    · rw [if_neg e2] at hk' ⊢; rw [cut_twice]; exact hk'
end
section
variable {D : Nat → Prop} {w : World} {e c : Nat} {Q : Nat → List ByteArray} {m : ByteArray → Option Ix.Sp} {b : Nat} {z : Dk}
/-- where a key stands, as the index tells it in whatever world that is as w was -/
theorem EM.get (H : EM D w e c Q m b z) (hb : b ≤ 900000) (key : ByteArray) (hk : key.size ≤ 1000) :
    ∃ x, w.cell? ⟨e, 4, none⟩ = some (.pointer (some ⟨x, 0, none⟩)) ∧
      Calls Tryz.prog 35 #[.pointer (some ⟨x, 0, none⟩), .string key] w fun ee w' => ee = .returned (.tuple #[Ix.V ((m key).getD (0, 0)), .bool (m key).isSome]) ∧ Below w.heap.size w w' := by
  obtain ⟨L, R, x, H, r⟩ := H
  refine ⟨x, H.cells.2.2.1, ?_⟩
  cases hm : m key with
  | none => exact Ix.get_miss H.index (by omega) key (by unfold maxLen; omega) hm
  | some v => exact Ix.get_hit H.index (by omega) key (by unfold maxLen; omega) hm
theorem EM.at (H : EM D w e c Q m b z) (hb : b ≤ 900000) {k : ByteArray} {i h : Nat} (hm : m k = some (i, h)) :
    ∃ p, w.cell? ⟨e, 1 + i, none⟩ = some (.pointer (some ⟨p, 0, none⟩)) ∧ Calls Tryz.prog 99 #[.pointer (some ⟨p, 0, none⟩), .int .i64 (h : Nat)] w fun ee w' => ee = .returned (.tuple #[.string k, .bool true]) ∧ w' = w := by
  obtain ⟨L, R, x, H, r⟩ := H
  obtain ⟨hi, hin, hv⟩ := (r.spot k i h).1 hm
  refine ⟨(R i).pr, H.row hi, ?_⟩
  have := Ls.get_in (H.list hi) h hin (by have := r.few i hi; omega)
  rw [hv] at this
  exact this
end
end Go.Proofs.YtcphhlfbjkeikabGreat
