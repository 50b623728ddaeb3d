/- A row that was laid value by value, at the back. -/
import Derived.Test.YtgpjdcoikbmciaaArgs
import Derived.Test.YtgpjdcoikbmciaaKnown
namespace Go.Proofs.Ytgpjdcoikbmciaa
open Go.RowKit

/-- the handles 1 to k, under which the first k of zs lie -/
def Laid {β : Type} (zs : List β) (k : Nat) (va : Nat → β) : Prop := (List.range' 1 k).map va = zs.take k
theorem laid_zero {β : Type} (zs : List β) (va : Nat → β) : Laid zs 0 va := rfl
theorem laid_more {β : Type} {zs : List β} {k : Nat} {va : Nat → β} {z : β} (h : Laid zs k va) (hz : zs[k]? = some z) : Laid zs (k + 1) (upd va (k + 1) z) := by
  unfold Laid at h ⊢
  rw [List.range'_concat, List.map_append, List.take_add_one, hz, ← h]
  simp only [Nat.one_mul, List.map_cons, List.map_nil, Option.toList_some]
  congr 1
  · apply List.map_congr_left
    intro x hx
    rw [upd_far]
    simp [List.mem_range'] at hx
    omega
  · rw [Nat.add_comm 1 k, upd_same]
theorem range_more (k : Nat) : List.range' 1 k ++ [handOf [] k] = List.range' 1 (k + 1) := by
  rw [List.range'_concat, show handOf [] k = 1 + 1 * k by simp [handOf]; omega]
theorem laid_step {β : Type} {V : β → Value} {te tl : TypeId} {B : Nat → Prop} {w : World} {p k : Nat} {va : Nat → β} {z : β} (H : LA V te tl B w p (List.range' 1 k ++ [handOf [] k]) ([] : List Nat).tail (upd va (handOf [] k) z) (moreOf [] k)) :
    LA V te tl B w p (List.range' 1 (k + 1)) [] (upd va (k + 1) z) (k + 1) := by
  rw [range_more] at H
  exact H
theorem laid_all {β : Type} {zs : List β} {va : Nat → β} {V : β → Value} {k : Nat} (h : Laid zs k va) (hk : k = zs.length) : ((List.range' 1 k).map fun h => V (va h)) = zs.map V := by
  subst hk
  rw [show ((List.range' 1 zs.length).map fun h => V (va h)) = ((List.range' 1 zs.length).map va).map V by simp, h, List.take_length]
theorem laid_cut {β : Type} {zs : List β} {va : Nat → β} {k i : Nat} (h : Laid zs k va) (hk : k = zs.length) (hi : i < k) :
    ∃ l r, List.range' 1 k = l ++ (i + 1) :: r ∧ (l ++ r).map va = zs.eraseIdx i ∧ zs[i]? = some (va (i + 1)) := by
  have e : List.range' 1 k = List.range' 1 i ++ (i + 1) :: List.range' (i + 2) (k - i - 1) := by
    have h1 := List.range'_append (s := 1) (m := i) (n := k - i) (step := 1)
    rw [show i + (k - i) = k by omega, show 1 + 1 * i = i + 1 by omega] at h1
    rw [← h1, show k - i = (k - i - 1) + 1 by omega, List.range'_succ]
    simp
  refine ⟨_, _, e, ?_, ?_⟩
  · subst hk
    have h2 : zs = (List.range' 1 i ++ (i + 1) :: List.range' (i + 2) (zs.length - i - 1)).map va := by rw [← e, h, List.take_length]
    conv => rhs; rw [h2]
    rw [List.map_append, List.map_append, List.map_cons, List.eraseIdx_append_of_length_le (by simp)]
    simp
  · subst hk
    have h2 : zs = (List.range' 1 i ++ (i + 1) :: List.range' (i + 2) (zs.length - i - 1)).map va := by rw [← e, h, List.take_length]
    rw [h2]
    simp
theorem erase_more {β : Type} {zs : List β} {j i : Nat} {z : β} (hz : zs[j]? = some z) (hne : j ≠ i) : (zs.take (j + 1)).eraseIdx i = (zs.take j).eraseIdx i ++ [z] := by
  have hj : j < zs.length := by
    rcases Nat.lt_or_ge j zs.length with h | h
    · exact h
    · rw [List.getElem?_eq_none h] at hz; cases hz
  rw [List.take_add_one, hz, Option.toList_some]
  rcases Nat.lt_or_ge i j with h | h
  · rw [List.eraseIdx_append_of_lt_length (by simp; omega)]
  · have hl : (zs.take j).length = j := by simp; omega
    rw [List.eraseIdx_of_length_le (by simp; omega), List.eraseIdx_of_length_le (by omega)]
theorem erase_same {β : Type} {zs : List β} {i : Nat} (hi : i < zs.length) : (zs.take (i + 1)).eraseIdx i = (zs.take i).eraseIdx i := by
  rw [List.take_add_one, List.getElem?_eq_getElem hi, Option.toList_some, List.eraseIdx_append_of_length_le (by simp; omega), List.eraseIdx_of_length_le (l := zs.take i) (by simp; omega)]
  simp [show i - min i zs.length = 0 by omega]
theorem ownsRow_keeps {w w' : World} {D : Nat → Prop} {base : Nat} {e : TypeId} {size n : Nat} {v : Value} {xs : List Value} (h : w.ownsRow base e size v n xs) (hk : Keeps D w w') (hd : ∀ k, base ≤ k → ¬ D k) : w'.ownsRow base e size v n xs := by
  refine ⟨h.1, ?_⟩
  rcases h.2 with h0 | ⟨g, c, cur, hv, hb, hg, rest⟩
  · exact .inl h0
  · exact .inr ⟨g, c, cur, hv, hb, by rw [hk.block g (lt_of_block hg) (hd g hb)]; exact hg, rest⟩
theorem from_own {w : World} {B : Nat} {e : TypeId} {ad : Option Addr} {n cap : Nat} {zs : List ByteArray} (h : w.ownsRow B e 1 (.slice ad n cap) n (zs.map Value.string)) : FromRow w 1 ad n cap (zs.map Value.string) := by
  rcases h.2 with ⟨hv, _⟩ | ⟨g, c, cur, hv, _⟩
  · cases hv
    have := h.1
    simp at this
    subst this
    exact .inl ⟨rfl, rfl, rfl, rfl⟩
  · cases hv
    refine .inr ⟨_, rfl, by simpa using h.1, fun j u hu => h.cells rfl j u hu, ?_⟩
    intro u hu
    simp at hu
    obtain ⟨z, _, rfl⟩ := hu
    rfl
theorem own_one (w : World) (base : Nat) (hb : base ≤ w.heap.size) (x : ByteArray) : (w.alloc (.cells #[.string x] 9)).ownsRow base 9 1 (.slice (some ⟨w.heap.size, 0, none⟩) 1 1) 1 [.string x] :=
  ⟨rfl, .inr ⟨_, _, _, rfl, hb, heap_alloc_new w _, Nat.le_refl _, by unfold maxLen; omega, rfl, rfl⟩⟩
/-- All, as texts -/
theorem all_texts {B : Nat → Prop} {w : World} {p : Nat} {row free : List Nat} {va : Nat → ByteArray} {n : Nat} (H : LA Value.string 60 58 B w p row free va n) (hn : n ≤ 1000000) :
    Calls Try.prog 17 #[.pointer (some ⟨p, 0, none⟩)] w fun e w' => ∃ ad cap, e = .returned (.slice ad row.length cap) ∧ TextsAt w' ad (row.map va) ∧ Below w.heap.size w w' := by
  refine (all_any H hn).mono ?_
  rintro e w' ⟨ad, cap, he, hown, hb⟩
  exact ⟨ad, cap, he, TextsAt.own (m := row.length) (zs := row.map va) (by rw [List.map_map]; exact hown), hb⟩
/-- two rows of texts that are one -/
theorem texts_same {w : World} {ad1 ad2 : Option Addr} {m1 m2 cap1 cap2 : Nat} {z1 z2 : List ByteArray} (h1 : TextsAt w ad1 z1) (h2 : TextsAt w ad2 z2) (e1 : z1.length = m1) (e2 : z2.length = m2) (h5 : m1 ≤ 1000000) (h6 : m2 ≤ 1000000) (e : z1 = z2) :
    Calls Try.prog 16 #[.slice ad1 m1 cap1, .slice ad2 m2 cap2] w fun e w' => e = .returned (.bool true) ∧ Below w.heap.size w w' := by
  have := texts_any (cap1 := cap1) (cap2 := cap2) h1 h2 e1 e2 h5 h6
  rw [show decide (z1 = z2) = true by simpa using e] at this
  exact this
theorem lsOf_concat (xs : List Nat) (x : Nat) : lsOf (xs ++ [x]) = x := by
  unfold lsOf
  rw [List.getLastD_eq_getLast?]
  simp
end Go.Proofs.Ytgpjdcoikbmciaa
