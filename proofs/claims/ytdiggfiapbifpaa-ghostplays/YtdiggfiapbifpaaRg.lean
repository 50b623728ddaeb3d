/- The document's ghost in memory: Add. -/
import Derived.Test.YtdiggfiapbifpaaRf
import Derived.Test.YtdiggfiapbifpaaGb
namespace Go.Proofs.Ytdiggfiapbifpaa
open Go.RowKit

section
variable {D : Nat → Prop} {w : World} {x c : Nat} {Q : List ByteArray}
/-- a key appended to the row, and the row laid -/
theorem RXIn.push {w1 w2 w3 : World} {ad ad3 : Option Addr} {cap cap3 n : Nat} {m ks : List ByteArray} {E : Nat → Prop} (H : RXIn D w1 x c ad cap m) (hD : ∀ k, w1.heap.size ≤ k → D k) (hb : Below w1.heap.size w1 w2) (hn : n = (m ++ ks).length)
    (hE : ∀ g, E g → D g ∧ g ≠ x) (hr : Row (fun g => E g ∨ w2.heap.size ≤ g) w3 ad3 cap3 (m ++ ks)) (hk : Keeps E w2 w3) :
    RXIn D (w3.setCell ⟨x, 0, none⟩ (.slice ad3 n cap3)) x c ad3 cap3 (m ++ ks) ∧ Keeps D w1 (w3.setCell ⟨x, 0, none⟩ (.slice ad3 n cap3)) ∧ w3.cell? ⟨x, 0, none⟩ = some (.slice ad m.length cap) ∧ w3.frozen? ⟨x, 0, none⟩ = false := by
  subst hn
  have hx := H.cells.2.2.2
  have hx2 : x < w2.heap.size := Nat.lt_of_lt_of_le hx hb.size
  have h2 : w2.heap[x]? = w1.heap[x]? := hb.block x hx
  have h3 : w3.heap[x]? = w2.heap[x]? := hk.block x hx2 (fun e => (hE x e).2 rfl)
  have top : w3.heap[x]? = some (.cells #[.slice ad m.length cap, .int .i64 (c : Nat)] 36 (0, 0)) := h3.trans (h2.trans H.top)
  have hk1 : Keeps D w1 w3 := (Keeps.of_below hb).trans (hk.mono (fun g _ h => (hE g h).1))
  refine ⟨⟨H.de, ?_, ?_⟩, hk1.setCell (p := ⟨x, 0, none⟩) H.de _, by rw [cell_of_block top]; rfl, frozen_of_block top⟩
  · rw [block_setCell top]
    rfl
  · refine (hr.wide (D' := fun g => D g ∧ g ≠ x) ?_).kept (Keeps.setCell (D := fun k => k = x) (Keeps.refl _ w3) rfl _) (fun k h e => h.2 e)
    rintro g _ (h | h)
    · exact hE g h
    · exact ⟨hD g (Nat.le_trans hb.size h), by omega⟩
/-- a row without its first one -/
theorem tail_row {g off cap : Nat} {y : ByteArray} {r : List ByteArray} (h : Row D w (some ⟨g, off, none⟩) cap (y :: r)) : RowIn Value.string w (if cap = 1 then some ⟨g, off, none⟩ else some ⟨g, off + 1, none⟩) r := by
  by_cases hc : cap = 1
  · have := h.1
    exact .inl (List.eq_nil_of_length_eq_zero (by simp at this; omega))
  · rw [if_neg hc]
    exact row_rowIn (h.drop 1)
set_option maxHeartbeats 2000000 in
theorem radd_any (H : RX x c Q D w) (hD : ∀ k, w.heap.size ≤ k → D k) (hl : Q.length ≤ 100000) (k : ByteArray) :
    Calls Try.prog 11 #[.pointer (some ⟨x, 0, none⟩), .string k] w fun ee w' => ee = .returned (told (G.add c Q k).1) ∧ RX x c (G.add c Q k).2 D w' ∧ Keeps D w w' := by
  have htk := rtake_any H hD hl k
  have HD : Hid (∀ k, w.heap.size ≤ k → D k) := hD
  have hcl := G.cut_le Q k
  have HL : Hid (G.laid Q k = G.cut Q k ++ [k]) := rfl
  clear H hD
  by_cases hf : (G.laid Q k).length ≤ c
  · have HA : Hid (G.add c Q k = (none, G.cut Q k ++ [k])) := by
      have := G.add_fit hf
      rw [HL.out] at this
      exact this
    rw [HL.out] at hf
    have hf2 : (G.cut Q k).length + 1 ≤ c := by simpa using hf
    clear hf
    generalize G.cut Q k = m at *
    generalize G.add c Q k = o at *
    generalize G.has Q k = was at *
    go_enter Try.func11, Try.ntmps11
    go_wp2_with (first
      | (go_at_call 13; refine Calls.mono htk ?_; clear htk; rintro ee w1 ⟨rfl, ⟨ad1, cp1, h1⟩, hk1⟩; have H1 : Hid (RXIn D w1 x c ad1 cp1 m) := h1; have HK1 : Hid (Keeps D w w1) := hk1; obtain ⟨c0, c1, f0, xl⟩ := h1.cells; clear h1 hk1)
      | (at_builtin; go_must (refine wpList_append_row (D := fun g => D g ∧ g ≠ x) (zs := m) (ks := [k]) rfl _ _ rfl rfl (H1.out.row.below ((Below.refl _ _).alloc (Nat.le_refl _) _)) rfl (src_one _ k) (by simp; omega) ?_); intro ad3 cp3 w3 hr3 hk3; have HP : Hid _ := RXIn.push (n := m.length + 1) H1.out (fun g h => HD.out g (Nat.le_trans HK1.out.size h)) ((Below.refl _ _).alloc (Nat.le_refl _) _) (by simp) (fun _ h => h) hr3 hk3; have e0 := HP.out.2.2.1; have e1 := HP.out.2.2.2; clear hr3 hk3))
    have H4 : Hid (RXIn D (w3.setCell ⟨x, 0, none⟩ (.slice ad3 (m.length + 1) cp3)) x c ad3 cp3 (m ++ [k])) := HP.out.1
    have HK4 : Hid (Keeps D w (w3.setCell ⟨x, 0, none⟩ (.slice ad3 (m.length + 1) cp3))) := HK1.out.trans HP.out.2.1
    clear HP e0 e1 c0 c1 f0 xl H1 HK1
    have hlen : (m ++ [k]).length = m.length + 1 := by simp
    have hnq : m.length + 1 ≤ 100001 := by omega
    generalize w3.setCell ⟨x, 0, none⟩ (.slice ad3 (m.length + 1) cp3) = w4 at *
    generalize m.length + 1 = n at *
    obtain ⟨d0, d1, d2, dl⟩ := H4.out.cells
    rw [hlen] at d0
    have hgt : ¬ ((c : Int) < (n : Int)) := by omega
    refine region_same (by kernel_rfl) 9 20 rfl (fun slot => [(.pointer (some ⟨x, 0, none⟩) : Value), (.pointer (some ⟨x, 0, none⟩) : Value), (.pointer (some ⟨x, 0, none⟩) : Value), (.slice ad3 n cp3 : Value), (.int .i64 (n : Nat) : Value), (.pointer (some ⟨x, 0, none⟩) : Value), (.pointer (some ⟨x, 0, none⟩) : Value), (.pointer (some ⟨x, 1, none⟩) : Value), (.int .i64 (c : Nat) : Value), (.bool false : Value)].getD slot undef) (lex_of (by kernel_rfl)) (wait_of (by kernel_rfl)) (by simp) ?_ ?_
    · intro i hi a' hst hdep Kc hKc
      have hcase : i = 0 ∨ i = 1 ∨ i = 2 ∨ i = 3 ∨ i = 4 ∨ i = 5 ∨ i = 6 ∨ i = 7 ∨ i = 8 ∨ i = 9 := by omega
      rcases hcase with e1 | e1 | e1 | e1 | e1 | e1 | e1 | e1 | e1 | e1
      · subst e1
        have o0 := hst.at 0 (by omega)
        simp at o0
        refine still_op rfl rfl ?_
        simp [Oper.wp, execOp, Act.eval, go_sem, o0]
        exact hKc
      · subst e1
        have d0 : a'.tmps[20]?.getD undef = .pointer (some ⟨x, 0, none⟩) := by simpa using hdep 0 (by kernel_rfl)
        refine still_op rfl rfl ?_
        simp [Oper.wp, execOp, Act.eval, go_sem, d0]
        exact hKc
      · subst e1
        have d1 : a'.tmps[21]?.getD undef = .pointer (some ⟨x, 0, none⟩) := by simpa using hdep 1 (by kernel_rfl)
        refine still_op rfl rfl ?_
        simp [Oper.wp, execOp, Act.eval, go_sem, d1]
        exact hKc
      · subst e1
        have d2 : a'.tmps[22]?.getD undef = .pointer (some ⟨x, 0, none⟩) := by simpa using hdep 2 (by kernel_rfl)
        refine still_op rfl rfl ?_
        simp [Oper.wp, execOp, Act.eval, go_sem, d2, d0]
        exact hKc
      · subst e1
        have d3 : a'.tmps[23]?.getD undef = .slice ad3 n cp3 := by simpa using hdep 3 (by kernel_rfl)
        refine still_op rfl rfl ?_
        simp [Oper.wp, execOp, Act.eval, go_sem, d3]
        exact hKc
      · subst e1
        have o0 := hst.at 0 (by omega)
        simp at o0
        refine still_op rfl rfl ?_
        simp [Oper.wp, execOp, Act.eval, go_sem, o0]
        exact hKc
      · subst e1
        have d5 : a'.tmps[25]?.getD undef = .pointer (some ⟨x, 0, none⟩) := by simpa using hdep 5 (by kernel_rfl)
        refine still_op rfl rfl ?_
        simp [Oper.wp, execOp, Act.eval, go_sem, d5]
        exact hKc
      · subst e1
        have d6 : a'.tmps[26]?.getD undef = .pointer (some ⟨x, 0, none⟩) := by simpa using hdep 6 (by kernel_rfl)
        refine still_op rfl rfl ?_
        simp [Oper.wp, execOp, Act.eval, go_sem, d6]
        exact hKc
      · subst e1
        have d7 : a'.tmps[27]?.getD undef = .pointer (some ⟨x, 1, none⟩) := by simpa using hdep 7 (by kernel_rfl)
        refine still_op rfl rfl ?_
        simp [Oper.wp, execOp, Act.eval, go_sem, d7, d1]
        exact hKc
      · subst e1
        have d4 : a'.tmps[24]?.getD undef = .int .i64 (n : Nat) := by simpa using hdep 4 (by kernel_rfl)
        have d8 : a'.tmps[28]?.getD undef = .int .i64 (c : Nat) := by simpa using hdep 8 (by kernel_rfl)
        refine still_op rfl rfl ?_
        simp [Oper.wp, execOp, Act.eval, go_sem, d4, d8, hgt]
        exact hKc
    simp only [fillA, Act.put, List.setIfInBounds_toArray, List.set_cons_succ, List.set_cons_zero, List.getD_cons_zero, List.getD_cons_succ, Nat.reduceAdd, Nat.add_zero]
    go_wp2_with fail
    go_ret2
    rw [HA.out]
    exact ⟨rfl, ⟨_, _, H4.out.kept (D' := fun _ => False) (Keeps.refl _ w4).drew (fun _ _ _ e => e)⟩, HK4.out.drew⟩
  · have hne : ∃ y r, G.cut Q k ++ [k] = y :: r := by
      cases hx : G.cut Q k ++ [k] with
      | nil => simp at hx
      | cons y r => exact ⟨y, r, rfl⟩
    obtain ⟨y, r, hyr⟩ := hne
    have HA : Hid (G.add c Q k = (some y, r)) := G.add_over (by omega) hyr
    rw [HL.out] at hf
    have hf2 : c < (G.cut Q k).length + 1 := by simp at hf; omega
    clear hf
    generalize G.cut Q k = m at *
    generalize G.add c Q k = o at *
    generalize G.has Q k = was at *
    go_enter Try.func11, Try.ntmps11
    go_wp2_with (first
      | (go_at_call 13; refine Calls.mono htk ?_; clear htk; rintro ee w1 ⟨rfl, ⟨ad1, cp1, h1⟩, hk1⟩; have H1 : Hid (RXIn D w1 x c ad1 cp1 m) := h1; have HK1 : Hid (Keeps D w w1) := hk1; obtain ⟨c0, c1, f0, xl⟩ := h1.cells; clear h1 hk1)
      | (at_builtin; go_must (refine wpList_append_row (D := fun g => D g ∧ g ≠ x) (zs := m) (ks := [k]) rfl _ _ rfl rfl (H1.out.row.below ((Below.refl _ _).alloc (Nat.le_refl _) _)) rfl (src_one _ k) (by simp; omega) ?_); intro ad3 cp3 w3 hr3 hk3; have HP : Hid _ := RXIn.push (n := m.length + 1) H1.out (fun g h => HD.out g (Nat.le_trans HK1.out.size h)) ((Below.refl _ _).alloc (Nat.le_refl _) _) (by simp) (fun _ h => h) hr3 hk3; have e0 := HP.out.2.2.1; have e1 := HP.out.2.2.2; clear hr3 hk3))
    have H4 : Hid (RXIn D (w3.setCell ⟨x, 0, none⟩ (.slice ad3 (m.length + 1) cp3)) x c ad3 cp3 (m ++ [k])) := HP.out.1
    have HK4 : Hid (Keeps D w (w3.setCell ⟨x, 0, none⟩ (.slice ad3 (m.length + 1) cp3))) := HK1.out.trans HP.out.2.1
    clear HP e0 e1 c0 c1 f0 xl H1 HK1
    have hlen : (m ++ [k]).length = m.length + 1 := by simp
    have hnq : m.length + 1 ≤ 100001 := by omega
    generalize w3.setCell ⟨x, 0, none⟩ (.slice ad3 (m.length + 1) cp3) = w4 at *
    generalize m.length + 1 = n at *
    obtain ⟨d0, d1, d2, dl⟩ := H4.out.cells
    rw [hlen] at d0
    have hgt : (c : Int) < (n : Int) := by omega
    refine region_same (by kernel_rfl) 9 20 rfl (fun slot => [(.pointer (some ⟨x, 0, none⟩) : Value), (.pointer (some ⟨x, 0, none⟩) : Value), (.pointer (some ⟨x, 0, none⟩) : Value), (.slice ad3 n cp3 : Value), (.int .i64 (n : Nat) : Value), (.pointer (some ⟨x, 0, none⟩) : Value), (.pointer (some ⟨x, 0, none⟩) : Value), (.pointer (some ⟨x, 1, none⟩) : Value), (.int .i64 (c : Nat) : Value), (.bool true : Value)].getD slot undef) (lex_of (by kernel_rfl)) (wait_of (by kernel_rfl)) (by simp) ?_ ?_
    · intro i hi a' hst hdep Kc hKc
      have hcase : i = 0 ∨ i = 1 ∨ i = 2 ∨ i = 3 ∨ i = 4 ∨ i = 5 ∨ i = 6 ∨ i = 7 ∨ i = 8 ∨ i = 9 := by omega
      rcases hcase with e1 | e1 | e1 | e1 | e1 | e1 | e1 | e1 | e1 | e1
      · subst e1
        have o0 := hst.at 0 (by omega)
        simp at o0
        refine still_op rfl rfl ?_
        simp [Oper.wp, execOp, Act.eval, go_sem, o0]
        exact hKc
      · subst e1
        have d0 : a'.tmps[20]?.getD undef = .pointer (some ⟨x, 0, none⟩) := by simpa using hdep 0 (by kernel_rfl)
        refine still_op rfl rfl ?_
        simp [Oper.wp, execOp, Act.eval, go_sem, d0]
        exact hKc
      · subst e1
        have d1 : a'.tmps[21]?.getD undef = .pointer (some ⟨x, 0, none⟩) := by simpa using hdep 1 (by kernel_rfl)
        refine still_op rfl rfl ?_
        simp [Oper.wp, execOp, Act.eval, go_sem, d1]
        exact hKc
      · subst e1
        have d2 : a'.tmps[22]?.getD undef = .pointer (some ⟨x, 0, none⟩) := by simpa using hdep 2 (by kernel_rfl)
        refine still_op rfl rfl ?_
        simp [Oper.wp, execOp, Act.eval, go_sem, d2, d0]
        exact hKc
      · subst e1
        have d3 : a'.tmps[23]?.getD undef = .slice ad3 n cp3 := by simpa using hdep 3 (by kernel_rfl)
        refine still_op rfl rfl ?_
        simp [Oper.wp, execOp, Act.eval, go_sem, d3]
        exact hKc
      · subst e1
        have o0 := hst.at 0 (by omega)
        simp at o0
        refine still_op rfl rfl ?_
        simp [Oper.wp, execOp, Act.eval, go_sem, o0]
        exact hKc
      · subst e1
        have d5 : a'.tmps[25]?.getD undef = .pointer (some ⟨x, 0, none⟩) := by simpa using hdep 5 (by kernel_rfl)
        refine still_op rfl rfl ?_
        simp [Oper.wp, execOp, Act.eval, go_sem, d5]
        exact hKc
      · subst e1
        have d6 : a'.tmps[26]?.getD undef = .pointer (some ⟨x, 0, none⟩) := by simpa using hdep 6 (by kernel_rfl)
        refine still_op rfl rfl ?_
        simp [Oper.wp, execOp, Act.eval, go_sem, d6]
        exact hKc
      · subst e1
        have d7 : a'.tmps[27]?.getD undef = .pointer (some ⟨x, 1, none⟩) := by simpa using hdep 7 (by kernel_rfl)
        refine still_op rfl rfl ?_
        simp [Oper.wp, execOp, Act.eval, go_sem, d7, d1]
        exact hKc
      · subst e1
        have d4 : a'.tmps[24]?.getD undef = .int .i64 (n : Nat) := by simpa using hdep 4 (by kernel_rfl)
        have d8 : a'.tmps[28]?.getD undef = .int .i64 (c : Nat) := by simpa using hdep 8 (by kernel_rfl)
        refine still_op rfl rfl ?_
        simp [Oper.wp, execOp, Act.eval, go_sem, d4, d8, hgt]
        exact hKc
    simp only [fillA, Act.put, List.setIfInBounds_toArray, List.set_cons_succ, List.set_cons_zero, List.getD_cons_zero, List.getD_cons_succ, Nat.reduceAdd, Nat.add_zero]
    rw [hyr] at hlen H4
    have H5 : Hid (RXIn D w4.drew x c ad3 cp3 (y :: r)) := H4.out.kept (D' := fun _ => False) (Keeps.refl _ w4).drew (fun _ _ _ e => e)
    obtain ⟨g, off, rfl, -, ck, -⟩ := H5.out.row.at (i := 0) (z := y) rfl
    rw [Nat.add_zero] at ck
    obtain ⟨d0, d1, d2, dl⟩ := H5.out.cells
    rw [hlen] at d0
    have HT : Hid (RowIn Value.string w4.drew (if cp3 = 1 then some ⟨g, off, none⟩ else some ⟨g, off + 1, none⟩) r) := tail_row H5.out.row
    have hn1 : n - 1 = r.length := by have : (y :: r).length = r.length + 1 := by simp
                                      omega
    have hrl : r.length ≤ 100000 := by simp at hlen; omega
    have HS : Hid (Src Try.prog 1 34 (.slice (if cp3 = 1 then some ⟨g, off, none⟩ else some ⟨g, off + 1, none⟩) r.length (cp3 - 1)) r.length (txs r) (w4.alloc (.cells #[] 9)).drew) := by
      exact rowIn_src (HT.out.later ((Below.refl w4.drew.heap.size w4.drew).alloc (Nat.le_refl _) (.cells #[] 9)))
    have HF6 : Hid (∀ ad6 cp6 w6, Row (fun g => w4.heap.size ≤ g ∨ (w4.alloc (.cells #[] 9)).drew.heap.size ≤ g) w6 ad6 cp6 ([] ++ r) → Row (fun a => D a ∧ a ≠ x) w6 ad6 cp6 r) := by
      intro ad6 cp6 w6 h6
      have hz : w4.heap.size ≤ (w4.alloc (.cells #[] 9)).heap.size := by simp
      refine Row.wide h6 (fun a _ ha => ?_)
      have ha2 : w4.heap.size ≤ a := by
        rcases ha with h | h
        · exact h
        · exact Nat.le_trans hz h
      exact ⟨HD.out a (Nat.le_trans HK4.out.size ha2), fun e => by subst e; omega⟩
    clear H5
    go_wp2_with (at_builtin; go_must ((refine wpList_append_row (D := fun g => w4.heap.size ≤ g) (zs := []) (ks := r) (vx := .slice (if cp3 = 1 then some ⟨g, off, none⟩ else some ⟨g, off + 1, none⟩) r.length (cp3 - 1)) rfl _ _ rfl rfl (Row.bare _) rfl HS.out (by simp; omega) ?_); intro ad6 cp6 w6 hr6 hk6; have HK6 : Hid (Keeps (fun g => w4.heap.size ≤ g) w4 w6) := ((((Keeps.refl _ w4).alloc _).drew).trans hk6); have H6 : Hid (RXIn D w6 x c (some ⟨g, off, none⟩) cp3 (y :: r)) := H4.out.kept HK6.out (fun k h1 _ h2 => by omega); have HR6 : Hid (Row (fun a => D a ∧ a ≠ x) w6 ad6 cp6 r) := HF6.out _ _ _ hr6; obtain ⟨f0, f1, f2, fl⟩ := H6.out.cells; clear hr6 hk6))
    all_goals
      go_ret2
      rw [HA.out]
      exact ⟨rfl, ⟨_, _, H6.out.put (by simp) HR6.out⟩, (HK4.out.trans (HK6.out.mono (fun a _ ha => HD.out a (Nat.le_trans HK4.out.size ha)))).setCell (p := ⟨x, 0, none⟩) H6.out.de _⟩
end
end Go.Proofs.Ytdiggfiapbifpaa
