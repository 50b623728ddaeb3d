/- hoardlaw16.texts. -/
import Derived.Test.YtdiggfiapbifpaaAj
namespace Go.Proofs.Ytdiggfiapbifpaa
open Go.RowKit

/-- two rows are one -/
def eqb (xs ys : List ByteArray) : Bool := decide (xs = ys)
set_option maxRecDepth 20000 in
set_option maxHeartbeats 1000000 in
theorem texts_any {w : World} {a1 a2 : Option Addr} {c1 c2 : Nat} {xs ys : List ByteArray} (h1 : RowIn Value.string w a1 xs) (h2 : RowIn Value.string w a2 ys) (hx : xs.length ≤ 1000000) (hy : ys.length ≤ 1000000) :
    Calls Try.prog 17 #[.slice a1 xs.length c1, .slice a2 ys.length c2] w fun e w' => e = .returned (.bool (eqb xs ys)) ∧ Below w.heap.size w w' := by
  have H1 : Hid (RowIn Value.string w a1 xs) := h1
  have H2 : Hid (RowIn Value.string w a2 ys) := h2
  clear h1 h2
  by_cases hl : xs.length = ys.length
  · have HL : Hid (xs.length = ys.length) := hl
    rw [← hl]
    go_enter Try.func17, Try.ntmps17
    go_wp2_with fail
    go_loopw [5] (fun i wr => ∃ k : Nat, k ≤ xs.length ∧ i = .int .i64 k ∧ xs.take k = ys.take k ∧ Below w.heap.size w wr) (fun i _ => xs.length - (intOf i).toNat)
    case atStart => exact ⟨0, Nat.zero_le _, rfl, rfl, Below.refl _ _⟩
    case round =>
      obtain ⟨k, hk, rfl, hT, hB⟩ := hrel
      have HT : Hid (xs.take k = ys.take k) := hT
      have HB : Hid (Below w.heap.size w wr) := hB
      rcases Nat.lt_or_ge k xs.length with hlt | hge
      · obtain ⟨x, hx'⟩ : ∃ x, xs[k]? = some x := ⟨_, List.getElem?_eq_getElem hlt⟩
        obtain ⟨y, hy'⟩ : ∃ y, ys[k]? = some y := ⟨_, List.getElem?_eq_getElem (by omega)⟩
        obtain ⟨g1, o1, rfl, c1'⟩ := (H1.out.later hB).at hx'
        obtain ⟨g2, o2, rfl, c2'⟩ := (H2.out.later hB).at hy'
        have HX : Hid (xs[k]? = some x) := hx'
        have HY : Hid (ys[k]? = some y) := hy'
        have hbe : (x.toList == y.toList) = decide (x = y) := texts_beq x y
        clear hT hB hx' hy' hl
        by_cases hxy : x = y
        · have hb2 : (x.toList == y.toList) = true := by rw [hbe]; exact decide_eq_true hxy
          have HXY : Hid (x = y) := hxy
          clear hbe hxy
          go_wp2_with fail
          refine region_same (by kernel_rfl) 8 17 rfl (fun j => [(.slice (some ⟨g1, o1, none⟩) xs.length c1 : Value), (.int .i64 (k : Nat) : Value), (.pointer (some ⟨g1, o1 + k, none⟩) : Value), (.string x : Value), (.slice (some ⟨g2, o2, none⟩) xs.length c2 : Value), (.int .i64 (k : Nat) : Value), (.pointer (some ⟨g2, o2 + k, none⟩) : Value), (.string y : Value), (.bool false : Value)].getD j undef) (lex_of (by kernel_rfl)) (wait_of (by kernel_rfl)) (by simp) ?_ ?_
          · intro i hi a' hst hdep Kc hKc
            have hcase : i = 0 ∨ i = 1 ∨ i = 2 ∨ i = 3 ∨ i = 4 ∨ i = 5 ∨ i = 6 ∨ i = 7 ∨ i = 8 := by omega
            rcases hcase with e1 | e1 | e1 | e1 | e1 | e1 | e1 | e1 | e1
            · subst e1
              have o0 := hst.at 0 (by omega)
              simp at o0
              refine still_op rfl rfl ?_
              simp [Oper.wp, execOp, Act.eval, go_sem, o0]
              exact hKc
            · subst e1
              have o5 := hst.at 5 (by omega)
              simp at o5
              refine still_op rfl rfl ?_
              simp [Oper.wp, execOp, Act.eval, go_sem, o5]
              exact hKc
            · subst e1
              have d0 : a'.tmps[17]?.getD undef = .slice (some ⟨g1, o1, none⟩) xs.length c1 := by simpa using hdep 0 (by kernel_rfl)
              have d1 : a'.tmps[18]?.getD undef = .int .i64 (k : Nat) := by simpa using hdep 1 (by kernel_rfl)
              refine still_op rfl rfl ?_
              simp [Oper.wp, execOp, Act.eval, go_sem, d0, d1, hlt]
              exact hKc
            · subst e1
              have d2 : a'.tmps[19]?.getD undef = .pointer (some ⟨g1, o1 + k, none⟩) := by simpa using hdep 2 (by kernel_rfl)
              refine still_op rfl rfl ?_
              simp [Oper.wp, execOp, Act.eval, go_sem, d2, c1']
              exact hKc
            · subst e1
              have o1 := hst.at 1 (by omega)
              simp at o1
              refine still_op rfl rfl ?_
              simp [Oper.wp, execOp, Act.eval, go_sem, o1]
              exact hKc
            · subst e1
              have o5 := hst.at 5 (by omega)
              simp at o5
              refine still_op rfl rfl ?_
              simp [Oper.wp, execOp, Act.eval, go_sem, o5]
              exact hKc
            · subst e1
              have d4 : a'.tmps[21]?.getD undef = .slice (some ⟨g2, o2, none⟩) xs.length c2 := by simpa using hdep 4 (by kernel_rfl)
              have d5 : a'.tmps[22]?.getD undef = .int .i64 (k : Nat) := by simpa using hdep 5 (by kernel_rfl)
              refine still_op rfl rfl ?_
              simp [Oper.wp, execOp, Act.eval, go_sem, d4, d5, hlt]
              exact hKc
            · subst e1
              have d6 : a'.tmps[23]?.getD undef = .pointer (some ⟨g2, o2 + k, none⟩) := by simpa using hdep 6 (by kernel_rfl)
              refine still_op rfl rfl ?_
              simp [Oper.wp, execOp, Act.eval, go_sem, d6, c2']
              exact hKc
            · subst e1
              have d3 : a'.tmps[20]?.getD undef = .string x := by simpa using hdep 3 (by kernel_rfl)
              have d7 : a'.tmps[24]?.getD undef = .string y := by simpa using hdep 7 (by kernel_rfl)
              refine still_op rfl rfl ?_
              simp [Oper.wp, execOp, Act.eval, go_sem, d3, d7, hb2]
              exact hKc
          simp only [fillA, Act.put, List.setIfInBounds_toArray, List.set_cons_succ, List.set_cons_zero, List.getD_cons_zero, List.getD_cons_succ, Nat.reduceAdd, Nat.add_zero]
          go_wp2_with fail
          go_roundw
          case rel =>
            refine ⟨k + 1, hlt, by go_num, ?_, below_trans' HB.out (Below.refl _ _).drew⟩
            rw [List.take_add_one, List.take_add_one, HX.out, HY.out, HT.out, HXY.out]
          case measure => simp [intOf]; omega
        · have hb2 : (x.toList == y.toList) = false := by rw [hbe]; exact decide_eq_false hxy
          have HN : Hid (eqb xs ys = false) := by
            show eqb xs ys = false
            unfold eqb
            rw [decide_eq_false_iff_not]
            rintro rfl
            have h1 := HX.out
            rw [HY.out] at h1
            cases h1
            exact hxy rfl
          clear hbe hxy
          go_wp2_with fail
          refine region_same (by kernel_rfl) 8 17 rfl (fun j => [(.slice (some ⟨g1, o1, none⟩) xs.length c1 : Value), (.int .i64 (k : Nat) : Value), (.pointer (some ⟨g1, o1 + k, none⟩) : Value), (.string x : Value), (.slice (some ⟨g2, o2, none⟩) xs.length c2 : Value), (.int .i64 (k : Nat) : Value), (.pointer (some ⟨g2, o2 + k, none⟩) : Value), (.string y : Value), (.bool true : Value)].getD j undef) (lex_of (by kernel_rfl)) (wait_of (by kernel_rfl)) (by simp) ?_ ?_
          · intro i hi a' hst hdep Kc hKc
            have hcase : i = 0 ∨ i = 1 ∨ i = 2 ∨ i = 3 ∨ i = 4 ∨ i = 5 ∨ i = 6 ∨ i = 7 ∨ i = 8 := by omega
            rcases hcase with e1 | e1 | e1 | e1 | e1 | e1 | e1 | e1 | e1
            · subst e1
              have o0 := hst.at 0 (by omega)
              simp at o0
              refine still_op rfl rfl ?_
              simp [Oper.wp, execOp, Act.eval, go_sem, o0]
              exact hKc
            · subst e1
              have o5 := hst.at 5 (by omega)
              simp at o5
              refine still_op rfl rfl ?_
              simp [Oper.wp, execOp, Act.eval, go_sem, o5]
              exact hKc
            · subst e1
              have d0 : a'.tmps[17]?.getD undef = .slice (some ⟨g1, o1, none⟩) xs.length c1 := by simpa using hdep 0 (by kernel_rfl)
              have d1 : a'.tmps[18]?.getD undef = .int .i64 (k : Nat) := by simpa using hdep 1 (by kernel_rfl)
              refine still_op rfl rfl ?_
              simp [Oper.wp, execOp, Act.eval, go_sem, d0, d1, hlt]
              exact hKc
            · subst e1
              have d2 : a'.tmps[19]?.getD undef = .pointer (some ⟨g1, o1 + k, none⟩) := by simpa using hdep 2 (by kernel_rfl)
              refine still_op rfl rfl ?_
              simp [Oper.wp, execOp, Act.eval, go_sem, d2, c1']
              exact hKc
            · subst e1
              have o1 := hst.at 1 (by omega)
              simp at o1
              refine still_op rfl rfl ?_
              simp [Oper.wp, execOp, Act.eval, go_sem, o1]
              exact hKc
            · subst e1
              have o5 := hst.at 5 (by omega)
              simp at o5
              refine still_op rfl rfl ?_
              simp [Oper.wp, execOp, Act.eval, go_sem, o5]
              exact hKc
            · subst e1
              have d4 : a'.tmps[21]?.getD undef = .slice (some ⟨g2, o2, none⟩) xs.length c2 := by simpa using hdep 4 (by kernel_rfl)
              have d5 : a'.tmps[22]?.getD undef = .int .i64 (k : Nat) := by simpa using hdep 5 (by kernel_rfl)
              refine still_op rfl rfl ?_
              simp [Oper.wp, execOp, Act.eval, go_sem, d4, d5, hlt]
              exact hKc
            · subst e1
              have d6 : a'.tmps[23]?.getD undef = .pointer (some ⟨g2, o2 + k, none⟩) := by simpa using hdep 6 (by kernel_rfl)
              refine still_op rfl rfl ?_
              simp [Oper.wp, execOp, Act.eval, go_sem, d6, c2']
              exact hKc
            · subst e1
              have d3 : a'.tmps[20]?.getD undef = .string x := by simpa using hdep 3 (by kernel_rfl)
              have d7 : a'.tmps[24]?.getD undef = .string y := by simpa using hdep 7 (by kernel_rfl)
              refine still_op rfl rfl ?_
              simp [Oper.wp, execOp, Act.eval, go_sem, d3, d7, hb2]
              exact hKc
          simp only [fillA, Act.put, List.setIfInBounds_toArray, List.set_cons_succ, List.set_cons_zero, List.getD_cons_zero, List.getD_cons_succ, Nat.reduceAdd, Nat.add_zero]
          go_wp2_with fail
          go_ret
          exact ⟨by rw [HN.out]; rfl, below_trans' HB.out (Below.refl _ _).drew⟩
      · have hk' : k = xs.length := by omega
        subst hk'
        have HN : Hid (eqb xs ys = true) := by
          show eqb xs ys = true
          unfold eqb
          rw [decide_eq_true_eq]
          have h1 := HT.out
          rw [List.take_length, hl, List.take_length] at h1
          exact h1
        clear hT hB hl
        go_wp2_with fail
        go_ret
        exact ⟨by rw [HN.out]; rfl, HB.out⟩
  · go_enter Try.func17, Try.ntmps17
    have hne : eqb xs ys = false := by unfold eqb; rw [decide_eq_false_iff_not]; rintro rfl; exact hl rfl
    have HN : Hid _ := hne
    clear hne
    go_wp2_with fail
    go_ret
    exact ⟨by rw [HN.out]; rfl, Below.refl _ _⟩
end Go.Proofs.Ytdiggfiapbifpaa
