/- An engine as the machine of chapter 10: Load, Remove, Evict. An engine as the machine of chapter 10: Load as a whole. -/
import Derived.Test.YtfbdmoineahfgaaDoorEu
import Derived.Test.YtfbdmoineahfgaaDoorAl
import Derived.Deep.CutRange
namespace Go.Proofs.YtfbdmoineahfgaaDoor
open Go.RowKit

theorem below_tr2 {a x y : World} (h : Below a.heap.size a x) (k : Below x.heap.size x y) : Below a.heap.size a y :=
  ((Keeps.of_below (D := fun _ => False) h).trans (Keeps.of_below k)).below (Nat.le_refl _) (fun _ e => e.elim)
section
variable {D : Nat → Prop} {w w' : World} {e b : Nat} {s : Stt}
set_option maxRecDepth 100000 in
set_option maxHeartbeats 4000000 in
theorem load_no1 (H : AE e b s D w) (hb : b ≤ 600000) (key : ByteArray) (hk : key.size ≤ 1000) (hin : key ∈ A.keys s) :
    Calls Tryd.prog 32 #[.pointer (some ⟨e, 0, none⟩), .string key] w fun ee w' => ee = .returned (.bool false) ∧ Below w.heap.size w w' := by
  have HBl : Hid (∀ W, Below w.heap.size w W → Calls Tryd.prog 41 #[.pointer (some ⟨e, 0, none⟩)] W fun ee w' => ee = .returned (.bool false) ∧ Below W.heap.size W w') := fun W hW => (blank_any (EN.below H hW)).mono (by rintro ee w' ⟨h1, rfl⟩; exact ⟨h1, Below.refl _ _⟩)
  have HHas : Hid (∀ W, Below w.heap.size w W → Calls Tryd.prog 30 #[.pointer (some ⟨e, 0, none⟩), .string key] W fun ee w' => ee = .returned (.bool true) ∧ Below W.heap.size W w') := fun W hW => by
    have h := has_any (EN.below H hW : AE e b s D W) (by omega) key hk
    rw [inb_yes hin] at h
    exact h
  clear H
  go_enter Tryd.func32, Tryd.ntmps32
  go_wp2_with fail
  refine region_low (by kernel_rfl) 15 5 rfl (LF 99 98 ([] : List ByteArray) (fun slot => [(.pointer (some ⟨e, 0, none⟩) : Value), (.bool false : Value), (.bool false : Value), (.pointer (some ⟨e, 0, none⟩) : Value), (.string key : Value), (.bool true : Value), (.bool true : Value), (.bool true : Value), (undef : Value), (undef : Value), (undef : Value), (undef : Value), (undef : Value), (undef : Value), (undef : Value), (.bool true : Value)].getD slot undef)) (fun W => Below w.heap.size w W) (lex_of (by kernel_rfl)) (wait_of (by kernel_rfl)) (by simp) (Below.refl _ _).drew ?_ ?_
  · intro i hi a' W hC hst hdep
    have hcase : i = 0 ∨ i = 1 ∨ i = 2 ∨ i = 3 ∨ i = 4 ∨ i = 5 ∨ i = 6 ∨ i = 7 ∨ i = 8 ∨ i = 9 ∨ i = 10 ∨ i = 11 ∨ i = 12 ∨ i = 13 ∨ i = 14 ∨ i = 15 := by omega
    rcases hcase with e1 | e1 | e1 | e1 | e1 | e1 | e1 | e1 | e1 | e1 | e1 | e1 | e1 | e1 | e1 | e1
    · subst e1
      have o0 := hst.at 0 (by omega)
      simp at o0
      refine low_same (v := .pointer (some ⟨e, 0, none⟩)) ?_ hC (LF.mk (j := 0) (by decide) (by decide))
      intro Kc hKc
      refine still_op rfl rfl ?_
      simp [Oper.wp, execOp, Act.eval, go_sem, o0]
      exact hKc
    · subst e1
      have d0 : a'.tmps[5]?.getD undef = .pointer (some ⟨e, 0, none⟩) := by simpa using (LF.is (hdep 0 (by kernel_rfl)) (by decide) (by decide))
      refine low_new (fun v w1 => v = .bool false ∧ Below W.heap.size W w1) ?_ ?_
      · intro Kc hKc
        refine still_op rfl rfl ?_
        simp [Oper.wp, execOp, Act.eval, go_sem, d0]
        refine Calls.mono (HBl.out W hC) ?_
        rintro ee w5 ⟨rfl, hb5⟩
        exact hKc _ _ ⟨rfl, hb5⟩
      · rintro v w1 ⟨rfl, hb1⟩
        exact ⟨below_trans' hC hb1, LF.mk (j := 1) (by decide) (by decide), fun j u h => LF.mono h hb1⟩
    · subst e1
      have d1 : a'.tmps[6]?.getD undef = .bool false := by simpa using (LF.is (hdep 1 (by kernel_rfl)) (by decide) (by decide))
      refine low_same (v := .bool false) ?_ hC (LF.mk (j := 2) (by decide) (by decide))
      intro Kc hKc
      refine still_op rfl rfl ?_
      simp [Oper.wp, execOp, Act.eval, go_sem, d1]
      exact hKc
    · subst e1
      have o0 := hst.at 0 (by omega)
      simp at o0
      refine low_same (v := .pointer (some ⟨e, 0, none⟩)) ?_ hC (LF.mk (j := 3) (by decide) (by decide))
      intro Kc hKc
      refine still_on rfl rfl rfl rfl (LF.is (hdep 2 (by kernel_rfl)) (by decide) (by decide)) ?_
      simp [Oper.wp, execOp, Act.eval, go_sem, o0]
      exact hKc
    · subst e1
      have o1 := hst.at 1 (by omega)
      simp at o1
      refine low_same (v := .string key) ?_ hC (LF.mk (j := 4) (by decide) (by decide))
      intro Kc hKc
      refine still_on rfl rfl rfl rfl (LF.is (hdep 2 (by kernel_rfl)) (by decide) (by decide)) ?_
      simp [Oper.wp, execOp, Act.eval, go_sem, o1]
      exact hKc
    · subst e1
      have d3 : a'.tmps[8]?.getD undef = .pointer (some ⟨e, 0, none⟩) := by simpa using (LF.is (hdep 3 (by kernel_rfl)) (by decide) (by decide))
      have d4 : a'.tmps[9]?.getD undef = .string key := by simpa using (LF.is (hdep 4 (by kernel_rfl)) (by decide) (by decide))
      refine low_new (fun v w1 => v = .bool true ∧ Below W.heap.size W w1) ?_ ?_
      · intro Kc hKc
        refine still_on rfl rfl rfl rfl (LF.is (hdep 2 (by kernel_rfl)) (by decide) (by decide)) ?_
        simp [Oper.wp, execOp, Act.eval, go_sem, d3, d4]
        refine Calls.mono (HHas.out W hC) ?_
        rintro ee w5 ⟨rfl, hb5⟩
        exact hKc _ _ ⟨rfl, hb5⟩
      · rintro v w1 ⟨rfl, hb1⟩
        exact ⟨below_trans' hC hb1, LF.mk (j := 5) (by decide) (by decide), fun j u h => LF.mono h hb1⟩
    · subst e1
      have d2 : a'.tmps[7]?.getD undef = .bool false := by simpa using (LF.is (hdep 2 (by kernel_rfl)) (by decide) (by decide))
      have d5 : a'.tmps[10]?.getD undef = .bool true := by simpa using (LF.is (hdep 5 (by kernel_rfl)) (by decide) (by decide))
      refine low_same (v := .bool true) ?_ hC (LF.mk (j := 6) (by decide) (by decide))
      intro Kc hKc
      refine still_op rfl rfl ?_
      simp [Oper.wp, execOp, Act.eval, go_sem, d2, d5]
      exact hKc
    · subst e1
      have d6 : a'.tmps[11]?.getD undef = .bool true := by simpa using (LF.is (hdep 6 (by kernel_rfl)) (by decide) (by decide))
      refine low_same (v := .bool true) ?_ hC (LF.mk (j := 7) (by decide) (by decide))
      intro Kc hKc
      refine still_op rfl rfl ?_
      simp [Oper.wp, execOp, Act.eval, go_sem, d6]
      exact hKc
    · subst e1
      refine low_same (v := undef) ?_ hC (LF.mk (j := 8) (by decide) (by decide))
      intro Kc hKc
      exact still_off rfl rfl rfl rfl (LF.is (hdep 7 (by kernel_rfl)) (by decide) (by decide)) rfl hKc
    · subst e1
      refine low_same (v := undef) ?_ hC (LF.mk (j := 9) (by decide) (by decide))
      intro Kc hKc
      exact still_off rfl rfl rfl rfl (LF.is (hdep 7 (by kernel_rfl)) (by decide) (by decide)) rfl hKc
    · subst e1
      refine low_same (v := undef) ?_ hC (LF.mk (j := 10) (by decide) (by decide))
      intro Kc hKc
      exact still_off rfl rfl rfl rfl (LF.is (hdep 7 (by kernel_rfl)) (by decide) (by decide)) rfl hKc
    · subst e1
      refine low_same (v := undef) ?_ hC (LF.mk (j := 11) (by decide) (by decide))
      intro Kc hKc
      exact still_off rfl rfl rfl rfl (LF.is (hdep 7 (by kernel_rfl)) (by decide) (by decide)) rfl hKc
    · subst e1
      refine low_same (v := undef) ?_ hC (LF.mk (j := 12) (by decide) (by decide))
      intro Kc hKc
      exact still_off rfl rfl rfl rfl (LF.is (hdep 7 (by kernel_rfl)) (by decide) (by decide)) rfl hKc
    · subst e1
      refine low_same (v := undef) ?_ hC (LF.mk (j := 13) (by decide) (by decide))
      intro Kc hKc
      exact still_off rfl rfl rfl rfl (LF.is (hdep 7 (by kernel_rfl)) (by decide) (by decide)) rfl hKc
    · subst e1
      refine low_same (v := undef) ?_ hC (LF.mk (j := 14) (by decide) (by decide))
      intro Kc hKc
      exact still_off rfl rfl rfl rfl (LF.is (hdep 7 (by kernel_rfl)) (by decide) (by decide)) rfl hKc
    · subst e1
      have d7 : a'.tmps[12]?.getD undef = .bool true := by simpa using (LF.is (hdep 7 (by kernel_rfl)) (by decide) (by decide))
      refine low_same (v := .bool true) ?_ hC (LF.mk (j := 15) (by decide) (by decide))
      intro Kc hKc
      refine still_op rfl rfl ?_
      simp [Oper.wp, execOp, Act.eval, go_sem, d7]
      exact hKc
  intro vs W hC hF
  have hlastv : vs 15 = .bool true := LF.is (hF 15 (by omega)) (by decide) (by decide)
  simp only [fillA, Act.put, List.setIfInBounds_toArray, List.set_cons_succ, List.set_cons_zero, Nat.reduceAdd, Nat.add_zero]
  rw [hlastv]
  go_wp2_with fail
  go_ret
  exact ⟨rfl, hC⟩
set_option maxRecDepth 100000 in
set_option maxHeartbeats 4000000 in
theorem load_no2 (H : AE e b s D w) (hb : b ≤ 600000) (key : ByteArray) (hk : key.size ≤ 1000) (hin : key ∉ A.keys s) (hl : s.c ≤ (A.keys s).length) :
    Calls Tryd.prog 32 #[.pointer (some ⟨e, 0, none⟩), .string key] w fun ee w' => ee = .returned (.bool false) ∧ Below w.heap.size w w' := by
  have HBl : Hid (∀ W, Below w.heap.size w W → Calls Tryd.prog 41 #[.pointer (some ⟨e, 0, none⟩)] W fun ee w' => ee = .returned (.bool false) ∧ Below W.heap.size W w') := fun W hW => (blank_any (EN.below H hW)).mono (by rintro ee w' ⟨h1, rfl⟩; exact ⟨h1, Below.refl _ _⟩)
  have HHas : Hid (∀ W, Below w.heap.size w W → Calls Tryd.prog 30 #[.pointer (some ⟨e, 0, none⟩), .string key] W fun ee w' => ee = .returned (.bool false) ∧ Below W.heap.size W w') := fun W hW => by
    have h := has_any (EN.below H hW : AE e b s D W) (by omega) key hk
    rw [inb_no hin] at h
    exact h
  obtain ⟨m, hm⟩ : ∃ m, m = (A.keys s).length := ⟨_, rfl⟩
  have HLn : Hid (∀ W, Below w.heap.size w W → Calls Tryd.prog 15 #[.pointer (some ⟨e, 0, none⟩)] W fun ee w' => ee = .returned (.int .i64 (m : Nat)) ∧ Below W.heap.size W w') := fun W hW => by
    have h := lenK (EN.below H hW : AE e b s D W) (by omega)
    rw [← hm] at h
    exact h
  have HCl : Hid (∀ W : World, Below w.heap.size w W → W.cell? ⟨e, 0, none⟩ = some (.int .i64 (s.c : Nat)) ∧ e < W.heap.size) := fun W hW => by
    have h := EN.cells (EN.below H hW)
    exact ⟨h.1, h.2.2.2.1⟩
  have hd1 : decide (s.c ≤ m) = true := decide_eq_true (by omega)
  clear H hm hl
  go_enter Tryd.func32, Tryd.ntmps32
  go_wp2_with fail
  refine region_low (by kernel_rfl) 15 5 rfl (LF 99 98 ([] : List ByteArray) (fun slot => [(.pointer (some ⟨e, 0, none⟩) : Value), (.bool false : Value), (.bool false : Value), (.pointer (some ⟨e, 0, none⟩) : Value), (.string key : Value), (.bool false : Value), (.bool false : Value), (.bool false : Value), (.pointer (some ⟨e, 0, none⟩) : Value), (.int .i64 (m : Nat) : Value), (.pointer (some ⟨e, 0, none⟩) : Value), (.pointer (some ⟨e, 0, none⟩) : Value), (.pointer (some ⟨e, 0, none⟩) : Value), (.int .i64 (s.c : Nat) : Value), (.bool true : Value), (.bool true : Value)].getD slot undef)) (fun W => Below w.heap.size w W) (lex_of (by kernel_rfl)) (wait_of (by kernel_rfl)) (by simp) (Below.refl _ _).drew ?_ ?_
  · intro i hi a' W hC hst hdep
    have hcase : i = 0 ∨ i = 1 ∨ i = 2 ∨ i = 3 ∨ i = 4 ∨ i = 5 ∨ i = 6 ∨ i = 7 ∨ i = 8 ∨ i = 9 ∨ i = 10 ∨ i = 11 ∨ i = 12 ∨ i = 13 ∨ i = 14 ∨ i = 15 := by omega
    rcases hcase with e1 | e1 | e1 | e1 | e1 | e1 | e1 | e1 | e1 | e1 | e1 | e1 | e1 | e1 | e1 | e1
    · subst e1
      have o0 := hst.at 0 (by omega)
      simp at o0
      refine low_same (v := .pointer (some ⟨e, 0, none⟩)) ?_ hC (LF.mk (j := 0) (by decide) (by decide))
      intro Kc hKc
      refine still_op rfl rfl ?_
      simp [Oper.wp, execOp, Act.eval, go_sem, o0]
      exact hKc
    · subst e1
      have d0 : a'.tmps[5]?.getD undef = .pointer (some ⟨e, 0, none⟩) := by simpa using (LF.is (hdep 0 (by kernel_rfl)) (by decide) (by decide))
      refine low_new (fun v w1 => v = .bool false ∧ Below W.heap.size W w1) ?_ ?_
      · intro Kc hKc
        refine still_op rfl rfl ?_
        simp [Oper.wp, execOp, Act.eval, go_sem, d0]
        refine Calls.mono (HBl.out W hC) ?_
        rintro ee w5 ⟨rfl, hb5⟩
        exact hKc _ _ ⟨rfl, hb5⟩
      · rintro v w1 ⟨rfl, hb1⟩
        exact ⟨below_trans' hC hb1, LF.mk (j := 1) (by decide) (by decide), fun j u h => LF.mono h hb1⟩
    · subst e1
      have d1 : a'.tmps[6]?.getD undef = .bool false := by simpa using (LF.is (hdep 1 (by kernel_rfl)) (by decide) (by decide))
      refine low_same (v := .bool false) ?_ hC (LF.mk (j := 2) (by decide) (by decide))
      intro Kc hKc
      refine still_op rfl rfl ?_
      simp [Oper.wp, execOp, Act.eval, go_sem, d1]
      exact hKc
    · subst e1
      have o0 := hst.at 0 (by omega)
      simp at o0
      refine low_same (v := .pointer (some ⟨e, 0, none⟩)) ?_ hC (LF.mk (j := 3) (by decide) (by decide))
      intro Kc hKc
      refine still_on rfl rfl rfl rfl (LF.is (hdep 2 (by kernel_rfl)) (by decide) (by decide)) ?_
      simp [Oper.wp, execOp, Act.eval, go_sem, o0]
      exact hKc
    · subst e1
      have o1 := hst.at 1 (by omega)
      simp at o1
      refine low_same (v := .string key) ?_ hC (LF.mk (j := 4) (by decide) (by decide))
      intro Kc hKc
      refine still_on rfl rfl rfl rfl (LF.is (hdep 2 (by kernel_rfl)) (by decide) (by decide)) ?_
      simp [Oper.wp, execOp, Act.eval, go_sem, o1]
      exact hKc
    · subst e1
      have d3 : a'.tmps[8]?.getD undef = .pointer (some ⟨e, 0, none⟩) := by simpa using (LF.is (hdep 3 (by kernel_rfl)) (by decide) (by decide))
      have d4 : a'.tmps[9]?.getD undef = .string key := by simpa using (LF.is (hdep 4 (by kernel_rfl)) (by decide) (by decide))
      refine low_new (fun v w1 => v = .bool false ∧ Below W.heap.size W w1) ?_ ?_
      · intro Kc hKc
        refine still_on rfl rfl rfl rfl (LF.is (hdep 2 (by kernel_rfl)) (by decide) (by decide)) ?_
        simp [Oper.wp, execOp, Act.eval, go_sem, d3, d4]
        refine Calls.mono (HHas.out W hC) ?_
        rintro ee w5 ⟨rfl, hb5⟩
        exact hKc _ _ ⟨rfl, hb5⟩
      · rintro v w1 ⟨rfl, hb1⟩
        exact ⟨below_trans' hC hb1, LF.mk (j := 5) (by decide) (by decide), fun j u h => LF.mono h hb1⟩
    · subst e1
      have d2 : a'.tmps[7]?.getD undef = .bool false := by simpa using (LF.is (hdep 2 (by kernel_rfl)) (by decide) (by decide))
      have d5 : a'.tmps[10]?.getD undef = .bool false := by simpa using (LF.is (hdep 5 (by kernel_rfl)) (by decide) (by decide))
      refine low_same (v := .bool false) ?_ hC (LF.mk (j := 6) (by decide) (by decide))
      intro Kc hKc
      refine still_op rfl rfl ?_
      simp [Oper.wp, execOp, Act.eval, go_sem, d2, d5]
      exact hKc
    · subst e1
      have d6 : a'.tmps[11]?.getD undef = .bool false := by simpa using (LF.is (hdep 6 (by kernel_rfl)) (by decide) (by decide))
      refine low_same (v := .bool false) ?_ hC (LF.mk (j := 7) (by decide) (by decide))
      intro Kc hKc
      refine still_op rfl rfl ?_
      simp [Oper.wp, execOp, Act.eval, go_sem, d6]
      exact hKc
    · subst e1
      have o0 := hst.at 0 (by omega)
      simp at o0
      refine low_same (v := .pointer (some ⟨e, 0, none⟩)) ?_ hC (LF.mk (j := 8) (by decide) (by decide))
      intro Kc hKc
      refine still_on rfl rfl rfl rfl (LF.is (hdep 7 (by kernel_rfl)) (by decide) (by decide)) ?_
      simp [Oper.wp, execOp, Act.eval, go_sem, o0]
      exact hKc
    · subst e1
      have d8 : a'.tmps[13]?.getD undef = .pointer (some ⟨e, 0, none⟩) := by simpa using (LF.is (hdep 8 (by kernel_rfl)) (by decide) (by decide))
      refine low_new (fun v w1 => v = .int .i64 (m : Nat) ∧ Below W.heap.size W w1) ?_ ?_
      · intro Kc hKc
        refine still_on rfl rfl rfl rfl (LF.is (hdep 7 (by kernel_rfl)) (by decide) (by decide)) ?_
        simp [Oper.wp, execOp, Act.eval, go_sem, d8]
        refine Calls.mono (HLn.out W hC) ?_
        rintro ee w5 ⟨rfl, hb5⟩
        exact hKc _ _ ⟨rfl, hb5⟩
      · rintro v w1 ⟨rfl, hb1⟩
        exact ⟨below_trans' hC hb1, LF.mk (j := 9) (by decide) (by decide), fun j u h => LF.mono h hb1⟩
    · subst e1
      have o0 := hst.at 0 (by omega)
      simp at o0
      refine low_same (v := .pointer (some ⟨e, 0, none⟩)) ?_ hC (LF.mk (j := 10) (by decide) (by decide))
      intro Kc hKc
      refine still_on rfl rfl rfl rfl (LF.is (hdep 7 (by kernel_rfl)) (by decide) (by decide)) ?_
      simp [Oper.wp, execOp, Act.eval, go_sem, o0]
      exact hKc
    · subst e1
      have d10 : a'.tmps[15]?.getD undef = .pointer (some ⟨e, 0, none⟩) := by simpa using (LF.is (hdep 10 (by kernel_rfl)) (by decide) (by decide))
      refine low_same (v := .pointer (some ⟨e, 0, none⟩)) ?_ hC (LF.mk (j := 11) (by decide) (by decide))
      intro Kc hKc
      refine still_on rfl rfl rfl rfl (LF.is (hdep 7 (by kernel_rfl)) (by decide) (by decide)) ?_
      simp [Oper.wp, execOp, Act.eval, go_sem, d10]
      exact hKc
    · subst e1
      have d11 : a'.tmps[16]?.getD undef = .pointer (some ⟨e, 0, none⟩) := by simpa using (LF.is (hdep 11 (by kernel_rfl)) (by decide) (by decide))
      refine low_same (v := .pointer (some ⟨e, 0, none⟩)) ?_ hC (LF.mk (j := 12) (by decide) (by decide))
      intro Kc hKc
      refine still_on rfl rfl rfl rfl (LF.is (hdep 7 (by kernel_rfl)) (by decide) (by decide)) ?_
      simp [Oper.wp, execOp, Act.eval, go_sem, d11]
      exact hKc
    · subst e1
      have d12 : a'.tmps[17]?.getD undef = .pointer (some ⟨e, 0, none⟩) := by simpa using (LF.is (hdep 12 (by kernel_rfl)) (by decide) (by decide))
      refine low_same (v := .int .i64 (s.c : Nat)) ?_ hC (LF.mk (j := 13) (by decide) (by decide))
      intro Kc hKc
      refine still_on rfl rfl rfl rfl (LF.is (hdep 7 (by kernel_rfl)) (by decide) (by decide)) ?_
      simp [Oper.wp, execOp, Act.eval, go_sem, d12, (HCl.out W hC).1]
      exact hKc
    · subst e1
      have d9 : a'.tmps[14]?.getD undef = .int .i64 (m : Nat) := by simpa using (LF.is (hdep 9 (by kernel_rfl)) (by decide) (by decide))
      have d13 : a'.tmps[18]?.getD undef = .int .i64 (s.c : Nat) := by simpa using (LF.is (hdep 13 (by kernel_rfl)) (by decide) (by decide))
      refine low_same (v := .bool true) ?_ hC (LF.mk (j := 14) (by decide) (by decide))
      intro Kc hKc
      refine still_on rfl rfl rfl rfl (LF.is (hdep 7 (by kernel_rfl)) (by decide) (by decide)) ?_
      simp [Oper.wp, execOp, Act.eval, go_sem, d9, d13, hd1]
      exact hKc
    · subst e1
      have d7 : a'.tmps[12]?.getD undef = .bool false := by simpa using (LF.is (hdep 7 (by kernel_rfl)) (by decide) (by decide))
      have d14 : a'.tmps[19]?.getD undef = .bool true := by simpa using (LF.is (hdep 14 (by kernel_rfl)) (by decide) (by decide))
      refine low_same (v := .bool true) ?_ hC (LF.mk (j := 15) (by decide) (by decide))
      intro Kc hKc
      refine still_op rfl rfl ?_
      simp [Oper.wp, execOp, Act.eval, go_sem, d7, d14]
      exact hKc
  intro vs W hC hF
  have hlastv : vs 15 = .bool true := LF.is (hF 15 (by omega)) (by decide) (by decide)
  simp only [fillA, Act.put, List.setIfInBounds_toArray, List.set_cons_succ, List.set_cons_zero, Nat.reduceAdd, Nat.add_zero]
  rw [hlastv]
  go_wp2_with fail
  go_ret
  exact ⟨rfl, hC⟩
set_option maxHeartbeats 1000000 in
theorem remove_any (H : AE e b s D w) (hok : A.Ok s) (hD : ∀ k, w.heap.size ≤ k → D k) (hb : b ≤ 600000) (key : ByteArray) (hk : key.size ≤ 1000) :
    Calls Tryd.prog 33 #[.pointer (some ⟨e, 0, none⟩), .string key] w fun ee w' => ee = .returned (.bool (A.remove s key).1) ∧ AE e b (A.remove s key).2 D w' ∧ Keeps D w w' := by
  have HE : Hid (AE e b s D w) := H
  have HD : Hid (∀ k, w.heap.size ≤ k → D k) := hD
  have hhas := has_any H (by omega) key hk
  by_cases hin : key ∈ A.keys s
  · rw [inb_yes hin] at hhas
    have e0 : A.remove s key = (true, A.gone s key) := by unfold A.remove; rw [if_pos hin]
    rw [e0]
    have HL : Hid (∀ j, j < 4 → qs (A.gone s key) j = A.cut (qs s j) key) := by
      show ∀ j, j < 4 → qs (A.gone s key) j = A.cut (qs s j) key
      have hb1 : key ∉ s.b1 ∧ key ∉ s.b2 := by
        have hout := (Single.of hok).out (k := key)
        unfold A.keys at hin
        rcases List.mem_append.1 hin with h | h
        · exact (hout.1 h).2
        · exact (hout.2.1 h).2
      refine four ?_ ?_ ?_ ?_
      · simp [qs, A.gone]
      · simp [qs, A.gone]
      · simp [qs, A.gone, A.cut_same hb1.1]
      · simp [qs, A.gone, A.cut_same hb1.2]
    clear H hD e0
    go_enter Tryd.func33, Tryd.ntmps33
    go_wp2_with (first
      | (go_at_call 30; refine Calls.mono hhas ?_; clear hhas; rintro ee w2 ⟨rfl, hb2⟩; have htk := take_any (HE.out.below hb2) (fun k h => HD.out k (Nat.le_trans hb2.size h)) (by omega) key hk)
      | (go_at_call 58; refine Calls.mono htk ?_; clear htk; rintro ee w4 ⟨rfl, h4, hk4⟩))
    go_ret
    exact ⟨rfl, EN.congr h4 HL.out, (Keeps.of_below hb2).trans hk4⟩
  · rw [inb_no hin] at hhas
    rw [A.rem_no hin]
    clear H hD
    go_enter Tryd.func33, Tryd.ntmps33
    go_wp2_with (go_at_call 30; refine Calls.mono hhas ?_; clear hhas; rintro ee w2 ⟨rfl, hb2⟩)
    go_ret
    exact ⟨rfl, HE.out.below hb2, .of_below hb2⟩
/-- what Evict answers: one that went, or nobody -/
def wentV (l : List ByteArray) : Value := match l with
  | [] => .tuple #[.string ⟨#[]⟩, .bool false]
  | g :: _ => .tuple #[.string g, .bool true]
set_option maxHeartbeats 1000000 in
theorem evictE_any (H : AE e b s D w) (hok : A.Ok s) (hD : ∀ k, w.heap.size ≤ k → D k) (hb : b ≤ 600000) :
    Calls Tryd.prog 31 #[.pointer (some ⟨e, 0, none⟩)] w fun ee w' => ee = .returned (wentV (A.evict s).1) ∧ AE e (b + 1) (A.evict s).2 D w' ∧ Keeps D w w' := by
  have HE : Hid (AE e b s D w) := H
  have HD : Hid (∀ k, w.heap.size ≤ k → D k) := hD
  have HO : Hid (Single s) := Single.of hok
  have hhi := hok.hi
  have hpc := hok.pc
  have hlen := lenK H (by omega)
  have hkl := A.keys_length s
  by_cases h0 : (A.keys s).length = 0
  · rw [A.evi_no h0]
    rw [h0] at hlen
    clear H hD
    go_enter Tryd.func31, Tryd.ntmps31
    go_wp2_with (go_at_call 15; refine Calls.mono hlen ?_; clear hlen; rintro ee w2 ⟨rfl, hb2⟩)
    go_ret2
    exact ⟨rfl, (HE.out.below hb2).more (Nat.le_succ b), .of_below hb2⟩
  · have e0 : A.evict s = A.goes s (A.first s false) := by unfold A.evict; rw [if_neg h0]
    rw [e0]
    have hp : 0 < s.t1.length + s.t2.length := by omega
    have hf := first_goes s false hp
    simp only [Bool.and_false, Bool.or_false] at hf
    have HF : Hid (((decide (0 < s.t1.length) && decide (s.p < s.t1.length)) || decide (s.t2.length = 0)) = A.first s false) := hf
    have HC : Hid (Counts e s w) := H.counts (by omega)
    have HR : Hid (∀ W : World, Below w.heap.size w W → W.cell? ⟨e, 1, none⟩ = some (.int .i64 (s.p : Nat)) ∧ e < W.heap.size) := fun W hW => by
      have := EN.cells (EN.below H hW)
      exact ⟨this.2.1, this.2.2.2.1⟩
    have hl1 : s.t1.length ≤ 1024 := by have := hok.res; omega
    have hev := fun {W : World} (hW : Below w.heap.size w W) => evict_goes (EN.below H hW) HO.out (fun k h => hD k (Nat.le_trans hW.size h)) (by omega) (decide (s.p < s.t1.length)) hp
    obtain ⟨n, hn⟩ : ∃ n, n = (A.keys s).length := ⟨_, rfl⟩
    rw [← hn] at hlen h0
    obtain ⟨f, hff⟩ : ∃ f, f = decide (s.p < s.t1.length) := ⟨_, rfl⟩
    have hd1 : decide ((s.p : Int) < (s.t1.length : Int)) = f := by rw [hff]; exact decide_eq_decide.2 (by omega)
    have hd2 : decide (s.p < s.t1.length) = f := hff.symm
    have hevf : ∀ {W : World}, Below w.heap.size w W → Calls Tryd.prog 56 #[.pointer (some ⟨e, 0, none⟩), .bool f] W fun ee w' => ∃ g s', A.goes s (A.first s false) = ([g], s') ∧ ee = .returned (.string g) ∧ AE e (b + 1) s' D w' ∧ Keeps D W w' := fun {W} hW => by
      have h := hev hW
      rw [HF.out, ← hff] at h
      exact h
    have HEv : Hid (∀ {W : World}, Below w.heap.size w W → Calls Tryd.prog 56 #[.pointer (some ⟨e, 0, none⟩), .bool f] W fun ee w' => ∃ g s', A.goes s (A.first s false) = ([g], s') ∧ ee = .returned (.string g) ∧ AE e (b + 1) s' D w' ∧ Keeps D W w') := hevf
    have htq : total (qs s) [0] = s.t1.length := by rw [tot1]; rfl
    have HTq : Hid _ := htq
    clear H hD e0 hkl hn hf hff hev hevf htq
    go_enter Tryd.func31, Tryd.ntmps31
    go_wp2_with (go_at_call 15; refine Calls.mono hlen ?_; clear hlen; rintro ee w2 ⟨rfl, hb2⟩)
    obtain ⟨c1, heo⟩ := HR.out _ hb2
    have HB2 : Hid (Below w.heap.size w w2) := hb2
    have HBd : Hid (Below w.heap.size w w2.drew ∧ Below w.heap.size w (w2.alloc (.cells #[.int .i64 0] 3)).drew ∧ Below w.heap.size w (w2.drew.alloc (.cells #[.int .i64 0] 3))) := ⟨hb2.drew, (hb2.alloc hb2.size _).drew, hb2.drew.alloc hb2.size _⟩
    clear hb2
    go_region_with (first
      | (go_at_call 48; refine (HC.out _ _ [0] (by first | exact HBd.out.2.1 | exact HBd.out.2.2) (by first | exact ints_new w2 [0] _ rfl | exact ints_new w2.drew [0] _ rfl) (by simp) (by simp)).mono ?_; rintro ee w3 ⟨rfl, rfl⟩; rw [HTq.out])
      | (go_at_call 56; refine (HEv.out (by first | exact HBd.out.2.1 | exact HBd.out.2.2)).mono ?_; rintro ee w4 ⟨g, s', hgs, rfl, h4, hk4⟩; have hk5 : Keeps D w w4 := (by first | exact (Keeps.of_below HBd.out.2.1).trans hk4 | exact (Keeps.of_below HBd.out.2.2).trans hk4); have HG : Hid (A.goes s (A.first s false) = ([g], s')) := hgs; clear hgs))
    all_goals
      go_wp2_with fail
      go_ret2
      rw [HG.out]
      exact ⟨rfl, h4, hk5⟩
end
end Go.Proofs.YtfbdmoineahfgaaDoor
namespace Go.Proofs.YtfbdmoineahfgaaDoor
open Go.RowKit

section
variable {D : Nat → Prop} {w w' : World} {e b : Nat} {s : Stt}
set_option maxRecDepth 100000 in
set_option maxHeartbeats 8000000 in
theorem load_yes1 (H : AE e b s D w) (hok : A.Ok s) (hD : ∀ k, w.heap.size ≤ k → D k) (hb : b ≤ 600000) (key : ByteArray) (hk : key.size ≤ 1000) (hin : key ∉ A.keys s) (hl : (A.keys s).length < s.c) :
    Calls Tryd.prog 32 #[.pointer (some ⟨e, 0, none⟩), .string key] w fun ee w' => ee = .returned (.bool true) ∧ AE e (b + 1) (A.trim2 (A.trim1 (A.comes s key))) D w' ∧ Keeps D w w' := by
  have HBl : Hid (∀ W, Below w.heap.size w W → Calls Tryd.prog 41 #[.pointer (some ⟨e, 0, none⟩)] W fun ee w' => ee = .returned (.bool false) ∧ Below W.heap.size W w') := fun W hW => (blank_any (EN.below H hW)).mono (by rintro ee w' ⟨h1, rfl⟩; exact ⟨h1, Below.refl _ _⟩)
  have HHas : Hid (∀ W, Below w.heap.size w W → Calls Tryd.prog 30 #[.pointer (some ⟨e, 0, none⟩), .string key] W fun ee w' => ee = .returned (.bool false) ∧ Below W.heap.size W w') := fun W hW => by
    have h := has_any (EN.below H hW : AE e b s D W) (by omega) key hk
    rw [inb_no hin] at h
    exact h
  obtain ⟨m, hm⟩ : ∃ m, m = (A.keys s).length := ⟨_, rfl⟩
  have HLn : Hid (∀ W, Below w.heap.size w W → Calls Tryd.prog 15 #[.pointer (some ⟨e, 0, none⟩)] W fun ee w' => ee = .returned (.int .i64 (m : Nat)) ∧ Below W.heap.size W w') := fun W hW => by
    have h := lenK (EN.below H hW : AE e b s D W) (by omega)
    rw [← hm] at h
    exact h
  have HCl : Hid (∀ W : World, Below w.heap.size w W → W.cell? ⟨e, 0, none⟩ = some (.int .i64 (s.c : Nat)) ∧ e < W.heap.size) := fun W hW => by
    have h := EN.cells (EN.below H hW)
    exact ⟨h.1, h.2.2.2.1⟩
  have hd1 : decide (s.c ≤ m) = false := decide_eq_false (by omega)
  have hnk : key ∉ s.t1 ∧ key ∉ s.t2 := by
    unfold A.keys at hin
    rw [List.mem_append] at hin
    exact ⟨fun h => hin (.inl h), fun h => hin (.inr h)⟩
  have HE : Hid (AE e b s D w) := H
  have HD : Hid (∀ k, w.heap.size ≤ k → D k) := hD
  have HX : Hid (∀ j, j < 4 → qs (A.comes s key) j = laid (qs s) key 0 j) := laid_comes hnk.1 hnk.2
  have HXs : Hid (Single (A.comes s key)) := comes_single (Single.of hok) hnk.1 hnk.2
  obtain ⟨X, hX⟩ : ∃ X, X = A.comes s key := ⟨_, rfl⟩
  have hXc : X.c = s.c := by rw [hX]; rfl
  have hXp : X.p = s.p := by rw [hX]; rfl
  rw [← hX] at HX HXs ⊢
  have hcc : s.c ≤ 1024 := hok.hi
  have HC1 : Hid (X.c = s.c ∧ X.p = s.p) := ⟨hXc, hXp⟩
  have hlen1 : X.t1.length + X.t2.length ≤ s.c := by
    rw [hX]
    rw [A.keys_length] at hl
    simp [A.comes]
    omega
  clear H hm hl hok hD hX hXc hXp hnk hin
  go_enter Tryd.func32, Tryd.ntmps32
  go_wp2_with fail
  refine region_low (by kernel_rfl) 15 5 rfl (LF 99 98 ([] : List ByteArray) (fun slot => [(.pointer (some ⟨e, 0, none⟩) : Value), (.bool false : Value), (.bool false : Value), (.pointer (some ⟨e, 0, none⟩) : Value), (.string key : Value), (.bool false : Value), (.bool false : Value), (.bool false : Value), (.pointer (some ⟨e, 0, none⟩) : Value), (.int .i64 (m : Nat) : Value), (.pointer (some ⟨e, 0, none⟩) : Value), (.pointer (some ⟨e, 0, none⟩) : Value), (.pointer (some ⟨e, 0, none⟩) : Value), (.int .i64 (s.c : Nat) : Value), (.bool false : Value), (.bool false : Value)].getD slot undef)) (fun W => Below w.heap.size w W) (lex_of (by kernel_rfl)) (wait_of (by kernel_rfl)) (by simp) (Below.refl _ _).drew ?_ ?_
  · intro i hi a' W hC hst hdep
    have hcase : i = 0 ∨ i = 1 ∨ i = 2 ∨ i = 3 ∨ i = 4 ∨ i = 5 ∨ i = 6 ∨ i = 7 ∨ i = 8 ∨ i = 9 ∨ i = 10 ∨ i = 11 ∨ i = 12 ∨ i = 13 ∨ i = 14 ∨ i = 15 := by omega
    rcases hcase with e1 | e1 | e1 | e1 | e1 | e1 | e1 | e1 | e1 | e1 | e1 | e1 | e1 | e1 | e1 | e1
    · subst e1
      have o0 := hst.at 0 (by omega)
      simp at o0
      refine low_same (v := .pointer (some ⟨e, 0, none⟩)) ?_ hC (LF.mk (j := 0) (by decide) (by decide))
      intro Kc hKc
      refine still_op rfl rfl ?_
      simp [Oper.wp, execOp, Act.eval, go_sem, o0]
      exact hKc
    · subst e1
      have d0 : a'.tmps[5]?.getD undef = .pointer (some ⟨e, 0, none⟩) := by simpa using (LF.is (hdep 0 (by kernel_rfl)) (by decide) (by decide))
      refine low_new (fun v w1 => v = .bool false ∧ Below W.heap.size W w1) ?_ ?_
      · intro Kc hKc
        refine still_op rfl rfl ?_
        simp [Oper.wp, execOp, Act.eval, go_sem, d0]
        refine Calls.mono (HBl.out W hC) ?_
        rintro ee w5 ⟨rfl, hb5⟩
        exact hKc _ _ ⟨rfl, hb5⟩
      · rintro v w1 ⟨rfl, hb1⟩
        exact ⟨below_trans' hC hb1, LF.mk (j := 1) (by decide) (by decide), fun j u h => LF.mono h hb1⟩
    · subst e1
      have d1 : a'.tmps[6]?.getD undef = .bool false := by simpa using (LF.is (hdep 1 (by kernel_rfl)) (by decide) (by decide))
      refine low_same (v := .bool false) ?_ hC (LF.mk (j := 2) (by decide) (by decide))
      intro Kc hKc
      refine still_op rfl rfl ?_
      simp [Oper.wp, execOp, Act.eval, go_sem, d1]
      exact hKc
    · subst e1
      have o0 := hst.at 0 (by omega)
      simp at o0
      refine low_same (v := .pointer (some ⟨e, 0, none⟩)) ?_ hC (LF.mk (j := 3) (by decide) (by decide))
      intro Kc hKc
      refine still_on rfl rfl rfl rfl (LF.is (hdep 2 (by kernel_rfl)) (by decide) (by decide)) ?_
      simp [Oper.wp, execOp, Act.eval, go_sem, o0]
      exact hKc
    · subst e1
      have o1 := hst.at 1 (by omega)
      simp at o1
      refine low_same (v := .string key) ?_ hC (LF.mk (j := 4) (by decide) (by decide))
      intro Kc hKc
      refine still_on rfl rfl rfl rfl (LF.is (hdep 2 (by kernel_rfl)) (by decide) (by decide)) ?_
      simp [Oper.wp, execOp, Act.eval, go_sem, o1]
      exact hKc
    · subst e1
      have d3 : a'.tmps[8]?.getD undef = .pointer (some ⟨e, 0, none⟩) := by simpa using (LF.is (hdep 3 (by kernel_rfl)) (by decide) (by decide))
      have d4 : a'.tmps[9]?.getD undef = .string key := by simpa using (LF.is (hdep 4 (by kernel_rfl)) (by decide) (by decide))
      refine low_new (fun v w1 => v = .bool false ∧ Below W.heap.size W w1) ?_ ?_
      · intro Kc hKc
        refine still_on rfl rfl rfl rfl (LF.is (hdep 2 (by kernel_rfl)) (by decide) (by decide)) ?_
        simp [Oper.wp, execOp, Act.eval, go_sem, d3, d4]
        refine Calls.mono (HHas.out W hC) ?_
        rintro ee w5 ⟨rfl, hb5⟩
        exact hKc _ _ ⟨rfl, hb5⟩
      · rintro v w1 ⟨rfl, hb1⟩
        exact ⟨below_trans' hC hb1, LF.mk (j := 5) (by decide) (by decide), fun j u h => LF.mono h hb1⟩
    · subst e1
      have d2 : a'.tmps[7]?.getD undef = .bool false := by simpa using (LF.is (hdep 2 (by kernel_rfl)) (by decide) (by decide))
      have d5 : a'.tmps[10]?.getD undef = .bool false := by simpa using (LF.is (hdep 5 (by kernel_rfl)) (by decide) (by decide))
      refine low_same (v := .bool false) ?_ hC (LF.mk (j := 6) (by decide) (by decide))
      intro Kc hKc
      refine still_op rfl rfl ?_
      simp [Oper.wp, execOp, Act.eval, go_sem, d2, d5]
      exact hKc
    · subst e1
      have d6 : a'.tmps[11]?.getD undef = .bool false := by simpa using (LF.is (hdep 6 (by kernel_rfl)) (by decide) (by decide))
      refine low_same (v := .bool false) ?_ hC (LF.mk (j := 7) (by decide) (by decide))
      intro Kc hKc
      refine still_op rfl rfl ?_
      simp [Oper.wp, execOp, Act.eval, go_sem, d6]
      exact hKc
    · subst e1
      have o0 := hst.at 0 (by omega)
      simp at o0
      refine low_same (v := .pointer (some ⟨e, 0, none⟩)) ?_ hC (LF.mk (j := 8) (by decide) (by decide))
      intro Kc hKc
      refine still_on rfl rfl rfl rfl (LF.is (hdep 7 (by kernel_rfl)) (by decide) (by decide)) ?_
      simp [Oper.wp, execOp, Act.eval, go_sem, o0]
      exact hKc
    · subst e1
      have d8 : a'.tmps[13]?.getD undef = .pointer (some ⟨e, 0, none⟩) := by simpa using (LF.is (hdep 8 (by kernel_rfl)) (by decide) (by decide))
      refine low_new (fun v w1 => v = .int .i64 (m : Nat) ∧ Below W.heap.size W w1) ?_ ?_
      · intro Kc hKc
        refine still_on rfl rfl rfl rfl (LF.is (hdep 7 (by kernel_rfl)) (by decide) (by decide)) ?_
        simp [Oper.wp, execOp, Act.eval, go_sem, d8]
        refine Calls.mono (HLn.out W hC) ?_
        rintro ee w5 ⟨rfl, hb5⟩
        exact hKc _ _ ⟨rfl, hb5⟩
      · rintro v w1 ⟨rfl, hb1⟩
        exact ⟨below_trans' hC hb1, LF.mk (j := 9) (by decide) (by decide), fun j u h => LF.mono h hb1⟩
    · subst e1
      have o0 := hst.at 0 (by omega)
      simp at o0
      refine low_same (v := .pointer (some ⟨e, 0, none⟩)) ?_ hC (LF.mk (j := 10) (by decide) (by decide))
      intro Kc hKc
      refine still_on rfl rfl rfl rfl (LF.is (hdep 7 (by kernel_rfl)) (by decide) (by decide)) ?_
      simp [Oper.wp, execOp, Act.eval, go_sem, o0]
      exact hKc
    · subst e1
      have d10 : a'.tmps[15]?.getD undef = .pointer (some ⟨e, 0, none⟩) := by simpa using (LF.is (hdep 10 (by kernel_rfl)) (by decide) (by decide))
      refine low_same (v := .pointer (some ⟨e, 0, none⟩)) ?_ hC (LF.mk (j := 11) (by decide) (by decide))
      intro Kc hKc
      refine still_on rfl rfl rfl rfl (LF.is (hdep 7 (by kernel_rfl)) (by decide) (by decide)) ?_
      simp [Oper.wp, execOp, Act.eval, go_sem, d10]
      exact hKc
    · subst e1
      have d11 : a'.tmps[16]?.getD undef = .pointer (some ⟨e, 0, none⟩) := by simpa using (LF.is (hdep 11 (by kernel_rfl)) (by decide) (by decide))
      refine low_same (v := .pointer (some ⟨e, 0, none⟩)) ?_ hC (LF.mk (j := 12) (by decide) (by decide))
      intro Kc hKc
      refine still_on rfl rfl rfl rfl (LF.is (hdep 7 (by kernel_rfl)) (by decide) (by decide)) ?_
      simp [Oper.wp, execOp, Act.eval, go_sem, d11]
      exact hKc
    · subst e1
      have d12 : a'.tmps[17]?.getD undef = .pointer (some ⟨e, 0, none⟩) := by simpa using (LF.is (hdep 12 (by kernel_rfl)) (by decide) (by decide))
      refine low_same (v := .int .i64 (s.c : Nat)) ?_ hC (LF.mk (j := 13) (by decide) (by decide))
      intro Kc hKc
      refine still_on rfl rfl rfl rfl (LF.is (hdep 7 (by kernel_rfl)) (by decide) (by decide)) ?_
      simp [Oper.wp, execOp, Act.eval, go_sem, d12, (HCl.out W hC).1]
      exact hKc
    · subst e1
      have d9 : a'.tmps[14]?.getD undef = .int .i64 (m : Nat) := by simpa using (LF.is (hdep 9 (by kernel_rfl)) (by decide) (by decide))
      have d13 : a'.tmps[18]?.getD undef = .int .i64 (s.c : Nat) := by simpa using (LF.is (hdep 13 (by kernel_rfl)) (by decide) (by decide))
      refine low_same (v := .bool false) ?_ hC (LF.mk (j := 14) (by decide) (by decide))
      intro Kc hKc
      refine still_on rfl rfl rfl rfl (LF.is (hdep 7 (by kernel_rfl)) (by decide) (by decide)) ?_
      simp [Oper.wp, execOp, Act.eval, go_sem, d9, d13, hd1]
      exact hKc
    · subst e1
      have d7 : a'.tmps[12]?.getD undef = .bool false := by simpa using (LF.is (hdep 7 (by kernel_rfl)) (by decide) (by decide))
      have d14 : a'.tmps[19]?.getD undef = .bool false := by simpa using (LF.is (hdep 14 (by kernel_rfl)) (by decide) (by decide))
      refine low_same (v := .bool false) ?_ hC (LF.mk (j := 15) (by decide) (by decide))
      intro Kc hKc
      refine still_op rfl rfl ?_
      simp [Oper.wp, execOp, Act.eval, go_sem, d7, d14]
      exact hKc
  intro vs W hC hF
  have hlastv : vs 15 = .bool false := LF.is (hF 15 (by omega)) (by decide) (by decide)
  simp only [fillA, Act.put, List.setIfInBounds_toArray, List.set_cons_succ, List.set_cons_zero, Nat.reduceAdd, Nat.add_zero]
  rw [hlastv]
  have HCw : Hid (Below w.heap.size w W) := hC
  have hlay := lay_to (HE.out.below hC : AE e b s D W) (fun k h => HD.out k (Nat.le_trans hC.size h)) (by omega) key hk 0 (by omega) HX.out HC1.out.1 HC1.out.2
  clear hC hF hlastv
  go_wp2_with (go_at_call 52; refine Calls.mono hlay ?_; clear hlay; rintro ee w4 ⟨rfl, h4, hk4⟩; have H4 : Hid (AE e (b + 1) X D w4) := h4; have HK4 : Hid (Keeps D w w4) := (Keeps.of_below HCw.out).trans hk4; clear h4 hk4)
  clear hd1
  have HN : Hid (X.t1.length + X.t2.length ≤ s.c) := hlen1
  clear hlen1
  obtain ⟨L1, hL1⟩ : ∃ L1, L1 = X.b1 := ⟨_, rfl⟩
  have HL1 : Hid (L1 = X.b1) := hL1
  clear hL1
  go_loopg [] (L1.length) (fun n wr => ∃ j : Nat, n = L1.length - j ∧ j ≤ X.t1.length + L1.length - s.c ∧ AE e (b + 1) { X with b1 := L1.drop j } D wr ∧ Keeps D w wr)
  case atStart => exact ⟨0, rfl, Nat.zero_le _, by rw [List.drop_zero, HL1.out]; exact H4.out, HK4.out⟩
  case round =>
    clear H4 HK4
    obtain ⟨j, rfl, hj, hA, hK⟩ := hrel
    have HA : Hid (AE e (b + 1) { X with b1 := L1.drop j } D wr) := hA
    have HK : Hid (Keeps D w wr) := hK
    have HCt : Hid (Counts e { X with b1 := L1.drop j } wr) := hA.counts (by omega)
    have HRm : Hid (∀ W : World, Below wr.heap.size wr W → W.cell? ⟨e, 0, none⟩ = some (.int .i64 (s.c : Nat)) ∧ e < W.heap.size) := fun W hW => by
      have h := EN.cells (EN.below hA hW)
      rw [← HC1.out.1]
      exact ⟨h.1, h.2.2.2.1⟩
    obtain ⟨c1, heo⟩ := HRm.out wr (Below.refl _ _)
    obtain ⟨q, hq⟩ : ∃ q, q = X.t1.length + (L1.length - j) := ⟨_, rfl⟩
    have HTq : Hid (total (qs { X with b1 := L1.drop j }) [0, 2] = q) := by
      show total (qs { X with b1 := L1.drop j }) [0, 2] = q
      rw [tot2, hq, ← List.length_drop]
      rfl
    have HBd : Hid (Below wr.heap.size wr (wr.alloc (.cells #[.int .i64 0, .int .i64 2] 3)).drew ∧ Below wr.heap.size wr (wr.drew.alloc (.cells #[.int .i64 0, .int .i64 2] 3))) := ⟨((Below.refl _ wr).alloc (Nat.le_refl _) _).drew, ((Below.refl _ wr).drew).alloc (Nat.le_refl _) _⟩
    have hn1 := HN.out
    by_cases hgt : s.c < q
    · have g1 : decide ((s.c : Int) < (q : Int)) = true := decide_eq_true (by omega)
      have g2 : decide (s.c < q) = true := decide_eq_true hgt
      obtain ⟨x, rest, hx⟩ := drop_some (l := L1) (j := j) (by omega)
      have hrest := drop_more hx
      have HDr : Hid (∀ W : World, Below wr.heap.size wr W → Calls Tryd.prog 57 #[.pointer (some ⟨e, 0, none⟩), .int .i64 2] W fun ee w' => ee = .returned (.string x) ∧ AE e (b + 1) { X with b1 := L1.drop (j + 1) } D w' ∧ Keeps D W w') := fun W hW => by
        have ho1 : Single { X with b1 := L1.drop j } := by have := single_b1 HXs.out j; rw [HL1.out]; exact this
        have h := drop_b1 (hA.below hW : AE e (b + 1) { X with b1 := L1.drop j } D W) ho1 (fun k h => HD.out k (Nat.le_trans (Nat.le_trans hK.size hW.size) h)) (by omega) (k := x) (r := rest) hx
        rw [hrest] at h
        exact h
      have HQ : Hid (s.c < q ∧ q = X.t1.length + (L1.length - j)) := ⟨hgt, hq⟩
      clear hA hK hx hrest hq hgt hn1
      go_upto_region 4 with fail
      go_cut [31] from 24 to 33 (fun tv wx => tv = .bool true ∧ Below wr.heap.size wr wx)
      case first =>
        go_region_with (go_at_call 48; refine (HCt.out _ _ [0, 2] (by first | exact HBd.out.1 | exact HBd.out.2) (by first | exact ints_new wr [0, 2] _ rfl | exact ints_new wr.drew [0, 2] _ rfl) (by simp) (by simp)).mono ?_; rintro ee w5 ⟨rfl, rfl⟩; rw [HTq.out])
        all_goals (go_wp2_with fail; go_meet; case rel => exact ⟨rfl, by first | exact HBd.out.1 | exact HBd.out.2⟩)
      case rest =>
        obtain ⟨rfl, hbx⟩ := hcut
        have HBx : Hid (Below wr.heap.size wr wc) := hbx
        have hdr := HDr.out wc hbx
        clear hbx c1 heo g1 g2
        go_wp2_with (go_at_call 57; refine Calls.mono hdr ?_; clear hdr; rintro ee w6 ⟨rfl, h6, hk6⟩; have H6 : Hid (AE e (b + 1) { X with b1 := L1.drop (j + 1) } D w6) := h6; have HK6 : Hid (Keeps D w w6) := ((HK.out.trans (Keeps.of_below HBx.out)).trans hk6); clear h6 hk6)
        go_roundg (L1.length - (j + 1))
        case measure => have := HQ.out; have := HN.out; omega
        case rel => exact ⟨j + 1, rfl, by have := HQ.out; have := HN.out; omega, H6.out, HK6.out⟩
    · have g1 : decide ((s.c : Int) < (q : Int)) = false := decide_eq_false (by omega)
      have g2 : decide (s.c < q) = false := decide_eq_false hgt
      have htr : ({ X with b1 := L1.drop j } : Stt) = A.trim1 X := by
        unfold A.trim1
        rw [HC1.out.1, ← HL1.out, show X.t1.length + L1.length - s.c = j by omega]
      have HTr : Hid (({ X with b1 := L1.drop j } : Stt) = A.trim1 X) := htr
      have HLen : Hid (L1.length - j + X.t1.length ≤ s.c) := by show _ ≤ _; omega
      clear hA hK hq hgt hn1 htr
      go_upto_region 4 with fail
      go_cut [31] from 24 to 33 (fun tv wx => tv = .bool false ∧ Below wr.heap.size wr wx)
      case first =>
        go_region_with (go_at_call 48; refine (HCt.out _ _ [0, 2] (by first | exact HBd.out.1 | exact HBd.out.2) (by first | exact ints_new wr [0, 2] _ rfl | exact ints_new wr.drew [0, 2] _ rfl) (by simp) (by simp)).mono ?_; rintro ee w5 ⟨rfl, rfl⟩; rw [HTq.out])
        all_goals (go_wp2_with fail; go_meet; case rel => exact ⟨rfl, by first | exact HBd.out.1 | exact HBd.out.2⟩)
      case rest =>
        obtain ⟨rfl, hbx⟩ := hcut
        obtain ⟨Y, hY⟩ : ∃ Y, Y = A.trim1 X := ⟨_, rfl⟩
        have HYA : Hid (AE e (b + 1) Y D wc) := by
          have h := HA.out.below hbx
          rw [HTr.out, ← hY] at h
          exact h
        have HKc : Hid (Keeps D w wc) := HK.out.trans (Keeps.of_below hbx)
        have HYs : Hid (Single Y) := by rw [hY]; exact single_b1 HXs.out _
        have HYc : Hid (Y.c = s.c) := by rw [hY]; exact HC1.out.1
        have hn3 : Y.t1.length + Y.t2.length + Y.b1.length ≤ 2 * s.c := by
          have h1 := HLen.out
          have h2 := HN.out
          rw [hY, ← HTr.out]
          show X.t1.length + X.t2.length + (L1.drop j).length ≤ _
          rw [List.length_drop]
          omega
        have HY : Hid (Y = A.trim1 X) := hY
        have HN3 : Hid (Y.t1.length + Y.t2.length + Y.b1.length ≤ 2 * s.c) := hn3
        obtain ⟨L2, hL2⟩ : ∃ L2, L2 = Y.b2 := ⟨_, rfl⟩
        have HL2 : Hid (L2 = Y.b2) := hL2
        clear hL2 hY hn3 g1 g2 c1 heo hbx
        go_wp2_with fail
        go_loopg [] (L2.length) (fun n wy => ∃ j2 : Nat, n = L2.length - j2 ∧ j2 ≤ Y.t1.length + Y.t2.length + Y.b1.length + L2.length - 2 * s.c ∧ AE e (b + 1) { Y with b2 := L2.drop j2 } D wy ∧ Keeps D w wy)
        case atStart => exact ⟨0, rfl, Nat.zero_le _, by rw [List.drop_zero, HL2.out]; exact HYA.out, HKc.out⟩
        case round =>
          clear HA HK HCt HRm HTq HBd HYA HKc HLen HTr
          obtain ⟨j2, rfl, hj2, hA2, hK2⟩ := hrel
          have HA2 : Hid (AE e (b + 1) { Y with b2 := L2.drop j2 } D wr) := hA2
          have HK2 : Hid (Keeps D w wr) := hK2
          have HCt2 : Hid (Counts e { Y with b2 := L2.drop j2 } wr) := hA2.counts (by omega)
          have HRm2 : Hid (∀ W : World, Below wr.heap.size wr W → W.cell? ⟨e, 0, none⟩ = some (.int .i64 (s.c : Nat)) ∧ e < W.heap.size) := fun W hW => by
            have h := EN.cells (EN.below hA2 hW)
            rw [← HYc.out]
            exact ⟨h.1, h.2.2.2.1⟩
          obtain ⟨c1, heo⟩ := HRm2.out wr (Below.refl _ _)
          obtain ⟨q2, hq2⟩ : ∃ q2, q2 = Y.t1.length + Y.t2.length + Y.b1.length + (L2.length - j2) := ⟨_, rfl⟩
          have HTq2 : Hid (total (qs { Y with b2 := L2.drop j2 }) [0, 1, 2, 3] = q2) := by
            show total (qs { Y with b2 := L2.drop j2 }) [0, 1, 2, 3] = q2
            rw [tot4, hq2, ← List.length_drop]
            rfl
          have HBe : Hid (Below wr.heap.size wr (wr.alloc (.cells #[.int .i64 0, .int .i64 1, .int .i64 2, .int .i64 3] 3)).drew ∧ Below wr.heap.size wr (wr.drew.alloc (.cells #[.int .i64 0, .int .i64 1, .int .i64 2, .int .i64 3] 3))) := ⟨((Below.refl _ wr).alloc (Nat.le_refl _) _).drew, ((Below.refl _ wr).drew).alloc (Nat.le_refl _) _⟩
          have hw2 : IntKind.i64.wrap (2 * (s.c : Int)) = 2 * (s.c : Int) := by simp [IntKind.wrap_i64]; omega
          have hn3 := HN3.out
          by_cases hgt2 : 2 * s.c < q2
          · have g1 : decide (2 * (s.c : Int) < (q2 : Int)) = true := decide_eq_true (by omega)
            have g2 : decide (2 * s.c < q2) = true := decide_eq_true hgt2
            obtain ⟨x, rest, hx⟩ := drop_some (l := L2) (j := j2) (by omega)
            have hrest := drop_more hx
            have HDr2 : Hid (∀ W : World, Below wr.heap.size wr W → Calls Tryd.prog 57 #[.pointer (some ⟨e, 0, none⟩), .int .i64 3] W fun ee w' => ee = .returned (.string x) ∧ AE e (b + 1) { Y with b2 := L2.drop (j2 + 1) } D w' ∧ Keeps D W w') := fun W hW => by
              have ho1 : Single { Y with b2 := L2.drop j2 } := by have := single_b2 HYs.out j2; rw [HL2.out]; exact this
              have h := drop_b2 (hA2.below hW : AE e (b + 1) { Y with b2 := L2.drop j2 } D W) ho1 (fun k h => HD.out k (Nat.le_trans (Nat.le_trans hK2.size hW.size) h)) (by omega) (k := x) (r := rest) hx
              rw [hrest] at h
              exact h
            have HQ2 : Hid (2 * s.c < q2 ∧ q2 = Y.t1.length + Y.t2.length + Y.b1.length + (L2.length - j2)) := ⟨hgt2, hq2⟩
            clear hA2 hK2 hx hrest hq2 hgt2 hn3
            go_upto_region 6 with fail
            go_cut [42] from 34 to 44 (fun tv wx => tv = .bool true ∧ Below wr.heap.size wr wx)
            case first =>
              go_region_with (go_at_call 48; refine (HCt2.out _ _ [0, 1, 2, 3] (by first | exact HBe.out.1 | exact HBe.out.2) (by first | exact ints_new wr [0, 1, 2, 3] _ rfl | exact ints_new wr.drew [0, 1, 2, 3] _ rfl) (by simp) (by simp)).mono ?_; rintro ee w7 ⟨rfl, rfl⟩; rw [HTq2.out])
              all_goals (go_wp2_with fail; go_meet; case rel => exact ⟨rfl, by first | exact HBe.out.1 | exact HBe.out.2⟩)
            case rest =>
              obtain ⟨rfl, hbx⟩ := hcut
              have HBx : Hid (Below wr.heap.size wr wc) := hbx
              have hdr := HDr2.out wc hbx
              clear hbx c1 heo g1 g2
              go_wp2_with (go_at_call 57; refine Calls.mono hdr ?_; clear hdr; rintro ee w8 ⟨rfl, h8, hk8⟩; have H8 : Hid (AE e (b + 1) { Y with b2 := L2.drop (j2 + 1) } D w8) := h8; have HK8 : Hid (Keeps D w w8) := ((HK2.out.trans (Keeps.of_below HBx.out)).trans hk8); clear h8 hk8)
              go_roundg (L2.length - (j2 + 1))
              case measure => have := HQ2.out; have := HN3.out; omega
              case rel => exact ⟨j2 + 1, rfl, by have := HQ2.out; have := HN3.out; omega, H8.out, HK8.out⟩
          · have g1 : decide (2 * (s.c : Int) < (q2 : Int)) = false := decide_eq_false (by omega)
            have g2 : decide (2 * s.c < q2) = false := decide_eq_false hgt2
            have htr2 : ({ Y with b2 := L2.drop j2 } : Stt) = A.trim2 (A.trim1 X) := by
              rw [← HY.out]
              unfold A.trim2
              rw [HYc.out, ← HL2.out, show Y.t1.length + Y.t2.length + Y.b1.length + L2.length - 2 * s.c = j2 by omega]
            have HTr2 : Hid (({ Y with b2 := L2.drop j2 } : Stt) = A.trim2 (A.trim1 X)) := htr2
            clear hA2 hK2 hq2 hgt2 hn3 htr2
            go_upto_region 6 with fail
            go_cut [42] from 34 to 44 (fun tv wx => tv = .bool false ∧ Below wr.heap.size wr wx)
            case first =>
              go_region_with (go_at_call 48; refine (HCt2.out _ _ [0, 1, 2, 3] (by first | exact HBe.out.1 | exact HBe.out.2) (by first | exact ints_new wr [0, 1, 2, 3] _ rfl | exact ints_new wr.drew [0, 1, 2, 3] _ rfl) (by simp) (by simp)).mono ?_; rintro ee w7 ⟨rfl, rfl⟩; rw [HTq2.out])
              all_goals (go_wp2_with fail; go_meet; case rel => exact ⟨rfl, by first | exact HBe.out.1 | exact HBe.out.2⟩)
            case rest =>
              obtain ⟨rfl, hbx⟩ := hcut
              have HBx : Hid (Below wr.heap.size wr wc) := hbx
              clear hbx c1 heo g1 g2
              go_wp2_with fail
              go_ret
              rw [← HTr2.out]
              exact ⟨rfl, HA2.out.below HBx.out, HK2.out.trans (Keeps.of_below HBx.out)⟩
theorem load_any (H : AE e b s D w) (hok : A.Ok s) (hD : ∀ k, w.heap.size ≤ k → D k) (hb : b ≤ 600000) (key : ByteArray) (hk : key.size ≤ 1000) :
    Calls Tryd.prog 32 #[.pointer (some ⟨e, 0, none⟩), .string key] w fun ee w' => ee = .returned (.bool (A.load s key).1) ∧ AE e (b + 1) (A.load s key).2 D w' ∧ Keeps D w w' := by
  by_cases hin : key ∈ A.keys s
  · rw [A.load_no (.inl hin)]
    refine (load_no1 H hb key hk hin).mono ?_
    rintro ee w' ⟨rfl, hb2⟩
    exact ⟨rfl, (H.below hb2).more (Nat.le_succ b), .of_below hb2⟩
  · rcases Nat.lt_or_ge (A.keys s).length s.c with hl | hl
    · have e0 : A.load s key = (true, A.trim2 (A.trim1 (A.comes s key))) := by
        unfold A.load
        rw [if_neg (by intro h3; rcases h3 with h3 | h3; exact hin h3; omega)]
      rw [e0]
      exact load_yes1 H hok hD hb key hk hin hl
    · rw [A.load_no (.inr hl)]
      refine (load_no2 H hb key hk hin hl).mono ?_
      rintro ee w' ⟨rfl, hb2⟩
      exact ⟨rfl, (H.below hb2).more (Nat.le_succ b), .of_below hb2⟩
end
end Go.Proofs.YtfbdmoineahfgaaDoor
