/- Keys that come once go in the order in which they came, a later one never ahead of an earlier one: the law returns true for every room and every row of keys, and its arguments read as they did; the variables of the library that the row lists are tied to the text of the program. -/
import Derived.Test.YtnbfokmodjgaaabDoorRows
import Derived.Test.YtnbfokmodjgaaabDoorTie
import Derived.Test.YtnbfokmodjgaaabDoorCards
import Derived.Test.YtnbfokmodjgaaabDoorFi
import Derived.WalkKit
import Derived.ProofKit
import Derived.OpenShut
import Derived.ShutString
import Derived.ChangeOld
import Derived.Below
import Derived.Carry
import Derived.SizedLaws
import Derived.LaidMore
import Derived.Lay
import Derived.SevenTiedAt
import Derived.Stop.Joined
namespace Go.Proofs.YtnbfokmodjgaaabDoor.s3fifoOnce
open Go.ChangeShapes Go.WideShapes Go.ChangeAt Go.RowKit
open Go.ChangeMaps (open_string shut_string)
set_option linter.unusedVariables false

theorem own : ownKnob Tryd.prog.godebug = none := by kernel_rfl
theorem laidOut : laidOutB Tryd.prog = true := by kernel_rfl

set_option maxRecDepth 20000 in
set_option maxHeartbeats 1500000 in
theorem walk (w : World) (a0 : Int) (w0 : (Lit.int .i64 a0).wf = true) (a1 : Option Addr) (len1 cap1 : Nat) (z1 : List ByteArray) (e1 : z1.length = len1) (m1 : len1 ≤ maxLen) (r1 : RowIn Value.string w a1 z1) (x1 : ∀ z ∈ z1, z.size ≤ 140737488351232) (cp1 : len1 ≤ cap1 ∧ cap1 ≤ maxLen) :
    Calls Tryd.prog 4 #[.int .i64 a0, .slice a1 len1 cap1] w fun e w' => e = .returned (.bool true) ∧ Below w.heap.size w w' := by
  subst e1
  obtain ⟨b0, b1⟩ := bounds_i64 w0
  have hlg := long_any (cap := cap1) r1 m1 x1
  have HR : Hid (RowIn Value.string w a1 z1) := r1
  clear r1 x1
  by_cases hr1 : a0 < 1
  · go_enter Tryd.func4, Tryd.ntmps4
    go_wp2_with fail
    go_ret
    exact ⟨rfl, Below.refl _ _⟩
  by_cases hr2 : 100 < a0
  · go_enter Tryd.func4, Tryd.ntmps4
    go_wp2_with fail
    go_ret
    exact ⟨rfl, Below.refl _ _⟩
  cases hl : lng z1 with
  | true =>
    rw [hl] at hlg
    go_enter Tryd.func4, Tryd.ntmps4
    go_wp2_with (go_at_call 20; refine Calls.mono hlg ?_; clear hlg; rintro ee w1 ⟨rfl, rfl⟩)
    go_ret
    exact ⟨rfl, Below.refl _ _⟩
  | false =>
    rw [hl] at hlg
    obtain ⟨hz1, hz2⟩ := lng_no hl
    have HZ : Hid (∀ z ∈ z1, z.size ≤ 40) := hz2
    have hnew := new_any w (fun k => w.heap.size ≤ k) (fun _ h => h) a0
    have hheld : ((heldC a0 : Nat) : Int) = a0 := by unfold heldC; omega
    clear hl hz2
    go_enter Tryd.func4, Tryd.ntmps4
    go_wp2_with (first
      | (go_at_call 20; refine Calls.mono hlg ?_; clear hlg; rintro ee w1 ⟨rfl, rfl⟩)
      | (go_at_call 21; refine Calls.mono hnew ?_; clear hnew; rintro ee w2 ⟨e, rfl, h2, hk2⟩; have H2 : Hid (AE e 0 (A.start (heldC a0)) (fun k => w1.heap.size ≤ k) w2) := h2; have HB2 : Hid (Below w1.heap.size w1 w2) := (hk2.below (Nat.le_refl _) (fun _ h => h)); clear h2 hk2))
    have hc100 : heldC a0 ≤ 100 := by omega
    obtain ⟨c, hc⟩ : ∃ c, c = heldC a0 := ⟨_, rfl⟩
    have hca : a0 = (c : Nat) := by omega
    have HS0 : Hid (A.First (A.start c : Stt) z1 0) := by
      show A.First (A.start c : Stt) z1 0
      rw [hc]
      exact A.start_first (heldC_in a0).1 (heldC_in a0).2 z1
    rw [← hc] at H2 hc100
    clear hc hheld
    subst hca
    go_loopw [6, 7] (fun nv i wr => ∃ (k : Nat) (s : Stt), k ≤ z1.length ∧ i = .int .i64 k ∧ nv = .int .i64 ((k - c : Nat) : Int) ∧ A.First s z1 k ∧ s.c = c ∧ AE e (2 * k) s (fun j => w1.heap.size ≤ j) wr ∧ Below w1.heap.size w1 wr) (fun _ i _ => z1.length - (intOf i).toNat)
    case atStart => exact ⟨0, A.start c, Nat.zero_le _, rfl, by simp, HS0.out, rfl, H2.out, HB2.out⟩
    case round =>
      obtain ⟨k, s, hk, rfl, rfl, hF, hsc, hA, hB⟩ := hrel
      have HB : Hid (Below w1.heap.size w1 wr) := hB
      have HA : Hid (AE e (2 * k) s (fun j => w1.heap.size ≤ j) wr) := hA
      have HF : Hid (A.First s z1 k) := hF
      have HSc : Hid (s.c = c) := hsc
      clear hF hsc H2 HB2 HS0
      rcases Nat.lt_or_ge k z1.length with hlt | hge
      · obtain ⟨z, hz⟩ : ∃ z, z1[k]? = some z := ⟨_, List.getElem?_eq_getElem hlt⟩
        obtain ⟨gg, off, rfl, cz⟩ := (HR.out.later hB).at hz
        have hzs := HZ.out z (List.mem_of_getElem? hz)
        have hhas := has_first (w := wr.drew) (cap := cap1) ((HR.out.later hB).later (Below.refl _ _).drew) (by omega) k hk z
        have HHas : Hid (Calls Tryd.prog 22 #[.slice (some ⟨gg, off, none⟩) k cap1, .string z] wr.drew fun e w' => e = .returned (.bool (inb z (z1.take k))) ∧ w' = wr.drew) := hhas
        have hkc : (k : Int) ≤ (cap1 : Int) := by omega
        have hkc2 : k ≤ cap1 := by omega
        have HZk : Hid (z1[k]? = some z) := hz
        clear hA hB hz hhas
        cases hin : inb z (z1.take k) with
        | true =>
          rw [hin] at HHas
          go_wp2_with fail
          refine region_same (by kernel_rfl) 7 31 rfl (fun j => [(.slice (some ⟨gg, off, none⟩) z1.length cap1 : Value), (.int .i64 (k : Nat) : Value), (.slice (some ⟨gg, off, none⟩) k cap1 : Value), (.slice (some ⟨gg, off, none⟩) z1.length cap1 : Value), (.int .i64 (k : Nat) : Value), (.pointer (some ⟨gg, off + k, none⟩) : Value), (.string z : Value), (.bool true : Value)].getD j undef) (lex_of (by kernel_rfl)) (wait_of (by kernel_rfl)) (by simp) ?_ ?_
          · intro i hi a' hst hdep Kc hKc
            have hcase : i = 0 ∨ i = 1 ∨ i = 2 ∨ i = 3 ∨ i = 4 ∨ i = 5 ∨ i = 6 ∨ i = 7 := by omega
            rcases hcase with e1 | e1 | e1 | e1 | e1 | e1 | e1 | e1
            · subst e1
              have o1 := hst.at 1 (by omega)
              simp at o1
              refine still_op rfl rfl ?_
              simp [Oper.wp, execOp, Act.eval, go_sem, o1]
              exact hKc
            · subst e1
              have o7 := hst.at 7 (by omega)
              simp at o7
              refine still_op rfl rfl ?_
              simp [Oper.wp, execOp, Act.eval, go_sem, o7]
              exact hKc
            · subst e1
              have d0 : a'.tmps[31]?.getD undef = .slice (some ⟨gg, off, none⟩) z1.length cap1 := by simpa using hdep 0 (by kernel_rfl)
              have d1 : a'.tmps[32]?.getD undef = .int .i64 (k : Nat) := by simpa using hdep 1 (by kernel_rfl)
              refine still_op rfl rfl ?_
              simp [Oper.wp, execOp, Act.eval, go_sem, d0, d1, hkc]
              exact hKc
            · subst e1
              have o1 := hst.at 1 (by omega)
              simp at o1
              refine still_op rfl rfl ?_
              simp [Oper.wp, execOp, Act.eval, go_sem, o1]
              exact hKc
            · subst e1
              have o7 := hst.at 7 (by omega)
              simp at o7
              refine still_op rfl rfl ?_
              simp [Oper.wp, execOp, Act.eval, go_sem, o7]
              exact hKc
            · subst e1
              have d3 : a'.tmps[34]?.getD undef = .slice (some ⟨gg, off, none⟩) z1.length cap1 := by simpa using hdep 3 (by kernel_rfl)
              have d4 : a'.tmps[35]?.getD undef = .int .i64 (k : Nat) := by simpa using hdep 4 (by kernel_rfl)
              refine still_op rfl rfl ?_
              simp [Oper.wp, execOp, Act.eval, go_sem, d3, d4, hlt]
              exact hKc
            · subst e1
              have d5 : a'.tmps[36]?.getD undef = .pointer (some ⟨gg, off + k, none⟩) := by simpa using hdep 5 (by kernel_rfl)
              refine still_op rfl rfl ?_
              simp [Oper.wp, execOp, Act.eval, go_sem, d5, cz]
              exact hKc
            · subst e1
              have d2 : a'.tmps[33]?.getD undef = .slice (some ⟨gg, off, none⟩) k cap1 := by simpa using hdep 2 (by kernel_rfl)
              have d6 : a'.tmps[37]?.getD undef = .string z := by simpa using hdep 6 (by kernel_rfl)
              refine still_op rfl rfl ?_
              simp [Oper.wp, execOp, Act.eval, go_sem, d2, d6]
              refine Calls.mono HHas.out ?_
              rintro ee w5 ⟨rfl, rfl⟩
              exact hKc
          simp only [fillA, Act.put, List.setIfInBounds_toArray, List.set_cons_succ, List.set_cons_zero, List.getD_cons_zero, List.getD_cons_succ, Nat.reduceAdd, Nat.add_zero]
          go_wp2_with (go_at_call 19; refine (known_any _).mono ?_; rintro ee w7 ⟨rfl, hb7⟩; have HE7 : Hid (Below w1.heap.size w1 w7) := (below_trans' HB.out (undrew hb7)); clear hb7)
          go_ret
          exact ⟨rfl, HE7.out⟩
        | false =>
          have hno : z ∉ z1.take k := fun h => by rw [inb_yes h] at hin; cases hin
          rw [hin] at HHas
          have hF1 := A.first_new HF.out HZk.out hno
          have hacc := acc_row (w := wr.drew) (HA.out.below (Below.refl _ _).drew) HF.out.ok (fun j hj => Nat.le_trans HB.out.size hj) (by omega) z (by omega)
          obtain ⟨g1, g2, g3, g4⟩ := hF1
          rw [g3, g4, HSc.out] at hacc
          rw [HSc.out] at g2
          have HF2 : Hid (A.First (A.access s z).2.2 z1 (k + 1)) := g1
          have HSc2 : Hid ((A.access s z).2.2.c = c) := g2
          clear g1 g2 g3 g4 hno hin
          generalize (A.access s z).2.2 = s' at *
          have HAcc : Hid _ := hacc
          clear hacc
          go_wp2_with fail
          refine region_same (by kernel_rfl) 7 31 rfl (fun j => [(.slice (some ⟨gg, off, none⟩) z1.length cap1 : Value), (.int .i64 (k : Nat) : Value), (.slice (some ⟨gg, off, none⟩) k cap1 : Value), (.slice (some ⟨gg, off, none⟩) z1.length cap1 : Value), (.int .i64 (k : Nat) : Value), (.pointer (some ⟨gg, off + k, none⟩) : Value), (.string z : Value), (.bool false : Value)].getD j undef) (lex_of (by kernel_rfl)) (wait_of (by kernel_rfl)) (by simp) ?_ ?_
          · intro i hi a' hst hdep Kc hKc
            have hcase : i = 0 ∨ i = 1 ∨ i = 2 ∨ i = 3 ∨ i = 4 ∨ i = 5 ∨ i = 6 ∨ i = 7 := by omega
            rcases hcase with e1 | e1 | e1 | e1 | e1 | e1 | e1 | e1
            · subst e1
              have o1 := hst.at 1 (by omega)
              simp at o1
              refine still_op rfl rfl ?_
              simp [Oper.wp, execOp, Act.eval, go_sem, o1]
              exact hKc
            · subst e1
              have o7 := hst.at 7 (by omega)
              simp at o7
              refine still_op rfl rfl ?_
              simp [Oper.wp, execOp, Act.eval, go_sem, o7]
              exact hKc
            · subst e1
              have d0 : a'.tmps[31]?.getD undef = .slice (some ⟨gg, off, none⟩) z1.length cap1 := by simpa using hdep 0 (by kernel_rfl)
              have d1 : a'.tmps[32]?.getD undef = .int .i64 (k : Nat) := by simpa using hdep 1 (by kernel_rfl)
              refine still_op rfl rfl ?_
              simp [Oper.wp, execOp, Act.eval, go_sem, d0, d1, hkc]
              exact hKc
            · subst e1
              have o1 := hst.at 1 (by omega)
              simp at o1
              refine still_op rfl rfl ?_
              simp [Oper.wp, execOp, Act.eval, go_sem, o1]
              exact hKc
            · subst e1
              have o7 := hst.at 7 (by omega)
              simp at o7
              refine still_op rfl rfl ?_
              simp [Oper.wp, execOp, Act.eval, go_sem, o7]
              exact hKc
            · subst e1
              have d3 : a'.tmps[34]?.getD undef = .slice (some ⟨gg, off, none⟩) z1.length cap1 := by simpa using hdep 3 (by kernel_rfl)
              have d4 : a'.tmps[35]?.getD undef = .int .i64 (k : Nat) := by simpa using hdep 4 (by kernel_rfl)
              refine still_op rfl rfl ?_
              simp [Oper.wp, execOp, Act.eval, go_sem, d3, d4, hlt]
              exact hKc
            · subst e1
              have d5 : a'.tmps[36]?.getD undef = .pointer (some ⟨gg, off + k, none⟩) := by simpa using hdep 5 (by kernel_rfl)
              refine still_op rfl rfl ?_
              simp [Oper.wp, execOp, Act.eval, go_sem, d5, cz]
              exact hKc
            · subst e1
              have d2 : a'.tmps[33]?.getD undef = .slice (some ⟨gg, off, none⟩) k cap1 := by simpa using hdep 2 (by kernel_rfl)
              have d6 : a'.tmps[37]?.getD undef = .string z := by simpa using hdep 6 (by kernel_rfl)
              refine still_op rfl rfl ?_
              simp [Oper.wp, execOp, Act.eval, go_sem, d2, d6]
              refine Calls.mono HHas.out ?_
              rintro ee w5 ⟨rfl, rfl⟩
              exact hKc
          simp only [fillA, Act.put, List.setIfInBounds_toArray, List.set_cons_succ, List.set_cons_zero, List.getD_cons_zero, List.getD_cons_succ, Nat.reduceAdd, Nat.add_zero]
          rcases Nat.lt_or_ge k c with hkc3 | hkc3
          · rw [if_pos hkc3] at HAcc
            have hn0 : ((k - c : Nat) : Int) = 0 := by omega
            have HN1 : Hid ((k + 1 - c : Nat) = 0) := by show (k + 1 - c : Nat) = 0; omega
            rw [hn0]
            clear hn0
            go_wp2_with (go_at_call 9; refine Calls.mono HAcc.out ?_; rintro ee w4 ⟨ad4, cap4, rfl, -, h4, hk4⟩; have H4 : Hid (AE e (2 * k + 2) s' (fun j => w1.heap.size ≤ j) w4) := h4; have HB4 : Hid (Below w1.heap.size w1 w4) := (((Keeps.of_below (D := fun j => w1.heap.size ≤ j) HB.out).drew.trans hk4).below (Nat.le_refl _) (fun _ h => h)); clear h4 hk4)
            go_loopw [6, 10] (fun nv i wr' => i = .int .i64 0 ∧ nv = .int .i64 0 ∧ AE e (2 * k + 2) s' (fun j => w1.heap.size ≤ j) wr' ∧ Below w1.heap.size w1 wr') (fun _ _ _ => 0)
            case atStart => exact ⟨rfl, rfl, H4.out, HB4.out⟩
            case round =>
              obtain ⟨rfl, rfl, hA6, hB6⟩ := hrel
              have HA6 : Hid (AE e (2 * k + 2) s' (fun j => w1.heap.size ≤ j) wr) := hA6
              have HB6 : Hid (Below w1.heap.size w1 wr) := hB6
              clear hA6 hB6 H4 HB4
              go_wp2_with fail
              go_roundw
              case rel => exact ⟨k + 1, s', hlt, by go_num, by rw [HN1.out]; rfl, HF2.out, HSc2.out, HA6.out, HB6.out⟩
              case measure => simp [intOf]; omega
          · obtain ⟨g, hg⟩ : ∃ g, z1[k - c]? = some g := ⟨_, List.getElem?_eq_getElem (by omega)⟩
            rw [if_neg (by omega), hg] at HAcc
            obtain ⟨m, hm⟩ : ∃ m, m = k - c := ⟨_, rfl⟩
            have hml : m < z1.length := by omega
            have HM : Hid ((k + 1 - c : Nat) = m + 1) := by show (k + 1 - c : Nat) = m + 1; omega
            have HCg : Hid (w1.cell? ⟨gg, off + m, none⟩ = some (.string g)) := by
              rw [← hm] at hg
              obtain ⟨g2, o2, e2, c2⟩ := HR.out.at hg
              cases e2
              exact c2
            rw [← hm]
            clear hm hg
            go_wp2_with (go_at_call 9; refine Calls.mono HAcc.out ?_; rintro ee w4 ⟨ad4, cap4, rfl, hr4, h4, hk4⟩; obtain ⟨g4, o4, rfl, cg4⟩ := hr4.at (i := 0) (z := g) rfl; have H4 : Hid (AE e (2 * k + 2) s' (fun j => w1.heap.size ≤ j) w4) := h4; have HB4 : Hid (Below w1.heap.size w1 w4) := (((Keeps.of_below (D := fun j => w1.heap.size ≤ j) HB.out).drew.trans hk4).below (Nat.le_refl _) (fun _ h => h)); have HG4 : Hid (w4.cell? ⟨g4, o4, none⟩ = some (.string g)) := cg4; clear h4 hk4 hr4 cg4)
            go_loopw [6, 10] (fun nv i wr' => ∃ kk : Nat, kk ≤ 1 ∧ i = .int .i64 kk ∧ nv = .int .i64 ((m + kk : Nat) : Int) ∧ AE e (2 * k + 2) s' (fun j => w1.heap.size ≤ j) wr' ∧ Below w1.heap.size w1 wr' ∧ wr'.cell? ⟨g4, o4, none⟩ = some (.string g)) (fun _ i _ => 1 - (intOf i).toNat)
            case atStart => exact ⟨0, by omega, rfl, rfl, H4.out, HB4.out, HG4.out⟩
            case round =>
              obtain ⟨kk, hkk, rfl, rfl, hA6, hB6, cg6⟩ := hrel
              have HA6 : Hid (AE e (2 * k + 2) s' (fun j => w1.heap.size ≤ j) wr) := hA6
              have HB6 : Hid (Below w1.heap.size w1 wr) := hB6
              have cn6 : wr.cell? ⟨gg, off + m, none⟩ = some (.string g) := cell_later hB6 HCg.out
              clear hA6 hB6 H4 HB4 HG4
              rcases Nat.eq_zero_or_pos kk with e0 | e0
              · subst e0
                have hml2 : ¬ z1.length ≤ m := by omega
                simp only [Nat.add_zero]
                go_wp2_with fail
                refine region_same (by kernel_rfl) 14 55 rfl (fun j => [(.int .i64 (m : Nat) : Value), (.slice (some ⟨gg, off, none⟩) z1.length cap1 : Value), (.int .i64 (z1.length : Nat) : Value), (.bool false : Value), (.bool false : Value), (.slice (some ⟨g4, o4, none⟩) 1 cap4 : Value), (.int .i64 0 : Value), (.pointer (some ⟨g4, o4, none⟩) : Value), (.string g : Value), (.slice (some ⟨gg, off, none⟩) z1.length cap1 : Value), (.int .i64 (m : Nat) : Value), (.pointer (some ⟨gg, off + m, none⟩) : Value), (.string g : Value), (.bool false : Value), (.bool false : Value)].getD j undef) (lex_of (by kernel_rfl)) (wait_of (by kernel_rfl)) (by simp) ?_ ?_
                · intro i hi a' hst hdep Kc hKc
                  have hcase : i = 0 ∨ i = 1 ∨ i = 2 ∨ i = 3 ∨ i = 4 ∨ i = 5 ∨ i = 6 ∨ i = 7 ∨ i = 8 ∨ i = 9 ∨ i = 10 ∨ i = 11 ∨ i = 12 ∨ i = 13 ∨ i = 14 := by omega
                  rcases hcase with e1 | e1 | e1 | e1 | e1 | e1 | e1 | e1 | e1 | e1 | e1 | e1 | e1 | e1 | e1
                  · subst e1
                    have o6 := hst.at 6 (by omega)
                    simp at o6
                    refine still_op rfl rfl ?_
                    simp [Oper.wp, execOp, Act.eval, go_sem, o6]
                    exact hKc
                  · subst e1
                    have o1 := hst.at 1 (by omega)
                    simp at o1
                    refine still_op rfl rfl ?_
                    simp [Oper.wp, execOp, Act.eval, go_sem, o1]
                    exact hKc
                  · subst e1
                    have d1 : a'.tmps[56]?.getD undef = .slice (some ⟨gg, off, none⟩) z1.length cap1 := by simpa using hdep 1 (by kernel_rfl)
                    refine still_op rfl rfl ?_
                    simp [Oper.wp, execOp, Act.eval, go_sem, d1]
                    exact hKc
                  · subst e1
                    have d0 : a'.tmps[55]?.getD undef = .int .i64 (m : Nat) := by simpa using hdep 0 (by kernel_rfl)
                    have d2 : a'.tmps[57]?.getD undef = .int .i64 (z1.length : Nat) := by simpa using hdep 2 (by kernel_rfl)
                    refine still_op rfl rfl ?_
                    simp [Oper.wp, execOp, Act.eval, go_sem, d0, d2, hml2]
                    exact hKc
                  · subst e1
                    have d3 : a'.tmps[58]?.getD undef = .bool false := by simpa using hdep 3 (by kernel_rfl)
                    refine still_op rfl rfl ?_
                    simp [Oper.wp, execOp, Act.eval, go_sem, d3]
                    exact hKc
                  · subst e1
                    have o9 := hst.at 9 (by omega)
                    simp at o9
                    refine still_on rfl rfl rfl rfl (hdep 4 (by kernel_rfl)) ?_
                    simp [Oper.wp, execOp, Act.eval, go_sem, o9]
                    exact hKc
                  · subst e1
                    have o10 := hst.at 10 (by omega)
                    simp at o10
                    refine still_on rfl rfl rfl rfl (hdep 4 (by kernel_rfl)) ?_
                    simp [Oper.wp, execOp, Act.eval, go_sem, o10]
                    exact hKc
                  · subst e1
                    have d5 : a'.tmps[60]?.getD undef = .slice (some ⟨g4, o4, none⟩) 1 cap4 := by simpa using hdep 5 (by kernel_rfl)
                    have d6 : a'.tmps[61]?.getD undef = .int .i64 0 := by simpa using hdep 6 (by kernel_rfl)
                    refine still_on rfl rfl rfl rfl (hdep 4 (by kernel_rfl)) ?_
                    simp [Oper.wp, execOp, Act.eval, go_sem, d5, d6]
                    exact hKc
                  · subst e1
                    have d7 : a'.tmps[62]?.getD undef = .pointer (some ⟨g4, o4, none⟩) := by simpa using hdep 7 (by kernel_rfl)
                    refine still_on rfl rfl rfl rfl (hdep 4 (by kernel_rfl)) ?_
                    simp [Oper.wp, execOp, Act.eval, go_sem, d7, cg6]
                    exact hKc
                  · subst e1
                    have o1 := hst.at 1 (by omega)
                    simp at o1
                    refine still_on rfl rfl rfl rfl (hdep 4 (by kernel_rfl)) ?_
                    simp [Oper.wp, execOp, Act.eval, go_sem, o1]
                    exact hKc
                  · subst e1
                    have o6 := hst.at 6 (by omega)
                    simp at o6
                    refine still_on rfl rfl rfl rfl (hdep 4 (by kernel_rfl)) ?_
                    simp [Oper.wp, execOp, Act.eval, go_sem, o6]
                    exact hKc
                  · subst e1
                    have d9 : a'.tmps[64]?.getD undef = .slice (some ⟨gg, off, none⟩) z1.length cap1 := by simpa using hdep 9 (by kernel_rfl)
                    have d10 : a'.tmps[65]?.getD undef = .int .i64 (m : Nat) := by simpa using hdep 10 (by kernel_rfl)
                    refine still_on rfl rfl rfl rfl (hdep 4 (by kernel_rfl)) ?_
                    simp [Oper.wp, execOp, Act.eval, go_sem, d9, d10, hml]
                    exact hKc
                  · subst e1
                    have d11 : a'.tmps[66]?.getD undef = .pointer (some ⟨gg, off + m, none⟩) := by simpa using hdep 11 (by kernel_rfl)
                    refine still_on rfl rfl rfl rfl (hdep 4 (by kernel_rfl)) ?_
                    simp [Oper.wp, execOp, Act.eval, go_sem, d11, cn6]
                    exact hKc
                  · subst e1
                    have d8 : a'.tmps[63]?.getD undef = .string g := by simpa using hdep 8 (by kernel_rfl)
                    have d12 : a'.tmps[67]?.getD undef = .string g := by simpa using hdep 12 (by kernel_rfl)
                    refine still_on rfl rfl rfl rfl (hdep 4 (by kernel_rfl)) ?_
                    simp [Oper.wp, execOp, Act.eval, go_sem, d8, d12]
                    exact hKc
                  · subst e1
                    have d4 : a'.tmps[59]?.getD undef = .bool false := by simpa using hdep 4 (by kernel_rfl)
                    have d13 : a'.tmps[68]?.getD undef = .bool false := by simpa using hdep 13 (by kernel_rfl)
                    refine still_op rfl rfl ?_
                    simp [Oper.wp, execOp, Act.eval, go_sem, d4, d13]
                    exact hKc
                simp only [fillA, Act.put, List.setIfInBounds_toArray, List.set_cons_succ, List.set_cons_zero, List.getD_cons_zero, List.getD_cons_succ, Nat.reduceAdd, Nat.add_zero]
                go_wp2_with fail
                go_roundw
                case rel => exact ⟨1, by omega, rfl, by go_num, HA6.out.below (Below.refl _ _).drew, below_trans' HB6.out (Below.refl _ _).drew, cg6⟩
                case measure => simp [intOf]
              · have : kk = 1 := by omega
                subst this
                go_wp2_with fail
                go_roundw
                case rel => exact ⟨k + 1, s', hlt, by go_num, by rw [HM.out], HF2.out, HSc2.out, HA6.out, HB6.out⟩
                case measure => simp [intOf]; omega
      · have hk' : k = z1.length := by omega
        subst hk'
        clear hA hB
        have hcmp : ((z1.length - c : Nat) : Int) = max 0 ((z1.length : Int) - (c : Int)) := by omega
        go_wp2_with (go_at_call 19; refine (known_any _).mono ?_; rintro ee w8 ⟨rfl, hb8⟩; have HE8 : Hid (Below w1.heap.size w1 w8) := (below_trans' HB.out hb8); clear hb8)
        go_ret
        exact ⟨rfl, HE8.out⟩

abbrev laid : List (String × DataW Unit) := Rows.s3fifoOnceRow.laid
set_option maxRecDepth 100000 in
theorem lifted (os : Os) (started : os.Started) (H : Type) (enc : TypeId × Value → H) :
    ReturnsInHanded {} Tryd.checked os 4 .any (fun w args => (Rows.s3fifoOnceSpec.pre enc Tryd.prog Tryd.f4 Rows.s3fifoOnceRow.domain false w args ∧ laidMetH Tryd.prog laid w) ∧ sizedMet enc Tryd.prog Tryd.f4 (OpenSpec.ofChange Rows.s3fifoOnceSpec) false w args)
      (Rows.s3fifoOnceSpec.post enc Tryd.prog Tryd.f4 false true false false) := by
  refine returnsInHanded_of_change_and (C := Tryd.checked) (X := fun w _ => laidMetH Tryd.prog laid w) (fun _ _ _ hh h => h.of_heap hh) own started (by kernel_rfl) Tryd.func4
    (ChangeSpec.witness_shaped (enc := enc) (C := Tryd.checked) (os := os) (X := fun w _ => laidMetH Tryd.prog laid w) false (World.laidAll Tryd.prog os laid) #[.int .i64 0, .slice none 0 0] 8 (World.laidAll_os _ _ _)
      (World.shaped_of_ZipB (by kernel_rfl) (by kernel_rfl)) (by kernel_rfl) (by kernel_rfl) (by kernel_rfl)
      (by rw [MakeChecks.laidMetH_plain _ _ _ (by kernel_rfl)]; exact laidMet_laidAll _ (by kernel_rfl) (by kernel_rfl))) ?_
  intro W base args ds gs before hval0 hW hcnd hsz0 hL _
  have hval : ∀ (j : Nat) t v, Tryd.f4.params[j]? = some t → args[j]? = some v → Value.okWide Tryd.prog W .any base t v := hval0
  have hsz : (DataW.weightsEach Tryd.prog (Tryd.f4.params.toList ++ Rows.s3fifoOnceSpec.plain.varTypes Tryd.prog) (ds ++ gs)).all (· ≤ reachBytes) = true := hsz0
  have hW' := hW
  obtain ⟨p, q, hA0, hV, rfl, hfz, hnd⟩ := hW
  have hA : DataW.TrodAll enc Tryd.prog W 0 (fun _ => true) true Tryd.f4.params.toList args.toList ds p := hA0
  rw [Tryd.params4] at hA hval hsz
  obtain ⟨v0, vs0, d0, ds0, p0, q0, hargs, rfl, rfl, h0, s0⟩ := trodAll_cons hA
  obtain ⟨v1, vs1, d1, ds1, p1, q1, rfl, rfl, rfl, h1, s1⟩ := trodAll_cons s0
  obtain ⟨rfl, rfl, rfl⟩ := trodAll_nil s1
  obtain rfl : args = #[v0, v1] := by cases args; simp_all
  obtain ⟨rfl, rfl⟩ := trodVars_none hV
  obtain ⟨a0, rfl, rfl, rfl, w0⟩ := open_int Tryd.underlying3 (hval 0 3 v0 rfl rfl) h0
  obtain ⟨a1, len1, cap1, rfl⟩ := okWide_slice Tryd.underlying23 (hval 1 23 v1 rfl rfl)
  have k1 := h1
  have lt1 : ∀ x ∈ p1, x.block < W.heap.size := by obtain ⟨m, hm⟩ := k1; exact DataW.trod_lt m _ _ _ hm
  have cp1 := cap_texts h1
  obtain ⟨z1, e1, m1, r1, x1⟩ := open_texts h1
  replace x1 : ∀ z ∈ z1, z.size ≤ 140737488351232 := fun z hz => reach_first (reach_tail hsz) (x1 z hz)
  clear hA0 hval0 hsz0
  refine (walk W a0 w0 a1 len1 cap1 z1 e1 m1 r1 x1 cp1).mono fun e W' ⟨he, bel⟩ => ?_
  subst he
  exact ⟨_, rfl, _, _, _, [], _, [], hW', trodAll_mk1 (shut_bool Tryd.underlying4 _), (trodAll_cons_mk (shut_int Tryd.underlying3 w0) (trodAll_cons_mk (Below.trod laidOut (by kernel_rfl) (of_decide_eq_true (by kernel_rfl)) k1 bel lt1) trodAll_mk0)), rfl, bel.frame _, fun h => by cases h⟩

theorem over : Rows.s3fifoOnceRow.holds Tryd.pinned (OpenSpec.ofChange Rows.s3fifoOnceSpec) :=
  OpenClaim.holds_of_wide 4 Tryd.f4 rfl rfl rfl rfl rfl rfl rfl ⟨rfl, rfl, rfl, rfl, rfl⟩ rfl rfl rfl rfl rfl (by kernel_rfl) Tryd.func4 (by kernel_rfl)
    (of_decide_eq_true (by kernel_rfl)) (by unfold Func.isWrapper; first | (rw [if_pos (by decide +kernel)]; kernel_rfl) | (rw [if_neg (by decide +kernel)]; exact ⟨rfl, rfl⟩))
    (fun os started H enc _ => lifted os started H enc)
end Go.Proofs.YtnbfokmodjgaaabDoor.s3fifoOnce
namespace Go.Proofs.YtnbfokmodjgaaabDoor
/-- the given statement -/
theorem s3fifoOnce_holds : Rows.S3fifoOnceCardSaid :=
  Claim7.holds_tied_plain_at .later [] [.data, .data, .data] true (true, "14bc1a82f33b0d9c4810140d5c12b0d6e8d36941f2efec61b05d2cc25560924c") false
    s3fifoOnce.over (fun _ h => by cases h) (by kernel_rfl) (fun _ h => by cases h) s3fifoOnce_row_tie rfl ⟨rfl, rfl⟩ (by kernel_rfl) rfl
    (fun f fn hf hfn => by
      obtain rfl : f = 4 := Option.some.inj ((show Tryd.prog.funcNamed Rows.s3fifoOnceRow.func = some 4 by kernel_rfl).symm.trans hf) |>.symm
      obtain rfl : fn = Tryd.f4 := (Option.some.inj (Tryd.func4.symm.trans hfn)).symm
      exact ⟨by kernel_rfl, fun j t ht => by
        rw [Tryd.params4] at ht
        have hm : t ∈ [3, 23] := by simpa using Array.mem_of_getElem? ht
        have hall : ([3, 23].all fun u => !Tryd.prog.wantsStandIn u) = true := by kernel_rfl
        exact (show Tryd.prog.wantsStandIn t = false by simpa using List.all_eq_true.1 hall t hm)⟩)
    (by kernel_rfl)
#print axioms s3fifoOnce_holds
end Go.Proofs.YtnbfokmodjgaaabDoor
