/- Of every script each answer, and all keys are as the document says: the law returns true for every room and every row of acts, and its arguments read as they did. -/
import Derived.Test.YtdiggfiapbifpaaRows
import Derived.Test.YtdiggfiapbifpaaEq
import Derived.Test.YtdiggfiapbifpaaTw
import Derived.Test.YtdiggfiapbifpaaAe
import Derived.Test.YtdiggfiapbifpaaRl
import Derived.WalkKit
import Derived.ProofKit
import Derived.OpenShut
import Derived.ShutString
import Derived.ChangeOld
import Derived.Below
import Derived.Carry
import Derived.SizedLaws
namespace Go.Proofs.Ytdiggfiapbifpaa.ghostPlays
open Go.ChangeShapes Go.WideShapes Go.ChangeAt Go.RowKit
open Go.ChangeMaps (open_string shut_string)
set_option linter.unusedVariables false

theorem own : ownKnob Try.prog.godebug = none := by kernel_rfl
theorem laidOut : laidOutB Try.prog = true := by kernel_rfl

set_option maxRecDepth 20000 in
set_option maxHeartbeats 4000000 in
theorem walk (w : World) (a0 : Int) (w0 : (Lit.int .i64 a0).wf = true) (a1 : Option Addr) (len1 cap1 : Nat) (z1 : List Deed) (e1 : z1.length = len1) (m1 : len1 ≤ maxLen) (r1 : DeedsIn w a1 z1) (x1 : ∀ z ∈ z1, (Lit.int .i64 z.kind).wf = true ∧ z.s.size ≤ maxLen) :
    Calls Try.prog 3 #[.int .i64 a0, .slice a1 len1 cap1] w fun e w' => e = .returned (.bool true) ∧ Below w.heap.size w w' := by
  subst e1
  have hv := heavy_any (cap := cap1) r1 m1 (fun z hz => (x1 z hz).2)
  have HR : Hid (DeedsIn w a1 z1) := r1
  have hm1 : z1.length ≤ 9223372036854775807 := by unfold maxLen at m1; omega
  obtain ⟨b0, b1⟩ := bounds_i64 w0
  have hnew := new_any w a0
  clear r1 x1 m1
  go_enter Try.func3, Try.ntmps3
  go_wp2_with (first
    | (go_at_call 7; refine Calls.mono hv ?_; clear hv; rintro ee w1 ⟨⟨hb, rfl, hli⟩, rfl⟩; have HLI : Hid (hb = false → Light z1 200) := hli; clear hli; cases hb)
    | (go_at_call 8; refine Calls.mono hnew ?_; clear hnew; rintro ee w2 ⟨e, rfl, h2, hk2⟩; have H2 : Hid (GH e (G.heldC a0) 0 [] (fun k => w1.heap.size ≤ k) w2) := h2; have HS2 : Hid (w1.heap.size ≤ w2.heap.size) := hk2.size; have HB2 : Hid (Below w1.heap.size w1 w2) := (hk2.below (Nat.le_refl _) (fun _ h => h)); clear h2 hk2; have hrnew := rnew_any w2 a0)
    | (go_at_call 9; refine Calls.mono hrnew ?_; clear hrnew; rintro ee w3 ⟨x, rfl, h3, hk3⟩; have H3 : Hid (Both e x (G.heldC a0) 0 [] (fun k => k < w1.heap.size) w3) := (two_start (GH_lies _ _ _ _) (RX_lies _ _ _) H2.out HS2.out h3 hk3); have HB3 : Hid (Below w1.heap.size w1 w3) := (below_trans' HB2.out (hk3.below (Nat.le_refl _) (fun _ h => h))); clear h3 hk3))
  rotate_left
  · go_ret
    exact ⟨rfl, Below.refl _ _⟩
  have HL : Hid (Light z1 200) := (HLI.out (by first | rfl | trivial))
  have HC : Hid (1 ≤ G.heldC a0 ∧ G.heldC a0 ≤ 1024) := G.heldC_in a0
  clear HLI H2 HS2 HB2
  obtain ⟨c, hc⟩ : ∃ c, c = G.heldC a0 := ⟨_, rfl⟩
  rw [← hc] at H3 HC
  go_loopw [7] (fun i wr => ∃ (k : Nat) (Q : List ByteArray), k ≤ z1.length ∧ k ≤ 200 ∧ i = .int .i64 k ∧ G.Ok c Q ∧ Both e x c k Q (fun j => j < w1.heap.size) wr ∧ Below w1.heap.size w1 wr) (fun i _ => 200 - (intOf i).toNat)
  case atStart => exact ⟨0, [], Nat.zero_le _, Nat.zero_le _, rfl, G.Ok.empty HC.out.1 HC.out.2, H3.out, HB3.out⟩
  case round =>
    obtain ⟨k, Q, hk, hk2, rfl, hok, hA, hB⟩ := hrel
    clear H3 HB3 hc
    have HB : Hid (Below w1.heap.size w1 wr) := hB
    have HA : Hid (Both e x c k Q (fun j => j < w1.heap.size) wr) := hA
    have HOk : Hid (G.Ok c Q) := hok
    have hQ : Q.length ≤ 1024 := by have := hok.2.1; have := hok.2.2; omega
    by_cases hin : k < z1.length ∧ k < 200
    · obtain ⟨l1, l2⟩ := hin
      obtain ⟨z, hz⟩ : ∃ z, z1[k]? = some z := ⟨_, List.getElem?_eq_getElem l1⟩
      obtain ⟨gg, off, rfl, c0, c1⟩ := (HR.out.later hB).at hz
      have HCs : Hid (∀ W, Below w1.heap.size w1 W → W.cell? ⟨gg, off + k * 2, none⟩ = some (.int .i64 z.kind) ∧ W.cell? ⟨gg, off + k * 2 + 1, none⟩ = some (.string z.s)) := fun W hW => by
        obtain ⟨g2, o2, e2, d0, d1⟩ := (HR.out.later hW).at hz
        cases e2
        exact ⟨d0, d1⟩
      have hzs := HL.out k z l2 hz
      have l3 : (k : Int) < 200 := by omega
      clear hz hA hB hok
      by_cases hkind : z.kind = 1
      · have hadd := add_left HA.out HOk.out (by omega) z.s (by omega)
        have HN : Hid (G.Ok c (G.add c Q z.s).2) := HOk.out.add z.s
        have hradd : Hid (∀ W, Two (GH e c (k + 1) (G.add c Q z.s).2) (RX x c Q) (fun j => j < w1.heap.size) W → Calls Try.prog 11 #[.pointer (some ⟨x, 0, none⟩), .string z.s] W fun ee w' => ee = .returned (told (G.add c Q z.s).1) ∧ Both e x c (k + 1) (G.add c Q z.s).2 (fun j => j < w1.heap.size) w' ∧ Keeps (fun k => ¬ k < w1.heap.size) W w') := fun W hW => add_right hW (by omega) z.s
        have hN : (G.add c Q z.s).2.length ≤ 1024 := by have := HN.out.2.1; have := HN.out.2.2; omega
        generalize G.add c Q z.s = o at *
        obtain ⟨o1, Q2⟩ := o
        simp only at hadd HN hradd hN
        go_wp2_with (first
          | (go_at_call 10; refine Calls.mono hadd ?_; clear hadd; rintro ee w4 ⟨rfl, h4, hk4⟩; have hr4 := hradd.out _ h4; have HB4 : Hid (Below w1.heap.size w1 w4) := (HB.out.trans (hk4.old HB.out.size)); obtain ⟨d0, d1⟩ := HCs.out w4 HB4.out; clear h4 hk4; simp only [told])
          | (go_at_call 11; refine Calls.mono hr4 ?_; clear hr4; rintro ee w5 ⟨rfl, h5, hk5⟩; have H5 : Hid (Both e x c (k + 1) Q2 (fun j => j < w1.heap.size) w5) := h5; have HB5 : Hid (Below w1.heap.size w1 w5) := (HB4.out.trans (hk5.old HB4.out.size)); obtain ⟨d2, d3⟩ := HCs.out w5 HB5.out; clear h5 hk5; simp only [told]))
        obtain ⟨adx, cpx, cx, -⟩ := H5.out.row
        have HHas : Hid (∀ W, Below w5.heap.size w5 W → Calls Try.prog 14 #[.pointer (some ⟨e, 0, none⟩), .string z.s] W (fun ee w' => ee = .returned (.bool (G.has Q2 z.s)) ∧ Below W.heap.size W w') ∧ Calls Try.prog 15 #[.pointer (some ⟨x, 0, none⟩), .string z.s] W (fun ee w' => ee = .returned (.bool (G.has Q2 z.s)) ∧ Below W.heap.size W w')) := fun W hW => ⟨has_left (H5.out.below hW) (by omega) z.s (by omega), has_right (H5.out.below hW) (by omega) z.s⟩
        generalize G.has Q2 z.s = hs at *
        refine region_two (by kernel_rfl) 24 79 6 13 rfl (by decide) (by decide) (fun slot => [(.pointer (some ⟨e, 0, none⟩) : Value), (.slice (some ⟨gg, off, none⟩) z1.length cap1 : Value), (.int .i64 (k : Nat) : Value), (.pointer (some ⟨gg, off + k * 2, none⟩) : Value), (.pointer (some ⟨gg, off + k * 2 + 1, none⟩) : Value), (.string z.s : Value), (.bool hs : Value), (.pointer (some ⟨x, 0, none⟩) : Value), (.slice (some ⟨gg, off, none⟩) z1.length cap1 : Value), (.int .i64 (k : Nat) : Value), (.pointer (some ⟨gg, off + k * 2, none⟩) : Value), (.pointer (some ⟨gg, off + k * 2 + 1, none⟩) : Value), (.string z.s : Value), (.bool hs : Value), (.bool false : Value), (.bool false : Value), (.pointer (some ⟨e, 0, none⟩) : Value), (.int .i64 (Q2.length : Nat) : Value), (.pointer (some ⟨x, 0, none⟩) : Value), (.pointer (some ⟨x, 0, none⟩) : Value), (.pointer (some ⟨x, 0, none⟩) : Value), (.slice adx Q2.length cpx : Value), (.int .i64 (Q2.length : Nat) : Value), (.bool false : Value), (.bool false : Value)].getD slot undef) (fun _ W => Below w5.heap.size w5 W) (lex_of (by kernel_rfl)) (by kernel_rfl) (by simp) ((Below.refl _ _).drew) ?_ ?_ ?_ ?_
        · intro i hi np nq a' W s hS hst hdep Kc hKc
          have hcase : i = 0 ∨ i = 1 ∨ i = 2 ∨ i = 3 ∨ i = 4 ∨ i = 5 ∨ i = 7 ∨ i = 8 ∨ i = 9 ∨ i = 10 ∨ i = 11 ∨ i = 12 ∨ i = 14 ∨ i = 15 ∨ i = 16 ∨ i = 17 ∨ i = 18 ∨ i = 19 ∨ i = 20 ∨ i = 21 ∨ i = 22 ∨ i = 23 ∨ i = 24 := by omega
          rcases hcase with e1 | e1 | e1 | e1 | e1 | e1 | e1 | e1 | e1 | e1 | e1 | e1 | e1 | e1 | e1 | e1 | e1 | e1 | e1 | e1 | e1 | e1 | e1
          · subst e1
            have o5 := hst.at 5 (by omega)
            simp at o5
            refine still_op rfl rfl ?_
            simp [Oper.wp, execOp, Act.eval, go_sem, o5]
            exact hKc
          · subst e1
            have o1 := hst.at 1 (by omega)
            simp at o1
            refine still_op rfl rfl ?_
            simp [Oper.wp, execOp, Act.eval, go_sem, o1]
            exact hKc
          · subst e1
            have o7 := hst.at 7 (by omega)
            simp at o7
            refine still_op rfl rfl ?_
            simp [Oper.wp, execOp, Act.eval, go_sem, o7]
            exact hKc
          · subst e1
            have d1 : a'.tmps[80]?.getD undef = .slice (some ⟨gg, off, none⟩) z1.length cap1 := by simpa using hdep 1 (by kernel_rfl)
            have d2 : a'.tmps[81]?.getD undef = .int .i64 (k : Nat) := by simpa using hdep 2 (by kernel_rfl)
            refine still_op rfl rfl ?_
            simp [Oper.wp, execOp, Act.eval, go_sem, d1, d2, l1]
            exact hKc
          · subst e1
            have d3 : a'.tmps[82]?.getD undef = .pointer (some ⟨gg, off + k * 2, none⟩) := by simpa using hdep 3 (by kernel_rfl)
            refine still_op rfl rfl ?_
            simp [Oper.wp, execOp, Act.eval, go_sem, d3]
            exact hKc
          · subst e1
            have d4 : a'.tmps[83]?.getD undef = .pointer (some ⟨gg, off + k * 2 + 1, none⟩) := by simpa using hdep 4 (by kernel_rfl)
            obtain ⟨y0, y1⟩ := HCs.out W (below_trans' HB5.out hS)
            refine still_op rfl rfl ?_
            simp [Oper.wp, execOp, Act.eval, go_sem, d4, y1]
            exact hKc
          · subst e1
            have o6 := hst.at 6 (by omega)
            simp at o6
            refine still_op rfl rfl ?_
            simp [Oper.wp, execOp, Act.eval, go_sem, o6]
            exact hKc
          · subst e1
            have o1 := hst.at 1 (by omega)
            simp at o1
            refine still_op rfl rfl ?_
            simp [Oper.wp, execOp, Act.eval, go_sem, o1]
            exact hKc
          · subst e1
            have o7 := hst.at 7 (by omega)
            simp at o7
            refine still_op rfl rfl ?_
            simp [Oper.wp, execOp, Act.eval, go_sem, o7]
            exact hKc
          · subst e1
            have d8 : a'.tmps[87]?.getD undef = .slice (some ⟨gg, off, none⟩) z1.length cap1 := by simpa using hdep 8 (by kernel_rfl)
            have d9 : a'.tmps[88]?.getD undef = .int .i64 (k : Nat) := by simpa using hdep 9 (by kernel_rfl)
            refine still_op rfl rfl ?_
            simp [Oper.wp, execOp, Act.eval, go_sem, d8, d9, l1]
            exact hKc
          · subst e1
            have d10 : a'.tmps[89]?.getD undef = .pointer (some ⟨gg, off + k * 2, none⟩) := by simpa using hdep 10 (by kernel_rfl)
            refine still_op rfl rfl ?_
            simp [Oper.wp, execOp, Act.eval, go_sem, d10]
            exact hKc
          · subst e1
            have d11 : a'.tmps[90]?.getD undef = .pointer (some ⟨gg, off + k * 2 + 1, none⟩) := by simpa using hdep 11 (by kernel_rfl)
            obtain ⟨y0, y1⟩ := HCs.out W (below_trans' HB5.out hS)
            refine still_op rfl rfl ?_
            simp [Oper.wp, execOp, Act.eval, go_sem, d11, y1]
            exact hKc
          · subst e1
            have d6 : a'.tmps[85]?.getD undef = .bool hs := by simpa using hdep 6 (by kernel_rfl)
            have d13 : a'.tmps[92]?.getD undef = .bool hs := by simpa using hdep 13 (by kernel_rfl)
            refine still_op rfl rfl ?_
            simp [Oper.wp, execOp, Act.eval, go_sem, d6, d13]
            exact hKc
          · subst e1
            have d14 : a'.tmps[93]?.getD undef = .bool false := by simpa using hdep 14 (by kernel_rfl)
            refine still_op rfl rfl ?_
            simp [Oper.wp, execOp, Act.eval, go_sem, d14]
            exact hKc
          · subst e1
            have o5 := hst.at 5 (by omega)
            simp at o5
            refine still_on rfl rfl rfl rfl (hdep 15 (by kernel_rfl)) ?_
            simp [Oper.wp, execOp, Act.eval, go_sem, o5]
            exact hKc
          · subst e1
            have d16 : a'.tmps[95]?.getD undef = .pointer (some ⟨e, 0, none⟩) := by simpa using hdep 16 (by kernel_rfl)
            refine still_on rfl rfl rfl rfl (hdep 15 (by kernel_rfl)) ?_
            simp [Oper.wp, execOp, Act.eval, go_sem, d16]
            refine Calls.mono (len_left (H5.out.below hS)) ?_
            rintro ee w5 ⟨rfl, rfl⟩
            exact hKc
          · subst e1
            have o6 := hst.at 6 (by omega)
            simp at o6
            refine still_on rfl rfl rfl rfl (hdep 15 (by kernel_rfl)) ?_
            simp [Oper.wp, execOp, Act.eval, go_sem, o6]
            exact hKc
          · subst e1
            have d18 : a'.tmps[97]?.getD undef = .pointer (some ⟨x, 0, none⟩) := by simpa using hdep 18 (by kernel_rfl)
            refine still_on rfl rfl rfl rfl (hdep 15 (by kernel_rfl)) ?_
            simp [Oper.wp, execOp, Act.eval, go_sem, d18]
            exact hKc
          · subst e1
            have d19 : a'.tmps[98]?.getD undef = .pointer (some ⟨x, 0, none⟩) := by simpa using hdep 19 (by kernel_rfl)
            refine still_on rfl rfl rfl rfl (hdep 15 (by kernel_rfl)) ?_
            simp [Oper.wp, execOp, Act.eval, go_sem, d19]
            exact hKc
          · subst e1
            have d20 : a'.tmps[99]?.getD undef = .pointer (some ⟨x, 0, none⟩) := by simpa using hdep 20 (by kernel_rfl)
            have y2 := cell_later hS cx
            refine still_on rfl rfl rfl rfl (hdep 15 (by kernel_rfl)) ?_
            simp [Oper.wp, execOp, Act.eval, go_sem, d20, y2]
            exact hKc
          · subst e1
            have d21 : a'.tmps[100]?.getD undef = .slice adx Q2.length cpx := by simpa using hdep 21 (by kernel_rfl)
            refine still_on rfl rfl rfl rfl (hdep 15 (by kernel_rfl)) ?_
            simp [Oper.wp, execOp, Act.eval, go_sem, d21]
            exact hKc
          · subst e1
            have d17 : a'.tmps[96]?.getD undef = .int .i64 (Q2.length : Nat) := by simpa using hdep 17 (by kernel_rfl)
            have d22 : a'.tmps[101]?.getD undef = .int .i64 (Q2.length : Nat) := by simpa using hdep 22 (by kernel_rfl)
            refine still_on rfl rfl rfl rfl (hdep 15 (by kernel_rfl)) ?_
            simp [Oper.wp, execOp, Act.eval, go_sem, d17, d22]
            exact hKc
          · subst e1
            have d15 : a'.tmps[94]?.getD undef = .bool false := by simpa using hdep 15 (by kernel_rfl)
            have d23 : a'.tmps[102]?.getD undef = .bool false := by simpa using hdep 23 (by kernel_rfl)
            refine still_op rfl rfl ?_
            simp [Oper.wp, execOp, Act.eval, go_sem, d15, d23]
            exact hKc
        · intro a' W hS hst hdep Kc hKc
          have d0 : a'.tmps[79]?.getD undef = .pointer (some ⟨e, 0, none⟩) := by simpa using hdep 0 (by kernel_rfl)
          have d5 : a'.tmps[84]?.getD undef = .string z.s := by simpa using hdep 5 (by kernel_rfl)
          refine still_op rfl rfl ?_
          simp [Oper.wp, execOp, Act.eval, go_sem, d0, d5]
          refine Calls.mono (HHas.out W hS).1 ?_
          rintro ee w5 ⟨rfl, h5⟩
          exact hKc _ (below_trans' hS h5)
        · intro a' W hS hst hdep Kc hKc
          have d7 : a'.tmps[86]?.getD undef = .pointer (some ⟨x, 0, none⟩) := by simpa using hdep 7 (by kernel_rfl)
          have d12 : a'.tmps[91]?.getD undef = .string z.s := by simpa using hdep 12 (by kernel_rfl)
          refine still_op rfl rfl ?_
          simp [Oper.wp, execOp, Act.eval, go_sem, d7, d12]
          refine Calls.mono (HHas.out W hS).2 ?_
          rintro ee w5 ⟨rfl, h5⟩
          exact hKc _ (below_trans' hS h5)
        intro W hS
        simp only [fillA, Act.put, List.setIfInBounds_toArray, List.set_cons_succ, List.set_cons_zero, List.getD_cons_zero, List.getD_cons_succ, Nat.reduceAdd, Nat.add_zero]
        go_wp2_with fail
        go_roundw
        case rel => exact ⟨k + 1, Q2, l1, l2, by go_num, HN.out, H5.out.below hS, below_trans' HB5.out hS⟩
        case measure => simp [intOf]; omega
      · obtain ⟨Q2, hQ2⟩ : ∃ Q2, Q2 = G.cut Q z.s := ⟨_, rfl⟩
        have HN : Hid (G.Ok c Q2) := by have := HOk.out.cut z.s; rw [← hQ2] at this; exact this
        have hN : Q2.length ≤ 1024 := by have := HN.out.2.1; have := HN.out.2.2; omega
        have HTl : Hid (∀ W, Both e x c k Q (fun j => j < w1.heap.size) W → Calls Try.prog 12 #[.pointer (some ⟨e, 0, none⟩), .string z.s] W fun ee w' => ee = .returned (.bool (G.has Q z.s)) ∧ Two (GH e c k Q2) (RX x c Q) (fun j => j < w1.heap.size) w' ∧ Keeps (fun k => ¬ k < w1.heap.size) W w') := fun W hW => by rw [hQ2]; exact take_left hW (by omega) z.s (by omega)
        have HTr : Hid (∀ W, Two (GH e c k Q2) (RX x c Q) (fun j => j < w1.heap.size) W → Calls Try.prog 13 #[.pointer (some ⟨x, 0, none⟩), .string z.s] W fun ee w' => ee = .returned (.bool (G.has Q z.s)) ∧ Both e x c k Q2 (fun j => j < w1.heap.size) w' ∧ Keeps (fun k => ¬ k < w1.heap.size) W w') := fun W hW => by
          have := take_right hW (by omega) z.s
          rw [← hQ2] at this
          exact this
        generalize G.has Q z.s = hs0 at *
        clear hQ2
        go_wp2_with fail
        refine region_two (by kernel_rfl) 14 64 6 13 rfl (by decide) (by decide) (fun slot => [(.pointer (some ⟨e, 0, none⟩) : Value), (.slice (some ⟨gg, off, none⟩) z1.length cap1 : Value), (.int .i64 (k : Nat) : Value), (.pointer (some ⟨gg, off + k * 2, none⟩) : Value), (.pointer (some ⟨gg, off + k * 2 + 1, none⟩) : Value), (.string z.s : Value), (.bool hs0 : Value), (.pointer (some ⟨x, 0, none⟩) : Value), (.slice (some ⟨gg, off, none⟩) z1.length cap1 : Value), (.int .i64 (k : Nat) : Value), (.pointer (some ⟨gg, off + k * 2, none⟩) : Value), (.pointer (some ⟨gg, off + k * 2 + 1, none⟩) : Value), (.string z.s : Value), (.bool hs0 : Value), (.bool false : Value)].getD slot undef) (fun s W => Below w1.heap.size w1 W ∧ (s = 0 → Both e x c k Q (fun j => j < w1.heap.size) W) ∧ (s = 1 → Two (GH e c k Q2) (RX x c Q) (fun j => j < w1.heap.size) W) ∧ (s = 2 → Both e x c k Q2 (fun j => j < w1.heap.size) W)) (lex_of (by kernel_rfl)) (by kernel_rfl) (by simp) (⟨below_trans' HB.out (Below.refl _ _).drew, fun _ => HA.out.below (Below.refl _ _).drew, fun h => by omega, fun h => by omega⟩) ?_ ?_ ?_ ?_
        · intro i hi np nq a' W s hS hst hdep Kc hKc
          have hcase : i = 0 ∨ i = 1 ∨ i = 2 ∨ i = 3 ∨ i = 4 ∨ i = 5 ∨ i = 7 ∨ i = 8 ∨ i = 9 ∨ i = 10 ∨ i = 11 ∨ i = 12 ∨ i = 14 := by omega
          rcases hcase with e1 | e1 | e1 | e1 | e1 | e1 | e1 | e1 | e1 | e1 | e1 | e1 | e1
          · subst e1
            have o5 := hst.at 5 (by omega)
            simp at o5
            refine still_op rfl rfl ?_
            simp [Oper.wp, execOp, Act.eval, go_sem, o5]
            exact hKc
          · subst e1
            have o1 := hst.at 1 (by omega)
            simp at o1
            refine still_op rfl rfl ?_
            simp [Oper.wp, execOp, Act.eval, go_sem, o1]
            exact hKc
          · subst e1
            have o7 := hst.at 7 (by omega)
            simp at o7
            refine still_op rfl rfl ?_
            simp [Oper.wp, execOp, Act.eval, go_sem, o7]
            exact hKc
          · subst e1
            have d1 : a'.tmps[65]?.getD undef = .slice (some ⟨gg, off, none⟩) z1.length cap1 := by simpa using hdep 1 (by kernel_rfl)
            have d2 : a'.tmps[66]?.getD undef = .int .i64 (k : Nat) := by simpa using hdep 2 (by kernel_rfl)
            refine still_op rfl rfl ?_
            simp [Oper.wp, execOp, Act.eval, go_sem, d1, d2, l1]
            exact hKc
          · subst e1
            have d3 : a'.tmps[67]?.getD undef = .pointer (some ⟨gg, off + k * 2, none⟩) := by simpa using hdep 3 (by kernel_rfl)
            refine still_op rfl rfl ?_
            simp [Oper.wp, execOp, Act.eval, go_sem, d3]
            exact hKc
          · subst e1
            have d4 : a'.tmps[68]?.getD undef = .pointer (some ⟨gg, off + k * 2 + 1, none⟩) := by simpa using hdep 4 (by kernel_rfl)
            obtain ⟨y0, y1⟩ := HCs.out W hS.1
            refine still_op rfl rfl ?_
            simp [Oper.wp, execOp, Act.eval, go_sem, d4, y1]
            exact hKc
          · subst e1
            have o6 := hst.at 6 (by omega)
            simp at o6
            refine still_op rfl rfl ?_
            simp [Oper.wp, execOp, Act.eval, go_sem, o6]
            exact hKc
          · subst e1
            have o1 := hst.at 1 (by omega)
            simp at o1
            refine still_op rfl rfl ?_
            simp [Oper.wp, execOp, Act.eval, go_sem, o1]
            exact hKc
          · subst e1
            have o7 := hst.at 7 (by omega)
            simp at o7
            refine still_op rfl rfl ?_
            simp [Oper.wp, execOp, Act.eval, go_sem, o7]
            exact hKc
          · subst e1
            have d8 : a'.tmps[72]?.getD undef = .slice (some ⟨gg, off, none⟩) z1.length cap1 := by simpa using hdep 8 (by kernel_rfl)
            have d9 : a'.tmps[73]?.getD undef = .int .i64 (k : Nat) := by simpa using hdep 9 (by kernel_rfl)
            refine still_op rfl rfl ?_
            simp [Oper.wp, execOp, Act.eval, go_sem, d8, d9, l1]
            exact hKc
          · subst e1
            have d10 : a'.tmps[74]?.getD undef = .pointer (some ⟨gg, off + k * 2, none⟩) := by simpa using hdep 10 (by kernel_rfl)
            refine still_op rfl rfl ?_
            simp [Oper.wp, execOp, Act.eval, go_sem, d10]
            exact hKc
          · subst e1
            have d11 : a'.tmps[75]?.getD undef = .pointer (some ⟨gg, off + k * 2 + 1, none⟩) := by simpa using hdep 11 (by kernel_rfl)
            obtain ⟨y0, y1⟩ := HCs.out W hS.1
            refine still_op rfl rfl ?_
            simp [Oper.wp, execOp, Act.eval, go_sem, d11, y1]
            exact hKc
          · subst e1
            have d6 : a'.tmps[70]?.getD undef = .bool hs0 := by simpa using hdep 6 (by kernel_rfl)
            have d13 : a'.tmps[77]?.getD undef = .bool hs0 := by simpa using hdep 13 (by kernel_rfl)
            refine still_op rfl rfl ?_
            simp [Oper.wp, execOp, Act.eval, go_sem, d6, d13]
            exact hKc
        · intro a' W hS hst hdep Kc hKc
          have d0 : a'.tmps[64]?.getD undef = .pointer (some ⟨e, 0, none⟩) := by simpa using hdep 0 (by kernel_rfl)
          have d5 : a'.tmps[69]?.getD undef = .string z.s := by simpa using hdep 5 (by kernel_rfl)
          refine still_op rfl rfl ?_
          simp [Oper.wp, execOp, Act.eval, go_sem, d0, d5]
          refine Calls.mono (HTl.out W (hS.2.1 rfl)) ?_
          rintro ee w5 ⟨rfl, h5, hk5⟩
          exact hKc _ (⟨hS.1.trans (hk5.old hS.1.size), fun h => by omega, fun _ => h5, fun h => by omega⟩)
        · intro a' W hS hst hdep Kc hKc
          have d7 : a'.tmps[71]?.getD undef = .pointer (some ⟨x, 0, none⟩) := by simpa using hdep 7 (by kernel_rfl)
          have d12 : a'.tmps[76]?.getD undef = .string z.s := by simpa using hdep 12 (by kernel_rfl)
          refine still_op rfl rfl ?_
          simp [Oper.wp, execOp, Act.eval, go_sem, d7, d12]
          refine Calls.mono (HTr.out W (hS.2.2.1 rfl)) ?_
          rintro ee w5 ⟨rfl, h5, hk5⟩
          exact hKc _ (⟨hS.1.trans (hk5.old hS.1.size), fun h => by omega, fun h => by omega, fun _ => h5⟩)
        intro W hS
        simp only [fillA, Act.put, List.setIfInBounds_toArray, List.set_cons_succ, List.set_cons_zero, List.getD_cons_zero, List.getD_cons_succ, Nat.reduceAdd, Nat.add_zero]
        rename World => w5
        have H5 : Hid (Both e x c (k + 1) Q2 (fun j => j < w1.heap.size) w5) := (hS.2.2.2 rfl).more
        have HB5 : Hid (Below w1.heap.size w1 w5) := hS.1
        clear hS HTl HTr
        go_wp2_with fail
        obtain ⟨adx, cpx, cx, -⟩ := H5.out.row
        have HHas : Hid (∀ W, Below w5.heap.size w5 W → Calls Try.prog 14 #[.pointer (some ⟨e, 0, none⟩), .string z.s] W (fun ee w' => ee = .returned (.bool (G.has Q2 z.s)) ∧ Below W.heap.size W w') ∧ Calls Try.prog 15 #[.pointer (some ⟨x, 0, none⟩), .string z.s] W (fun ee w' => ee = .returned (.bool (G.has Q2 z.s)) ∧ Below W.heap.size W w')) := fun W hW => ⟨has_left (H5.out.below hW) (by omega) z.s (by omega), has_right (H5.out.below hW) (by omega) z.s⟩
        generalize G.has Q2 z.s = hs at *
        refine region_two (by kernel_rfl) 24 79 6 13 rfl (by decide) (by decide) (fun slot => [(.pointer (some ⟨e, 0, none⟩) : Value), (.slice (some ⟨gg, off, none⟩) z1.length cap1 : Value), (.int .i64 (k : Nat) : Value), (.pointer (some ⟨gg, off + k * 2, none⟩) : Value), (.pointer (some ⟨gg, off + k * 2 + 1, none⟩) : Value), (.string z.s : Value), (.bool hs : Value), (.pointer (some ⟨x, 0, none⟩) : Value), (.slice (some ⟨gg, off, none⟩) z1.length cap1 : Value), (.int .i64 (k : Nat) : Value), (.pointer (some ⟨gg, off + k * 2, none⟩) : Value), (.pointer (some ⟨gg, off + k * 2 + 1, none⟩) : Value), (.string z.s : Value), (.bool hs : Value), (.bool false : Value), (.bool false : Value), (.pointer (some ⟨e, 0, none⟩) : Value), (.int .i64 (Q2.length : Nat) : Value), (.pointer (some ⟨x, 0, none⟩) : Value), (.pointer (some ⟨x, 0, none⟩) : Value), (.pointer (some ⟨x, 0, none⟩) : Value), (.slice adx Q2.length cpx : Value), (.int .i64 (Q2.length : Nat) : Value), (.bool false : Value), (.bool false : Value)].getD slot undef) (fun _ W => Below w5.heap.size w5 W) (lex_of (by kernel_rfl)) (by kernel_rfl) (by simp) ((Below.refl _ _).drew) ?_ ?_ ?_ ?_
        · intro i hi np nq a' W s hS hst hdep Kc hKc
          have hcase : i = 0 ∨ i = 1 ∨ i = 2 ∨ i = 3 ∨ i = 4 ∨ i = 5 ∨ i = 7 ∨ i = 8 ∨ i = 9 ∨ i = 10 ∨ i = 11 ∨ i = 12 ∨ i = 14 ∨ i = 15 ∨ i = 16 ∨ i = 17 ∨ i = 18 ∨ i = 19 ∨ i = 20 ∨ i = 21 ∨ i = 22 ∨ i = 23 ∨ i = 24 := by omega
          rcases hcase with e1 | e1 | e1 | e1 | e1 | e1 | e1 | e1 | e1 | e1 | e1 | e1 | e1 | e1 | e1 | e1 | e1 | e1 | e1 | e1 | e1 | e1 | e1
          · subst e1
            have o5 := hst.at 5 (by omega)
            simp at o5
            refine still_op rfl rfl ?_
            simp [Oper.wp, execOp, Act.eval, go_sem, o5]
            exact hKc
          · subst e1
            have o1 := hst.at 1 (by omega)
            simp at o1
            refine still_op rfl rfl ?_
            simp [Oper.wp, execOp, Act.eval, go_sem, o1]
            exact hKc
          · subst e1
            have o7 := hst.at 7 (by omega)
            simp at o7
            refine still_op rfl rfl ?_
            simp [Oper.wp, execOp, Act.eval, go_sem, o7]
            exact hKc
          · subst e1
            have d1 : a'.tmps[80]?.getD undef = .slice (some ⟨gg, off, none⟩) z1.length cap1 := by simpa using hdep 1 (by kernel_rfl)
            have d2 : a'.tmps[81]?.getD undef = .int .i64 (k : Nat) := by simpa using hdep 2 (by kernel_rfl)
            refine still_op rfl rfl ?_
            simp [Oper.wp, execOp, Act.eval, go_sem, d1, d2, l1]
            exact hKc
          · subst e1
            have d3 : a'.tmps[82]?.getD undef = .pointer (some ⟨gg, off + k * 2, none⟩) := by simpa using hdep 3 (by kernel_rfl)
            refine still_op rfl rfl ?_
            simp [Oper.wp, execOp, Act.eval, go_sem, d3]
            exact hKc
          · subst e1
            have d4 : a'.tmps[83]?.getD undef = .pointer (some ⟨gg, off + k * 2 + 1, none⟩) := by simpa using hdep 4 (by kernel_rfl)
            obtain ⟨y0, y1⟩ := HCs.out W (below_trans' HB5.out hS)
            refine still_op rfl rfl ?_
            simp [Oper.wp, execOp, Act.eval, go_sem, d4, y1]
            exact hKc
          · subst e1
            have o6 := hst.at 6 (by omega)
            simp at o6
            refine still_op rfl rfl ?_
            simp [Oper.wp, execOp, Act.eval, go_sem, o6]
            exact hKc
          · subst e1
            have o1 := hst.at 1 (by omega)
            simp at o1
            refine still_op rfl rfl ?_
            simp [Oper.wp, execOp, Act.eval, go_sem, o1]
            exact hKc
          · subst e1
            have o7 := hst.at 7 (by omega)
            simp at o7
            refine still_op rfl rfl ?_
            simp [Oper.wp, execOp, Act.eval, go_sem, o7]
            exact hKc
          · subst e1
            have d8 : a'.tmps[87]?.getD undef = .slice (some ⟨gg, off, none⟩) z1.length cap1 := by simpa using hdep 8 (by kernel_rfl)
            have d9 : a'.tmps[88]?.getD undef = .int .i64 (k : Nat) := by simpa using hdep 9 (by kernel_rfl)
            refine still_op rfl rfl ?_
            simp [Oper.wp, execOp, Act.eval, go_sem, d8, d9, l1]
            exact hKc
          · subst e1
            have d10 : a'.tmps[89]?.getD undef = .pointer (some ⟨gg, off + k * 2, none⟩) := by simpa using hdep 10 (by kernel_rfl)
            refine still_op rfl rfl ?_
            simp [Oper.wp, execOp, Act.eval, go_sem, d10]
            exact hKc
          · subst e1
            have d11 : a'.tmps[90]?.getD undef = .pointer (some ⟨gg, off + k * 2 + 1, none⟩) := by simpa using hdep 11 (by kernel_rfl)
            obtain ⟨y0, y1⟩ := HCs.out W (below_trans' HB5.out hS)
            refine still_op rfl rfl ?_
            simp [Oper.wp, execOp, Act.eval, go_sem, d11, y1]
            exact hKc
          · subst e1
            have d6 : a'.tmps[85]?.getD undef = .bool hs := by simpa using hdep 6 (by kernel_rfl)
            have d13 : a'.tmps[92]?.getD undef = .bool hs := by simpa using hdep 13 (by kernel_rfl)
            refine still_op rfl rfl ?_
            simp [Oper.wp, execOp, Act.eval, go_sem, d6, d13]
            exact hKc
          · subst e1
            have d14 : a'.tmps[93]?.getD undef = .bool false := by simpa using hdep 14 (by kernel_rfl)
            refine still_op rfl rfl ?_
            simp [Oper.wp, execOp, Act.eval, go_sem, d14]
            exact hKc
          · subst e1
            have o5 := hst.at 5 (by omega)
            simp at o5
            refine still_on rfl rfl rfl rfl (hdep 15 (by kernel_rfl)) ?_
            simp [Oper.wp, execOp, Act.eval, go_sem, o5]
            exact hKc
          · subst e1
            have d16 : a'.tmps[95]?.getD undef = .pointer (some ⟨e, 0, none⟩) := by simpa using hdep 16 (by kernel_rfl)
            refine still_on rfl rfl rfl rfl (hdep 15 (by kernel_rfl)) ?_
            simp [Oper.wp, execOp, Act.eval, go_sem, d16]
            refine Calls.mono (len_left (H5.out.below hS)) ?_
            rintro ee w5 ⟨rfl, rfl⟩
            exact hKc
          · subst e1
            have o6 := hst.at 6 (by omega)
            simp at o6
            refine still_on rfl rfl rfl rfl (hdep 15 (by kernel_rfl)) ?_
            simp [Oper.wp, execOp, Act.eval, go_sem, o6]
            exact hKc
          · subst e1
            have d18 : a'.tmps[97]?.getD undef = .pointer (some ⟨x, 0, none⟩) := by simpa using hdep 18 (by kernel_rfl)
            refine still_on rfl rfl rfl rfl (hdep 15 (by kernel_rfl)) ?_
            simp [Oper.wp, execOp, Act.eval, go_sem, d18]
            exact hKc
          · subst e1
            have d19 : a'.tmps[98]?.getD undef = .pointer (some ⟨x, 0, none⟩) := by simpa using hdep 19 (by kernel_rfl)
            refine still_on rfl rfl rfl rfl (hdep 15 (by kernel_rfl)) ?_
            simp [Oper.wp, execOp, Act.eval, go_sem, d19]
            exact hKc
          · subst e1
            have d20 : a'.tmps[99]?.getD undef = .pointer (some ⟨x, 0, none⟩) := by simpa using hdep 20 (by kernel_rfl)
            have y2 := cell_later hS cx
            refine still_on rfl rfl rfl rfl (hdep 15 (by kernel_rfl)) ?_
            simp [Oper.wp, execOp, Act.eval, go_sem, d20, y2]
            exact hKc
          · subst e1
            have d21 : a'.tmps[100]?.getD undef = .slice adx Q2.length cpx := by simpa using hdep 21 (by kernel_rfl)
            refine still_on rfl rfl rfl rfl (hdep 15 (by kernel_rfl)) ?_
            simp [Oper.wp, execOp, Act.eval, go_sem, d21]
            exact hKc
          · subst e1
            have d17 : a'.tmps[96]?.getD undef = .int .i64 (Q2.length : Nat) := by simpa using hdep 17 (by kernel_rfl)
            have d22 : a'.tmps[101]?.getD undef = .int .i64 (Q2.length : Nat) := by simpa using hdep 22 (by kernel_rfl)
            refine still_on rfl rfl rfl rfl (hdep 15 (by kernel_rfl)) ?_
            simp [Oper.wp, execOp, Act.eval, go_sem, d17, d22]
            exact hKc
          · subst e1
            have d15 : a'.tmps[94]?.getD undef = .bool false := by simpa using hdep 15 (by kernel_rfl)
            have d23 : a'.tmps[102]?.getD undef = .bool false := by simpa using hdep 23 (by kernel_rfl)
            refine still_op rfl rfl ?_
            simp [Oper.wp, execOp, Act.eval, go_sem, d15, d23]
            exact hKc
        · intro a' W hS hst hdep Kc hKc
          have d0 : a'.tmps[79]?.getD undef = .pointer (some ⟨e, 0, none⟩) := by simpa using hdep 0 (by kernel_rfl)
          have d5 : a'.tmps[84]?.getD undef = .string z.s := by simpa using hdep 5 (by kernel_rfl)
          refine still_op rfl rfl ?_
          simp [Oper.wp, execOp, Act.eval, go_sem, d0, d5]
          refine Calls.mono (HHas.out W hS).1 ?_
          rintro ee w5 ⟨rfl, h5⟩
          exact hKc _ (below_trans' hS h5)
        · intro a' W hS hst hdep Kc hKc
          have d7 : a'.tmps[86]?.getD undef = .pointer (some ⟨x, 0, none⟩) := by simpa using hdep 7 (by kernel_rfl)
          have d12 : a'.tmps[91]?.getD undef = .string z.s := by simpa using hdep 12 (by kernel_rfl)
          refine still_op rfl rfl ?_
          simp [Oper.wp, execOp, Act.eval, go_sem, d7, d12]
          refine Calls.mono (HHas.out W hS).2 ?_
          rintro ee w5 ⟨rfl, h5⟩
          exact hKc _ (below_trans' hS h5)
        intro W hS
        simp only [fillA, Act.put, List.setIfInBounds_toArray, List.set_cons_succ, List.set_cons_zero, List.getD_cons_zero, List.getD_cons_succ, Nat.reduceAdd, Nat.add_zero]
        go_wp2_with fail
        go_roundw
        case rel => exact ⟨k + 1, Q2, l1, l2, by go_num, HN.out, H5.out.below hS, below_trans' HB5.out hS⟩
        case measure => simp [intOf]; omega
    · have hend : k = z1.length ∨ (k = 200 ∧ 200 < z1.length) := by omega
      clear hin hA hB hok
      obtain ⟨adx, cpx, cx, hRx⟩ := HA.out.row
      have HKy : Hid (∀ W, Below wr.heap.size wr W → Calls Try.prog 18 #[.pointer (some ⟨e, 0, none⟩)] W fun ee w' => ∃ ad cap, ee = .returned (.slice ad Q.length cap) ∧ RowIn Value.string w' ad Q ∧ Below W.heap.size W w') := fun W hW => (keys_left (HA.out.below hW) HOk.out (by omega)).mono (fun _ _ ⟨ad, cap, h1, h2, h3⟩ => ⟨ad, cap, h1, h2.rowIn, h3⟩)
      have HTx : Hid (∀ W ad7 cp7, Below wr.heap.size wr W → RowIn Value.string W ad7 Q → Calls Try.prog 17 #[.slice ad7 Q.length cp7, .slice adx Q.length cpx] W fun ee w' => ee = .returned (.bool true) ∧ Below W.heap.size W w') := fun W ad7 cp7 hW h7 => by
        have := texts_any (c1 := cp7) (c2 := cpx) h7 (hRx.later hW) (by omega) (by omega)
        rw [eqb_self] at this
        exact this
      have HCx : Hid (∀ W, Below wr.heap.size wr W → W.cell? ⟨x, 0, none⟩ = some (.slice adx Q.length cpx)) := fun W hW => cell_later hW cx
      clear hRx
      rcases hend with hend | ⟨hend, hlong⟩
      · subst hend
        go_wp2_with fail
        go_region_with (first
          | (go_at_call 18; refine Calls.mono (HKy.out _ (Below.refl _ _).drew) ?_; rintro ee w6 ⟨ad6, cp6, rfl, h6, hb6⟩; have HR6 : Hid (RowIn Value.string w6 ad6 Q) := h6; have HB6 : Hid (Below wr.heap.size wr w6) := below_trans' (Below.refl _ _).drew hb6; have cx6 := HCx.out w6 HB6.out; clear h6 hb6)
          | (go_at_call 17; refine Calls.mono (HTx.out _ _ _ HB6.out HR6.out) ?_; rintro ee w7 ⟨rfl, hb7⟩; have HB7 : Hid (Below wr.heap.size wr w7) := below_trans' HB6.out hb7; clear hb7)
          | (go_at_call 19; refine (known_any _).mono ?_; rintro ee w8 ⟨rfl, hb8⟩; have HB8 : Hid (Below wr.heap.size wr w8) := below_trans' HB7.out hb8; clear hb8))
        all_goals
          go_wp2_with (go_at_call 19; refine (known_any _).mono ?_; rintro ee w8 ⟨rfl, hb8⟩; have HB8 : Hid (Below wr.heap.size wr w8) := below_trans' HB7.out hb8; clear hb8)
          go_ret
          exact ⟨rfl, below_trans' HB.out HB8.out⟩
      · subst hend
        go_wp2_with fail
        go_region_with (first
          | (go_at_call 18; refine Calls.mono (HKy.out _ (Below.refl _ _).drew) ?_; rintro ee w6 ⟨ad6, cp6, rfl, h6, hb6⟩; have HR6 : Hid (RowIn Value.string w6 ad6 Q) := h6; have HB6 : Hid (Below wr.heap.size wr w6) := below_trans' (Below.refl _ _).drew hb6; have cx6 := HCx.out w6 HB6.out; clear h6 hb6)
          | (go_at_call 17; refine Calls.mono (HTx.out _ _ _ HB6.out HR6.out) ?_; rintro ee w7 ⟨rfl, hb7⟩; have HB7 : Hid (Below wr.heap.size wr w7) := below_trans' HB6.out hb7; clear hb7)
          | (go_at_call 19; refine (known_any _).mono ?_; rintro ee w8 ⟨rfl, hb8⟩; have HB8 : Hid (Below wr.heap.size wr w8) := below_trans' HB7.out hb8; clear hb8))
        all_goals
          go_wp2_with (go_at_call 19; refine (known_any _).mono ?_; rintro ee w8 ⟨rfl, hb8⟩; have HB8 : Hid (Below wr.heap.size wr w8) := below_trans' HB7.out hb8; clear hb8)
          go_ret
          exact ⟨rfl, below_trans' HB.out HB8.out⟩

set_option maxRecDepth 100000 in
theorem lifted (os : Os) (started : os.Started) (H : Type) (enc : TypeId × Value → H) :
    ReturnsInHanded {} Try.checked os 3 .any (Rows.ghostPlaysSpec.pre6 enc Try.prog Try.f3 Rows.ghostPlaysRow.domain false) (Rows.ghostPlaysSpec.post enc Try.prog Try.f3 false true false false) := by
  refine returnsInHanded_of_change_sized (C := Try.checked) own started (by kernel_rfl) Try.func3
    (ChangeSpec.witness6 (enc := enc) (C := Try.checked) false ⟨#[], #[.int .i64 0, .slice none 0 0], []⟩ 8 (by kernel_rfl) (by kernel_rfl) (by kernel_rfl) (by kernel_rfl)) ?_
  intro W base args ds gs before hval0 hW hcnd hsz0 _
  have hval : ∀ (j : Nat) t v, Try.f3.params[j]? = some t → args[j]? = some v → Value.okWide Try.prog W .any base t v := hval0
  have hsz : (DataW.weightsEach Try.prog (Try.f3.params.toList ++ Rows.ghostPlaysSpec.plain.varTypes Try.prog) (ds ++ gs)).all (· ≤ reachBytes) = true := hsz0
  have hW' := hW
  obtain ⟨p, q, hA0, hV, rfl, hfz, hnd⟩ := hW
  have hA : DataW.TrodAll enc Try.prog W 0 (fun _ => true) true Try.f3.params.toList args.toList ds p := hA0
  rw [Try.params3] at hA hval hsz
  obtain ⟨v0, vs0, d0, ds0, p0, q0, hargs, rfl, rfl, h0, s0⟩ := trodAll_cons hA
  obtain ⟨v1, vs1, d1, ds1, p1, q1, rfl, rfl, rfl, h1, s1⟩ := trodAll_cons s0
  obtain ⟨rfl, rfl, rfl⟩ := trodAll_nil s1
  obtain rfl : args = #[v0, v1] := by cases args; simp_all
  obtain ⟨rfl, rfl⟩ := trodVars_none hV
  obtain ⟨a0, rfl, rfl, rfl, w0⟩ := open_int Try.underlying3 (hval 0 3 v0 rfl rfl) h0
  obtain ⟨a1, len1, cap1, rfl⟩ := okWide_slice Try.underlying22 (hval 1 22 v1 rfl rfl)
  have k1 := h1
  have lt1 : ∀ x ∈ p1, x.block < W.heap.size := by obtain ⟨m, hm⟩ := k1; exact DataW.trod_lt m _ _ _ hm
  obtain ⟨z1, e1, m1, r1, x1⟩ := open_deeds h1
  clear hA0 hval0 hsz0
  refine (walk W a0 w0 a1 len1 cap1 z1 e1 m1 r1 x1).mono fun e W' ⟨he, bel⟩ => ?_
  subst he
  exact ⟨_, rfl, _, _, _, [], _, [], hW', trodAll_mk1 (shut_bool Try.underlying4 _), (trodAll_cons_mk (shut_int Try.underlying3 w0) (trodAll_cons_mk (Below.trod laidOut (by kernel_rfl) (of_decide_eq_true (by kernel_rfl)) k1 bel lt1) trodAll_mk0)), rfl, bel.frame _, fun h => by cases h⟩

theorem over : Rows.ghostPlaysRow.holds Try.pinned (OpenSpec.ofChange Rows.ghostPlaysSpec) :=
  OpenClaim.holds_of_wide 3 Try.f3 rfl rfl rfl rfl rfl rfl rfl ⟨rfl, rfl, rfl, rfl, rfl⟩ rfl rfl rfl rfl rfl (by kernel_rfl) Try.func3 (by kernel_rfl)
    (of_decide_eq_true (by kernel_rfl)) (by unfold Func.isWrapper; first | (rw [if_pos (by decide +kernel)]; kernel_rfl) | (rw [if_neg (by decide +kernel)]; exact ⟨rfl, rfl⟩))
    (fun os started H enc _ => lifted os started H enc)
end Go.Proofs.Ytdiggfiapbifpaa.ghostPlays
namespace Go.Proofs.Ytdiggfiapbifpaa
/-- the given statement -/
theorem ghostPlays_holds : Rows.GhostPlaysSaid := ghostPlays.over
#print axioms ghostPlays_holds
end Go.Proofs.Ytdiggfiapbifpaa
