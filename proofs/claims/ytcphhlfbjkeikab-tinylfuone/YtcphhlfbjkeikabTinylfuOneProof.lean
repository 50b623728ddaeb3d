/- Where there is room for one, just the last one is resident: the law returns true for every row of keys, and its argument reads as it did. -/
import Derived.Test.YtcphhlfbjkeikabRows
import Derived.Test.YtcphhlfbjkeikabAl
import Derived.WalkKit
import Derived.ProofKit
import Derived.OpenShut
import Derived.ShutString
import Derived.ChangeOld
import Derived.Below
import Derived.Carry
import Derived.SizedLaws
namespace Go.Proofs.Ytcphhlfbjkeikab.tinylfuOne
open Go.ChangeShapes Go.WideShapes Go.ChangeAt Go.RowKit
open Go.ChangeMaps (open_string shut_string)
set_option linter.unusedVariables false

theorem own : ownKnob Try.prog.godebug = none := by kernel_rfl
theorem laidOut : laidOutB Try.prog = true := by kernel_rfl
theorem texts_one {w : World} {a1 a2 : Option Addr} {c1 c2 : Nat} {z : ByteArray} (h1 : RowIn Value.string w a1 [z]) (h2 : RowIn Value.string w a2 [z]) :
    Calls Try.prog 21 #[.slice a1 1 c1, .slice a2 1 c2] w fun e w' => e = .returned (.bool true) ∧ Below w.heap.size w w' := by
  have := texts_any (c1 := c1) (c2 := c2) h1 h2 (by simp) (by simp)
  have e1 : eqb [z] [z] = true := by unfold eqb; simp
  rw [e1] at this
  exact this
theorem keys_one {D : Nat → Prop} {w : World} {e b : Nat} {s : Stt} {z : ByteArray} (H : AE e b s D w) (hb : b ≤ 100000) (hk : A.keys s = [z]) {W : World} (hW : Below w.drew.heap.size w.drew W) :
    Calls Try.prog 12 #[.pointer (some ⟨e, 0, none⟩)] W fun ee w' => ∃ ad cap, ee = .returned (.slice ad 1 cap) ∧ RowIn Value.string w' ad [z] ∧ Below W.heap.size W w' := by
  have := keysE_any (H.below (undrew hW)) hb
  rw [hk] at this
  refine this.mono ?_
  rintro ee w' ⟨ad, cap, rfl, hr, hb1⟩
  exact ⟨ad, cap, rfl, hr.rowIn, hb1⟩
theorem only {κ : Type} {l : List κ} {k : κ} (h : l.length = 1) (hk : k ∈ l) : l = [k] := by
  match l, h with
  | [x], _ => simp at hk; rw [hk]
theorem one_first (f : ByteArray → Nat) {s : Stt} {z : ByteArray} (hok : A.Ok s) (hc : s.c = 1) (hk : A.keys s = []) : (A.access f s z).1 = false ∧ (A.access f s z).2.1 = [] ∧ A.Ok (A.access f s z).2.2 ∧ (A.access f s z).2.2.c = 1 ∧ A.keys (A.access f s z).2.2 = [z] := by
  have hin : z ∉ A.keys s := by rw [hk]; simp
  obtain ⟨h1, hM⟩ := A.acc_miss (f := f) hok hin
  rcases hM.went with ⟨h2, _, h3, h4⟩ | ⟨g, _, h4, _⟩
  · refine ⟨h1, h2, hM.ok, hM.cs.trans hc, only (by rw [h4, hk]; rfl) ?_⟩
    rw [← A.cnt_pos, h3, A.one_self]
    omega
  · rw [hk, hc] at h4
    simp at h4
theorem one_same (f : ByteArray → Nat) {s : Stt} {z : ByteArray} (hok : A.Ok s) (hc : s.c = 1) (hk : A.keys s = [z]) : (A.access f s z).1 = true ∧ (A.access f s z).2.1 = [] ∧ A.Ok (A.access f s z).2.2 ∧ (A.access f s z).2.2.c = 1 ∧ A.keys (A.access f s z).2.2 = [z] := by
  have hin : z ∈ A.keys s := by rw [hk]; simp
  obtain ⟨h1, h2, h3, h4, h5, h6⟩ := A.acc_hit (f := f) hok hin
  refine ⟨h1, h2, h3, h4.trans hc, only (by rw [h6, hk]; rfl) ?_⟩
  rw [← A.cnt_pos, h5]
  exact A.cnt_pos.2 hin
theorem one_other (f : ByteArray → Nat) {s : Stt} {z y : ByteArray} (hok : A.Ok s) (hc : s.c = 1) (hk : A.keys s = [y]) (hne : ¬ y = z) : (A.access f s z).1 = false ∧ (A.access f s z).2.1 = [y] ∧ A.Ok (A.access f s z).2.2 ∧ (A.access f s z).2.2.c = 1 ∧ A.keys (A.access f s z).2.2 = [z] := by
  have hin : z ∉ A.keys s := by rw [hk]; simp; exact fun h => hne h.symm
  obtain ⟨h1, hM⟩ := A.acc_miss (f := f) hok hin
  rcases hM.went with ⟨_, h4, _⟩ | ⟨g, h2, h4, hg, h5, h6⟩
  · rw [hk, hc] at h4
    simp at h4
  · have hgy : g = y := by
      have := A.cnt_pos.1 hg
      rw [hk] at this
      simpa using this
    subst hgy
    refine ⟨h1, h2, hM.ok, hM.cs.trans hc, only (by rw [h6, hc]) ?_⟩
    rw [← A.cnt_pos]
    have h7 := h5 z
    rw [A.one_self, A.one_ne hne] at h7
    omega

set_option maxRecDepth 20000 in
set_option maxHeartbeats 1500000 in
theorem walk (w : World) (a0 : Option Addr) (len0 cap0 : Nat) (z0 : List ByteArray) (e0 : z0.length = len0) (m0 : len0 ≤ maxLen) (r0 : RowIn Value.string w a0 z0) (x0 : ∀ z ∈ z0, z.size ≤ 140737488351232) :
    Calls Try.prog 5 #[.slice a0 len0 cap0] w fun e w' => e = .returned (.bool true) ∧ Below w.heap.size w w' := by
  subst e0
  have hlg := long_any (cap := cap0) r0 m0 x0
  have HR : Hid (RowIn Value.string w a0 z0) := r0
  clear r0 x0
  cases hl : lng z0 with
  | true =>
    rw [hl] at hlg
    go_enter Try.func5, Try.ntmps5
    go_wp2_with (go_at_call 18; refine Calls.mono hlg ?_; clear hlg; rintro ee w1 ⟨rfl, rfl⟩)
    go_ret
    exact ⟨rfl, Below.refl _ _⟩
  | false =>
    rw [hl] at hlg
    obtain ⟨hz1, hz2⟩ := lng_no hl
    have HZ : Hid (∀ z ∈ z0, z.size ≤ 40) := hz2
    have hnew := new_any w (fun k => w.heap.size ≤ k) (fun _ h => h) 1
    have hheld : heldC 1 = 1 := by decide
    rw [hheld] at hnew
    clear hl hz2 hheld
    go_enter Try.func5, Try.ntmps5
    go_wp2_with (first
      | (go_at_call 18; refine Calls.mono hlg ?_; clear hlg; rintro ee w1 ⟨rfl, rfl⟩)
      | (go_at_call 19; refine Calls.mono hnew ?_; clear hnew; rintro ee w2 ⟨e, rfl, h2, hk2⟩; have H2 : Hid (AE e 0 (A.start 1) (fun k => w1.heap.size ≤ k) w2) := h2; have HB2 : Hid (Below w1.heap.size w1 w2) := (hk2.below (Nat.le_refl _) (fun _ h => h)); clear h2 hk2))
    go_loopw [4] (fun i wr => ∃ (k : Nat) (s : Stt), k ≤ z0.length ∧ i = .int .i64 k ∧ A.Ok s ∧ s.c = 1 ∧ A.keys s = (if k = 0 then [] else (z0[k - 1]?).toList) ∧ AE e (2 * k) s (fun j => w1.heap.size ≤ j) wr ∧ Below w1.heap.size w1 wr) (fun i _ => z0.length - (intOf i).toNat)
    case atStart => exact ⟨0, A.start 1, Nat.zero_le _, rfl, A.start_ok (by omega) (by omega), rfl, rfl, H2.out, HB2.out⟩
    case round =>
      obtain ⟨k, s, hk, rfl, hok, hsc, hks, hA, hB⟩ := hrel
      have HB : Hid (Below w1.heap.size w1 wr) := hB
      have HA : Hid (AE e (2 * k) s (fun j => w1.heap.size ≤ j) wr) := hA
      have HOk : Hid (A.Ok s) := hok
      clear hok H2 HB2
      rcases Nat.lt_or_ge k z0.length with hlt | hge
      · obtain ⟨z, hz⟩ : ∃ z, z0[k]? = some z := ⟨_, List.getElem?_eq_getElem hlt⟩
        obtain ⟨gg, off, rfl, cz⟩ := (HR.out.later hB).at hz
        have hzs := HZ.out z (List.mem_of_getElem? hz)
        have HCz : Hid (w1.cell? ⟨gg, off + k, none⟩ = some (.string z)) := by
          obtain ⟨g2, o2, e2, c2⟩ := HR.out.at hz
          cases e2
          exact c2
        obtain ⟨f, hacc⟩ := acc_row HA.out HOk.out (fun j hj => Nat.le_trans HB.out.size hj) (by omega) z (by omega)
        have HZk : Hid (z0[k]? = some z) := hz
        rcases Nat.eq_zero_or_pos k with hk0 | hk0
        · subst hk0
          rw [Nat.add_zero] at cz HCz
          rw [if_pos rfl] at hks
          obtain ⟨f1, f2, f3, f4, f5⟩ := one_first f (z := z) HOk.out hsc hks
          rw [f1, f2] at hacc
          have HN : Hid (A.Ok (A.access f s z).2.2 ∧ (A.access f s z).2.2.c = 1 ∧ A.keys (A.access f s z).2.2 = [z]) := ⟨f3, f4, f5⟩
          clear f1 f2 f3 f4 f5 hsc hks hA hB hz
          generalize (A.access f s z).2.2 = s' at *
          go_wp2_with (go_at_call 7; refine Calls.mono hacc ?_; clear hacc; rintro ee w4 ⟨ad4, cap4, rfl, hr4, h4, hk4⟩; have H4 : Hid (AE e (2 * 0 + 2) s' (fun j => w1.heap.size ≤ j) w4) := h4; have HB4 : Hid (Below w1.heap.size w1 w4) := (((Keeps.of_below (D := fun j => w1.heap.size ≤ j) HB.out).trans hk4).below (Nat.le_refl _) (fun _ h => h)); have cz4 : w4.cell? ⟨gg, off, none⟩ = some (.string z) := (cell_later HB4.out HCz.out); clear h4 hk4 hr4)
          refine region_same1 (by kernel_rfl) 13 28 rfl (fun j => [(.int .i64 0 : Value), (.bool false : Value), (.bool false : Value), (undef : Value), (undef : Value), (undef : Value), (undef : Value), (undef : Value), (undef : Value), (undef : Value), (undef : Value), (undef : Value), (undef : Value), (.bool false : Value)].getD j undef) (lex_of (by kernel_rfl)) (wait_of (by kernel_rfl)) (by simp) ?_ ?_
          · intro i hi a' hst hdep Kc hKc
            have hcase : i = 0 ∨ i = 1 ∨ i = 2 ∨ i = 3 ∨ i = 4 ∨ i = 5 ∨ i = 6 ∨ i = 7 ∨ i = 8 ∨ i = 9 ∨ i = 10 ∨ i = 11 ∨ i = 12 ∨ i = 13 := by omega
            rcases hcase with e1 | e1 | e1 | e1 | e1 | e1 | e1 | e1 | e1 | e1 | e1 | e1 | e1 | e1
            · subst e1
              have o4 := hst.at 4 (by omega)
              simp at o4
              refine still_op rfl rfl ?_
              simp [Oper.wp, execOp, Act.eval, go_sem, o4]
              exact hKc
            · subst e1
              have d0 : a'.tmps[28]?.getD undef = .int .i64 0 := by simpa using hdep 0 (by kernel_rfl)
              refine still_op rfl rfl ?_
              simp [Oper.wp, execOp, Act.eval, go_sem, d0]
              exact hKc
            · subst e1
              have d1 : a'.tmps[29]?.getD undef = .bool false := by simpa using hdep 1 (by kernel_rfl)
              refine still_op rfl rfl ?_
              simp [Oper.wp, execOp, Act.eval, go_sem, d1]
              exact hKc
            · subst e1
              exact still_off rfl rfl rfl rfl (hdep 2 (by kernel_rfl)) rfl hKc
            · subst e1
              exact still_off rfl rfl rfl rfl (hdep 2 (by kernel_rfl)) rfl hKc
            · subst e1
              exact still_off rfl rfl rfl rfl (hdep 2 (by kernel_rfl)) rfl hKc
            · subst e1
              exact still_off rfl rfl rfl rfl (hdep 2 (by kernel_rfl)) rfl hKc
            · subst e1
              exact still_off rfl rfl rfl rfl (hdep 2 (by kernel_rfl)) rfl hKc
            · subst e1
              exact still_off rfl rfl rfl rfl (hdep 2 (by kernel_rfl)) rfl hKc
            · subst e1
              exact still_off rfl rfl rfl rfl (hdep 2 (by kernel_rfl)) rfl hKc
            · subst e1
              exact still_off rfl rfl rfl rfl (hdep 2 (by kernel_rfl)) rfl hKc
            · subst e1
              exact still_off rfl rfl rfl rfl (hdep 2 (by kernel_rfl)) rfl hKc
            · subst e1
              exact still_off rfl rfl rfl rfl (hdep 2 (by kernel_rfl)) rfl hKc
            · subst e1
              have d2 : a'.tmps[30]?.getD undef = .bool false := by simpa using hdep 2 (by kernel_rfl)
              refine still_op rfl rfl ?_
              simp [Oper.wp, execOp, Act.eval, go_sem, d2]
              exact hKc
          refine still_op rfl rfl ?_
          simp only [fillA, Act.put, List.setIfInBounds_toArray, List.set_cons_succ, List.set_cons_zero, List.getD_cons_zero, List.getD_cons_succ, Nat.reduceAdd, Nat.add_zero]
          simp [Oper.wp, execOp, Act.eval, go_sem]
          go_wp2_with fail
          have HKeys : Hid (∀ W : World, Below w4.drew.heap.size w4.drew W → Calls Try.prog 12 #[.pointer (some ⟨e, 0, none⟩)] W fun ee w' => ∃ ad cap, ee = .returned (.slice ad 1 cap) ∧ RowIn Value.string w' ad [z] ∧ Below W.heap.size W w') := fun W hW => keys_one H4.out (by omega) HN.out.2.2 hW
          refine region_low (by kernel_rfl) 37 42 rfl (LF 29 34 [z] (fun j => [(.bool false : Value), (.bool false : Value), (.bool false : Value), (.bool false : Value), (.int .i64 0 : Value), (.bool false : Value), (.bool false : Value), (undef : Value), (undef : Value), (.bool false : Value), (.slice ad4 0 cap4 : Value), (.int .i64 0 : Value), (.bool false : Value), (.bool false : Value), (undef : Value), (undef : Value), (undef : Value), (undef : Value), (undef : Value), (undef : Value), (undef : Value), (undef : Value), (undef : Value), (undef : Value), (.bool false : Value), (.bool false : Value), (.bool false : Value), (.bool false : Value), (.pointer (some ⟨e, 0, none⟩) : Value), (undef : Value), (.slice (some ⟨gg, off, none⟩) z0.length cap0 : Value), (.int .i64 0 : Value), (.pointer (some ⟨gg, off, none⟩) : Value), (.string z : Value), (undef : Value), (.bool true : Value), (.bool false : Value), (.bool false : Value)].getD j undef)) (fun W => Below w4.drew.heap.size w4.drew W) (lex_of (by kernel_rfl)) (wait_of (by kernel_rfl)) (by simp) (Below.refl _ _).drew ?_ ?_
          · intro i hi a' W hC hst hdep
            have hcase : i = 0 ∨ i = 1 ∨ i = 2 ∨ i = 3 ∨ i = 4 ∨ i = 5 ∨ i = 6 ∨ i = 7 ∨ i = 8 ∨ i = 9 ∨ i = 10 ∨ i = 11 ∨ i = 12 ∨ i = 13 ∨ i = 14 ∨ i = 15 ∨ i = 16 ∨ i = 17 ∨ i = 18 ∨ i = 19 ∨ i = 20 ∨ i = 21 ∨ i = 22 ∨ i = 23 ∨ i = 24 ∨ i = 25 ∨ i = 26 ∨ i = 27 ∨ i = 28 ∨ i = 29 ∨ i = 30 ∨ i = 31 ∨ i = 32 ∨ i = 33 ∨ i = 34 ∨ i = 35 ∨ i = 36 ∨ i = 37 := by omega
            rcases hcase with e1 | e1 | e1 | e1 | e1 | e1 | e1 | e1 | e1 | e1 | e1 | e1 | e1 | e1 | e1 | e1 | e1 | e1 | e1 | e1 | e1 | e1 | e1 | e1 | e1 | e1 | e1 | e1 | e1 | e1 | e1 | e1 | e1 | e1 | e1 | e1 | e1 | e1
            · subst e1
              have o5 := hst.at 5 (by omega)
              simp at o5
              refine low_same (v := .bool false) ?_ hC (LF.mk (j := 0) (by decide) (by decide))
              intro Kc hKc
              refine still_op rfl rfl ?_
              simp [Oper.wp, execOp, Act.eval, go_sem, o5]
              exact hKc
            · subst e1
              have o7 := hst.at 7 (by omega)
              simp at o7
              refine low_same (v := .bool false) ?_ hC (LF.mk (j := 1) (by decide) (by decide))
              intro Kc hKc
              refine still_op rfl rfl ?_
              simp [Oper.wp, execOp, Act.eval, go_sem, o7]
              exact hKc
            · subst e1
              have d0 : a'.tmps[42]?.getD undef = .bool false := by simpa using (LF.is (hdep 0 (by kernel_rfl)) (by decide) (by decide))
              have d1 : a'.tmps[43]?.getD undef = .bool false := by simpa using (LF.is (hdep 1 (by kernel_rfl)) (by decide) (by decide))
              refine low_same (v := .bool false) ?_ hC (LF.mk (j := 2) (by decide) (by decide))
              intro Kc hKc
              refine still_op rfl rfl ?_
              simp [Oper.wp, execOp, Act.eval, go_sem, d0, d1]
              exact hKc
            · subst e1
              have d2 : a'.tmps[44]?.getD undef = .bool false := by simpa using (LF.is (hdep 2 (by kernel_rfl)) (by decide) (by decide))
              refine low_same (v := .bool false) ?_ hC (LF.mk (j := 3) (by decide) (by decide))
              intro Kc hKc
              refine still_op rfl rfl ?_
              simp [Oper.wp, execOp, Act.eval, go_sem, d2]
              exact hKc
            · subst e1
              have o4 := hst.at 4 (by omega)
              simp at o4
              refine low_same (v := .int .i64 0) ?_ hC (LF.mk (j := 4) (by decide) (by decide))
              intro Kc hKc
              refine still_on rfl rfl rfl rfl (LF.is (hdep 3 (by kernel_rfl)) (by decide) (by decide)) ?_
              simp [Oper.wp, execOp, Act.eval, go_sem, o4]
              exact hKc
            · subst e1
              have d4 : a'.tmps[46]?.getD undef = .int .i64 0 := by simpa using (LF.is (hdep 4 (by kernel_rfl)) (by decide) (by decide))
              refine low_same (v := .bool false) ?_ hC (LF.mk (j := 5) (by decide) (by decide))
              intro Kc hKc
              refine still_on rfl rfl rfl rfl (LF.is (hdep 3 (by kernel_rfl)) (by decide) (by decide)) ?_
              simp [Oper.wp, execOp, Act.eval, go_sem, d4]
              exact hKc
            · subst e1
              have d5 : a'.tmps[47]?.getD undef = .bool false := by simpa using (LF.is (hdep 5 (by kernel_rfl)) (by decide) (by decide))
              refine low_same (v := .bool false) ?_ hC (LF.mk (j := 6) (by decide) (by decide))
              intro Kc hKc
              refine still_on rfl rfl rfl rfl (LF.is (hdep 3 (by kernel_rfl)) (by decide) (by decide)) ?_
              simp [Oper.wp, execOp, Act.eval, go_sem, d5]
              exact hKc
            · subst e1
              refine low_same (v := undef) ?_ hC (LF.mk (j := 7) (by decide) (by decide))
              intro Kc hKc
              exact still_off rfl rfl rfl rfl (LF.is (hdep 6 (by kernel_rfl)) (by decide) (by decide)) rfl hKc
            · subst e1
              refine low_same (v := undef) ?_ hC (LF.mk (j := 8) (by decide) (by decide))
              intro Kc hKc
              exact still_off rfl rfl rfl rfl (LF.is (hdep 6 (by kernel_rfl)) (by decide) (by decide)) rfl hKc
            · subst e1
              have d6 : a'.tmps[48]?.getD undef = .bool false := by simpa using (LF.is (hdep 6 (by kernel_rfl)) (by decide) (by decide))
              refine low_same (v := .bool false) ?_ hC (LF.mk (j := 9) (by decide) (by decide))
              intro Kc hKc
              refine still_on rfl rfl rfl rfl (LF.is (hdep 3 (by kernel_rfl)) (by decide) (by decide)) ?_
              simp [Oper.wp, execOp, Act.eval, go_sem, d6]
              exact hKc
            · subst e1
              have o6 := hst.at 6 (by omega)
              simp at o6
              refine low_same (v := .slice ad4 0 cap4) ?_ hC (LF.mk (j := 10) (by decide) (by decide))
              intro Kc hKc
              refine still_on rfl rfl rfl rfl (LF.is (hdep 3 (by kernel_rfl)) (by decide) (by decide)) ?_
              simp [Oper.wp, execOp, Act.eval, go_sem, o6]
              exact hKc
            · subst e1
              have d10 : a'.tmps[52]?.getD undef = .slice ad4 0 cap4 := by simpa using (LF.is (hdep 10 (by kernel_rfl)) (by decide) (by decide))
              refine low_same (v := .int .i64 0) ?_ hC (LF.mk (j := 11) (by decide) (by decide))
              intro Kc hKc
              refine still_on rfl rfl rfl rfl (LF.is (hdep 3 (by kernel_rfl)) (by decide) (by decide)) ?_
              simp [Oper.wp, execOp, Act.eval, go_sem, d10]
              exact hKc
            · subst e1
              have d11 : a'.tmps[53]?.getD undef = .int .i64 0 := by simpa using (LF.is (hdep 11 (by kernel_rfl)) (by decide) (by decide))
              refine low_same (v := .bool false) ?_ hC (LF.mk (j := 12) (by decide) (by decide))
              intro Kc hKc
              refine still_on rfl rfl rfl rfl (LF.is (hdep 3 (by kernel_rfl)) (by decide) (by decide)) ?_
              simp [Oper.wp, execOp, Act.eval, go_sem, d11]
              exact hKc
            · subst e1
              have d12 : a'.tmps[54]?.getD undef = .bool false := by simpa using (LF.is (hdep 12 (by kernel_rfl)) (by decide) (by decide))
              refine low_same (v := .bool false) ?_ hC (LF.mk (j := 13) (by decide) (by decide))
              intro Kc hKc
              refine still_on rfl rfl rfl rfl (LF.is (hdep 3 (by kernel_rfl)) (by decide) (by decide)) ?_
              simp [Oper.wp, execOp, Act.eval, go_sem, d12]
              exact hKc
            · subst e1
              refine low_same (v := undef) ?_ hC (LF.mk (j := 14) (by decide) (by decide))
              intro Kc hKc
              exact still_off rfl rfl rfl rfl (LF.is (hdep 13 (by kernel_rfl)) (by decide) (by decide)) rfl hKc
            · subst e1
              refine low_same (v := undef) ?_ hC (LF.mk (j := 15) (by decide) (by decide))
              intro Kc hKc
              exact still_off rfl rfl rfl rfl (LF.is (hdep 13 (by kernel_rfl)) (by decide) (by decide)) rfl hKc
            · subst e1
              refine low_same (v := undef) ?_ hC (LF.mk (j := 16) (by decide) (by decide))
              intro Kc hKc
              exact still_off rfl rfl rfl rfl (LF.is (hdep 13 (by kernel_rfl)) (by decide) (by decide)) rfl hKc
            · subst e1
              refine low_same (v := undef) ?_ hC (LF.mk (j := 17) (by decide) (by decide))
              intro Kc hKc
              exact still_off rfl rfl rfl rfl (LF.is (hdep 13 (by kernel_rfl)) (by decide) (by decide)) rfl hKc
            · subst e1
              refine low_same (v := undef) ?_ hC (LF.mk (j := 18) (by decide) (by decide))
              intro Kc hKc
              exact still_off rfl rfl rfl rfl (LF.is (hdep 13 (by kernel_rfl)) (by decide) (by decide)) rfl hKc
            · subst e1
              refine low_same (v := undef) ?_ hC (LF.mk (j := 19) (by decide) (by decide))
              intro Kc hKc
              exact still_off rfl rfl rfl rfl (LF.is (hdep 13 (by kernel_rfl)) (by decide) (by decide)) rfl hKc
            · subst e1
              refine low_same (v := undef) ?_ hC (LF.mk (j := 20) (by decide) (by decide))
              intro Kc hKc
              exact still_off rfl rfl rfl rfl (LF.is (hdep 13 (by kernel_rfl)) (by decide) (by decide)) rfl hKc
            · subst e1
              refine low_same (v := undef) ?_ hC (LF.mk (j := 21) (by decide) (by decide))
              intro Kc hKc
              exact still_off rfl rfl rfl rfl (LF.is (hdep 13 (by kernel_rfl)) (by decide) (by decide)) rfl hKc
            · subst e1
              refine low_same (v := undef) ?_ hC (LF.mk (j := 22) (by decide) (by decide))
              intro Kc hKc
              exact still_off rfl rfl rfl rfl (LF.is (hdep 13 (by kernel_rfl)) (by decide) (by decide)) rfl hKc
            · subst e1
              refine low_same (v := undef) ?_ hC (LF.mk (j := 23) (by decide) (by decide))
              intro Kc hKc
              exact still_off rfl rfl rfl rfl (LF.is (hdep 13 (by kernel_rfl)) (by decide) (by decide)) rfl hKc
            · subst e1
              have d13 : a'.tmps[55]?.getD undef = .bool false := by simpa using (LF.is (hdep 13 (by kernel_rfl)) (by decide) (by decide))
              refine low_same (v := .bool false) ?_ hC (LF.mk (j := 24) (by decide) (by decide))
              intro Kc hKc
              refine still_on rfl rfl rfl rfl (LF.is (hdep 3 (by kernel_rfl)) (by decide) (by decide)) ?_
              simp [Oper.wp, execOp, Act.eval, go_sem, d13]
              exact hKc
            · subst e1
              have d9 : a'.tmps[51]?.getD undef = .bool false := by simpa using (LF.is (hdep 9 (by kernel_rfl)) (by decide) (by decide))
              have d24 : a'.tmps[66]?.getD undef = .bool false := by simpa using (LF.is (hdep 24 (by kernel_rfl)) (by decide) (by decide))
              refine low_same (v := .bool false) ?_ hC (LF.mk (j := 25) (by decide) (by decide))
              intro Kc hKc
              refine still_on rfl rfl rfl rfl (LF.is (hdep 3 (by kernel_rfl)) (by decide) (by decide)) ?_
              simp [Oper.wp, execOp, Act.eval, go_sem, d9, d24]
              exact hKc
            · subst e1
              have d3 : a'.tmps[45]?.getD undef = .bool false := by simpa using (LF.is (hdep 3 (by kernel_rfl)) (by decide) (by decide))
              have d25 : a'.tmps[67]?.getD undef = .bool false := by simpa using (LF.is (hdep 25 (by kernel_rfl)) (by decide) (by decide))
              refine low_same (v := .bool false) ?_ hC (LF.mk (j := 26) (by decide) (by decide))
              intro Kc hKc
              refine still_op rfl rfl ?_
              simp [Oper.wp, execOp, Act.eval, go_sem, d3, d25]
              exact hKc
            · subst e1
              have d26 : a'.tmps[68]?.getD undef = .bool false := by simpa using (LF.is (hdep 26 (by kernel_rfl)) (by decide) (by decide))
              refine low_same (v := .bool false) ?_ hC (LF.mk (j := 27) (by decide) (by decide))
              intro Kc hKc
              refine still_op rfl rfl ?_
              simp [Oper.wp, execOp, Act.eval, go_sem, d26]
              exact hKc
            · subst e1
              have o3 := hst.at 3 (by omega)
              simp at o3
              refine low_same (v := .pointer (some ⟨e, 0, none⟩)) ?_ hC (LF.mk (j := 28) (by decide) (by decide))
              intro Kc hKc
              refine still_on rfl rfl rfl rfl (LF.is (hdep 27 (by kernel_rfl)) (by decide) (by decide)) ?_
              simp [Oper.wp, execOp, Act.eval, go_sem, o3]
              exact hKc
            · subst e1
              have d28 : a'.tmps[70]?.getD undef = .pointer (some ⟨e, 0, none⟩) := by simpa using (LF.is (hdep 28 (by kernel_rfl)) (by decide) (by decide))
              refine low_new (fun v w1 => ∃ ad cap, v = .slice ad 1 cap ∧ RowIn Value.string w1 ad [z] ∧ Below W.heap.size W w1) ?_ ?_
              · intro Kc hKc
                refine still_on rfl rfl rfl rfl (LF.is (hdep 27 (by kernel_rfl)) (by decide) (by decide)) ?_
                simp [Oper.wp, execOp, Act.eval, go_sem, d28]
                refine Calls.mono (HKeys.out W hC) ?_
                rintro ee w5 ⟨ad, cap, rfl, hr, hb5⟩
                exact hKc _ _ ⟨ad, cap, rfl, hr, hb5⟩
              · rintro v w1 ⟨ad, cap, rfl, hr, hb1⟩
                exact ⟨below_trans' hC hb1, .inl ⟨.inl rfl, ad, cap, rfl, hr⟩, fun j u h => LF.mono h hb1⟩
            · subst e1
              have o0 := hst.at 0 (by omega)
              simp at o0
              refine low_same (v := .slice (some ⟨gg, off, none⟩) z0.length cap0) ?_ hC (LF.mk (j := 30) (by decide) (by decide))
              intro Kc hKc
              refine still_on rfl rfl rfl rfl (LF.is (hdep 27 (by kernel_rfl)) (by decide) (by decide)) ?_
              simp [Oper.wp, execOp, Act.eval, go_sem, o0]
              exact hKc
            · subst e1
              have o4 := hst.at 4 (by omega)
              simp at o4
              refine low_same (v := .int .i64 0) ?_ hC (LF.mk (j := 31) (by decide) (by decide))
              intro Kc hKc
              refine still_on rfl rfl rfl rfl (LF.is (hdep 27 (by kernel_rfl)) (by decide) (by decide)) ?_
              simp [Oper.wp, execOp, Act.eval, go_sem, o4]
              exact hKc
            · subst e1
              have d30 : a'.tmps[72]?.getD undef = .slice (some ⟨gg, off, none⟩) z0.length cap0 := by simpa using (LF.is (hdep 30 (by kernel_rfl)) (by decide) (by decide))
              have d31 : a'.tmps[73]?.getD undef = .int .i64 0 := by simpa using (LF.is (hdep 31 (by kernel_rfl)) (by decide) (by decide))
              refine low_same (v := .pointer (some ⟨gg, off, none⟩)) ?_ hC (LF.mk (j := 32) (by decide) (by decide))
              intro Kc hKc
              refine still_on rfl rfl rfl rfl (LF.is (hdep 27 (by kernel_rfl)) (by decide) (by decide)) ?_
              simp [Oper.wp, execOp, Act.eval, go_sem, d30, d31, hlt]
              exact hKc
            · subst e1
              have d32 : a'.tmps[74]?.getD undef = .pointer (some ⟨gg, off, none⟩) := by simpa using (LF.is (hdep 32 (by kernel_rfl)) (by decide) (by decide))
              refine low_same (v := .string z) ?_ hC (LF.mk (j := 33) (by decide) (by decide))
              intro Kc hKc
              refine still_on rfl rfl rfl rfl (LF.is (hdep 27 (by kernel_rfl)) (by decide) (by decide)) ?_
              simp [Oper.wp, execOp, Act.eval, go_sem, d32, cell_later hC cz4]
              exact hKc
            · subst e1
              have d33 : a'.tmps[75]?.getD undef = .string z := by simpa using (LF.is (hdep 33 (by kernel_rfl)) (by decide) (by decide))
              refine low_new (fun v w1 => v = .slice (some ⟨W.heap.size, 0, none⟩) 1 1 ∧ w1 = W.alloc (.cells #[.string z] 9)) ?_ ?_
              · intro Kc hKc
                refine still_on rfl rfl rfl rfl (LF.is (hdep 27 (by kernel_rfl)) (by decide) (by decide)) ?_
                simp [Oper.wp, execOp, Act.eval, go_sem, d33]
                exact hKc _ _ ⟨rfl, rfl⟩
              · rintro v w1 ⟨rfl, rfl⟩
                have hb1 : Below W.heap.size W (W.alloc (.cells #[.string z] 9)) := (Below.refl _ W).alloc (Nat.le_refl _) _
                exact ⟨below_trans' hC hb1, .inl ⟨.inr rfl, _, 1, rfl, (row_lit (E := fun _ => True) z trivial).rowIn⟩, fun j u h => LF.mono h hb1⟩
            · subst e1
              obtain ⟨ad29, cap29, e29, r29⟩ := LF.row (hdep 29 (by kernel_rfl)) (by decide)
              have d29 : a'.tmps[71]?.getD undef = .slice ad29 [z].length cap29 := by simpa using e29
              obtain ⟨ad34, cap34, e34, r34⟩ := LF.row (hdep 34 (by kernel_rfl)) (by decide)
              have d34 : a'.tmps[76]?.getD undef = .slice ad34 [z].length cap34 := by simpa using e34
              refine low_new (fun v w1 => v = .bool true ∧ Below W.heap.size W w1) ?_ ?_
              · intro Kc hKc
                refine still_on rfl rfl rfl rfl (LF.is (hdep 27 (by kernel_rfl)) (by decide) (by decide)) ?_
                simp [Oper.wp, execOp, Act.eval, go_sem, d29, d34]
                refine Calls.mono (texts_one r29 r34) ?_
                rintro ee w5 ⟨rfl, hb5⟩
                exact hKc _ _ ⟨rfl, hb5⟩
              · rintro v w1 ⟨rfl, hb1⟩
                exact ⟨below_trans' hC hb1, LF.mk (j := 35) (by decide) (by decide), fun j u h => LF.mono h hb1⟩
            · subst e1
              have d35 : a'.tmps[77]?.getD undef = .bool true := by simpa using (LF.is (hdep 35 (by kernel_rfl)) (by decide) (by decide))
              refine low_same (v := .bool false) ?_ hC (LF.mk (j := 36) (by decide) (by decide))
              intro Kc hKc
              refine still_on rfl rfl rfl rfl (LF.is (hdep 27 (by kernel_rfl)) (by decide) (by decide)) ?_
              simp [Oper.wp, execOp, Act.eval, go_sem, d35]
              exact hKc
            · subst e1
              have d27 : a'.tmps[69]?.getD undef = .bool false := by simpa using (LF.is (hdep 27 (by kernel_rfl)) (by decide) (by decide))
              have d36 : a'.tmps[78]?.getD undef = .bool false := by simpa using (LF.is (hdep 36 (by kernel_rfl)) (by decide) (by decide))
              refine low_same (v := .bool false) ?_ hC (LF.mk (j := 37) (by decide) (by decide))
              intro Kc hKc
              refine still_op rfl rfl ?_
              simp [Oper.wp, execOp, Act.eval, go_sem, d27, d36]
              exact hKc
          intro vs W hC hF
          have hlastv : vs 37 = .bool false := LF.is (hF 37 (by omega)) (by decide) (by decide)
          simp only [fillA, Act.put, List.setIfInBounds_toArray, List.set_cons_succ, List.set_cons_zero, Nat.reduceAdd, Nat.add_zero]
          rw [hlastv]
          go_wp2_with fail
          go_roundw
          case rel => exact ⟨0 + 1, s', hlt, by go_num, HN.out.1, HN.out.2.1, by rw [HN.out.2.2, if_neg (by omega), Nat.add_sub_cancel, HZk.out]; rfl, H4.out.below (undrew hC), below_trans' HB4.out (undrew hC)⟩
          case measure => simp [intOf]; omega
        · obtain ⟨n, rfl⟩ : ∃ n, k = n + 1 := ⟨k - 1, by omega⟩
          obtain ⟨y, hy⟩ : ∃ y, z0[n]? = some y := ⟨_, List.getElem?_eq_getElem (by omega)⟩
          have HCp : Hid (w1.cell? ⟨gg, off + n, none⟩ = some (.string y)) := by
            obtain ⟨g2, o2, e2, c2⟩ := HR.out.at hy
            cases e2
            exact c2
          have hn1 : n < z0.length := by omega
          have hw5 : IntKind.i64.wrap (n : Int) = (n : Int) := by simp [IntKind.wrap_i64]; omega
          have hidx : 0 ≤ (n : Int) + 1 ∧ (n : Int) + 1 < (z0.length : Int) := by omega
          have hmx : max (0 : Int) (n : Int) = (n : Int) := by omega
          rw [if_neg (by omega), Nat.add_sub_cancel, hy] at hks
          have hks' : A.keys s = [y] := hks
          by_cases hyz : y = z
          · have hbe : (y.toList == z.toList) = true := by rw [texts_beq]; exact decide_eq_true hyz
            obtain ⟨f1, f2, f3, f4, f5⟩ := one_same f (z := z) HOk.out hsc (by rw [hks', hyz])
            rw [f1, f2] at hacc
            have HN : Hid (A.Ok (A.access f s z).2.2 ∧ (A.access f s z).2.2.c = 1 ∧ A.keys (A.access f s z).2.2 = [z]) := ⟨f3, f4, f5⟩
            clear f1 f2 f3 f4 f5 hsc hks hks' hA hB hz hy hyz hk0
            generalize (A.access f s z).2.2 = s' at *
            go_wp2_with (go_at_call 7; refine Calls.mono hacc ?_; clear hacc; rintro ee w4 ⟨ad4, cap4, rfl, hr4, h4, hk4⟩; have H4 : Hid (AE e (2 * (n + 1) + 2) s' (fun j => w1.heap.size ≤ j) w4) := h4; have HB4 : Hid (Below w1.heap.size w1 w4) := (((Keeps.of_below (D := fun j => w1.heap.size ≤ j) HB.out).trans hk4).below (Nat.le_refl _) (fun _ h => h)); have cz4 : w4.cell? ⟨gg, off + (n + 1), none⟩ = some (.string z) := (cell_later HB4.out HCz.out); have cp4 : w4.cell? ⟨gg, off + n, none⟩ = some (.string y) := (cell_later HB4.out HCp.out); clear h4 hk4 hr4)
            refine region_same1 (by kernel_rfl) 13 28 rfl (fun j => [(.int .i64 ((n : Int) + 1) : Value), (.bool true : Value), (.bool true : Value), (.slice (some ⟨gg, off, none⟩) z0.length cap0 : Value), (.int .i64 ((n : Int) + 1) : Value), (.int .i64 (n : Nat) : Value), (.pointer (some ⟨gg, off + n, none⟩) : Value), (.string y : Value), (.slice (some ⟨gg, off, none⟩) z0.length cap0 : Value), (.int .i64 ((n : Int) + 1) : Value), (.pointer (some ⟨gg, off + (n + 1), none⟩) : Value), (.string z : Value), (.bool true : Value), (.bool true : Value)].getD j undef) (lex_of (by kernel_rfl)) (wait_of (by kernel_rfl)) (by simp) ?_ ?_
            · intro i hi a' hst hdep Kc hKc
              have hcase : i = 0 ∨ i = 1 ∨ i = 2 ∨ i = 3 ∨ i = 4 ∨ i = 5 ∨ i = 6 ∨ i = 7 ∨ i = 8 ∨ i = 9 ∨ i = 10 ∨ i = 11 ∨ i = 12 ∨ i = 13 := by omega
              rcases hcase with e1 | e1 | e1 | e1 | e1 | e1 | e1 | e1 | e1 | e1 | e1 | e1 | e1 | e1
              · subst e1
                have o4 := hst.at 4 (by omega)
                simp at o4
                refine still_op rfl rfl ?_
                simp [Oper.wp, execOp, Act.eval, go_sem, o4]
                exact hKc
              · subst e1
                have d0 : a'.tmps[28]?.getD undef = .int .i64 ((n : Int) + 1) := by simpa using hdep 0 (by kernel_rfl)
                refine still_op rfl rfl ?_
                simp [Oper.wp, execOp, Act.eval, go_sem, d0]
                exact hKc
              · subst e1
                have d1 : a'.tmps[29]?.getD undef = .bool true := by simpa using hdep 1 (by kernel_rfl)
                refine still_op rfl rfl ?_
                simp [Oper.wp, execOp, Act.eval, go_sem, d1]
                exact hKc
              · subst e1
                have o0 := hst.at 0 (by omega)
                simp at o0
                refine still_on rfl rfl rfl rfl (hdep 2 (by kernel_rfl)) ?_
                simp [Oper.wp, execOp, Act.eval, go_sem, o0]
                exact hKc
              · subst e1
                have o4 := hst.at 4 (by omega)
                simp at o4
                refine still_on rfl rfl rfl rfl (hdep 2 (by kernel_rfl)) ?_
                simp [Oper.wp, execOp, Act.eval, go_sem, o4]
                exact hKc
              · subst e1
                have d4 : a'.tmps[32]?.getD undef = .int .i64 ((n : Int) + 1) := by simpa using hdep 4 (by kernel_rfl)
                refine still_on rfl rfl rfl rfl (hdep 2 (by kernel_rfl)) ?_
                simp [Oper.wp, execOp, Act.eval, go_sem, d4, hw5]
                exact hKc
              · subst e1
                have d3 : a'.tmps[31]?.getD undef = .slice (some ⟨gg, off, none⟩) z0.length cap0 := by simpa using hdep 3 (by kernel_rfl)
                have d5 : a'.tmps[33]?.getD undef = .int .i64 (n : Nat) := by simpa using hdep 5 (by kernel_rfl)
                refine still_on rfl rfl rfl rfl (hdep 2 (by kernel_rfl)) ?_
                simp [Oper.wp, execOp, Act.eval, go_sem, d3, d5, hn1]
                exact hKc
              · subst e1
                have d6 : a'.tmps[34]?.getD undef = .pointer (some ⟨gg, off + n, none⟩) := by simpa using hdep 6 (by kernel_rfl)
                refine still_on rfl rfl rfl rfl (hdep 2 (by kernel_rfl)) ?_
                simp [Oper.wp, execOp, Act.eval, go_sem, d6, cp4]
                exact hKc
              · subst e1
                have o0 := hst.at 0 (by omega)
                simp at o0
                refine still_on rfl rfl rfl rfl (hdep 2 (by kernel_rfl)) ?_
                simp [Oper.wp, execOp, Act.eval, go_sem, o0]
                exact hKc
              · subst e1
                have o4 := hst.at 4 (by omega)
                simp at o4
                refine still_on rfl rfl rfl rfl (hdep 2 (by kernel_rfl)) ?_
                simp [Oper.wp, execOp, Act.eval, go_sem, o4]
                exact hKc
              · subst e1
                have d8 : a'.tmps[36]?.getD undef = .slice (some ⟨gg, off, none⟩) z0.length cap0 := by simpa using hdep 8 (by kernel_rfl)
                have d9 : a'.tmps[37]?.getD undef = .int .i64 ((n : Int) + 1) := by simpa using hdep 9 (by kernel_rfl)
                refine still_on rfl rfl rfl rfl (hdep 2 (by kernel_rfl)) ?_
                simp [Oper.wp, execOp, Act.eval, go_sem, d8, d9, hidx]
                exact hKc
              · subst e1
                have d10 : a'.tmps[38]?.getD undef = .pointer (some ⟨gg, off + (n + 1), none⟩) := by simpa using hdep 10 (by kernel_rfl)
                refine still_on rfl rfl rfl rfl (hdep 2 (by kernel_rfl)) ?_
                simp [Oper.wp, execOp, Act.eval, go_sem, d10, cz4]
                exact hKc
              · subst e1
                have d7 : a'.tmps[35]?.getD undef = .string y := by simpa using hdep 7 (by kernel_rfl)
                have d11 : a'.tmps[39]?.getD undef = .string z := by simpa using hdep 11 (by kernel_rfl)
                refine still_on rfl rfl rfl rfl (hdep 2 (by kernel_rfl)) ?_
                simp [Oper.wp, execOp, Act.eval, go_sem, d7, d11, hbe]
                exact hKc
              · subst e1
                have d2 : a'.tmps[30]?.getD undef = .bool true := by simpa using hdep 2 (by kernel_rfl)
                have d12 : a'.tmps[40]?.getD undef = .bool true := by simpa using hdep 12 (by kernel_rfl)
                refine still_op rfl rfl ?_
                simp [Oper.wp, execOp, Act.eval, go_sem, d2, d12]
                exact hKc
            refine still_op rfl rfl ?_
            simp only [fillA, Act.put, List.setIfInBounds_toArray, List.set_cons_succ, List.set_cons_zero, List.getD_cons_zero, List.getD_cons_succ, Nat.reduceAdd, Nat.add_zero]
            simp [Oper.wp, execOp, Act.eval, go_sem]
            go_wp2_with fail
            have HKeys : Hid (∀ W : World, Below w4.drew.heap.size w4.drew W → Calls Try.prog 12 #[.pointer (some ⟨e, 0, none⟩)] W fun ee w' => ∃ ad cap, ee = .returned (.slice ad 1 cap) ∧ RowIn Value.string w' ad [z] ∧ Below W.heap.size W w') := fun W hW => keys_one H4.out (by omega) HN.out.2.2 hW
            refine region_low (by kernel_rfl) 37 42 rfl (LF 29 34 [z] (fun j => [(.bool true : Value), (.bool true : Value), (.bool false : Value), (.bool false : Value), (.int .i64 ((n : Int) + 1) : Value), (.bool true : Value), (.bool true : Value), (.bool true : Value), (.bool false : Value), (.bool false : Value), (.slice ad4 0 cap4 : Value), (.int .i64 0 : Value), (.bool false : Value), (.bool false : Value), (undef : Value), (undef : Value), (undef : Value), (undef : Value), (undef : Value), (undef : Value), (undef : Value), (undef : Value), (undef : Value), (undef : Value), (.bool false : Value), (.bool false : Value), (.bool false : Value), (.bool false : Value), (.pointer (some ⟨e, 0, none⟩) : Value), (undef : Value), (.slice (some ⟨gg, off, none⟩) z0.length cap0 : Value), (.int .i64 ((n : Int) + 1) : Value), (.pointer (some ⟨gg, off + (n + 1), none⟩) : Value), (.string z : Value), (undef : Value), (.bool true : Value), (.bool false : Value), (.bool false : Value)].getD j undef)) (fun W => Below w4.drew.heap.size w4.drew W) (lex_of (by kernel_rfl)) (wait_of (by kernel_rfl)) (by simp) (Below.refl _ _).drew ?_ ?_
            · intro i hi a' W hC hst hdep
              have hcase : i = 0 ∨ i = 1 ∨ i = 2 ∨ i = 3 ∨ i = 4 ∨ i = 5 ∨ i = 6 ∨ i = 7 ∨ i = 8 ∨ i = 9 ∨ i = 10 ∨ i = 11 ∨ i = 12 ∨ i = 13 ∨ i = 14 ∨ i = 15 ∨ i = 16 ∨ i = 17 ∨ i = 18 ∨ i = 19 ∨ i = 20 ∨ i = 21 ∨ i = 22 ∨ i = 23 ∨ i = 24 ∨ i = 25 ∨ i = 26 ∨ i = 27 ∨ i = 28 ∨ i = 29 ∨ i = 30 ∨ i = 31 ∨ i = 32 ∨ i = 33 ∨ i = 34 ∨ i = 35 ∨ i = 36 ∨ i = 37 := by omega
              rcases hcase with e1 | e1 | e1 | e1 | e1 | e1 | e1 | e1 | e1 | e1 | e1 | e1 | e1 | e1 | e1 | e1 | e1 | e1 | e1 | e1 | e1 | e1 | e1 | e1 | e1 | e1 | e1 | e1 | e1 | e1 | e1 | e1 | e1 | e1 | e1 | e1 | e1 | e1
              · subst e1
                have o5 := hst.at 5 (by omega)
                simp at o5
                refine low_same (v := .bool true) ?_ hC (LF.mk (j := 0) (by decide) (by decide))
                intro Kc hKc
                refine still_op rfl rfl ?_
                simp [Oper.wp, execOp, Act.eval, go_sem, o5]
                exact hKc
              · subst e1
                have o7 := hst.at 7 (by omega)
                simp at o7
                refine low_same (v := .bool true) ?_ hC (LF.mk (j := 1) (by decide) (by decide))
                intro Kc hKc
                refine still_op rfl rfl ?_
                simp [Oper.wp, execOp, Act.eval, go_sem, o7]
                exact hKc
              · subst e1
                have d0 : a'.tmps[42]?.getD undef = .bool true := by simpa using (LF.is (hdep 0 (by kernel_rfl)) (by decide) (by decide))
                have d1 : a'.tmps[43]?.getD undef = .bool true := by simpa using (LF.is (hdep 1 (by kernel_rfl)) (by decide) (by decide))
                refine low_same (v := .bool false) ?_ hC (LF.mk (j := 2) (by decide) (by decide))
                intro Kc hKc
                refine still_op rfl rfl ?_
                simp [Oper.wp, execOp, Act.eval, go_sem, d0, d1]
                exact hKc
              · subst e1
                have d2 : a'.tmps[44]?.getD undef = .bool false := by simpa using (LF.is (hdep 2 (by kernel_rfl)) (by decide) (by decide))
                refine low_same (v := .bool false) ?_ hC (LF.mk (j := 3) (by decide) (by decide))
                intro Kc hKc
                refine still_op rfl rfl ?_
                simp [Oper.wp, execOp, Act.eval, go_sem, d2]
                exact hKc
              · subst e1
                have o4 := hst.at 4 (by omega)
                simp at o4
                refine low_same (v := .int .i64 ((n : Int) + 1)) ?_ hC (LF.mk (j := 4) (by decide) (by decide))
                intro Kc hKc
                refine still_on rfl rfl rfl rfl (LF.is (hdep 3 (by kernel_rfl)) (by decide) (by decide)) ?_
                simp [Oper.wp, execOp, Act.eval, go_sem, o4]
                exact hKc
              · subst e1
                have d4 : a'.tmps[46]?.getD undef = .int .i64 ((n : Int) + 1) := by simpa using (LF.is (hdep 4 (by kernel_rfl)) (by decide) (by decide))
                refine low_same (v := .bool true) ?_ hC (LF.mk (j := 5) (by decide) (by decide))
                intro Kc hKc
                refine still_on rfl rfl rfl rfl (LF.is (hdep 3 (by kernel_rfl)) (by decide) (by decide)) ?_
                simp [Oper.wp, execOp, Act.eval, go_sem, d4]
                exact hKc
              · subst e1
                have d5 : a'.tmps[47]?.getD undef = .bool true := by simpa using (LF.is (hdep 5 (by kernel_rfl)) (by decide) (by decide))
                refine low_same (v := .bool true) ?_ hC (LF.mk (j := 6) (by decide) (by decide))
                intro Kc hKc
                refine still_on rfl rfl rfl rfl (LF.is (hdep 3 (by kernel_rfl)) (by decide) (by decide)) ?_
                simp [Oper.wp, execOp, Act.eval, go_sem, d5]
                exact hKc
              · subst e1
                have o7 := hst.at 7 (by omega)
                simp at o7
                refine low_same (v := .bool true) ?_ hC (LF.mk (j := 7) (by decide) (by decide))
                intro Kc hKc
                refine still_on rfl rfl rfl rfl (LF.is (hdep 6 (by kernel_rfl)) (by decide) (by decide)) ?_
                simp [Oper.wp, execOp, Act.eval, go_sem, o7]
                exact hKc
              · subst e1
                have d7 : a'.tmps[49]?.getD undef = .bool true := by simpa using (LF.is (hdep 7 (by kernel_rfl)) (by decide) (by decide))
                refine low_same (v := .bool false) ?_ hC (LF.mk (j := 8) (by decide) (by decide))
                intro Kc hKc
                refine still_on rfl rfl rfl rfl (LF.is (hdep 6 (by kernel_rfl)) (by decide) (by decide)) ?_
                simp [Oper.wp, execOp, Act.eval, go_sem, d7]
                exact hKc
              · subst e1
                have d6 : a'.tmps[48]?.getD undef = .bool true := by simpa using (LF.is (hdep 6 (by kernel_rfl)) (by decide) (by decide))
                have d8 : a'.tmps[50]?.getD undef = .bool false := by simpa using (LF.is (hdep 8 (by kernel_rfl)) (by decide) (by decide))
                refine low_same (v := .bool false) ?_ hC (LF.mk (j := 9) (by decide) (by decide))
                intro Kc hKc
                refine still_on rfl rfl rfl rfl (LF.is (hdep 3 (by kernel_rfl)) (by decide) (by decide)) ?_
                simp [Oper.wp, execOp, Act.eval, go_sem, d6, d8]
                exact hKc
              · subst e1
                have o6 := hst.at 6 (by omega)
                simp at o6
                refine low_same (v := .slice ad4 0 cap4) ?_ hC (LF.mk (j := 10) (by decide) (by decide))
                intro Kc hKc
                refine still_on rfl rfl rfl rfl (LF.is (hdep 3 (by kernel_rfl)) (by decide) (by decide)) ?_
                simp [Oper.wp, execOp, Act.eval, go_sem, o6]
                exact hKc
              · subst e1
                have d10 : a'.tmps[52]?.getD undef = .slice ad4 0 cap4 := by simpa using (LF.is (hdep 10 (by kernel_rfl)) (by decide) (by decide))
                refine low_same (v := .int .i64 0) ?_ hC (LF.mk (j := 11) (by decide) (by decide))
                intro Kc hKc
                refine still_on rfl rfl rfl rfl (LF.is (hdep 3 (by kernel_rfl)) (by decide) (by decide)) ?_
                simp [Oper.wp, execOp, Act.eval, go_sem, d10]
                exact hKc
              · subst e1
                have d11 : a'.tmps[53]?.getD undef = .int .i64 0 := by simpa using (LF.is (hdep 11 (by kernel_rfl)) (by decide) (by decide))
                refine low_same (v := .bool false) ?_ hC (LF.mk (j := 12) (by decide) (by decide))
                intro Kc hKc
                refine still_on rfl rfl rfl rfl (LF.is (hdep 3 (by kernel_rfl)) (by decide) (by decide)) ?_
                simp [Oper.wp, execOp, Act.eval, go_sem, d11]
                exact hKc
              · subst e1
                have d12 : a'.tmps[54]?.getD undef = .bool false := by simpa using (LF.is (hdep 12 (by kernel_rfl)) (by decide) (by decide))
                refine low_same (v := .bool false) ?_ hC (LF.mk (j := 13) (by decide) (by decide))
                intro Kc hKc
                refine still_on rfl rfl rfl rfl (LF.is (hdep 3 (by kernel_rfl)) (by decide) (by decide)) ?_
                simp [Oper.wp, execOp, Act.eval, go_sem, d12]
                exact hKc
              · subst e1
                refine low_same (v := undef) ?_ hC (LF.mk (j := 14) (by decide) (by decide))
                intro Kc hKc
                exact still_off rfl rfl rfl rfl (LF.is (hdep 13 (by kernel_rfl)) (by decide) (by decide)) rfl hKc
              · subst e1
                refine low_same (v := undef) ?_ hC (LF.mk (j := 15) (by decide) (by decide))
                intro Kc hKc
                exact still_off rfl rfl rfl rfl (LF.is (hdep 13 (by kernel_rfl)) (by decide) (by decide)) rfl hKc
              · subst e1
                refine low_same (v := undef) ?_ hC (LF.mk (j := 16) (by decide) (by decide))
                intro Kc hKc
                exact still_off rfl rfl rfl rfl (LF.is (hdep 13 (by kernel_rfl)) (by decide) (by decide)) rfl hKc
              · subst e1
                refine low_same (v := undef) ?_ hC (LF.mk (j := 17) (by decide) (by decide))
                intro Kc hKc
                exact still_off rfl rfl rfl rfl (LF.is (hdep 13 (by kernel_rfl)) (by decide) (by decide)) rfl hKc
              · subst e1
                refine low_same (v := undef) ?_ hC (LF.mk (j := 18) (by decide) (by decide))
                intro Kc hKc
                exact still_off rfl rfl rfl rfl (LF.is (hdep 13 (by kernel_rfl)) (by decide) (by decide)) rfl hKc
              · subst e1
                refine low_same (v := undef) ?_ hC (LF.mk (j := 19) (by decide) (by decide))
                intro Kc hKc
                exact still_off rfl rfl rfl rfl (LF.is (hdep 13 (by kernel_rfl)) (by decide) (by decide)) rfl hKc
              · subst e1
                refine low_same (v := undef) ?_ hC (LF.mk (j := 20) (by decide) (by decide))
                intro Kc hKc
                exact still_off rfl rfl rfl rfl (LF.is (hdep 13 (by kernel_rfl)) (by decide) (by decide)) rfl hKc
              · subst e1
                refine low_same (v := undef) ?_ hC (LF.mk (j := 21) (by decide) (by decide))
                intro Kc hKc
                exact still_off rfl rfl rfl rfl (LF.is (hdep 13 (by kernel_rfl)) (by decide) (by decide)) rfl hKc
              · subst e1
                refine low_same (v := undef) ?_ hC (LF.mk (j := 22) (by decide) (by decide))
                intro Kc hKc
                exact still_off rfl rfl rfl rfl (LF.is (hdep 13 (by kernel_rfl)) (by decide) (by decide)) rfl hKc
              · subst e1
                refine low_same (v := undef) ?_ hC (LF.mk (j := 23) (by decide) (by decide))
                intro Kc hKc
                exact still_off rfl rfl rfl rfl (LF.is (hdep 13 (by kernel_rfl)) (by decide) (by decide)) rfl hKc
              · subst e1
                have d13 : a'.tmps[55]?.getD undef = .bool false := by simpa using (LF.is (hdep 13 (by kernel_rfl)) (by decide) (by decide))
                refine low_same (v := .bool false) ?_ hC (LF.mk (j := 24) (by decide) (by decide))
                intro Kc hKc
                refine still_on rfl rfl rfl rfl (LF.is (hdep 3 (by kernel_rfl)) (by decide) (by decide)) ?_
                simp [Oper.wp, execOp, Act.eval, go_sem, d13]
                exact hKc
              · subst e1
                have d9 : a'.tmps[51]?.getD undef = .bool false := by simpa using (LF.is (hdep 9 (by kernel_rfl)) (by decide) (by decide))
                have d24 : a'.tmps[66]?.getD undef = .bool false := by simpa using (LF.is (hdep 24 (by kernel_rfl)) (by decide) (by decide))
                refine low_same (v := .bool false) ?_ hC (LF.mk (j := 25) (by decide) (by decide))
                intro Kc hKc
                refine still_on rfl rfl rfl rfl (LF.is (hdep 3 (by kernel_rfl)) (by decide) (by decide)) ?_
                simp [Oper.wp, execOp, Act.eval, go_sem, d9, d24]
                exact hKc
              · subst e1
                have d3 : a'.tmps[45]?.getD undef = .bool false := by simpa using (LF.is (hdep 3 (by kernel_rfl)) (by decide) (by decide))
                have d25 : a'.tmps[67]?.getD undef = .bool false := by simpa using (LF.is (hdep 25 (by kernel_rfl)) (by decide) (by decide))
                refine low_same (v := .bool false) ?_ hC (LF.mk (j := 26) (by decide) (by decide))
                intro Kc hKc
                refine still_op rfl rfl ?_
                simp [Oper.wp, execOp, Act.eval, go_sem, d3, d25]
                exact hKc
              · subst e1
                have d26 : a'.tmps[68]?.getD undef = .bool false := by simpa using (LF.is (hdep 26 (by kernel_rfl)) (by decide) (by decide))
                refine low_same (v := .bool false) ?_ hC (LF.mk (j := 27) (by decide) (by decide))
                intro Kc hKc
                refine still_op rfl rfl ?_
                simp [Oper.wp, execOp, Act.eval, go_sem, d26]
                exact hKc
              · subst e1
                have o3 := hst.at 3 (by omega)
                simp at o3
                refine low_same (v := .pointer (some ⟨e, 0, none⟩)) ?_ hC (LF.mk (j := 28) (by decide) (by decide))
                intro Kc hKc
                refine still_on rfl rfl rfl rfl (LF.is (hdep 27 (by kernel_rfl)) (by decide) (by decide)) ?_
                simp [Oper.wp, execOp, Act.eval, go_sem, o3]
                exact hKc
              · subst e1
                have d28 : a'.tmps[70]?.getD undef = .pointer (some ⟨e, 0, none⟩) := by simpa using (LF.is (hdep 28 (by kernel_rfl)) (by decide) (by decide))
                refine low_new (fun v w1 => ∃ ad cap, v = .slice ad 1 cap ∧ RowIn Value.string w1 ad [z] ∧ Below W.heap.size W w1) ?_ ?_
                · intro Kc hKc
                  refine still_on rfl rfl rfl rfl (LF.is (hdep 27 (by kernel_rfl)) (by decide) (by decide)) ?_
                  simp [Oper.wp, execOp, Act.eval, go_sem, d28]
                  refine Calls.mono (HKeys.out W hC) ?_
                  rintro ee w5 ⟨ad, cap, rfl, hr, hb5⟩
                  exact hKc _ _ ⟨ad, cap, rfl, hr, hb5⟩
                · rintro v w1 ⟨ad, cap, rfl, hr, hb1⟩
                  exact ⟨below_trans' hC hb1, .inl ⟨.inl rfl, ad, cap, rfl, hr⟩, fun j u h => LF.mono h hb1⟩
              · subst e1
                have o0 := hst.at 0 (by omega)
                simp at o0
                refine low_same (v := .slice (some ⟨gg, off, none⟩) z0.length cap0) ?_ hC (LF.mk (j := 30) (by decide) (by decide))
                intro Kc hKc
                refine still_on rfl rfl rfl rfl (LF.is (hdep 27 (by kernel_rfl)) (by decide) (by decide)) ?_
                simp [Oper.wp, execOp, Act.eval, go_sem, o0]
                exact hKc
              · subst e1
                have o4 := hst.at 4 (by omega)
                simp at o4
                refine low_same (v := .int .i64 ((n : Int) + 1)) ?_ hC (LF.mk (j := 31) (by decide) (by decide))
                intro Kc hKc
                refine still_on rfl rfl rfl rfl (LF.is (hdep 27 (by kernel_rfl)) (by decide) (by decide)) ?_
                simp [Oper.wp, execOp, Act.eval, go_sem, o4]
                exact hKc
              · subst e1
                have d30 : a'.tmps[72]?.getD undef = .slice (some ⟨gg, off, none⟩) z0.length cap0 := by simpa using (LF.is (hdep 30 (by kernel_rfl)) (by decide) (by decide))
                have d31 : a'.tmps[73]?.getD undef = .int .i64 ((n : Int) + 1) := by simpa using (LF.is (hdep 31 (by kernel_rfl)) (by decide) (by decide))
                refine low_same (v := .pointer (some ⟨gg, off + (n + 1), none⟩)) ?_ hC (LF.mk (j := 32) (by decide) (by decide))
                intro Kc hKc
                refine still_on rfl rfl rfl rfl (LF.is (hdep 27 (by kernel_rfl)) (by decide) (by decide)) ?_
                simp [Oper.wp, execOp, Act.eval, go_sem, d30, d31, hidx]
                exact hKc
              · subst e1
                have d32 : a'.tmps[74]?.getD undef = .pointer (some ⟨gg, off + (n + 1), none⟩) := by simpa using (LF.is (hdep 32 (by kernel_rfl)) (by decide) (by decide))
                refine low_same (v := .string z) ?_ hC (LF.mk (j := 33) (by decide) (by decide))
                intro Kc hKc
                refine still_on rfl rfl rfl rfl (LF.is (hdep 27 (by kernel_rfl)) (by decide) (by decide)) ?_
                simp [Oper.wp, execOp, Act.eval, go_sem, d32, cell_later hC cz4]
                exact hKc
              · subst e1
                have d33 : a'.tmps[75]?.getD undef = .string z := by simpa using (LF.is (hdep 33 (by kernel_rfl)) (by decide) (by decide))
                refine low_new (fun v w1 => v = .slice (some ⟨W.heap.size, 0, none⟩) 1 1 ∧ w1 = W.alloc (.cells #[.string z] 9)) ?_ ?_
                · intro Kc hKc
                  refine still_on rfl rfl rfl rfl (LF.is (hdep 27 (by kernel_rfl)) (by decide) (by decide)) ?_
                  simp [Oper.wp, execOp, Act.eval, go_sem, d33]
                  exact hKc _ _ ⟨rfl, rfl⟩
                · rintro v w1 ⟨rfl, rfl⟩
                  have hb1 : Below W.heap.size W (W.alloc (.cells #[.string z] 9)) := (Below.refl _ W).alloc (Nat.le_refl _) _
                  exact ⟨below_trans' hC hb1, .inl ⟨.inr rfl, _, 1, rfl, (row_lit (E := fun _ => True) z trivial).rowIn⟩, fun j u h => LF.mono h hb1⟩
              · subst e1
                obtain ⟨ad29, cap29, e29, r29⟩ := LF.row (hdep 29 (by kernel_rfl)) (by decide)
                have d29 : a'.tmps[71]?.getD undef = .slice ad29 [z].length cap29 := by simpa using e29
                obtain ⟨ad34, cap34, e34, r34⟩ := LF.row (hdep 34 (by kernel_rfl)) (by decide)
                have d34 : a'.tmps[76]?.getD undef = .slice ad34 [z].length cap34 := by simpa using e34
                refine low_new (fun v w1 => v = .bool true ∧ Below W.heap.size W w1) ?_ ?_
                · intro Kc hKc
                  refine still_on rfl rfl rfl rfl (LF.is (hdep 27 (by kernel_rfl)) (by decide) (by decide)) ?_
                  simp [Oper.wp, execOp, Act.eval, go_sem, d29, d34]
                  refine Calls.mono (texts_one r29 r34) ?_
                  rintro ee w5 ⟨rfl, hb5⟩
                  exact hKc _ _ ⟨rfl, hb5⟩
                · rintro v w1 ⟨rfl, hb1⟩
                  exact ⟨below_trans' hC hb1, LF.mk (j := 35) (by decide) (by decide), fun j u h => LF.mono h hb1⟩
              · subst e1
                have d35 : a'.tmps[77]?.getD undef = .bool true := by simpa using (LF.is (hdep 35 (by kernel_rfl)) (by decide) (by decide))
                refine low_same (v := .bool false) ?_ hC (LF.mk (j := 36) (by decide) (by decide))
                intro Kc hKc
                refine still_on rfl rfl rfl rfl (LF.is (hdep 27 (by kernel_rfl)) (by decide) (by decide)) ?_
                simp [Oper.wp, execOp, Act.eval, go_sem, d35]
                exact hKc
              · subst e1
                have d27 : a'.tmps[69]?.getD undef = .bool false := by simpa using (LF.is (hdep 27 (by kernel_rfl)) (by decide) (by decide))
                have d36 : a'.tmps[78]?.getD undef = .bool false := by simpa using (LF.is (hdep 36 (by kernel_rfl)) (by decide) (by decide))
                refine low_same (v := .bool false) ?_ hC (LF.mk (j := 37) (by decide) (by decide))
                intro Kc hKc
                refine still_op rfl rfl ?_
                simp [Oper.wp, execOp, Act.eval, go_sem, d27, d36]
                exact hKc
            intro vs W hC hF
            have hlastv : vs 37 = .bool false := LF.is (hF 37 (by omega)) (by decide) (by decide)
            simp only [fillA, Act.put, List.setIfInBounds_toArray, List.set_cons_succ, List.set_cons_zero, Nat.reduceAdd, Nat.add_zero]
            rw [hlastv]
            go_wp2_with fail
            go_roundw
            case rel => exact ⟨n + 1 + 1, s', hlt, by go_num, HN.out.1, HN.out.2.1, by rw [HN.out.2.2, if_neg (by omega), Nat.add_sub_cancel, HZk.out]; rfl, H4.out.below (undrew hC), below_trans' HB4.out (undrew hC)⟩
            case measure => simp [intOf]; omega
          · have hbe : (y.toList == z.toList) = false := by rw [texts_beq]; exact decide_eq_false hyz
            obtain ⟨f1, f2, f3, f4, f5⟩ := one_other f (z := z) HOk.out hsc hks' hyz
            rw [f1, f2] at hacc
            have HN : Hid (A.Ok (A.access f s z).2.2 ∧ (A.access f s z).2.2.c = 1 ∧ A.keys (A.access f s z).2.2 = [z]) := ⟨f3, f4, f5⟩
            clear f1 f2 f3 f4 f5 hsc hks hks' hA hB hz hy hyz hk0
            generalize (A.access f s z).2.2 = s' at *
            go_wp2_with (go_at_call 7; refine Calls.mono hacc ?_; clear hacc; rintro ee w4 ⟨ad4, cap4, rfl, hr4, h4, hk4⟩; have H4 : Hid (AE e (2 * (n + 1) + 2) s' (fun j => w1.heap.size ≤ j) w4) := h4; have HB4 : Hid (Below w1.heap.size w1 w4) := (((Keeps.of_below (D := fun j => w1.heap.size ≤ j) HB.out).trans hk4).below (Nat.le_refl _) (fun _ h => h)); have cz4 : w4.cell? ⟨gg, off + (n + 1), none⟩ = some (.string z) := (cell_later HB4.out HCz.out); have cp4 : w4.cell? ⟨gg, off + n, none⟩ = some (.string y) := (cell_later HB4.out HCp.out); obtain ⟨g4, o4, rfl, cg4⟩ := hr4.at (i := 0) (z := y) rfl; rw [Nat.add_zero] at cg4; clear h4 hk4 hr4)
            refine region_same1 (by kernel_rfl) 13 28 rfl (fun j => [(.int .i64 ((n : Int) + 1) : Value), (.bool true : Value), (.bool true : Value), (.slice (some ⟨gg, off, none⟩) z0.length cap0 : Value), (.int .i64 ((n : Int) + 1) : Value), (.int .i64 (n : Nat) : Value), (.pointer (some ⟨gg, off + n, none⟩) : Value), (.string y : Value), (.slice (some ⟨gg, off, none⟩) z0.length cap0 : Value), (.int .i64 ((n : Int) + 1) : Value), (.pointer (some ⟨gg, off + (n + 1), none⟩) : Value), (.string z : Value), (.bool false : Value), (.bool false : Value)].getD j undef) (lex_of (by kernel_rfl)) (wait_of (by kernel_rfl)) (by simp) ?_ ?_
            · intro i hi a' hst hdep Kc hKc
              have hcase : i = 0 ∨ i = 1 ∨ i = 2 ∨ i = 3 ∨ i = 4 ∨ i = 5 ∨ i = 6 ∨ i = 7 ∨ i = 8 ∨ i = 9 ∨ i = 10 ∨ i = 11 ∨ i = 12 ∨ i = 13 := by omega
              rcases hcase with e1 | e1 | e1 | e1 | e1 | e1 | e1 | e1 | e1 | e1 | e1 | e1 | e1 | e1
              · subst e1
                have o4 := hst.at 4 (by omega)
                simp at o4
                refine still_op rfl rfl ?_
                simp [Oper.wp, execOp, Act.eval, go_sem, o4]
                exact hKc
              · subst e1
                have d0 : a'.tmps[28]?.getD undef = .int .i64 ((n : Int) + 1) := by simpa using hdep 0 (by kernel_rfl)
                refine still_op rfl rfl ?_
                simp [Oper.wp, execOp, Act.eval, go_sem, d0]
                exact hKc
              · subst e1
                have d1 : a'.tmps[29]?.getD undef = .bool true := by simpa using hdep 1 (by kernel_rfl)
                refine still_op rfl rfl ?_
                simp [Oper.wp, execOp, Act.eval, go_sem, d1]
                exact hKc
              · subst e1
                have o0 := hst.at 0 (by omega)
                simp at o0
                refine still_on rfl rfl rfl rfl (hdep 2 (by kernel_rfl)) ?_
                simp [Oper.wp, execOp, Act.eval, go_sem, o0]
                exact hKc
              · subst e1
                have o4 := hst.at 4 (by omega)
                simp at o4
                refine still_on rfl rfl rfl rfl (hdep 2 (by kernel_rfl)) ?_
                simp [Oper.wp, execOp, Act.eval, go_sem, o4]
                exact hKc
              · subst e1
                have d4 : a'.tmps[32]?.getD undef = .int .i64 ((n : Int) + 1) := by simpa using hdep 4 (by kernel_rfl)
                refine still_on rfl rfl rfl rfl (hdep 2 (by kernel_rfl)) ?_
                simp [Oper.wp, execOp, Act.eval, go_sem, d4, hw5]
                exact hKc
              · subst e1
                have d3 : a'.tmps[31]?.getD undef = .slice (some ⟨gg, off, none⟩) z0.length cap0 := by simpa using hdep 3 (by kernel_rfl)
                have d5 : a'.tmps[33]?.getD undef = .int .i64 (n : Nat) := by simpa using hdep 5 (by kernel_rfl)
                refine still_on rfl rfl rfl rfl (hdep 2 (by kernel_rfl)) ?_
                simp [Oper.wp, execOp, Act.eval, go_sem, d3, d5, hn1]
                exact hKc
              · subst e1
                have d6 : a'.tmps[34]?.getD undef = .pointer (some ⟨gg, off + n, none⟩) := by simpa using hdep 6 (by kernel_rfl)
                refine still_on rfl rfl rfl rfl (hdep 2 (by kernel_rfl)) ?_
                simp [Oper.wp, execOp, Act.eval, go_sem, d6, cp4]
                exact hKc
              · subst e1
                have o0 := hst.at 0 (by omega)
                simp at o0
                refine still_on rfl rfl rfl rfl (hdep 2 (by kernel_rfl)) ?_
                simp [Oper.wp, execOp, Act.eval, go_sem, o0]
                exact hKc
              · subst e1
                have o4 := hst.at 4 (by omega)
                simp at o4
                refine still_on rfl rfl rfl rfl (hdep 2 (by kernel_rfl)) ?_
                simp [Oper.wp, execOp, Act.eval, go_sem, o4]
                exact hKc
              · subst e1
                have d8 : a'.tmps[36]?.getD undef = .slice (some ⟨gg, off, none⟩) z0.length cap0 := by simpa using hdep 8 (by kernel_rfl)
                have d9 : a'.tmps[37]?.getD undef = .int .i64 ((n : Int) + 1) := by simpa using hdep 9 (by kernel_rfl)
                refine still_on rfl rfl rfl rfl (hdep 2 (by kernel_rfl)) ?_
                simp [Oper.wp, execOp, Act.eval, go_sem, d8, d9, hidx]
                exact hKc
              · subst e1
                have d10 : a'.tmps[38]?.getD undef = .pointer (some ⟨gg, off + (n + 1), none⟩) := by simpa using hdep 10 (by kernel_rfl)
                refine still_on rfl rfl rfl rfl (hdep 2 (by kernel_rfl)) ?_
                simp [Oper.wp, execOp, Act.eval, go_sem, d10, cz4]
                exact hKc
              · subst e1
                have d7 : a'.tmps[35]?.getD undef = .string y := by simpa using hdep 7 (by kernel_rfl)
                have d11 : a'.tmps[39]?.getD undef = .string z := by simpa using hdep 11 (by kernel_rfl)
                refine still_on rfl rfl rfl rfl (hdep 2 (by kernel_rfl)) ?_
                simp [Oper.wp, execOp, Act.eval, go_sem, d7, d11, hbe]
                exact hKc
              · subst e1
                have d2 : a'.tmps[30]?.getD undef = .bool true := by simpa using hdep 2 (by kernel_rfl)
                have d12 : a'.tmps[40]?.getD undef = .bool false := by simpa using hdep 12 (by kernel_rfl)
                refine still_op rfl rfl ?_
                simp [Oper.wp, execOp, Act.eval, go_sem, d2, d12]
                exact hKc
            refine still_op rfl rfl ?_
            simp only [fillA, Act.put, List.setIfInBounds_toArray, List.set_cons_succ, List.set_cons_zero, List.getD_cons_zero, List.getD_cons_succ, Nat.reduceAdd, Nat.add_zero]
            simp [Oper.wp, execOp, Act.eval, go_sem]
            go_wp2_with fail
            have HKeys : Hid (∀ W : World, Below w4.drew.heap.size w4.drew W → Calls Try.prog 12 #[.pointer (some ⟨e, 0, none⟩)] W fun ee w' => ∃ ad cap, ee = .returned (.slice ad 1 cap) ∧ RowIn Value.string w' ad [z] ∧ Below W.heap.size W w') := fun W hW => keys_one H4.out (by omega) HN.out.2.2 hW
            refine region_low (by kernel_rfl) 37 42 rfl (LF 29 34 [z] (fun j => [(.bool false : Value), (.bool false : Value), (.bool false : Value), (.bool false : Value), (.int .i64 ((n : Int) + 1) : Value), (.bool true : Value), (.bool true : Value), (.bool false : Value), (.bool true : Value), (.bool true : Value), (.slice (some ⟨g4, o4, none⟩) 1 cap4 : Value), (.int .i64 1 : Value), (.bool true : Value), (.bool true : Value), (.slice (some ⟨g4, o4, none⟩) 1 cap4 : Value), (.pointer (some ⟨g4, o4, none⟩) : Value), (.string y : Value), (.slice (some ⟨gg, off, none⟩) z0.length cap0 : Value), (.int .i64 ((n : Int) + 1) : Value), (.int .i64 (n : Nat) : Value), (.int .i64 (n : Nat) : Value), (.pointer (some ⟨gg, off + n, none⟩) : Value), (.string y : Value), (.bool true : Value), (.bool true : Value), (.bool false : Value), (.bool false : Value), (.bool false : Value), (.pointer (some ⟨e, 0, none⟩) : Value), (undef : Value), (.slice (some ⟨gg, off, none⟩) z0.length cap0 : Value), (.int .i64 ((n : Int) + 1) : Value), (.pointer (some ⟨gg, off + (n + 1), none⟩) : Value), (.string z : Value), (undef : Value), (.bool true : Value), (.bool false : Value), (.bool false : Value)].getD j undef)) (fun W => Below w4.drew.heap.size w4.drew W) (lex_of (by kernel_rfl)) (wait_of (by kernel_rfl)) (by simp) (Below.refl _ _).drew ?_ ?_
            · intro i hi a' W hC hst hdep
              have hcase : i = 0 ∨ i = 1 ∨ i = 2 ∨ i = 3 ∨ i = 4 ∨ i = 5 ∨ i = 6 ∨ i = 7 ∨ i = 8 ∨ i = 9 ∨ i = 10 ∨ i = 11 ∨ i = 12 ∨ i = 13 ∨ i = 14 ∨ i = 15 ∨ i = 16 ∨ i = 17 ∨ i = 18 ∨ i = 19 ∨ i = 20 ∨ i = 21 ∨ i = 22 ∨ i = 23 ∨ i = 24 ∨ i = 25 ∨ i = 26 ∨ i = 27 ∨ i = 28 ∨ i = 29 ∨ i = 30 ∨ i = 31 ∨ i = 32 ∨ i = 33 ∨ i = 34 ∨ i = 35 ∨ i = 36 ∨ i = 37 := by omega
              rcases hcase with e1 | e1 | e1 | e1 | e1 | e1 | e1 | e1 | e1 | e1 | e1 | e1 | e1 | e1 | e1 | e1 | e1 | e1 | e1 | e1 | e1 | e1 | e1 | e1 | e1 | e1 | e1 | e1 | e1 | e1 | e1 | e1 | e1 | e1 | e1 | e1 | e1 | e1
              · subst e1
                have o5 := hst.at 5 (by omega)
                simp at o5
                refine low_same (v := .bool false) ?_ hC (LF.mk (j := 0) (by decide) (by decide))
                intro Kc hKc
                refine still_op rfl rfl ?_
                simp [Oper.wp, execOp, Act.eval, go_sem, o5]
                exact hKc
              · subst e1
                have o7 := hst.at 7 (by omega)
                simp at o7
                refine low_same (v := .bool false) ?_ hC (LF.mk (j := 1) (by decide) (by decide))
                intro Kc hKc
                refine still_op rfl rfl ?_
                simp [Oper.wp, execOp, Act.eval, go_sem, o7]
                exact hKc
              · subst e1
                have d0 : a'.tmps[42]?.getD undef = .bool false := by simpa using (LF.is (hdep 0 (by kernel_rfl)) (by decide) (by decide))
                have d1 : a'.tmps[43]?.getD undef = .bool false := by simpa using (LF.is (hdep 1 (by kernel_rfl)) (by decide) (by decide))
                refine low_same (v := .bool false) ?_ hC (LF.mk (j := 2) (by decide) (by decide))
                intro Kc hKc
                refine still_op rfl rfl ?_
                simp [Oper.wp, execOp, Act.eval, go_sem, d0, d1]
                exact hKc
              · subst e1
                have d2 : a'.tmps[44]?.getD undef = .bool false := by simpa using (LF.is (hdep 2 (by kernel_rfl)) (by decide) (by decide))
                refine low_same (v := .bool false) ?_ hC (LF.mk (j := 3) (by decide) (by decide))
                intro Kc hKc
                refine still_op rfl rfl ?_
                simp [Oper.wp, execOp, Act.eval, go_sem, d2]
                exact hKc
              · subst e1
                have o4 := hst.at 4 (by omega)
                simp at o4
                refine low_same (v := .int .i64 ((n : Int) + 1)) ?_ hC (LF.mk (j := 4) (by decide) (by decide))
                intro Kc hKc
                refine still_on rfl rfl rfl rfl (LF.is (hdep 3 (by kernel_rfl)) (by decide) (by decide)) ?_
                simp [Oper.wp, execOp, Act.eval, go_sem, o4]
                exact hKc
              · subst e1
                have d4 : a'.tmps[46]?.getD undef = .int .i64 ((n : Int) + 1) := by simpa using (LF.is (hdep 4 (by kernel_rfl)) (by decide) (by decide))
                refine low_same (v := .bool true) ?_ hC (LF.mk (j := 5) (by decide) (by decide))
                intro Kc hKc
                refine still_on rfl rfl rfl rfl (LF.is (hdep 3 (by kernel_rfl)) (by decide) (by decide)) ?_
                simp [Oper.wp, execOp, Act.eval, go_sem, d4]
                exact hKc
              · subst e1
                have d5 : a'.tmps[47]?.getD undef = .bool true := by simpa using (LF.is (hdep 5 (by kernel_rfl)) (by decide) (by decide))
                refine low_same (v := .bool true) ?_ hC (LF.mk (j := 6) (by decide) (by decide))
                intro Kc hKc
                refine still_on rfl rfl rfl rfl (LF.is (hdep 3 (by kernel_rfl)) (by decide) (by decide)) ?_
                simp [Oper.wp, execOp, Act.eval, go_sem, d5]
                exact hKc
              · subst e1
                have o7 := hst.at 7 (by omega)
                simp at o7
                refine low_same (v := .bool false) ?_ hC (LF.mk (j := 7) (by decide) (by decide))
                intro Kc hKc
                refine still_on rfl rfl rfl rfl (LF.is (hdep 6 (by kernel_rfl)) (by decide) (by decide)) ?_
                simp [Oper.wp, execOp, Act.eval, go_sem, o7]
                exact hKc
              · subst e1
                have d7 : a'.tmps[49]?.getD undef = .bool false := by simpa using (LF.is (hdep 7 (by kernel_rfl)) (by decide) (by decide))
                refine low_same (v := .bool true) ?_ hC (LF.mk (j := 8) (by decide) (by decide))
                intro Kc hKc
                refine still_on rfl rfl rfl rfl (LF.is (hdep 6 (by kernel_rfl)) (by decide) (by decide)) ?_
                simp [Oper.wp, execOp, Act.eval, go_sem, d7]
                exact hKc
              · subst e1
                have d6 : a'.tmps[48]?.getD undef = .bool true := by simpa using (LF.is (hdep 6 (by kernel_rfl)) (by decide) (by decide))
                have d8 : a'.tmps[50]?.getD undef = .bool true := by simpa using (LF.is (hdep 8 (by kernel_rfl)) (by decide) (by decide))
                refine low_same (v := .bool true) ?_ hC (LF.mk (j := 9) (by decide) (by decide))
                intro Kc hKc
                refine still_on rfl rfl rfl rfl (LF.is (hdep 3 (by kernel_rfl)) (by decide) (by decide)) ?_
                simp [Oper.wp, execOp, Act.eval, go_sem, d6, d8]
                exact hKc
              · subst e1
                have o6 := hst.at 6 (by omega)
                simp at o6
                refine low_same (v := .slice (some ⟨g4, o4, none⟩) 1 cap4) ?_ hC (LF.mk (j := 10) (by decide) (by decide))
                intro Kc hKc
                refine still_on rfl rfl rfl rfl (LF.is (hdep 3 (by kernel_rfl)) (by decide) (by decide)) ?_
                simp [Oper.wp, execOp, Act.eval, go_sem, o6]
                exact hKc
              · subst e1
                have d10 : a'.tmps[52]?.getD undef = .slice (some ⟨g4, o4, none⟩) 1 cap4 := by simpa using (LF.is (hdep 10 (by kernel_rfl)) (by decide) (by decide))
                refine low_same (v := .int .i64 1) ?_ hC (LF.mk (j := 11) (by decide) (by decide))
                intro Kc hKc
                refine still_on rfl rfl rfl rfl (LF.is (hdep 3 (by kernel_rfl)) (by decide) (by decide)) ?_
                simp [Oper.wp, execOp, Act.eval, go_sem, d10]
                exact hKc
              · subst e1
                have d11 : a'.tmps[53]?.getD undef = .int .i64 1 := by simpa using (LF.is (hdep 11 (by kernel_rfl)) (by decide) (by decide))
                refine low_same (v := .bool true) ?_ hC (LF.mk (j := 12) (by decide) (by decide))
                intro Kc hKc
                refine still_on rfl rfl rfl rfl (LF.is (hdep 3 (by kernel_rfl)) (by decide) (by decide)) ?_
                simp [Oper.wp, execOp, Act.eval, go_sem, d11]
                exact hKc
              · subst e1
                have d12 : a'.tmps[54]?.getD undef = .bool true := by simpa using (LF.is (hdep 12 (by kernel_rfl)) (by decide) (by decide))
                refine low_same (v := .bool true) ?_ hC (LF.mk (j := 13) (by decide) (by decide))
                intro Kc hKc
                refine still_on rfl rfl rfl rfl (LF.is (hdep 3 (by kernel_rfl)) (by decide) (by decide)) ?_
                simp [Oper.wp, execOp, Act.eval, go_sem, d12]
                exact hKc
              · subst e1
                have o6 := hst.at 6 (by omega)
                simp at o6
                refine low_same (v := .slice (some ⟨g4, o4, none⟩) 1 cap4) ?_ hC (LF.mk (j := 14) (by decide) (by decide))
                intro Kc hKc
                refine still_on rfl rfl rfl rfl (LF.is (hdep 13 (by kernel_rfl)) (by decide) (by decide)) ?_
                simp [Oper.wp, execOp, Act.eval, go_sem, o6]
                exact hKc
              · subst e1
                have d14 : a'.tmps[56]?.getD undef = .slice (some ⟨g4, o4, none⟩) 1 cap4 := by simpa using (LF.is (hdep 14 (by kernel_rfl)) (by decide) (by decide))
                refine low_same (v := .pointer (some ⟨g4, o4, none⟩)) ?_ hC (LF.mk (j := 15) (by decide) (by decide))
                intro Kc hKc
                refine still_on rfl rfl rfl rfl (LF.is (hdep 13 (by kernel_rfl)) (by decide) (by decide)) ?_
                simp [Oper.wp, execOp, Act.eval, go_sem, d14]
                exact hKc
              · subst e1
                have d15 : a'.tmps[57]?.getD undef = .pointer (some ⟨g4, o4, none⟩) := by simpa using (LF.is (hdep 15 (by kernel_rfl)) (by decide) (by decide))
                refine low_same (v := .string y) ?_ hC (LF.mk (j := 16) (by decide) (by decide))
                intro Kc hKc
                refine still_on rfl rfl rfl rfl (LF.is (hdep 13 (by kernel_rfl)) (by decide) (by decide)) ?_
                simp [Oper.wp, execOp, Act.eval, go_sem, d15, cell_later hC cg4]
                exact hKc
              · subst e1
                have o0 := hst.at 0 (by omega)
                simp at o0
                refine low_same (v := .slice (some ⟨gg, off, none⟩) z0.length cap0) ?_ hC (LF.mk (j := 17) (by decide) (by decide))
                intro Kc hKc
                refine still_on rfl rfl rfl rfl (LF.is (hdep 13 (by kernel_rfl)) (by decide) (by decide)) ?_
                simp [Oper.wp, execOp, Act.eval, go_sem, o0]
                exact hKc
              · subst e1
                have o4 := hst.at 4 (by omega)
                simp at o4
                refine low_same (v := .int .i64 ((n : Int) + 1)) ?_ hC (LF.mk (j := 18) (by decide) (by decide))
                intro Kc hKc
                refine still_on rfl rfl rfl rfl (LF.is (hdep 13 (by kernel_rfl)) (by decide) (by decide)) ?_
                simp [Oper.wp, execOp, Act.eval, go_sem, o4]
                exact hKc
              · subst e1
                have d18 : a'.tmps[60]?.getD undef = .int .i64 ((n : Int) + 1) := by simpa using (LF.is (hdep 18 (by kernel_rfl)) (by decide) (by decide))
                refine low_same (v := .int .i64 (n : Nat)) ?_ hC (LF.mk (j := 19) (by decide) (by decide))
                intro Kc hKc
                refine still_on rfl rfl rfl rfl (LF.is (hdep 13 (by kernel_rfl)) (by decide) (by decide)) ?_
                simp [Oper.wp, execOp, Act.eval, go_sem, d18, hw5]
                exact hKc
              · subst e1
                have d19 : a'.tmps[61]?.getD undef = .int .i64 (n : Nat) := by simpa using (LF.is (hdep 19 (by kernel_rfl)) (by decide) (by decide))
                refine low_same (v := .int .i64 (n : Nat)) ?_ hC (LF.mk (j := 20) (by decide) (by decide))
                intro Kc hKc
                refine still_on rfl rfl rfl rfl (LF.is (hdep 13 (by kernel_rfl)) (by decide) (by decide)) ?_
                simp [Oper.wp, execOp, Act.eval, go_sem, d19, hmx]
                exact hKc
              · subst e1
                have d17 : a'.tmps[59]?.getD undef = .slice (some ⟨gg, off, none⟩) z0.length cap0 := by simpa using (LF.is (hdep 17 (by kernel_rfl)) (by decide) (by decide))
                have d20 : a'.tmps[62]?.getD undef = .int .i64 (n : Nat) := by simpa using (LF.is (hdep 20 (by kernel_rfl)) (by decide) (by decide))
                refine low_same (v := .pointer (some ⟨gg, off + n, none⟩)) ?_ hC (LF.mk (j := 21) (by decide) (by decide))
                intro Kc hKc
                refine still_on rfl rfl rfl rfl (LF.is (hdep 13 (by kernel_rfl)) (by decide) (by decide)) ?_
                simp [Oper.wp, execOp, Act.eval, go_sem, d17, d20, hn1]
                exact hKc
              · subst e1
                have d21 : a'.tmps[63]?.getD undef = .pointer (some ⟨gg, off + n, none⟩) := by simpa using (LF.is (hdep 21 (by kernel_rfl)) (by decide) (by decide))
                refine low_same (v := .string y) ?_ hC (LF.mk (j := 22) (by decide) (by decide))
                intro Kc hKc
                refine still_on rfl rfl rfl rfl (LF.is (hdep 13 (by kernel_rfl)) (by decide) (by decide)) ?_
                simp [Oper.wp, execOp, Act.eval, go_sem, d21, cell_later hC cp4]
                exact hKc
              · subst e1
                have d16 : a'.tmps[58]?.getD undef = .string y := by simpa using (LF.is (hdep 16 (by kernel_rfl)) (by decide) (by decide))
                have d22 : a'.tmps[64]?.getD undef = .string y := by simpa using (LF.is (hdep 22 (by kernel_rfl)) (by decide) (by decide))
                refine low_same (v := .bool true) ?_ hC (LF.mk (j := 23) (by decide) (by decide))
                intro Kc hKc
                refine still_on rfl rfl rfl rfl (LF.is (hdep 13 (by kernel_rfl)) (by decide) (by decide)) ?_
                simp [Oper.wp, execOp, Act.eval, go_sem, d16, d22]
                exact hKc
              · subst e1
                have d13 : a'.tmps[55]?.getD undef = .bool true := by simpa using (LF.is (hdep 13 (by kernel_rfl)) (by decide) (by decide))
                have d23 : a'.tmps[65]?.getD undef = .bool true := by simpa using (LF.is (hdep 23 (by kernel_rfl)) (by decide) (by decide))
                refine low_same (v := .bool true) ?_ hC (LF.mk (j := 24) (by decide) (by decide))
                intro Kc hKc
                refine still_on rfl rfl rfl rfl (LF.is (hdep 3 (by kernel_rfl)) (by decide) (by decide)) ?_
                simp [Oper.wp, execOp, Act.eval, go_sem, d13, d23]
                exact hKc
              · subst e1
                have d9 : a'.tmps[51]?.getD undef = .bool true := by simpa using (LF.is (hdep 9 (by kernel_rfl)) (by decide) (by decide))
                have d24 : a'.tmps[66]?.getD undef = .bool true := by simpa using (LF.is (hdep 24 (by kernel_rfl)) (by decide) (by decide))
                refine low_same (v := .bool false) ?_ hC (LF.mk (j := 25) (by decide) (by decide))
                intro Kc hKc
                refine still_on rfl rfl rfl rfl (LF.is (hdep 3 (by kernel_rfl)) (by decide) (by decide)) ?_
                simp [Oper.wp, execOp, Act.eval, go_sem, d9, d24]
                exact hKc
              · subst e1
                have d3 : a'.tmps[45]?.getD undef = .bool false := by simpa using (LF.is (hdep 3 (by kernel_rfl)) (by decide) (by decide))
                have d25 : a'.tmps[67]?.getD undef = .bool false := by simpa using (LF.is (hdep 25 (by kernel_rfl)) (by decide) (by decide))
                refine low_same (v := .bool false) ?_ hC (LF.mk (j := 26) (by decide) (by decide))
                intro Kc hKc
                refine still_op rfl rfl ?_
                simp [Oper.wp, execOp, Act.eval, go_sem, d3, d25]
                exact hKc
              · subst e1
                have d26 : a'.tmps[68]?.getD undef = .bool false := by simpa using (LF.is (hdep 26 (by kernel_rfl)) (by decide) (by decide))
                refine low_same (v := .bool false) ?_ hC (LF.mk (j := 27) (by decide) (by decide))
                intro Kc hKc
                refine still_op rfl rfl ?_
                simp [Oper.wp, execOp, Act.eval, go_sem, d26]
                exact hKc
              · subst e1
                have o3 := hst.at 3 (by omega)
                simp at o3
                refine low_same (v := .pointer (some ⟨e, 0, none⟩)) ?_ hC (LF.mk (j := 28) (by decide) (by decide))
                intro Kc hKc
                refine still_on rfl rfl rfl rfl (LF.is (hdep 27 (by kernel_rfl)) (by decide) (by decide)) ?_
                simp [Oper.wp, execOp, Act.eval, go_sem, o3]
                exact hKc
              · subst e1
                have d28 : a'.tmps[70]?.getD undef = .pointer (some ⟨e, 0, none⟩) := by simpa using (LF.is (hdep 28 (by kernel_rfl)) (by decide) (by decide))
                refine low_new (fun v w1 => ∃ ad cap, v = .slice ad 1 cap ∧ RowIn Value.string w1 ad [z] ∧ Below W.heap.size W w1) ?_ ?_
                · intro Kc hKc
                  refine still_on rfl rfl rfl rfl (LF.is (hdep 27 (by kernel_rfl)) (by decide) (by decide)) ?_
                  simp [Oper.wp, execOp, Act.eval, go_sem, d28]
                  refine Calls.mono (HKeys.out W hC) ?_
                  rintro ee w5 ⟨ad, cap, rfl, hr, hb5⟩
                  exact hKc _ _ ⟨ad, cap, rfl, hr, hb5⟩
                · rintro v w1 ⟨ad, cap, rfl, hr, hb1⟩
                  exact ⟨below_trans' hC hb1, .inl ⟨.inl rfl, ad, cap, rfl, hr⟩, fun j u h => LF.mono h hb1⟩
              · subst e1
                have o0 := hst.at 0 (by omega)
                simp at o0
                refine low_same (v := .slice (some ⟨gg, off, none⟩) z0.length cap0) ?_ hC (LF.mk (j := 30) (by decide) (by decide))
                intro Kc hKc
                refine still_on rfl rfl rfl rfl (LF.is (hdep 27 (by kernel_rfl)) (by decide) (by decide)) ?_
                simp [Oper.wp, execOp, Act.eval, go_sem, o0]
                exact hKc
              · subst e1
                have o4 := hst.at 4 (by omega)
                simp at o4
                refine low_same (v := .int .i64 ((n : Int) + 1)) ?_ hC (LF.mk (j := 31) (by decide) (by decide))
                intro Kc hKc
                refine still_on rfl rfl rfl rfl (LF.is (hdep 27 (by kernel_rfl)) (by decide) (by decide)) ?_
                simp [Oper.wp, execOp, Act.eval, go_sem, o4]
                exact hKc
              · subst e1
                have d30 : a'.tmps[72]?.getD undef = .slice (some ⟨gg, off, none⟩) z0.length cap0 := by simpa using (LF.is (hdep 30 (by kernel_rfl)) (by decide) (by decide))
                have d31 : a'.tmps[73]?.getD undef = .int .i64 ((n : Int) + 1) := by simpa using (LF.is (hdep 31 (by kernel_rfl)) (by decide) (by decide))
                refine low_same (v := .pointer (some ⟨gg, off + (n + 1), none⟩)) ?_ hC (LF.mk (j := 32) (by decide) (by decide))
                intro Kc hKc
                refine still_on rfl rfl rfl rfl (LF.is (hdep 27 (by kernel_rfl)) (by decide) (by decide)) ?_
                simp [Oper.wp, execOp, Act.eval, go_sem, d30, d31, hidx]
                exact hKc
              · subst e1
                have d32 : a'.tmps[74]?.getD undef = .pointer (some ⟨gg, off + (n + 1), none⟩) := by simpa using (LF.is (hdep 32 (by kernel_rfl)) (by decide) (by decide))
                refine low_same (v := .string z) ?_ hC (LF.mk (j := 33) (by decide) (by decide))
                intro Kc hKc
                refine still_on rfl rfl rfl rfl (LF.is (hdep 27 (by kernel_rfl)) (by decide) (by decide)) ?_
                simp [Oper.wp, execOp, Act.eval, go_sem, d32, cell_later hC cz4]
                exact hKc
              · subst e1
                have d33 : a'.tmps[75]?.getD undef = .string z := by simpa using (LF.is (hdep 33 (by kernel_rfl)) (by decide) (by decide))
                refine low_new (fun v w1 => v = .slice (some ⟨W.heap.size, 0, none⟩) 1 1 ∧ w1 = W.alloc (.cells #[.string z] 9)) ?_ ?_
                · intro Kc hKc
                  refine still_on rfl rfl rfl rfl (LF.is (hdep 27 (by kernel_rfl)) (by decide) (by decide)) ?_
                  simp [Oper.wp, execOp, Act.eval, go_sem, d33]
                  exact hKc _ _ ⟨rfl, rfl⟩
                · rintro v w1 ⟨rfl, rfl⟩
                  have hb1 : Below W.heap.size W (W.alloc (.cells #[.string z] 9)) := (Below.refl _ W).alloc (Nat.le_refl _) _
                  exact ⟨below_trans' hC hb1, .inl ⟨.inr rfl, _, 1, rfl, (row_lit (E := fun _ => True) z trivial).rowIn⟩, fun j u h => LF.mono h hb1⟩
              · subst e1
                obtain ⟨ad29, cap29, e29, r29⟩ := LF.row (hdep 29 (by kernel_rfl)) (by decide)
                have d29 : a'.tmps[71]?.getD undef = .slice ad29 [z].length cap29 := by simpa using e29
                obtain ⟨ad34, cap34, e34, r34⟩ := LF.row (hdep 34 (by kernel_rfl)) (by decide)
                have d34 : a'.tmps[76]?.getD undef = .slice ad34 [z].length cap34 := by simpa using e34
                refine low_new (fun v w1 => v = .bool true ∧ Below W.heap.size W w1) ?_ ?_
                · intro Kc hKc
                  refine still_on rfl rfl rfl rfl (LF.is (hdep 27 (by kernel_rfl)) (by decide) (by decide)) ?_
                  simp [Oper.wp, execOp, Act.eval, go_sem, d29, d34]
                  refine Calls.mono (texts_one r29 r34) ?_
                  rintro ee w5 ⟨rfl, hb5⟩
                  exact hKc _ _ ⟨rfl, hb5⟩
                · rintro v w1 ⟨rfl, hb1⟩
                  exact ⟨below_trans' hC hb1, LF.mk (j := 35) (by decide) (by decide), fun j u h => LF.mono h hb1⟩
              · subst e1
                have d35 : a'.tmps[77]?.getD undef = .bool true := by simpa using (LF.is (hdep 35 (by kernel_rfl)) (by decide) (by decide))
                refine low_same (v := .bool false) ?_ hC (LF.mk (j := 36) (by decide) (by decide))
                intro Kc hKc
                refine still_on rfl rfl rfl rfl (LF.is (hdep 27 (by kernel_rfl)) (by decide) (by decide)) ?_
                simp [Oper.wp, execOp, Act.eval, go_sem, d35]
                exact hKc
              · subst e1
                have d27 : a'.tmps[69]?.getD undef = .bool false := by simpa using (LF.is (hdep 27 (by kernel_rfl)) (by decide) (by decide))
                have d36 : a'.tmps[78]?.getD undef = .bool false := by simpa using (LF.is (hdep 36 (by kernel_rfl)) (by decide) (by decide))
                refine low_same (v := .bool false) ?_ hC (LF.mk (j := 37) (by decide) (by decide))
                intro Kc hKc
                refine still_op rfl rfl ?_
                simp [Oper.wp, execOp, Act.eval, go_sem, d27, d36]
                exact hKc
            intro vs W hC hF
            have hlastv : vs 37 = .bool false := LF.is (hF 37 (by omega)) (by decide) (by decide)
            simp only [fillA, Act.put, List.setIfInBounds_toArray, List.set_cons_succ, List.set_cons_zero, Nat.reduceAdd, Nat.add_zero]
            rw [hlastv]
            go_wp2_with fail
            go_roundw
            case rel => exact ⟨n + 1 + 1, s', hlt, by go_num, HN.out.1, HN.out.2.1, by rw [HN.out.2.2, if_neg (by omega), Nat.add_sub_cancel, HZk.out]; rfl, H4.out.below (undrew hC), below_trans' HB4.out (undrew hC)⟩
            case measure => simp [intOf]; omega
      · have hk' : k = z0.length := by omega
        subst hk'
        clear hA hB hks hsc
        go_wp2_with (go_at_call 17; refine (known_any _).mono ?_; rintro ee w8 ⟨rfl, hb8⟩; have HE8 : Hid (Below w1.heap.size w1 w8) := (below_trans' HB.out hb8); clear hb8)
        go_ret
        exact ⟨rfl, HE8.out⟩

set_option maxRecDepth 100000 in
theorem lifted (os : Os) (started : os.Started) (H : Type) (enc : TypeId × Value → H) :
    ReturnsInHanded {} Try.checked os 5 .any (Rows.tinylfuOneSpec.pre6 enc Try.prog Try.f5 Rows.tinylfuOneRow.domain false) (Rows.tinylfuOneSpec.post enc Try.prog Try.f5 false true false false) := by
  refine returnsInHanded_of_change_sized (C := Try.checked) own started (by kernel_rfl) Try.func5
    (ChangeSpec.witness6 (enc := enc) (C := Try.checked) false ⟨#[], #[.slice none 0 0], []⟩ 8 (by kernel_rfl) (by kernel_rfl) (by kernel_rfl) (by kernel_rfl)) ?_
  intro W base args ds gs before hval0 hW hcnd hsz0 _
  have hval : ∀ (j : Nat) t v, Try.f5.params[j]? = some t → args[j]? = some v → Value.okWide Try.prog W .any base t v := hval0
  have hsz : (DataW.weightsEach Try.prog (Try.f5.params.toList ++ Rows.tinylfuOneSpec.plain.varTypes Try.prog) (ds ++ gs)).all (· ≤ reachBytes) = true := hsz0
  have hW' := hW
  obtain ⟨p, q, hA0, hV, rfl, hfz, hnd⟩ := hW
  have hA : DataW.TrodAll enc Try.prog W 0 (fun _ => true) true Try.f5.params.toList args.toList ds p := hA0
  rw [Try.params5] at hA hval hsz
  obtain ⟨v0, vs0, d0, ds0, p0, q0, hargs, rfl, rfl, h0, s0⟩ := trodAll_cons hA
  obtain ⟨rfl, rfl, rfl⟩ := trodAll_nil s0
  obtain rfl : args = #[v0] := by cases args; simp_all
  obtain ⟨rfl, rfl⟩ := trodVars_none hV
  obtain ⟨a0, len0, cap0, rfl⟩ := okWide_slice Try.underlying23 (hval 0 23 v0 rfl rfl)
  have k0 := h0
  have lt0 : ∀ x ∈ p0, x.block < W.heap.size := by obtain ⟨m, hm⟩ := k0; exact DataW.trod_lt m _ _ _ hm
  obtain ⟨z0, e0, m0, r0, x0⟩ := open_texts h0
  replace x0 : ∀ z ∈ z0, z.size ≤ 140737488351232 := fun z hz => reach_first hsz (x0 z hz)
  clear hA0 hval0 hsz0
  refine (walk W a0 len0 cap0 z0 e0 m0 r0 x0).mono fun e W' ⟨he, bel⟩ => ?_
  subst he
  exact ⟨_, rfl, _, _, _, [], _, [], hW', trodAll_mk1 (shut_bool Try.underlying4 _), (trodAll_cons_mk (Below.trod laidOut (by kernel_rfl) (of_decide_eq_true (by kernel_rfl)) k0 bel lt0) trodAll_mk0), rfl, bel.frame _, fun h => by cases h⟩

theorem over : Rows.tinylfuOneRow.holds Try.pinned (OpenSpec.ofChange Rows.tinylfuOneSpec) :=
  OpenClaim.holds_of_wide 5 Try.f5 rfl rfl rfl rfl rfl rfl rfl ⟨rfl, rfl, rfl, rfl, rfl⟩ rfl rfl rfl rfl rfl (by kernel_rfl) Try.func5 (by kernel_rfl)
    (of_decide_eq_true (by kernel_rfl)) (by unfold Func.isWrapper; first | (rw [if_pos (by decide +kernel)]; kernel_rfl) | (rw [if_neg (by decide +kernel)]; exact ⟨rfl, rfl⟩))
    (fun os started H enc _ => lifted os started H enc)
end Go.Proofs.Ytcphhlfbjkeikab.tinylfuOne
namespace Go.Proofs.Ytcphhlfbjkeikab
/-- the given statement -/
theorem tinylfuOne_holds : Rows.TinylfuOneSaid := tinylfuOne.over
#print axioms tinylfuOne_holds
end Go.Proofs.Ytcphhlfbjkeikab
