/- Of keys that are added the last ones are there, as many as there is room, each once: the law returns true for every room and every row of keys, and its arguments read as they did. -/
import Derived.Test.YtdiggfiapbifpaaRows
import Derived.Test.YtdiggfiapbifpaaEq
import Derived.Test.YtdiggfiapbifpaaRw
import Derived.Test.YtdiggfiapbifpaaGl
import Derived.Test.YtdiggfiapbifpaaRm
import Derived.WalkKit
import Derived.ProofKit
import Derived.OpenShut
import Derived.ShutString
import Derived.ChangeOld
import Derived.Below
import Derived.Carry
import Derived.SizedLaws
namespace Go.Proofs.Ytdiggfiapbifpaa.ghostLast
open Go.ChangeShapes Go.WideShapes Go.ChangeAt Go.RowKit
open Go.ChangeMaps (open_string shut_string)
set_option linter.unusedVariables false

theorem own : ownKnob Try.prog.godebug = none := by kernel_rfl
theorem laidOut : laidOutB Try.prog = true := by kernel_rfl

theorem heldC_same {n : Int} (h1 : 1 ≤ n) (h2 : n ≤ 200) : ((G.heldC n : Nat) : Int) = n := by unfold G.heldC; omega
/-- one text, laid -/
theorem row_one (w : World) (z : ByteArray) : Row (fun g => w.heap.size ≤ g) (w.alloc (.cells #[.string z] 9)) (some ⟨w.heap.size, 0, none⟩) 1 [z] := by
  refine ⟨Nat.le_refl _, by unfold maxLen; omega, fun _ => ⟨_, 0, _, rfl, Nat.le_refl _, heap_alloc_new w _, by simp, fun i y hi => ?_⟩⟩
  match i, hi with
  | 0, h => simp at h; subst h; rfl
theorem has_take {Q : List ByteArray} {z y : ByteArray} {j : Nat} (h : Q[j]? = some y) : G.has (Q.take (j + 1)) z = (G.has (Q.take j) z || decide (y = z)) := by
  rw [List.take_add_one, h]
  simp [G.has]
theorem has_iff {Q : List ByteArray} {z : ByteArray} : G.has Q z = true ↔ z ∈ Q := by
  constructor
  · intro h
    by_cases hm : z ∈ Q
    · exact hm
    · rw [G.has_no hm] at h; cases h
  · exact G.has_yes

set_option maxRecDepth 20000 in
set_option maxHeartbeats 2000000 in
theorem walk (w : World) (a0 : Int) (w0 : (Lit.int .i64 a0).wf = true) (a1 : Option Addr) (len1 cap1 : Nat) (z1 : List ByteArray) (e1 : z1.length = len1) (m1 : len1 ≤ maxLen) (r1 : RowIn Value.string w a1 z1) (x1 : ∀ z ∈ z1, z.size ≤ 140737488351232) :
    Calls Try.prog 4 #[.int .i64 a0, .slice a1 len1 cap1] w fun e w' => e = .returned (.bool true) ∧ Below w.heap.size w w' := by
  subst e1
  obtain ⟨b0, b1⟩ := bounds_i64 w0
  have HR : Hid (RowIn Value.string w a1 z1) := r1
  have HX : Hid (∀ z ∈ z1, z.size ≤ 140737488351232) := x1
  have hm1 : z1.length ≤ 9223372036854775807 := by unfold maxLen at m1; omega
  have hnew := new_any w a0
  obtain ⟨hC1, hC2⟩ := G.heldC_in a0
  clear r1 x1 m1
  by_cases hr : 1 ≤ a0 ∧ a0 ≤ 200
  · by_cases hl : z1.length ≤ 200
    · obtain ⟨hr1, hr2⟩ := hr
      have HCa : Hid (((G.heldC a0 : Nat) : Int) = a0) := heldC_same hr1 hr2
      generalize G.heldC a0 = c at *
      go_enter Try.func4, Try.ntmps4
      go_wp2_with (go_at_call 8; refine Calls.mono hnew ?_; clear hnew; rintro ee w1 ⟨e, rfl, h1, hk1⟩; have H1 : Hid (GH e c 0 [] (fun k => w.heap.size ≤ k) w1) := h1; have HB1 : Hid (Below w.heap.size w w1) := hk1.below (Nat.le_refl _) (fun _ h => h); clear h1 hk1)
      go_loopw [6] (fun i wr => ∃ k : Nat, k ≤ z1.length ∧ i = .int .i64 k ∧ GH e c k (G.last c (z1.take k)) (fun j => w.heap.size ≤ j) wr ∧ Below w.heap.size w wr) (fun i _ => z1.length - (intOf i).toNat)
      case atStart => exact ⟨0, Nat.zero_le _, rfl, H1.out, HB1.out⟩
      case round =>
        obtain ⟨k, hk1, rfl, hA, hB⟩ := hrel
        rename World => W0
        have HB : Hid (Below w.heap.size w W0) := hB
        have HA : Hid (GH e c k (G.last c (z1.take k)) (fun j => w.heap.size ≤ j) W0) := hA
        have HOk : Hid (G.Ok c (G.last c (z1.take k))) := G.last_ok hC1 hC2 _
        rcases Nat.lt_or_ge k z1.length with hlt | hge
        · obtain ⟨z, hz⟩ : ∃ z, z1[k]? = some z := ⟨_, List.getElem?_eq_getElem hlt⟩
          obtain ⟨gg, off, rfl, cz⟩ := (HR.out.later hB).at hz
          have hzx := HX.out z (List.mem_of_getElem? hz)
          have HM : Hid (G.last c (z1.take (k + 1)) = (G.add c (G.last c (z1.take k)) z).2) := G.last_more hC1 hC2 hz
          clear hz H1 HB1
          by_cases hzs : z.size ≤ 40
          · have hadd := add_any hA HOk.out (fun j hj => Nat.le_trans hB.size hj) (by omega) z (by omega)
            clear hA hB
            generalize G.add c (G.last c (z1.take k)) z = o at *
            obtain ⟨o1, o2⟩ := o
            go_wp2_with (go_at_call 10; refine Calls.mono hadd ?_; clear hadd; rintro ee w4 ⟨rfl, h4, hk4⟩; have H4 : Hid (GH e c (k + 1) o2 (fun j => w.heap.size ≤ j) w4) := h4; have HB4 : Hid (Below w.heap.size w w4) := ((Keeps.of_below (D := fun j => w.heap.size ≤ j) HB.out).trans hk4).below (Nat.le_refl _) (fun _ h => h); clear h4 hk4; simp only [told])
            go_roundw
            case rel => exact ⟨k + 1, hlt, by go_num, by rw [HM.out]; exact H4.out, HB4.out⟩
            case measure => simp [intOf]; omega
          · clear hA hB
            go_wp2_with fail
            go_ret
            exact ⟨rfl, HB.out⟩
        · have hk' : k = z1.length := by omega
          subst hk'
          clear hA hB H1 HB1
          go_wp2_with fail
          go_loopw [7, 8] (fun v i wr => ∃ (j : Nat) (ad : Option Addr) (cp : Nat), j ≤ z1.length ∧ i = .int .i64 ((j : Int) - 1) ∧ v = .slice ad (G.last c (z1.drop j)).length cp ∧ Row (fun g => W0.heap.size ≤ g) wr ad cp (G.last c (z1.drop j)) ∧ Below W0.heap.size W0 wr) (fun _ i _ => (intOf i + 1).toNat)
          case atStart => exact ⟨z1.length, none, 0, Nat.le_refl _, by go_num, by simp [G.last], by simpa [G.last] using Row.nil, Below.refl _ _⟩
          case round =>
            obtain ⟨j, ad, cp, hj, rfl, rfl, hrow, hV⟩ := hrel
            have HRow : Hid (Row (fun g => W0.heap.size ≤ g) wr ad cp (G.last c (z1.drop j))) := hrow
            have HV : Hid (Below W0.heap.size W0 wr) := hV
            have hOk2 : G.Ok c (G.last c (z1.drop j)) := G.last_ok hC1 hC2 _
            have hWl : (G.last c (z1.drop j)).length ≤ 1024 := by have := hOk2.2.1; omega
            by_cases hgo : 0 < j ∧ (G.last c (z1.drop j)).length < c
            · obtain ⟨g1, g2⟩ := hgo
              obtain ⟨i, rfl⟩ : ∃ i, j = i + 1 := ⟨j - 1, by omega⟩
              obtain ⟨z, hz⟩ : ∃ z, z1[i]? = some z := ⟨_, List.getElem?_eq_getElem (by omega)⟩
              obtain ⟨gg, off, rfl, cz⟩ := (HR.out.later (below_trans' HB.out hV)).at hz
              have HCz : Hid (∀ W, Below W0.heap.size W0 W → W.cell? ⟨gg, off + i, none⟩ = some (.string z)) := fun W hW => by
                obtain ⟨g2, o2, e2, c2⟩ := (HR.out.later (below_trans' HB.out hW)).at hz
                cases e2
                exact c2
              have HD : Hid (G.last c (z1.drop i) = G.ahead c z (G.last c (z1.drop (i + 1)))) := by
                rw [List.drop_eq_getElem_cons (by omega : i < z1.length)]
                rw [List.getElem?_eq_getElem (by omega : i < z1.length)] at hz
                cases hz
                rfl
              clear hz hrow hV hOk2
              have e1 : ((i + 1 : Nat) : Int) - 1 = ((i : Nat) : Int) := by omega
              rw [e1]
              have hlr : ((G.last c (z1.drop (i + 1))).length : Int) < a0 := by have := HCa.out; omega
              generalize G.last c (z1.drop (i + 1)) = want at *
              go_wp2_with fail
              go_loopw [9, 10] (fun t q wx => ∃ r : Nat, r ≤ want.length ∧ q = .int .i64 r ∧ t = .bool (G.has (want.take r) z) ∧ Row (fun g => W0.heap.size ≤ g) wx ad cp want ∧ Below W0.heap.size W0 wx) (fun _ q _ => want.length - (intOf q).toNat)
              case atStart => exact ⟨0, Nat.zero_le _, rfl, rfl, HRow.out, HV.out⟩
              case round =>
                obtain ⟨r, hr, rfl, rfl, hrow2, hV2⟩ := hrel
                have HRow2 : Hid (Row (fun g => W0.heap.size ≤ g) wr ad cp want) := hrow2
                have HV2 : Hid (Below W0.heap.size W0 wr) := hV2
                have cz2 := HCz.out wr hV2
                rcases Nat.lt_or_ge r want.length with hlr2 | hgr2
                · obtain ⟨y, hy⟩ : ∃ y, want[r]? = some y := ⟨_, List.getElem?_eq_getElem hlr2⟩
                  obtain ⟨gw, ow, rfl, -, cy, -⟩ := hrow2.at hy
                  have HT : Hid (G.has (want.take (r + 1)) z = (G.has (want.take r) z || decide (y = z))) := has_take hy
                  have hbe : (y.toList == z.toList) = decide (y = z) := texts_beq y z
                  clear hy hrow2 hV2
                  generalize G.has (want.take r) z = t0 at *
                  cases t0 with
                  | true =>
                    have HT2 : Hid (G.has (want.take (r + 1)) z = true) := by rw [HT.out]; rfl
                    clear HT
                    go_wp2_with fail
                    refine region_same1 (by kernel_rfl) 11 63 rfl (fun slot => [(.bool true : Value), (.bool true : Value), (undef : Value), (undef : Value), (undef : Value), (undef : Value), (undef : Value), (undef : Value), (undef : Value), (undef : Value), (undef : Value), (.bool true : Value)].getD slot undef) (lex_of (by kernel_rfl)) (wait_of (by kernel_rfl)) (by simp) ?_ ?_
                    · intro i hi a' hst hdep Kc hKc
                      have hcase : i = 0 ∨ i = 1 ∨ i = 2 ∨ i = 3 ∨ i = 4 ∨ i = 5 ∨ i = 6 ∨ i = 7 ∨ i = 8 ∨ i = 9 ∨ i = 10 ∨ i = 11 := by omega
                      rcases hcase with e1 | e1 | e1 | e1 | e1 | e1 | e1 | e1 | e1 | e1 | e1 | e1
                      · subst e1
                        have o9 := hst.at 9 (by omega)
                        simp at o9
                        refine still_op rfl rfl ?_
                        simp [Oper.wp, execOp, Act.eval, go_sem, o9]
                        exact hKc
                      · subst e1
                        have d0 : a'.tmps[63]?.getD undef = .bool true := by simpa using hdep 0 (by kernel_rfl)
                        refine still_op rfl rfl ?_
                        simp [Oper.wp, execOp, Act.eval, go_sem, d0]
                        exact hKc
                      · subst e1
                        exact still_off rfl rfl rfl rfl (hdep 1 (by kernel_rfl)) rfl hKc
                      · subst e1
                        exact still_off rfl rfl rfl rfl (hdep 1 (by kernel_rfl)) rfl hKc
                      · subst e1
                        exact still_off rfl rfl rfl rfl (hdep 1 (by kernel_rfl)) rfl hKc
                      · subst e1
                        exact still_off rfl rfl rfl rfl (hdep 1 (by kernel_rfl)) rfl hKc
                      · subst e1
                        exact still_off rfl rfl rfl rfl (hdep 1 (by kernel_rfl)) rfl hKc
                      · subst e1
                        exact still_off rfl rfl rfl rfl (hdep 1 (by kernel_rfl)) rfl hKc
                      · subst e1
                        exact still_off rfl rfl rfl rfl (hdep 1 (by kernel_rfl)) rfl hKc
                      · subst e1
                        exact still_off rfl rfl rfl rfl (hdep 1 (by kernel_rfl)) rfl hKc
                      · subst e1
                        exact still_off rfl rfl rfl rfl (hdep 1 (by kernel_rfl)) rfl hKc
                      · subst e1
                        have d1 : a'.tmps[64]?.getD undef = .bool true := by simpa using hdep 1 (by kernel_rfl)
                        refine still_op rfl rfl ?_
                        simp [Oper.wp, execOp, Act.eval, go_sem, d1]
                        exact hKc
                    refine still_op rfl rfl ?_
                    simp only [fillA, Act.put, List.setIfInBounds_toArray, List.set_cons_succ, List.set_cons_zero, List.getD_cons_zero, List.getD_cons_succ, Nat.reduceAdd, Nat.add_zero]
                    simp [Oper.wp, execOp, Act.eval, go_sem]
                    go_wp2_with fail
                    go_roundw
                    case rel => exact ⟨r + 1, hlr2, by go_num, by rw [HT2.out], HRow2.out.below (Below.refl _ _).drew, below_trans' HV2.out (Below.refl _ _).drew⟩
                    case measure => simp [intOf]; omega
                  | false =>
                    have hiz : i < z1.length := hj
                    generalize decide (y = z) = tb at *
                    have HT2 : Hid (G.has (want.take (r + 1)) z = tb) := by rw [HT.out]; rfl
                    clear HT
                    go_wp2_with fail
                    refine region_same1 (by kernel_rfl) 11 63 rfl (fun slot => [(.bool false : Value), (.bool false : Value), (.slice (some ⟨gw, ow, none⟩) want.length cp : Value), (.int .i64 (r : Nat) : Value), (.pointer (some ⟨gw, ow + r, none⟩) : Value), (.string y : Value), (.slice (some ⟨gg, off, none⟩) z1.length cap1 : Value), (.int .i64 (i : Nat) : Value), (.pointer (some ⟨gg, off + i, none⟩) : Value), (.string z : Value), (.bool tb : Value), (.bool tb : Value)].getD slot undef) (lex_of (by kernel_rfl)) (wait_of (by kernel_rfl)) (by simp) ?_ ?_
                    · intro i hi a' hst hdep Kc hKc
                      have hcase : i = 0 ∨ i = 1 ∨ i = 2 ∨ i = 3 ∨ i = 4 ∨ i = 5 ∨ i = 6 ∨ i = 7 ∨ i = 8 ∨ i = 9 ∨ i = 10 ∨ i = 11 := by omega
                      rcases hcase with e1 | e1 | e1 | e1 | e1 | e1 | e1 | e1 | e1 | e1 | e1 | e1
                      · subst e1
                        have o9 := hst.at 9 (by omega)
                        simp at o9
                        refine still_op rfl rfl ?_
                        simp [Oper.wp, execOp, Act.eval, go_sem, o9]
                        exact hKc
                      · subst e1
                        have d0 : a'.tmps[63]?.getD undef = .bool false := by simpa using hdep 0 (by kernel_rfl)
                        refine still_op rfl rfl ?_
                        simp [Oper.wp, execOp, Act.eval, go_sem, d0]
                        exact hKc
                      · subst e1
                        have o7 := hst.at 7 (by omega)
                        simp at o7
                        refine still_on rfl rfl rfl rfl (hdep 1 (by kernel_rfl)) ?_
                        simp [Oper.wp, execOp, Act.eval, go_sem, o7]
                        exact hKc
                      · subst e1
                        have o10 := hst.at 10 (by omega)
                        simp at o10
                        refine still_on rfl rfl rfl rfl (hdep 1 (by kernel_rfl)) ?_
                        simp [Oper.wp, execOp, Act.eval, go_sem, o10]
                        exact hKc
                      · subst e1
                        have d2 : a'.tmps[65]?.getD undef = .slice (some ⟨gw, ow, none⟩) want.length cp := by simpa using hdep 2 (by kernel_rfl)
                        have d3 : a'.tmps[66]?.getD undef = .int .i64 (r : Nat) := by simpa using hdep 3 (by kernel_rfl)
                        refine still_on rfl rfl rfl rfl (hdep 1 (by kernel_rfl)) ?_
                        simp [Oper.wp, execOp, Act.eval, go_sem, d2, d3, hlr2]
                        exact hKc
                      · subst e1
                        have d4 : a'.tmps[67]?.getD undef = .pointer (some ⟨gw, ow + r, none⟩) := by simpa using hdep 4 (by kernel_rfl)
                        refine still_on rfl rfl rfl rfl (hdep 1 (by kernel_rfl)) ?_
                        simp [Oper.wp, execOp, Act.eval, go_sem, d4, cy]
                        exact hKc
                      · subst e1
                        have o1 := hst.at 1 (by omega)
                        simp at o1
                        refine still_on rfl rfl rfl rfl (hdep 1 (by kernel_rfl)) ?_
                        simp [Oper.wp, execOp, Act.eval, go_sem, o1]
                        exact hKc
                      · subst e1
                        have o8 := hst.at 8 (by omega)
                        simp at o8
                        refine still_on rfl rfl rfl rfl (hdep 1 (by kernel_rfl)) ?_
                        simp [Oper.wp, execOp, Act.eval, go_sem, o8]
                        exact hKc
                      · subst e1
                        have d6 : a'.tmps[69]?.getD undef = .slice (some ⟨gg, off, none⟩) z1.length cap1 := by simpa using hdep 6 (by kernel_rfl)
                        have d7 : a'.tmps[70]?.getD undef = .int .i64 (i : Nat) := by simpa using hdep 7 (by kernel_rfl)
                        refine still_on rfl rfl rfl rfl (hdep 1 (by kernel_rfl)) ?_
                        simp [Oper.wp, execOp, Act.eval, go_sem, d6, d7, hiz]
                        exact hKc
                      · subst e1
                        have d8 : a'.tmps[71]?.getD undef = .pointer (some ⟨gg, off + i, none⟩) := by simpa using hdep 8 (by kernel_rfl)
                        refine still_on rfl rfl rfl rfl (hdep 1 (by kernel_rfl)) ?_
                        simp [Oper.wp, execOp, Act.eval, go_sem, d8, cz2]
                        exact hKc
                      · subst e1
                        have d5 : a'.tmps[68]?.getD undef = .string y := by simpa using hdep 5 (by kernel_rfl)
                        have d9 : a'.tmps[72]?.getD undef = .string z := by simpa using hdep 9 (by kernel_rfl)
                        refine still_on rfl rfl rfl rfl (hdep 1 (by kernel_rfl)) ?_
                        simp [Oper.wp, execOp, Act.eval, go_sem, d5, d9, hbe]
                        exact hKc
                      · subst e1
                        have d1 : a'.tmps[64]?.getD undef = .bool false := by simpa using hdep 1 (by kernel_rfl)
                        have d10 : a'.tmps[73]?.getD undef = .bool tb := by simpa using hdep 10 (by kernel_rfl)
                        refine still_op rfl rfl ?_
                        simp [Oper.wp, execOp, Act.eval, go_sem, d1, d10]
                        exact hKc
                    refine still_op rfl rfl ?_
                    simp only [fillA, Act.put, List.setIfInBounds_toArray, List.set_cons_succ, List.set_cons_zero, List.getD_cons_zero, List.getD_cons_succ, Nat.reduceAdd, Nat.add_zero]
                    simp [Oper.wp, execOp, Act.eval, go_sem]
                    go_wp2_with fail
                    go_roundw
                    case rel => exact ⟨r + 1, hlr2, by go_num, by rw [HT2.out], HRow2.out.below (Below.refl _ _).drew, below_trans' HV2.out (Below.refl _ _).drew⟩
                    case measure => simp [intOf]; omega
                · have hr' : r = want.length := by omega
                  subst hr'
                  rw [List.take_length] at *
                  clear hrow2 hV2
                  cases ht : G.has want z with
                  | true =>
                    have HE : Hid (G.last c (z1.drop i) = want) := by rw [HD.out]; exact G.ahead_mem (has_iff.1 ht)
                    clear ht
                    go_wp2_with fail
                    go_roundw
                    case rel => exact ⟨i, ad, cp, by omega, by go_num, by rw [HE.out], by rw [HE.out]; exact HRow2.out, HV2.out⟩
                    case measure => simp [intOf] <;> omega
                  | false =>
                    have HE : Hid (G.last c (z1.drop i) = z :: want) := by rw [HD.out]; exact G.ahead_new (by omega) (fun h => by rw [G.has_yes h] at ht; cases ht)
                    clear ht
                    go_wp2_with (at_builtin; go_must (refine wpList_append_row (D := fun g => wr.heap.size ≤ g) (zs := [z]) (ks := want) rfl _ _ rfl rfl (row_one wr z) rfl (HRow2.out.below ((Below.refl _ wr).alloc (Nat.le_refl _) _)).src (by simp; omega) ?_); intro ad6 cp6 w6 hr6 hk6; have HB6 : Hid (Below W0.heap.size W0 w6) := below_trans' HV2.out ((((Keeps.refl (fun g => wr.heap.size ≤ g) wr).alloc _).trans hk6).below (Nat.le_refl _) (fun _ h => h)); have HR6 : Hid (Row (fun g => W0.heap.size ≤ g) w6 ad6 cp6 (z :: want)) := Row.wide hr6 (fun a _ ha => by have := HV2.out.size; rcases ha with h | h; omega; simp at h; omega); clear hr6 hk6)
                    go_roundw
                    case rel => exact ⟨i, ad6, cp6, by omega, by go_num, by rw [HE.out]; simp [Nat.add_comm], by rw [HE.out]; exact HR6.out, HB6.out⟩
                    case measure => simp [intOf] <;> omega
            · have hend : (j = 0) ∨ (0 < j ∧ ¬ (G.last c (z1.drop j)).length < c) := by omega
              have HF : Hid (G.last c (z1.take z1.length) = G.last c (z1.drop j)) := by
                show G.last c (z1.take z1.length) = _
                rw [List.take_length]
                rcases hend with h | ⟨_, h⟩
                · subst h; rfl
                · exact G.last_drop z1 j h
              have hkeys := keys_any (HA.out.below hV) HOk.out (by omega)
              rw [HF.out] at hkeys
              have hlr : ((G.last c (z1.drop j)).length : Int) < a0 ↔ (G.last c (z1.drop j)).length < c := by have := HCa.out; omega
              clear hgo hV hOk2
              have HRI : Hid (RowIn Value.string wr ad (G.last c (z1.drop j))) := row_rowIn hrow
              clear hrow HRow HA HOk
              generalize G.last c (z1.drop j) = want at *
              rcases hend with hend | ⟨hend, hfull⟩
              · subst hend
                go_wp2_with (first
                  | (go_at_call 18; refine Calls.mono hkeys ?_; clear hkeys; rintro ee w7 ⟨ad7, cp7, rfl, ho7, hb7⟩; have HB7 : Hid (Below W0.heap.size W0 w7) := below_trans' HV.out hb7; have htx := texts_any (c1 := cp7) (c2 := cp) ho7.rowIn (HRI.out.later hb7) (by omega) (by omega); rw [eqb_self] at htx; clear ho7 hb7)
                  | (go_at_call 17; refine Calls.mono htx ?_; clear htx; rintro ee w8 ⟨rfl, hb8⟩; have HB8 : Hid (Below W0.heap.size W0 w8) := below_trans' HB7.out hb8; clear hb8)
                  | (go_at_call 19; refine (known_any _).mono ?_; rintro ee w9 ⟨rfl, hb9⟩; have HB9 : Hid (Below W0.heap.size W0 w9) := below_trans' HB8.out hb9; clear hb9))
                go_ret
                exact ⟨rfl, below_trans' HB.out HB9.out⟩
              · have hfull2 : ¬ ((want.length : Int) < a0) := fun h => hfull (hlr.1 h)
                obtain ⟨i, rfl⟩ : ∃ i, j = i + 1 := ⟨j - 1, by omega⟩
                have e1 : ((i + 1 : Nat) : Int) - 1 = ((i : Nat) : Int) := by omega
                rw [e1]
                go_wp2_with (first
                  | (go_at_call 18; refine Calls.mono hkeys ?_; clear hkeys; rintro ee w7 ⟨ad7, cp7, rfl, ho7, hb7⟩; have HB7 : Hid (Below W0.heap.size W0 w7) := below_trans' HV.out hb7; have htx := texts_any (c1 := cp7) (c2 := cp) ho7.rowIn (HRI.out.later hb7) (by omega) (by omega); rw [eqb_self] at htx; clear ho7 hb7)
                  | (go_at_call 17; refine Calls.mono htx ?_; clear htx; rintro ee w8 ⟨rfl, hb8⟩; have HB8 : Hid (Below W0.heap.size W0 w8) := below_trans' HB7.out hb8; clear hb8)
                  | (go_at_call 19; refine (known_any _).mono ?_; rintro ee w9 ⟨rfl, hb9⟩; have HB9 : Hid (Below W0.heap.size W0 w9) := below_trans' HB8.out hb9; clear hb9))
                go_ret
                exact ⟨rfl, below_trans' HB.out HB9.out⟩
    · go_enter Try.func4, Try.ntmps4
      go_wp2_with fail
      all_goals
        go_ret
        exact ⟨rfl, Below.refl _ _⟩
  · have hr' : a0 < 1 ∨ (1 ≤ a0 ∧ 200 < a0) := by omega
    rcases hr' with hr' | ⟨hr', hr''⟩
    · go_enter Try.func4, Try.ntmps4
      go_wp2_with fail
      go_ret
      exact ⟨rfl, Below.refl _ _⟩
    · go_enter Try.func4, Try.ntmps4
      go_wp2_with fail
      go_ret
      exact ⟨rfl, Below.refl _ _⟩

set_option maxRecDepth 100000 in
theorem lifted (os : Os) (started : os.Started) (H : Type) (enc : TypeId × Value → H) :
    ReturnsInHanded {} Try.checked os 4 .any (Rows.ghostLastSpec.pre6 enc Try.prog Try.f4 Rows.ghostLastRow.domain false) (Rows.ghostLastSpec.post enc Try.prog Try.f4 false true false false) := by
  refine returnsInHanded_of_change_sized (C := Try.checked) own started (by kernel_rfl) Try.func4
    (ChangeSpec.witness6 (enc := enc) (C := Try.checked) false ⟨#[], #[.int .i64 0, .slice none 0 0], []⟩ 8 (by kernel_rfl) (by kernel_rfl) (by kernel_rfl) (by kernel_rfl)) ?_
  intro W base args ds gs before hval0 hW hcnd hsz0 _
  have hval : ∀ (j : Nat) t v, Try.f4.params[j]? = some t → args[j]? = some v → Value.okWide Try.prog W .any base t v := hval0
  have hsz : (DataW.weightsEach Try.prog (Try.f4.params.toList ++ Rows.ghostLastSpec.plain.varTypes Try.prog) (ds ++ gs)).all (· ≤ reachBytes) = true := hsz0
  have hW' := hW
  obtain ⟨p, q, hA0, hV, rfl, hfz, hnd⟩ := hW
  have hA : DataW.TrodAll enc Try.prog W 0 (fun _ => true) true Try.f4.params.toList args.toList ds p := hA0
  rw [Try.params4] at hA hval hsz
  obtain ⟨v0, vs0, d0, ds0, p0, q0, hargs, rfl, rfl, h0, s0⟩ := trodAll_cons hA
  obtain ⟨v1, vs1, d1, ds1, p1, q1, rfl, rfl, rfl, h1, s1⟩ := trodAll_cons s0
  obtain ⟨rfl, rfl, rfl⟩ := trodAll_nil s1
  obtain rfl : args = #[v0, v1] := by cases args; simp_all
  obtain ⟨rfl, rfl⟩ := trodVars_none hV
  obtain ⟨a0, rfl, rfl, rfl, w0⟩ := open_int Try.underlying3 (hval 0 3 v0 rfl rfl) h0
  obtain ⟨a1, len1, cap1, rfl⟩ := okWide_slice Try.underlying34 (hval 1 34 v1 rfl rfl)
  have k1 := h1
  have lt1 : ∀ x ∈ p1, x.block < W.heap.size := by obtain ⟨m, hm⟩ := k1; exact DataW.trod_lt m _ _ _ hm
  obtain ⟨z1, e1, m1, r1, x1⟩ := open_texts h1
  replace x1 : ∀ z ∈ z1, z.size ≤ 140737488351232 := fun z hz => reach_first (reach_tail hsz) (x1 z hz)
  clear hA0 hval0 hsz0
  refine (walk W a0 w0 a1 len1 cap1 z1 e1 m1 r1 x1).mono fun e W' ⟨he, bel⟩ => ?_
  subst he
  exact ⟨_, rfl, _, _, _, [], _, [], hW', trodAll_mk1 (shut_bool Try.underlying4 _), (trodAll_cons_mk (shut_int Try.underlying3 w0) (trodAll_cons_mk (Below.trod laidOut (by kernel_rfl) (of_decide_eq_true (by kernel_rfl)) k1 bel lt1) trodAll_mk0)), rfl, bel.frame _, fun h => by cases h⟩

theorem over : Rows.ghostLastRow.holds Try.pinned (OpenSpec.ofChange Rows.ghostLastSpec) :=
  OpenClaim.holds_of_wide 4 Try.f4 rfl rfl rfl rfl rfl rfl rfl ⟨rfl, rfl, rfl, rfl, rfl⟩ rfl rfl rfl rfl rfl (by kernel_rfl) Try.func4 (by kernel_rfl)
    (of_decide_eq_true (by kernel_rfl)) (by unfold Func.isWrapper; first | (rw [if_pos (by decide +kernel)]; kernel_rfl) | (rw [if_neg (by decide +kernel)]; exact ⟨rfl, rfl⟩))
    (fun os started H enc _ => lifted os started H enc)
end Go.Proofs.Ytdiggfiapbifpaa.ghostLast
namespace Go.Proofs.Ytdiggfiapbifpaa
/-- the given statement -/
theorem ghostLast_holds : Rows.GhostLastSaid := ghostLast.over
#print axioms ghostLast_holds
end Go.Proofs.Ytdiggfiapbifpaa
