/- Any kind's name, and any name's kind: the law returns true for every kind and every text, and its arguments read as they did; the variable of the five names that the row lists is tied to the program's text. -/
import Derived.Test.YtbeoacgkefklbaaDoorRows
import Derived.Test.YtbeoacgkefklbaaDoorTie
import Derived.Test.YtbeoacgkefklbaaDoorCards
import Derived.Test.YtbeoacgkefklbaaDoorNm
import Derived.WalkKit
import Derived.ProofKit
import Derived.OpenShut
import Derived.ShutString
import Derived.ChangeOld
import Derived.Below
import Derived.Carry
import Derived.SizedLaws
import Derived.LaidMore
import Derived.Lay
import Derived.SevenTiedAt
import Derived.Stop.Joined
namespace Go.Proofs.YtbeoacgkefklbaaDoor.engineNames
open Go.ChangeShapes Go.WideShapes Go.ChangeAt Go.RowKit
open Go.ChangeMaps (open_string shut_string)
set_option linter.unusedVariables false

theorem own : ownKnob Tryd.prog.godebug = none := by kernel_rfl
theorem walk (w : World) (H : Names w) (a0 : Int) (w0 : (Lit.int .i64 a0).wf = true) (a1 : ByteArray) (w1 : a1.size ≤ maxLen) :
    Calls Tryd.prog 3 #[.int .i64 a0, .string a1] w fun e w' => e = .returned (.bool true) ∧ w' = w := by
  have w1' : a1.size ≤ 9223372036854775807 := by unfold maxLen at w1; omega
  obtain ⟨b0, b1⟩ := bounds_i64 w0
  clear w1 w0
  by_cases h100 : a1.size ≤ 100
  · have hk := kind_any H a1
    have hrk := rkind_any a1 w
    have hn := name_any H a0 b0 b1
    have HN : Hid _ := hn
    have hrn := rname_any w a0 b0 b1
    have hkn := known_any H
    have hkk := kind_any H (nmI a0)
    have hself : (nmI a0).toList = (nmI a0).toList := rfl
    unfold kdV at hk hrk
    generalize (if pos a1 < 5 then pos a1 else 0) = p at *
    generalize decide (pos a1 < 5) = d at *
    by_cases hr : 0 ≤ a0 ∧ a0 < 5
    · have e1 : kdV (nmI a0) = .tuple #[.int .i64 a0, .bool true] := by
        obtain ⟨n, rfl⟩ := Int.eq_ofNat_of_zero_le hr.1
        have hn5 : n < 5 := by omega
        have := pos_nm ⟨n, hn5⟩
        simp only at this
        rw [nmI_nm hn5]
        unfold kdV
        rw [this, if_pos hn5, decide_eq_true hn5]
      rw [e1] at hkk
      obtain ⟨hr0, hr1⟩ := hr
      clear e1 hn
      generalize nmI a0 = x at *
      cases d <;>
        (go_enter Tryd.func3, Tryd.ntmps3
         go_wp2_with (first
           | (go_at_call 4; refine Calls.mono hk ?_; clear hk; rintro ee w1 ⟨rfl, rfl⟩)
           | (go_at_call 5; refine Calls.mono hrk ?_; clear hrk; rintro ee w1 ⟨rfl, rfl⟩)
           | (go_at_call 6; refine Calls.mono HN.out ?_; rintro ee w1 ⟨rfl, rfl⟩)
           | (go_at_call 4; refine Calls.mono hkk ?_; clear hkk; rintro ee w1 ⟨rfl, rfl⟩)
           | (go_at_call 7; refine Calls.mono hrn ?_; clear hrn; rintro ee w1 ⟨rfl, rfl⟩)
           | (go_at_call 8; refine Calls.mono hkn ?_; clear hkn; rintro ee w1 ⟨rfl, rfl⟩))
         go_ret
         exact ⟨rfl, rfl⟩)
    · have e1 : kdV (nmI a0) = .tuple #[.int .i64 0, .bool false] := by
        have : nmI a0 = ⟨#[]⟩ := by unfold nmI; rw [if_neg hr]
        rw [this]
        have : pos ⟨#[]⟩ = 5 := by decide
        unfold kdV
        rw [this]
        rfl
      rw [e1] at hkk
      have hr' : a0 < 0 ∨ (0 ≤ a0 ∧ 5 ≤ a0) := by omega
      clear e1 hn hr
      generalize nmI a0 = x at *
      rcases hr' with hr' | ⟨hr', hr''⟩ <;> cases d <;>
        (go_enter Tryd.func3, Tryd.ntmps3
         go_wp2_with (first
           | (go_at_call 4; refine Calls.mono hk ?_; clear hk; rintro ee w1 ⟨rfl, rfl⟩)
           | (go_at_call 5; refine Calls.mono hrk ?_; clear hrk; rintro ee w1 ⟨rfl, rfl⟩)
           | (go_at_call 6; refine Calls.mono HN.out ?_; rintro ee w1 ⟨rfl, rfl⟩)
           | (go_at_call 4; refine Calls.mono hkk ?_; clear hkk; rintro ee w1 ⟨rfl, rfl⟩)
           | (go_at_call 7; refine Calls.mono hrn ?_; clear hrn; rintro ee w1 ⟨rfl, rfl⟩)
           | (go_at_call 8; refine Calls.mono hkn ?_; clear hkn; rintro ee w1 ⟨rfl, rfl⟩))
         go_ret
         first
           | exact ⟨rfl, rfl⟩
           | (have h9 : decide (a0 < 5) = false := by simpa using hr''
              exact ⟨by simp [h9], rfl⟩))
  · go_enter Tryd.func3, Tryd.ntmps3
    go_wp2_with fail
    go_ret
    exact ⟨rfl, rfl⟩
abbrev laid : List (String × DataW Unit) := Rows.engineNamesRow.laid
set_option maxRecDepth 100000 in
theorem lifted (os : Os) (started : os.Started) (H : Type) (enc : TypeId × Value → H) :
    ReturnsInHanded {} Tryd.checked os 3 .any (fun w args => (Rows.engineNamesSpec.pre enc Tryd.prog Tryd.f3 Rows.engineNamesRow.domain false w args ∧ laidMetH Tryd.prog laid w) ∧ sizedMet enc Tryd.prog Tryd.f3 (OpenSpec.ofChange Rows.engineNamesSpec) false w args)
      (Rows.engineNamesSpec.post enc Tryd.prog Tryd.f3 false true false false) := by
  refine returnsInHanded_of_change_and (C := Tryd.checked) (X := fun w _ => laidMetH Tryd.prog laid w) (fun _ _ _ hh h => h.of_heap hh) own started (by kernel_rfl) Tryd.func3
    (ChangeSpec.witness_shaped (enc := enc) (C := Tryd.checked) (os := os) (X := fun w _ => laidMetH Tryd.prog laid w) false (World.laidAll Tryd.prog os laid) #[.int .i64 0, .string ByteArray.empty] 8 (World.laidAll_os _ _ _)
      (World.shaped_of_ZipB (by kernel_rfl) (by kernel_rfl)) (by kernel_rfl) (by kernel_rfl) (by kernel_rfl)
      (by rw [MakeChecks.laidMetH_plain _ _ _ (by kernel_rfl)]; exact laidMet_laidAll _ (by kernel_rfl) (by kernel_rfl))) ?_
  intro W base args ds gs before hval0 hW hc _ hL _
  have hval : ∀ (j : Nat) t v, Tryd.f3.params[j]? = some t → args[j]? = some v → Value.okWide Tryd.prog W .any base t v := hval0
  have hW' := hW
  obtain ⟨p, q, hA0, hV, rfl, hfz, hnd⟩ := hW
  have hA : DataW.TrodAll enc Tryd.prog W 0 (fun _ => true) true Tryd.f3.params.toList args.toList ds p := hA0
  rw [Tryd.params3] at hA hval
  obtain ⟨v0, vs0, d0, ds0, p0, q0, hargs, rfl, rfl, h0, s0⟩ := trodAll_cons hA
  obtain ⟨v1, vs1, d1, ds1, p1, q1, rfl, rfl, rfl, h1, s1⟩ := trodAll_cons s0
  obtain ⟨rfl, rfl, rfl⟩ := trodAll_nil s1
  obtain rfl : args = #[v0, v1] := by cases args; simp_all
  obtain ⟨rfl, rfl⟩ := trodVars_none hV
  obtain ⟨a0, rfl, rfl, rfl, w0⟩ := open_int Tryd.underlying3 (hval 0 3 v0 rfl rfl) h0
  obtain ⟨a1, rfl, rfl, rfl, w1⟩ := open_string Tryd.underlying9 (hval 1 9 v1 rfl rfl) h1
  clear hA0 hval0
  refine (walk W (names_of hL) a0 w0 a1 w1).mono fun e W' ⟨he, hw⟩ => ?_
  subst he
  subst hw
  exact ⟨_, rfl, _, _, _, [], _, [], hW', trodAll_mk1 (shut_bool Tryd.underlying4 _), (trodAll_cons_mk (shut_int Tryd.underlying3 w0) (trodAll_cons_mk (shut_string Tryd.underlying9 w1) trodAll_mk0)), rfl, (Below.refl _ _).frame _, fun h => by cases h⟩

theorem over : Rows.engineNamesRow.holds Tryd.pinned (OpenSpec.ofChange Rows.engineNamesSpec) :=
  OpenClaim.holds_of_wide 3 Tryd.f3 rfl rfl rfl rfl rfl rfl rfl ⟨rfl, rfl, rfl, rfl, rfl⟩ rfl rfl rfl rfl rfl (by kernel_rfl) Tryd.func3 (by kernel_rfl)
    (of_decide_eq_true (by kernel_rfl)) (by unfold Func.isWrapper; first | (rw [if_pos (by decide +kernel)]; kernel_rfl) | (rw [if_neg (by decide +kernel)]; exact ⟨rfl, rfl⟩))
    (fun os started H enc _ => lifted os started H enc)
end Go.Proofs.YtbeoacgkefklbaaDoor.engineNames
namespace Go.Proofs.YtbeoacgkefklbaaDoor
/-- the given statement -/
theorem engineNames_holds : Rows.EngineNamesCardSaid :=
  Claim7.holds_tied_plain_at .later [] [.data] true (true, "a81038a46bbe8be50beded116158456d480218a293a0cd0ed3cb415c43201160") false
    engineNames.over (fun _ h => by cases h) (by kernel_rfl) (fun _ h => by cases h) engineNames_row_tie rfl ⟨rfl, rfl⟩ (by kernel_rfl) rfl
    (fun f fn hf hfn => by
      obtain rfl : f = 3 := Option.some.inj ((show Tryd.prog.funcNamed Rows.engineNamesRow.func = some 3 by kernel_rfl).symm.trans hf) |>.symm
      obtain rfl : fn = Tryd.f3 := (Option.some.inj (Tryd.func3.symm.trans hfn)).symm
      exact ⟨by kernel_rfl, fun j t ht => by
        rw [Tryd.params3] at ht
        have hm : t ∈ [3, 9] := by simpa using Array.mem_of_getElem? ht
        have hall : ([3, 9].all fun u => !Tryd.prog.wantsStandIn u) = true := by kernel_rfl
        exact (show Tryd.prog.wantsStandIn t = false by simpa using List.all_eq_true.1 hall t hm)⟩)
    (by kernel_rfl)
#print axioms engineNames_holds
end Go.Proofs.YtbeoacgkefklbaaDoor
