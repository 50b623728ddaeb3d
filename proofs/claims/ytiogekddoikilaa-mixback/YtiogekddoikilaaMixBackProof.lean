/- Of every number what mix.Mix makes of it can be told back, so no two numbers become one: the law returns true, and its argument reads as it did. -/
import Derived.Test.YtiogekddoikilaaRows
import Derived.Test.YtiogekddoikilaaKnown
import Derived.WalkKit
import Derived.ProofKit
import Derived.OpenShut
import Derived.ShutString
namespace Go.Proofs.Ytiogekddoikilaa.mixBack
open Go.ChangeShapes Go.WideShapes Go.ChangeAt Go.RowKit
open Go.ChangeMaps (open_string shut_string)
set_option linter.unusedVariables false      

theorem mul_nat (z C : Nat) : ∃ A : Nat, A < 18446744073709551616 ∧ (IntKind.u64.wrap ((z : Int) * (C : Int)) = (A : Int) ∧ A = z * C % 18446744073709551616) := by
  refine ⟨z * C % 18446744073709551616, Nat.mod_lt _ (by decide), ?_, rfl⟩
  rw [IntKind.wrap_u64, Int.natCast_emod, Int.natCast_mul]
  rfl

def sh (b : Int) : Nat := if b = 31 then 2147483648 else if b = 27 then 134217728 else 1073741824
theorem sh_31 : sh 31 = 2147483648 := rfl
theorem sh_27 : sh 27 = 134217728 := rfl
theorem sh_30 : sh 30 = 1073741824 := rfl
theorem undo_any (Y : Nat) (b : Int) (w : World) (hb : b = 31 ∨ b = 27 ∨ b = 30) (hY : Y < 18446744073709551616) :
    Calls Try.prog 19 #[.int .u64 Y, .int .u64 b] w fun e w' => e = .returned (.int .u64 (undo3 Y (sh b))) ∧ w' = w := by
  rcases hb with rfl | rfl | rfl
  · rw [sh_31]; exact undo31_any Y w hY
  · rw [sh_27]; exact undo27_any Y w hY
  · rw [sh_30]; exact undo30_any Y w hY

theorem own : ownKnob Try.prog.godebug = none := by kernel_rfl

/-! ### STEP 1: THE WALK: the Go text returns true. 'Grown w w'': the world has at most new blocks (Derived/RowKit3.lean). Part the cases AHEAD of 'go_enter' where a test parts the walk; take each callee by a contract of your own. -/
theorem walk (a0 : Int) (w0 : (Lit.int .u64 a0).wf = true) (w : World) :
    Calls Try.prog 6 #[.int .u64 a0] w fun e w' => e = .returned (.bool true) ∧ Grown w w' := by
  obtain ⟨b0, b1⟩ := bounds_u64 w0
  obtain ⟨X, rfl⟩ := Int.eq_ofNat_of_zero_le b0
  have hX : X < 18446744073709551616 := by omega
  clear w0 b0 b1
  obtain ⟨A, hA, hA1, hA2⟩ := mul_nat (undo3 (mx X) (sh 31)) 3573116690164977347
  obtain ⟨B, hB, hB1, hB2⟩ := mul_nat (undo3 A (sh 27)) 10871156337175269513
  have hback : Hid (undo3 B (sh 30) = X) := by
    have := mx_back X hX
    rw [sh_31] at hA2
    rw [sh_27] at hB2
    rw [← hA2, ← hB2] at this
    rw [sh_30]
    exact this
  have hA3 : IntKind.u64.wrap ((undo3 (mx X) (sh 31) : Int) * 3573116690164977347) = (A : Int) := hA1
  have hB3 : IntKind.u64.wrap ((undo3 A (sh 27) : Int) * 10871156337175269513) = (B : Int) := hB1
  clear hA2 hB2 hA1 hB1
  have hM := mx_lt X
  have he : ((undo3 B (sh 30) : Int) == (X : Int)) = true := by rw [hback.out]; simp
  go_enter Try.func6, Try.ntmps6
  go_wp2_with (first | (go_at_call 13; refine (mix_any _ _ hX).mono ?_; rintro e w' ⟨rfl, rfl⟩) | (go_at_call 19; refine (undo_any _ _ _ (by decide) (by assumption)).mono ?_; rintro e w' ⟨rfl, rfl⟩) | (go_at_call 10; refine (known_any _).mono ?_; rintro e w' ⟨rfl, rfl⟩))
  go_ret
  exact ⟨rfl, Grown.refl _⟩

/-! ### THE ROW's STEP: WRITTEN OUT: LEAVE IT -/
set_option maxRecDepth 100000 in
theorem lifted (os : Os) (started : os.Started) (H : Type) (enc : TypeId × Value → H) :
    ReturnsInHanded {} Try.checked os 6 .any (Rows.mixBackSpec.pre6 enc Try.prog Try.f6 Rows.mixBackRow.domain false) (Rows.mixBackSpec.post enc Try.prog Try.f6 false true false false) := by
  refine returnsInHanded_of_change (C := Try.checked) own started (by kernel_rfl) Try.func6
    (ChangeSpec.witness6 (enc := enc) (C := Try.checked) false ⟨#[], #[.int .u64 0], []⟩ 8 (by kernel_rfl) (by kernel_rfl) (by kernel_rfl) (by kernel_rfl)) ?_
  intro W base args ds gs before hval0 hW hcnd _
  have hval : ∀ (j : Nat) t v, Try.f6.params[j]? = some t → args[j]? = some v → Value.okWide Try.prog W .any base t v := hval0
  have hW' := hW
  obtain ⟨p, q, hA0, hV, rfl, hfz, hnd⟩ := hW
  have hA : DataW.TrodAll enc Try.prog W 0 (fun _ => true) true Try.f6.params.toList args.toList ds p := hA0
  rw [Try.params6] at hA hval
  obtain ⟨v0, vs0, d0, ds0, p0, q0, hargs, rfl, rfl, h0, r0⟩ := trodAll_cons hA
  obtain ⟨rfl, rfl, rfl⟩ := trodAll_nil r0
  obtain rfl : args = #[v0] := by cases args; simp_all
  obtain ⟨rfl, rfl⟩ := trodVars_none hV
  obtain ⟨a0, rfl, rfl, rfl, w0⟩ := open_int Try.underlying24 (hval 0 24 v0 rfl rfl) h0
  clear hA0 hval0
  simp only [List.append_nil] at hW'
  refine (walk a0 w0 W).mono fun e W' ⟨he, hg⟩ => ?_
  subst he
  exact ⟨_, rfl, post_of_same (pa := []) (pv := []) hW' (fun _ _ _ => (trodAll_cons_mk (shut_bool Try.underlying4 _) trodAll_mk0)) (fun sp _ => (trodAll_cons_mk (shut_int Try.underlying24 w0) trodAll_mk0)) (fun _ _ => rfl) rfl
    (hg.frame _) hg.2.1 (ok_one (by kernel_rfl) rfl (okWide_bool_mk Try.underlying4 _))⟩

theorem over : Rows.mixBackRow.holds Try.pinned (OpenSpec.ofChange Rows.mixBackSpec) :=
  OpenClaim.holds_of_wide 6 Try.f6 rfl rfl rfl rfl rfl rfl rfl ⟨rfl, rfl, rfl, rfl, rfl⟩ rfl rfl rfl rfl rfl (by kernel_rfl) Try.func6 (by kernel_rfl)
    (of_decide_eq_true (by kernel_rfl)) (by unfold Func.isWrapper; first | (rw [if_pos (by decide +kernel)]; kernel_rfl) | (rw [if_neg (by decide +kernel)]; exact ⟨rfl, rfl⟩))
    (fun os started H enc _ => lifted os started H enc)

end Go.Proofs.Ytiogekddoikilaa.mixBack
namespace Go.Proofs.Ytiogekddoikilaa
/-- the given statement -/
theorem mixBack_holds : Rows.MixBackSaid := mixBack.over
#print axioms mixBack_holds
end Go.Proofs.Ytiogekddoikilaa
