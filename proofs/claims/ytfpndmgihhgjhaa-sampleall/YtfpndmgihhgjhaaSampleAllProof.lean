/- By the whole rate all are taken, and rooms stay; by none nobody is, and one is room enough: the law returns true for every key and every room, and its arguments read as they did. -/
import Derived.Test.YtfpndmgihhgjhaaRows
import Derived.Test.YtfpndmgihhgjhaaRf
import Derived.WalkKit
import Derived.ProofKit
import Derived.OpenShut
import Derived.ShutString
import Derived.ChangeOld
import Derived.Below
import Derived.Carry
import Derived.SizedLaws
namespace Go.Proofs.Ytfpndmgihhgjhaa.sampleAll
open Go.ChangeShapes Go.WideShapes Go.ChangeAt Go.RowKit
open Go.ChangeMaps (open_string shut_string)
set_option linter.unusedVariables false

theorem own : ownKnob Try.prog.godebug = none := by kernel_rfl
theorem laidOut : laidOutB Try.prog = true := by kernel_rfl
theorem full_held : held 16777216 16777216 = 16777216 := by decide
theorem none_held : held 16777216 0 = 0 := by decide
set_option maxRecDepth 20000 in
set_option maxHeartbeats 2000000 in
theorem walkA (w : World) (a0 : ByteArray) (h60 : a0.size ≤ 60) (a1 : Int) (hlo : a1 < 1) :
    Calls Try.prog 5 #[.string a0, .int .i64 a1] w fun e w' => e = .returned (.bool true) ∧ Below w.heap.size w w' := by
  have HN := new_any (w := w) (D := (w.heap.size ≤ ·)) 16777216 (fun k h => h)
  have HM := fun W : World => new_any (w := W) (D := (W.heap.size ≤ ·)) 0 (fun k h => h)
  rw [full_held] at HN
  simp only [none_held] at HM
  have HTA := fun {O : Nat → Prop} {W : World} {p x : Nat} (h : Two (SM 42 p 16777216 0 0) (SM 42 x 0 0 0) O W) => two_takes_a h a0 (by omega)
  have HTB := fun {O : Nat → Prop} {W : World} {p x B U : Nat} (h : Two (SM 42 p 16777216 B U) (SM 42 x 0 0 0) O W) => two_takes_b h a0 (by omega)
  rw [tk_all] at HTA
  rw [tk_none] at HTB
  have HRA := fun {D : Nat → Prop} {W : World} {p A T : Nat} (h : SM 42 p 16777216 A T D W) => room_any h a1
  have HRB := fun {D : Nat → Prop} {W : World} {p A T : Nat} (h : SM 42 p 0 A T D W) => room_any h a1
  rw [room_none] at HRB
  rw [room_all, show max 1 (min a1 1024) = 1 by omega] at HRA
  go_enter Try.func5, Try.ntmps5
  go_wp2_with (first
    | (go_at_call 9; refine HN.mono ?_; rintro e w1 ⟨p, rfl, H1, hk1⟩; clear HN)
    | (go_at_call 9; refine (HM _).mono ?_; rintro e w2 ⟨x, rfl, H2, hk2⟩; have hs1 := hk1.size; have HA := two_start (SM.lies _ _ _ _ _) (SM.lies _ _ _ _ _) H1 hs1 H2 hk2; have hb2 : Below w.heap.size w w2 := (hk1.below (Nat.le_refl _) (fun k h => h)).trans (hk2.below hs1 (fun k h => Nat.le_trans hs1 h)); have hs2 := hb2.size; clear HM hk1 hk2 H1 H2 hs1)
    | (go_at_call 11; refine (HTA HA).mono ?_; rintro e w3 ⟨rfl, HA3, hk3⟩; have hb3 := hb2.trans (hk3.old hs2); have hs3 := hb3.size; clear HTA HA hb2 hs2 hk3)
    | (go_at_call 11; refine (HTB HA3).mono ?_; rintro e w4 ⟨rfl, HA4, hk4⟩; have hb4 := hb3.trans (hk4.old hs3); have hs4 := hb4.size; obtain ⟨DL, hL⟩ := HA4.left; obtain ⟨DX, hX⟩ := HA4.right; clear HTB HA3 HA4 hb3 hs3 hk4)
    | (go_at_call 15; refine (HRA hL).mono ?_; rintro e w5 ⟨rfl, hb5⟩; have hX5 := hX.below hb5; have hb5' := hb4.trans (hb5.mono hs4); have hs5 := hb5'.size; clear hX hL HRA hb5 hb4 hs4)
    | (go_at_call 15; refine (HRB hX5).mono ?_; rintro e w6 ⟨rfl, hb6⟩; have hb6' := hb5'.trans (hb6.mono hs5); have hs6 := hb6'.size; clear hX5 HRB hb6 hb5' hs5)
    | (go_at_call 17; refine (known_any _).mono ?_; rintro e w7 ⟨rfl, hb7⟩))
  all_goals
    go_ret
    exact ⟨rfl, hb6'.trans (hb7.mono hs6)⟩
set_option maxRecDepth 20000 in
set_option maxHeartbeats 2000000 in
theorem walkB (w : World) (a0 : ByteArray) (h60 : a0.size ≤ 60) (a1 : Int) (hlo : 1 ≤ a1) (hhi : a1 ≤ 1024) :
    Calls Try.prog 5 #[.string a0, .int .i64 a1] w fun e w' => e = .returned (.bool true) ∧ Below w.heap.size w w' := by
  have HN := new_any (w := w) (D := (w.heap.size ≤ ·)) 16777216 (fun k h => h)
  have HM := fun W : World => new_any (w := W) (D := (W.heap.size ≤ ·)) 0 (fun k h => h)
  rw [full_held] at HN
  simp only [none_held] at HM
  have HTA := fun {O : Nat → Prop} {W : World} {p x : Nat} (h : Two (SM 42 p 16777216 0 0) (SM 42 x 0 0 0) O W) => two_takes_a h a0 (by omega)
  have HTB := fun {O : Nat → Prop} {W : World} {p x B U : Nat} (h : Two (SM 42 p 16777216 B U) (SM 42 x 0 0 0) O W) => two_takes_b h a0 (by omega)
  rw [tk_all] at HTA
  rw [tk_none] at HTB
  have HRA := fun {D : Nat → Prop} {W : World} {p A T : Nat} (h : SM 42 p 16777216 A T D W) => room_any h a1
  have HRB := fun {D : Nat → Prop} {W : World} {p A T : Nat} (h : SM 42 p 0 A T D W) => room_any h a1
  rw [room_none] at HRB
  rw [room_all, show max 1 (min a1 1024) = a1 by omega] at HRA
  go_enter Try.func5, Try.ntmps5
  go_wp2_with (first
    | (go_at_call 9; refine HN.mono ?_; rintro e w1 ⟨p, rfl, H1, hk1⟩; clear HN)
    | (go_at_call 9; refine (HM _).mono ?_; rintro e w2 ⟨x, rfl, H2, hk2⟩; have hs1 := hk1.size; have HA := two_start (SM.lies _ _ _ _ _) (SM.lies _ _ _ _ _) H1 hs1 H2 hk2; have hb2 : Below w.heap.size w w2 := (hk1.below (Nat.le_refl _) (fun k h => h)).trans (hk2.below hs1 (fun k h => Nat.le_trans hs1 h)); have hs2 := hb2.size; clear HM hk1 hk2 H1 H2 hs1)
    | (go_at_call 11; refine (HTA HA).mono ?_; rintro e w3 ⟨rfl, HA3, hk3⟩; have hb3 := hb2.trans (hk3.old hs2); have hs3 := hb3.size; clear HTA HA hb2 hs2 hk3)
    | (go_at_call 11; refine (HTB HA3).mono ?_; rintro e w4 ⟨rfl, HA4, hk4⟩; have hb4 := hb3.trans (hk4.old hs3); have hs4 := hb4.size; obtain ⟨DL, hL⟩ := HA4.left; obtain ⟨DX, hX⟩ := HA4.right; clear HTB HA3 HA4 hb3 hs3 hk4)
    | (go_at_call 15; refine (HRA hL).mono ?_; rintro e w5 ⟨rfl, hb5⟩; have hX5 := hX.below hb5; have hb5' := hb4.trans (hb5.mono hs4); have hs5 := hb5'.size; clear hX hL HRA hb5 hb4 hs4)
    | (go_at_call 15; refine (HRB hX5).mono ?_; rintro e w6 ⟨rfl, hb6⟩; have hb6' := hb5'.trans (hb6.mono hs5); have hs6 := hb6'.size; clear hX5 HRB hb6 hb5' hs5)
    | (go_at_call 17; refine (known_any _).mono ?_; rintro e w7 ⟨rfl, hb7⟩))
  all_goals
    go_ret
    exact ⟨rfl, hb6'.trans (hb7.mono hs6)⟩
set_option maxRecDepth 20000 in
set_option maxHeartbeats 2000000 in
theorem walkC (w : World) (a0 : ByteArray) (h60 : a0.size ≤ 60) (a1 : Int) (hlo : 1024 < a1) (hhi : a1 ≤ 9223372036854775807) :
    Calls Try.prog 5 #[.string a0, .int .i64 a1] w fun e w' => e = .returned (.bool true) ∧ Below w.heap.size w w' := by
  have HN := new_any (w := w) (D := (w.heap.size ≤ ·)) 16777216 (fun k h => h)
  have HM := fun W : World => new_any (w := W) (D := (W.heap.size ≤ ·)) 0 (fun k h => h)
  rw [full_held] at HN
  simp only [none_held] at HM
  have HTA := fun {O : Nat → Prop} {W : World} {p x : Nat} (h : Two (SM 42 p 16777216 0 0) (SM 42 x 0 0 0) O W) => two_takes_a h a0 (by omega)
  have HTB := fun {O : Nat → Prop} {W : World} {p x B U : Nat} (h : Two (SM 42 p 16777216 B U) (SM 42 x 0 0 0) O W) => two_takes_b h a0 (by omega)
  rw [tk_all] at HTA
  rw [tk_none] at HTB
  have HRA := fun {D : Nat → Prop} {W : World} {p A T : Nat} (h : SM 42 p 16777216 A T D W) => room_any h a1
  have HRB := fun {D : Nat → Prop} {W : World} {p A T : Nat} (h : SM 42 p 0 A T D W) => room_any h a1
  rw [room_none] at HRB
  rw [room_all, show max 1 (min a1 1024) = 1024 by omega] at HRA
  go_enter Try.func5, Try.ntmps5
  go_wp2_with (first
    | (go_at_call 9; refine HN.mono ?_; rintro e w1 ⟨p, rfl, H1, hk1⟩; clear HN)
    | (go_at_call 9; refine (HM _).mono ?_; rintro e w2 ⟨x, rfl, H2, hk2⟩; have hs1 := hk1.size; have HA := two_start (SM.lies _ _ _ _ _) (SM.lies _ _ _ _ _) H1 hs1 H2 hk2; have hb2 : Below w.heap.size w w2 := (hk1.below (Nat.le_refl _) (fun k h => h)).trans (hk2.below hs1 (fun k h => Nat.le_trans hs1 h)); have hs2 := hb2.size; clear HM hk1 hk2 H1 H2 hs1)
    | (go_at_call 11; refine (HTA HA).mono ?_; rintro e w3 ⟨rfl, HA3, hk3⟩; have hb3 := hb2.trans (hk3.old hs2); have hs3 := hb3.size; clear HTA HA hb2 hs2 hk3)
    | (go_at_call 11; refine (HTB HA3).mono ?_; rintro e w4 ⟨rfl, HA4, hk4⟩; have hb4 := hb3.trans (hk4.old hs3); have hs4 := hb4.size; obtain ⟨DL, hL⟩ := HA4.left; obtain ⟨DX, hX⟩ := HA4.right; clear HTB HA3 HA4 hb3 hs3 hk4)
    | (go_at_call 15; refine (HRA hL).mono ?_; rintro e w5 ⟨rfl, hb5⟩; have hX5 := hX.below hb5; have hb5' := hb4.trans (hb5.mono hs4); have hs5 := hb5'.size; clear hX hL HRA hb5 hb4 hs4)
    | (go_at_call 15; refine (HRB hX5).mono ?_; rintro e w6 ⟨rfl, hb6⟩; have hb6' := hb5'.trans (hb6.mono hs5); have hs6 := hb6'.size; clear hX5 HRB hb6 hb5' hs5)
    | (go_at_call 17; refine (known_any _).mono ?_; rintro e w7 ⟨rfl, hb7⟩))
  all_goals
    go_ret
    exact ⟨rfl, hb6'.trans (hb7.mono hs6)⟩

set_option maxRecDepth 20000 in
set_option maxHeartbeats 1000000 in
theorem walk (w : World) (a0 : ByteArray) (w0 : a0.size ≤ maxLen) (a1 : Int) (w1 : (Lit.int .i64 a1).wf = true) :
    Calls Try.prog 5 #[.string a0, .int .i64 a1] w fun e w' => e = .returned (.bool true) ∧ Below w.heap.size w w' := by
  have w0' : a0.size ≤ 9223372036854775807 := by unfold maxLen at w0; omega
  obtain ⟨b0, b1⟩ := bounds_i64 w1
  clear w0 w1
  by_cases h60 : a0.size ≤ 60
  · by_cases hlo : a1 < 1
    · exact walkA w a0 h60 a1 hlo
    · by_cases hhi : a1 ≤ 1024
      · exact walkB w a0 h60 a1 (by omega) hhi
      · exact walkC w a0 h60 a1 (by omega) b1
  · go_enter Try.func5, Try.ntmps5
    go_wp2_with fail
    go_ret
    exact ⟨rfl, Below.refl _ _⟩

set_option maxRecDepth 100000 in
theorem lifted (os : Os) (started : os.Started) (H : Type) (enc : TypeId × Value → H) :
    ReturnsInHanded {} Try.checked os 5 .any (Rows.sampleAllSpec.pre6 enc Try.prog Try.f5 Rows.sampleAllRow.domain false) (Rows.sampleAllSpec.post enc Try.prog Try.f5 false true false false) := by
  refine returnsInHanded_of_change_sized (C := Try.checked) own started (by kernel_rfl) Try.func5
    (ChangeSpec.witness6 (enc := enc) (C := Try.checked) false ⟨#[], #[.string ByteArray.empty, .int .i64 0], []⟩ 8 (by kernel_rfl) (by kernel_rfl) (by kernel_rfl) (by kernel_rfl)) ?_
  intro W base args ds gs before hval0 hW hcnd hsz0 _
  have hval : ∀ (j : Nat) t v, Try.f5.params[j]? = some t → args[j]? = some v → Value.okWide Try.prog W .any base t v := hval0
  have hsz : (DataW.weightsEach Try.prog (Try.f5.params.toList ++ Rows.sampleAllSpec.plain.varTypes Try.prog) (ds ++ gs)).all (· ≤ reachBytes) = true := hsz0
  have hW' := hW
  obtain ⟨p, q, hA0, hV, rfl, hfz, hnd⟩ := hW
  have hA : DataW.TrodAll enc Try.prog W 0 (fun _ => true) true Try.f5.params.toList args.toList ds p := hA0
  rw [Try.params5] at hA hval hsz
  obtain ⟨v0, vs0, d0, ds0, p0, q0, hargs, rfl, rfl, h0, s0⟩ := trodAll_cons hA
  obtain ⟨v1, vs1, d1, ds1, p1, q1, rfl, rfl, rfl, h1, s1⟩ := trodAll_cons s0
  obtain ⟨rfl, rfl, rfl⟩ := trodAll_nil s1
  obtain rfl : args = #[v0, v1] := by cases args; simp_all
  obtain ⟨rfl, rfl⟩ := trodVars_none hV
  obtain ⟨a0, rfl, rfl, rfl, w0⟩ := open_string Try.underlying9 (hval 0 9 v0 rfl rfl) h0
  obtain ⟨a1, rfl, rfl, rfl, w1⟩ := open_int Try.underlying3 (hval 1 3 v1 rfl rfl) h1
  clear hA0 hval0 hsz0
  refine (walk W a0 w0 a1 w1).mono fun e W' ⟨he, bel⟩ => ?_
  subst he
  exact ⟨_, rfl, _, _, _, [], _, [], hW', trodAll_mk1 (shut_bool Try.underlying4 _), (trodAll_cons_mk (shut_string Try.underlying9 w0) (trodAll_cons_mk (shut_int Try.underlying3 w1) trodAll_mk0)), rfl, bel.frame _, fun h => by cases h⟩

theorem over : Rows.sampleAllRow.holds Try.pinned (OpenSpec.ofChange Rows.sampleAllSpec) :=
  OpenClaim.holds_of_wide 5 Try.f5 rfl rfl rfl rfl rfl rfl rfl ⟨rfl, rfl, rfl, rfl, rfl⟩ rfl rfl rfl rfl rfl (by kernel_rfl) Try.func5 (by kernel_rfl)
    (of_decide_eq_true (by kernel_rfl)) (by unfold Func.isWrapper; first | (rw [if_pos (by decide +kernel)]; kernel_rfl) | (rw [if_neg (by decide +kernel)]; exact ⟨rfl, rfl⟩))
    (fun os started H enc _ => lifted os started H enc)

end Go.Proofs.Ytfpndmgihhgjhaa.sampleAll
namespace Go.Proofs.Ytfpndmgihhgjhaa
/-- the given statement -/
theorem sampleAll_holds : Rows.SampleAllSaid := sampleAll.over
#print axioms sampleAll_holds
end Go.Proofs.Ytfpndmgihhgjhaa
