/- A scaled room is at least one, not above the room, and not less by a greater rate or a greater room: the law returns true for all numbers. -/
import Derived.Test.YtfpndmgihhgjhaaRows
import Derived.Test.YtfpndmgihhgjhaaRf
import Derived.WalkKit
import Derived.ProofKit
import Derived.OpenShut
import Derived.ShutString
import Derived.ChangeOld
import Derived.Below
import Derived.Carry
import Derived.SizedLaws
namespace Go.Proofs.Ytfpndmgihhgjhaa.sampleRooms
open Go.ChangeShapes Go.WideShapes Go.ChangeAt Go.RowKit
open Go.ChangeMaps (open_string shut_string)
set_option linter.unusedVariables false

theorem own : ownKnob Try.prog.godebug = none := by kernel_rfl
theorem laidOut : laidOutB Try.prog = true := by kernel_rfl
set_option maxRecDepth 20000 in
set_option maxHeartbeats 2000000 in
theorem walkA (w : World) (a b c d : Int) (h1 : 0 ≤ a) (h2 : a ≤ b) (h3 : b ≤ 16777216) (h4 : 1 ≤ c) (h5 : c ≤ d) (h6 : d ≤ 1024) :
    Calls Try.prog 7 #[.int .i64 a, .int .i64 b, .int .i64 c, .int .i64 d] w fun e w' => e = .returned (.bool true) ∧ Below w.heap.size w w' := by
  have HN := new_any (w := w) (D := (w.heap.size ≤ ·)) a (fun k h => h)
  have HM := fun W : World => new_any (w := W) (D := (W.heap.size ≤ ·)) b (fun k h => h)
  have hRS : held 16777216 a ≤ held 16777216 b := by unfold held; omega
  have hR := held_le 16777216 a
  generalize held 16777216 a = R at *
  generalize held 16777216 b = S at *
  have HRA := fun {D : Nat → Prop} {W : World} {p : Nat} (h : SM 42 p R 0 0 D W) => room_any h c
  have HRB := fun {D : Nat → Prop} {W : World} {p : Nat} (h : SM 42 p S 0 0 D W) => room_any h c
  have HRC := fun {D : Nat → Prop} {W : World} {p : Nat} (h : SM 42 p R 0 0 D W) => room_any h d
  have q1 := room_pos R c
  have q2 := room_in R hR h4
  have q3 := room_rate hRS c
  have q4 := room_up R h5
  generalize room R c = A at *
  generalize room S c = B at *
  generalize room R d = C at *
  have HR1 := @HRA
  have HR2 := @HRA
  have HR3 := @HRA
  have HR4 := @HRB
  have HR5 := @HRA
  have HR6 := @HRC
  clear hRS hR HRA HRB HRC
  go_enter Try.func7, Try.ntmps7
  go_wp2_with (first
    | (go_at_call 9; refine HN.mono ?_; rintro e w1 ⟨p, rfl, H1, hk1⟩; clear HN)
    | (go_at_call 9; refine (HM _).mono ?_; rintro e w2 ⟨x, rfl, H2, hk2⟩; have hs1 := hk1.size; have HA := two_start (SM.lies _ _ _ _ _) (SM.lies _ _ _ _ _) H1 hs1 H2 hk2; have hb2 : Below w.heap.size w w2 := (hk1.below (Nat.le_refl _) (fun k h => h)).trans (hk2.below hs1 (fun k h => Nat.le_trans hs1 h)); have hs2 := hb2.size; obtain ⟨DL, hL⟩ := HA.left; obtain ⟨DX, hX⟩ := HA.right; clear HA HM hk1 hk2 H1 H2 hs1)
    | (go_at_call 15; refine (HR1 hL).mono ?_; rintro e w5 ⟨rfl, hb5⟩; replace hL := hL.below hb5; replace hX := hX.below hb5; replace hb2 := hb2.trans (hb5.mono hs2); replace hs2 := hb2.size; clear hb5 HR1)
    | (go_at_call 15; refine (HR2 hL).mono ?_; rintro e w5 ⟨rfl, hb5⟩; replace hL := hL.below hb5; replace hX := hX.below hb5; replace hb2 := hb2.trans (hb5.mono hs2); replace hs2 := hb2.size; clear hb5 HR2)
    | (go_at_call 15; refine (HR3 hL).mono ?_; rintro e w5 ⟨rfl, hb5⟩; replace hL := hL.below hb5; replace hX := hX.below hb5; replace hb2 := hb2.trans (hb5.mono hs2); replace hs2 := hb2.size; clear hb5 HR3)
    | (go_at_call 15; refine (HR4 hX).mono ?_; rintro e w5 ⟨rfl, hb5⟩; replace hL := hL.below hb5; replace hX := hX.below hb5; replace hb2 := hb2.trans (hb5.mono hs2); replace hs2 := hb2.size; clear hb5 HR4)
    | (go_at_call 15; refine (HR5 hL).mono ?_; rintro e w5 ⟨rfl, hb5⟩; replace hL := hL.below hb5; replace hX := hX.below hb5; replace hb2 := hb2.trans (hb5.mono hs2); replace hs2 := hb2.size; clear hb5 HR5)
    | (go_at_call 15; refine (HR6 hL).mono ?_; rintro e w5 ⟨rfl, hb5⟩; replace hL := hL.below hb5; replace hX := hX.below hb5; replace hb2 := hb2.trans (hb5.mono hs2); replace hs2 := hb2.size; clear hb5 HR6)
    | (go_at_call 17; refine (known_any _).mono ?_; rintro e w7 ⟨rfl, hb7⟩))
  go_ret
  exact ⟨rfl, hb2.trans (hb7.mono hs2)⟩

set_option maxRecDepth 20000 in
set_option maxHeartbeats 1000000 in
theorem walk (w : World) (a0 : Int) (w0 : (Lit.int .i64 a0).wf = true) (a1 : Int) (w1 : (Lit.int .i64 a1).wf = true) (a2 : Int) (w2 : (Lit.int .i64 a2).wf = true) (a3 : Int) (w3 : (Lit.int .i64 a3).wf = true) :
    Calls Try.prog 7 #[.int .i64 a0, .int .i64 a1, .int .i64 a2, .int .i64 a3] w fun e w' => e = .returned (.bool true) ∧ Below w.heap.size w w' := by
  obtain ⟨b0, b1⟩ := bounds_i64 w0
  obtain ⟨b2, b3⟩ := bounds_i64 w1
  obtain ⟨b4, b5⟩ := bounds_i64 w2
  obtain ⟨b6, b7⟩ := bounds_i64 w3
  clear w0 w1 w2 w3
  rcases Int.lt_or_le a0 0 with h0 | h0
  · go_enter Try.func7, Try.ntmps7
    go_wp2_with (go_at_call 17; refine (known_any _).mono ?_; rintro e w7 ⟨rfl, hb7⟩)
    go_ret
    exact ⟨rfl, hb7⟩
  rcases Int.lt_or_le a1 a0 with h1 | h1
  · go_enter Try.func7, Try.ntmps7
    go_wp2_with (go_at_call 17; refine (known_any _).mono ?_; rintro e w7 ⟨rfl, hb7⟩)
    go_ret
    exact ⟨rfl, hb7⟩
  rcases Int.lt_or_le 16777216 a1 with h2 | h2
  · go_enter Try.func7, Try.ntmps7
    go_wp2_with (go_at_call 17; refine (known_any _).mono ?_; rintro e w7 ⟨rfl, hb7⟩)
    go_ret
    exact ⟨rfl, hb7⟩
  rcases Int.lt_or_le a2 1 with h3 | h3
  · go_enter Try.func7, Try.ntmps7
    go_wp2_with (go_at_call 17; refine (known_any _).mono ?_; rintro e w7 ⟨rfl, hb7⟩)
    go_ret
    exact ⟨rfl, hb7⟩
  rcases Int.lt_or_le a3 a2 with h4 | h4
  · go_enter Try.func7, Try.ntmps7
    go_wp2_with (go_at_call 17; refine (known_any _).mono ?_; rintro e w7 ⟨rfl, hb7⟩)
    go_ret
    exact ⟨rfl, hb7⟩
  rcases Int.lt_or_le 1024 a3 with h5 | h5
  · go_enter Try.func7, Try.ntmps7
    go_wp2_with (go_at_call 17; refine (known_any _).mono ?_; rintro e w7 ⟨rfl, hb7⟩)
    go_ret
    exact ⟨rfl, hb7⟩
  exact walkA w a0 a1 a2 a3 h0 h1 h2 h3 h4 h5

set_option maxRecDepth 100000 in
theorem lifted (os : Os) (started : os.Started) (H : Type) (enc : TypeId × Value → H) :
    ReturnsInHanded {} Try.checked os 7 .any (Rows.sampleRoomsSpec.pre6 enc Try.prog Try.f7 Rows.sampleRoomsRow.domain false) (Rows.sampleRoomsSpec.post enc Try.prog Try.f7 false true false false) := by
  refine returnsInHanded_of_change_sized (C := Try.checked) own started (by kernel_rfl) Try.func7
    (ChangeSpec.witness6 (enc := enc) (C := Try.checked) false ⟨#[], #[.int .i64 0, .int .i64 0, .int .i64 0, .int .i64 0], []⟩ 8 (by kernel_rfl) (by kernel_rfl) (by kernel_rfl) (by kernel_rfl)) ?_
  intro W base args ds gs before hval0 hW hcnd hsz0 _
  have hval : ∀ (j : Nat) t v, Try.f7.params[j]? = some t → args[j]? = some v → Value.okWide Try.prog W .any base t v := hval0
  have hsz : (DataW.weightsEach Try.prog (Try.f7.params.toList ++ Rows.sampleRoomsSpec.plain.varTypes Try.prog) (ds ++ gs)).all (· ≤ reachBytes) = true := hsz0
  have hW' := hW
  obtain ⟨p, q, hA0, hV, rfl, hfz, hnd⟩ := hW
  have hA : DataW.TrodAll enc Try.prog W 0 (fun _ => true) true Try.f7.params.toList args.toList ds p := hA0
  rw [Try.params7] at hA hval hsz
  obtain ⟨v0, vs0, d0, ds0, p0, q0, hargs, rfl, rfl, h0, s0⟩ := trodAll_cons hA
  obtain ⟨v1, vs1, d1, ds1, p1, q1, rfl, rfl, rfl, h1, s1⟩ := trodAll_cons s0
  obtain ⟨v2, vs2, d2, ds2, p2, q2, rfl, rfl, rfl, h2, s2⟩ := trodAll_cons s1
  obtain ⟨v3, vs3, d3, ds3, p3, q3, rfl, rfl, rfl, h3, s3⟩ := trodAll_cons s2
  obtain ⟨rfl, rfl, rfl⟩ := trodAll_nil s3
  obtain rfl : args = #[v0, v1, v2, v3] := by cases args; simp_all
  obtain ⟨rfl, rfl⟩ := trodVars_none hV
  obtain ⟨a0, rfl, rfl, rfl, w0⟩ := open_int Try.underlying3 (hval 0 3 v0 rfl rfl) h0
  obtain ⟨a1, rfl, rfl, rfl, w1⟩ := open_int Try.underlying3 (hval 1 3 v1 rfl rfl) h1
  obtain ⟨a2, rfl, rfl, rfl, w2⟩ := open_int Try.underlying3 (hval 2 3 v2 rfl rfl) h2
  obtain ⟨a3, rfl, rfl, rfl, w3⟩ := open_int Try.underlying3 (hval 3 3 v3 rfl rfl) h3
  clear hA0 hval0 hsz0
  refine (walk W a0 w0 a1 w1 a2 w2 a3 w3).mono fun e W' ⟨he, bel⟩ => ?_
  subst he
  exact ⟨_, rfl, _, _, _, [], _, [], hW', trodAll_mk1 (shut_bool Try.underlying4 _), (trodAll_cons_mk (shut_int Try.underlying3 w0) (trodAll_cons_mk (shut_int Try.underlying3 w1) (trodAll_cons_mk (shut_int Try.underlying3 w2) (trodAll_cons_mk (shut_int Try.underlying3 w3) trodAll_mk0)))), rfl, bel.frame _, fun h => by cases h⟩

theorem over : Rows.sampleRoomsRow.holds Try.pinned (OpenSpec.ofChange Rows.sampleRoomsSpec) :=
  OpenClaim.holds_of_wide 7 Try.f7 rfl rfl rfl rfl rfl rfl rfl ⟨rfl, rfl, rfl, rfl, rfl⟩ rfl rfl rfl rfl rfl (by kernel_rfl) Try.func7 (by kernel_rfl)
    (of_decide_eq_true (by kernel_rfl)) (by unfold Func.isWrapper; first | (rw [if_pos (by decide +kernel)]; kernel_rfl) | (rw [if_neg (by decide +kernel)]; exact ⟨rfl, rfl⟩))
    (fun os started H enc _ => lifted os started H enc)

end Go.Proofs.Ytfpndmgihhgjhaa.sampleRooms
namespace Go.Proofs.Ytfpndmgihhgjhaa
/-- the given statement -/
theorem sampleRooms_holds : Rows.SampleRoomsSaid := sampleRooms.over
#print axioms sampleRooms_holds
end Go.Proofs.Ytfpndmgihhgjhaa
