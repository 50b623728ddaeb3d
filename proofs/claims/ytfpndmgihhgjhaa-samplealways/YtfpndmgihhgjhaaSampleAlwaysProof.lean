/- A key is always taken, or never; who takes more takes all that was taken: the law returns true for all rates, every key and every number, and its arguments read as they did. -/
import Derived.Test.YtfpndmgihhgjhaaRows
import Derived.Test.YtfpndmgihhgjhaaRf
import Derived.WalkKit
import Derived.ProofKit
import Derived.OpenShut
import Derived.ShutString
import Derived.ChangeOld
import Derived.Below
import Derived.Carry
import Derived.SizedLaws
namespace Go.Proofs.Ytfpndmgihhgjhaa.sampleAlways
open Go.ChangeShapes Go.WideShapes Go.ChangeAt Go.RowKit
open Go.ChangeMaps (open_string shut_string)
set_option linter.unusedVariables false

theorem own : ownKnob Try.prog.godebug = none := by kernel_rfl
theorem laidOut : laidOutB Try.prog = true := by kernel_rfl
set_option maxRecDepth 20000 in
set_option maxHeartbeats 2000000 in
theorem walkT (w : World) (a b : Int) (key : ByteArray) (m : Nat) (h60 : key.size ≤ 60) (m1 : 1 ≤ m) (m2 : m ≤ 50) (hab : a ≤ b) (ht : tk (held 16777216 a) key = true) :
    Calls Try.prog 4 #[.int .i64 a, .int .i64 b, .string key, .int .i64 (m : Nat)] w fun e w' => e = .returned (.bool true) ∧ Below w.heap.size w w' := by
  have HN := new_any (w := w) (D := (w.heap.size ≤ ·)) a (fun k h => h)
  have HM := fun W : World => new_any (w := W) (D := (W.heap.size ≤ ·)) b (fun k h => h)
  have hRS : held 16777216 a ≤ held 16777216 b := by unfold held; omega
  generalize held 16777216 a = R at *
  generalize held 16777216 b = S at *
  have HTA := fun {W : World} {O : Nat → Prop} {p x A T B U : Nat} (h : Two (SM 42 p R A T) (SM 42 x S B U) O W) => two_takes_a h key (by omega)
  have HTB := fun {W : World} {O : Nat → Prop} {p x A T B U : Nat} (h : Two (SM 42 p R A T) (SM 42 x S B U) O W) => two_takes_b h key (by omega)
  rw [ht] at HTA
  rw [tk_up hRS ht] at HTB
  clear ht hRS
  have g1 : decide ((60 : Int) < (key.size : Int)) = false := by simp; omega
  have g2 : decide ((m : Int) < 1) = false := by simp; omega
  have g3 : decide ((50 : Int) < (m : Int)) = false := by simp; omega
  have g4 : decide (b < a) = false := by simp; omega
  go_enter Try.func4, Try.ntmps4
  go_wp2_with (first
    | (go_at_call 9; refine HN.mono ?_; rintro e w1 ⟨p, rfl, H1, hk1⟩; clear HN)
    | (go_at_call 9; refine (HM _).mono ?_; rintro e w2 ⟨x, rfl, H2, hk2⟩; have hs1 := hk1.size; have HA := two_start (SM.lies _ _ _ _ _) (SM.lies _ _ _ _ _) H1 hs1 H2 hk2; have hb2 : Below w.heap.size w w2 := (hk1.below (Nat.le_refl _) (fun k h => h)).trans (hk2.below hs1 (fun k h => Nat.le_trans hs1 h)); have hs2 := hb2.size; clear HM hk1 hk2 H1 H2 hs1)
    | (go_at_call 11; refine (HTA HA).mono ?_; rintro e w3 ⟨rfl, HA3, hk3⟩; have hb3 := hb2.trans (hk3.old hs2); clear HA hb2 hs2 hk3))
  go_loopw [12] (fun i wr => ∃ (k A T B U : Nat), k ≤ m ∧ i = .int .i64 k ∧ Two (SM 42 p R A T) (SM 42 x S B U) (fun j => j < w.heap.size) wr ∧ Below w.heap.size w wr) (fun i _ => m - (intOf i).toNat)
  case atStart => exact ⟨0, _, _, _, _, Nat.zero_le _, rfl, HA3, hb3⟩
  case round =>
    clear HA3 hb3
    obtain ⟨k, A, T, B, U, hk, rfl, HA, hb⟩ := hrel
    have hs := hb.size
    rcases Nat.lt_or_ge k m with hlt | hge
    · have ltI : (k : Int) < (m : Int) := by omega
      go_wp2_with (first
        | (go_at_call 11; refine (HTA HA).mono ?_; rintro e w4 ⟨rfl, HA4, hk4⟩; have hb4 := hb.trans (hk4.old hs); have hs4 := hb4.size; clear HA hb hs hk4)
        | (go_at_call 11; refine (HTB HA4).mono ?_; rintro e w5 ⟨rfl, HA5, hk5⟩; have hb5 := hb4.trans (hk5.old hs4); clear HA4 hb4 hs4 hk5))
      go_roundw
      case rel => exact ⟨k + 1, _, _, _, _, hlt, by go_num, HA5, hb5⟩
      case measure => simp [intOf]; omega
    · have hk' : k = m := by omega
      subst hk'
      clear hge hk
      go_wp2_with (go_at_call 17; refine (known_any _).mono ?_; rintro e w7 ⟨rfl, hb7⟩)
      go_ret
      exact ⟨rfl, hb.trans (hb7.mono hs)⟩
set_option maxRecDepth 20000 in
set_option maxHeartbeats 2000000 in
theorem walkF (w : World) (a b : Int) (key : ByteArray) (m : Nat) (h60 : key.size ≤ 60) (m1 : 1 ≤ m) (m2 : m ≤ 50) (hab : a ≤ b) (ht : tk (held 16777216 a) key = false) :
    Calls Try.prog 4 #[.int .i64 a, .int .i64 b, .string key, .int .i64 (m : Nat)] w fun e w' => e = .returned (.bool true) ∧ Below w.heap.size w w' := by
  have HN := new_any (w := w) (D := (w.heap.size ≤ ·)) a (fun k h => h)
  have HM := fun W : World => new_any (w := W) (D := (W.heap.size ≤ ·)) b (fun k h => h)
  have hRS : held 16777216 a ≤ held 16777216 b := by unfold held; omega
  generalize held 16777216 a = R at *
  generalize held 16777216 b = S at *
  have HTA := fun {W : World} {O : Nat → Prop} {p x A T B U : Nat} (h : Two (SM 42 p R A T) (SM 42 x S B U) O W) => two_takes_a h key (by omega)
  have HTB := fun {W : World} {O : Nat → Prop} {p x A T B U : Nat} (h : Two (SM 42 p R A T) (SM 42 x S B U) O W) => two_takes_b h key (by omega)
  rw [ht] at HTA
  clear HTB
  clear ht hRS
  have g1 : decide ((60 : Int) < (key.size : Int)) = false := by simp; omega
  have g2 : decide ((m : Int) < 1) = false := by simp; omega
  have g3 : decide ((50 : Int) < (m : Int)) = false := by simp; omega
  have g4 : decide (b < a) = false := by simp; omega
  go_enter Try.func4, Try.ntmps4
  go_wp2_with (first
    | (go_at_call 9; refine HN.mono ?_; rintro e w1 ⟨p, rfl, H1, hk1⟩; clear HN)
    | (go_at_call 9; refine (HM _).mono ?_; rintro e w2 ⟨x, rfl, H2, hk2⟩; have hs1 := hk1.size; have HA := two_start (SM.lies _ _ _ _ _) (SM.lies _ _ _ _ _) H1 hs1 H2 hk2; have hb2 : Below w.heap.size w w2 := (hk1.below (Nat.le_refl _) (fun k h => h)).trans (hk2.below hs1 (fun k h => Nat.le_trans hs1 h)); have hs2 := hb2.size; clear HM hk1 hk2 H1 H2 hs1)
    | (go_at_call 11; refine (HTA HA).mono ?_; rintro e w3 ⟨rfl, HA3, hk3⟩; have hb3 := hb2.trans (hk3.old hs2); clear HA hb2 hs2 hk3))
  go_loopw [12] (fun i wr => ∃ (k A T B U : Nat), k ≤ m ∧ i = .int .i64 k ∧ Two (SM 42 p R A T) (SM 42 x S B U) (fun j => j < w.heap.size) wr ∧ Below w.heap.size w wr) (fun i _ => m - (intOf i).toNat)
  case atStart => exact ⟨0, _, _, _, _, Nat.zero_le _, rfl, HA3, hb3⟩
  case round =>
    clear HA3 hb3
    obtain ⟨k, A, T, B, U, hk, rfl, HA, hb⟩ := hrel
    have hs := hb.size
    rcases Nat.lt_or_ge k m with hlt | hge
    · have ltI : (k : Int) < (m : Int) := by omega
      go_wp2_with (first
        | (go_at_call 11; refine (HTA HA).mono ?_; rintro e w4 ⟨rfl, HA4, hk4⟩; have hb4 := hb.trans (hk4.old hs); clear HA hb hs hk4))
      go_roundw
      case rel => exact ⟨k + 1, _, _, _, _, hlt, by go_num, HA4, hb4⟩
      case measure => simp [intOf]; omega
    · have hk' : k = m := by omega
      subst hk'
      clear hge hk
      go_wp2_with (go_at_call 17; refine (known_any _).mono ?_; rintro e w7 ⟨rfl, hb7⟩)
      go_ret
      exact ⟨rfl, hb.trans (hb7.mono hs)⟩

set_option maxRecDepth 20000 in
set_option maxHeartbeats 1000000 in
theorem walk (w : World) (a0 : Int) (w0 : (Lit.int .i64 a0).wf = true) (a1 : Int) (w1 : (Lit.int .i64 a1).wf = true) (a2 : ByteArray) (w2 : a2.size ≤ maxLen) (a3 : Int) (w3 : (Lit.int .i64 a3).wf = true) :
    Calls Try.prog 4 #[.int .i64 a0, .int .i64 a1, .string a2, .int .i64 a3] w fun e w' => e = .returned (.bool true) ∧ Below w.heap.size w w' := by
  have k9 : a2.size ≤ 9223372036854775807 := by unfold maxLen at w2; omega
  obtain ⟨b0, b1⟩ := bounds_i64 w0
  obtain ⟨b2, b3⟩ := bounds_i64 w1
  obtain ⟨b4, b5⟩ := bounds_i64 w3
  clear w0 w1 w2 w3
  rcases Nat.lt_or_ge 60 a2.size with h0 | h0
  · go_enter Try.func4, Try.ntmps4
    go_wp2_with (go_at_call 17; refine (known_any _).mono ?_; rintro e w7 ⟨rfl, hb7⟩)
    go_ret
    exact ⟨rfl, hb7⟩
  rcases Int.lt_or_le a3 1 with h1 | h1
  · go_enter Try.func4, Try.ntmps4
    go_wp2_with (go_at_call 17; refine (known_any _).mono ?_; rintro e w7 ⟨rfl, hb7⟩)
    go_ret
    exact ⟨rfl, hb7⟩
  rcases Int.lt_or_le 50 a3 with h2 | h2
  · go_enter Try.func4, Try.ntmps4
    go_wp2_with (go_at_call 17; refine (known_any _).mono ?_; rintro e w7 ⟨rfl, hb7⟩)
    go_ret
    exact ⟨rfl, hb7⟩
  rcases Int.lt_or_le a1 a0 with h3 | h3
  · go_enter Try.func4, Try.ntmps4
    go_wp2_with (go_at_call 17; refine (known_any _).mono ?_; rintro e w7 ⟨rfl, hb7⟩)
    go_ret
    exact ⟨rfl, hb7⟩
  obtain ⟨m, rfl⟩ := Int.eq_ofNat_of_zero_le (show 0 ≤ a3 by omega)
  cases ht : tk (held 16777216 a0) a2 with
  | true => exact walkT w a0 a1 a2 m h0 (by omega) (by omega) h3 ht
  | false => exact walkF w a0 a1 a2 m h0 (by omega) (by omega) h3 ht

set_option maxRecDepth 100000 in
theorem lifted (os : Os) (started : os.Started) (H : Type) (enc : TypeId × Value → H) :
    ReturnsInHanded {} Try.checked os 4 .any (Rows.sampleAlwaysSpec.pre6 enc Try.prog Try.f4 Rows.sampleAlwaysRow.domain false) (Rows.sampleAlwaysSpec.post enc Try.prog Try.f4 false true false false) := by
  refine returnsInHanded_of_change_sized (C := Try.checked) own started (by kernel_rfl) Try.func4
    (ChangeSpec.witness6 (enc := enc) (C := Try.checked) false ⟨#[], #[.int .i64 0, .int .i64 0, .string ByteArray.empty, .int .i64 0], []⟩ 8 (by kernel_rfl) (by kernel_rfl) (by kernel_rfl) (by kernel_rfl)) ?_
  intro W base args ds gs before hval0 hW hcnd hsz0 _
  have hval : ∀ (j : Nat) t v, Try.f4.params[j]? = some t → args[j]? = some v → Value.okWide Try.prog W .any base t v := hval0
  have hsz : (DataW.weightsEach Try.prog (Try.f4.params.toList ++ Rows.sampleAlwaysSpec.plain.varTypes Try.prog) (ds ++ gs)).all (· ≤ reachBytes) = true := hsz0
  have hW' := hW
  obtain ⟨p, q, hA0, hV, rfl, hfz, hnd⟩ := hW
  have hA : DataW.TrodAll enc Try.prog W 0 (fun _ => true) true Try.f4.params.toList args.toList ds p := hA0
  rw [Try.params4] at hA hval hsz
  obtain ⟨v0, vs0, d0, ds0, p0, q0, hargs, rfl, rfl, h0, s0⟩ := trodAll_cons hA
  obtain ⟨v1, vs1, d1, ds1, p1, q1, rfl, rfl, rfl, h1, s1⟩ := trodAll_cons s0
  obtain ⟨v2, vs2, d2, ds2, p2, q2, rfl, rfl, rfl, h2, s2⟩ := trodAll_cons s1
  obtain ⟨v3, vs3, d3, ds3, p3, q3, rfl, rfl, rfl, h3, s3⟩ := trodAll_cons s2
  obtain ⟨rfl, rfl, rfl⟩ := trodAll_nil s3
  obtain rfl : args = #[v0, v1, v2, v3] := by cases args; simp_all
  obtain ⟨rfl, rfl⟩ := trodVars_none hV
  obtain ⟨a0, rfl, rfl, rfl, w0⟩ := open_int Try.underlying3 (hval 0 3 v0 rfl rfl) h0
  obtain ⟨a1, rfl, rfl, rfl, w1⟩ := open_int Try.underlying3 (hval 1 3 v1 rfl rfl) h1
  obtain ⟨a2, rfl, rfl, rfl, w2⟩ := open_string Try.underlying9 (hval 2 9 v2 rfl rfl) h2
  obtain ⟨a3, rfl, rfl, rfl, w3⟩ := open_int Try.underlying3 (hval 3 3 v3 rfl rfl) h3
  clear hA0 hval0 hsz0
  refine (walk W a0 w0 a1 w1 a2 w2 a3 w3).mono fun e W' ⟨he, bel⟩ => ?_
  subst he
  exact ⟨_, rfl, _, _, _, [], _, [], hW', trodAll_mk1 (shut_bool Try.underlying4 _), (trodAll_cons_mk (shut_int Try.underlying3 w0) (trodAll_cons_mk (shut_int Try.underlying3 w1) (trodAll_cons_mk (shut_string Try.underlying9 w2) (trodAll_cons_mk (shut_int Try.underlying3 w3) trodAll_mk0)))), rfl, bel.frame _, fun h => by cases h⟩

theorem over : Rows.sampleAlwaysRow.holds Try.pinned (OpenSpec.ofChange Rows.sampleAlwaysSpec) :=
  OpenClaim.holds_of_wide 4 Try.f4 rfl rfl rfl rfl rfl rfl rfl ⟨rfl, rfl, rfl, rfl, rfl⟩ rfl rfl rfl rfl rfl (by kernel_rfl) Try.func4 (by kernel_rfl)
    (of_decide_eq_true (by kernel_rfl)) (by unfold Func.isWrapper; first | (rw [if_pos (by decide +kernel)]; kernel_rfl) | (rw [if_neg (by decide +kernel)]; exact ⟨rfl, rfl⟩))
    (fun os started H enc _ => lifted os started H enc)

end Go.Proofs.Ytfpndmgihhgjhaa.sampleAlways
namespace Go.Proofs.Ytfpndmgihhgjhaa
/-- the given statement -/
theorem sampleAlways_holds : Rows.SampleAlwaysSaid := sampleAlways.over
#print axioms sampleAlways_holds
end Go.Proofs.Ytfpndmgihhgjhaa
