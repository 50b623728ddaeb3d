/- Never more are resident than there is room, and the lists are within their bounds, whatever is done: the law returns true for every room and every row of acts, and its arguments read as they did. -/
import Derived.Test.YtcphhlfbjkeikaaGreatRows
import Derived.Test.YtcphhlfbjkeikaaGreatAf9
import Derived.WalkKit
import Derived.ProofKit
import Derived.OpenShut
import Derived.ShutString
import Derived.ChangeOld
import Derived.Below
import Derived.Carry
import Derived.SizedLaws
namespace Go.Proofs.YtcphhlfbjkeikaaGreat.tinylfuBounds
open Go.ChangeShapes Go.WideShapes Go.ChangeAt Go.RowKit
open Go.ChangeMaps (open_string shut_string)
set_option linter.unusedVariables false

theorem own : ownKnob Tryz.prog.godebug = none := by kernel_rfl
theorem laidOut : laidOutB Tryz.prog = true := by kernel_rfl
section
variable {D : Nat → Prop} {w : World} {e b : Nat} {s : Stt}
theorem bounded_any (H : AE e b s D w) (_ : A.Ok s) (_ : b ≤ 100000) :
    Calls Tryz.prog 24 #[.pointer (some ⟨e, 0, none⟩)] w fun ee w' => ee = .returned (.bool true) ∧ Below w.heap.size w w' := by
  have hg := ghosts_any H
  clear H
  go_enter Tryz.func24, Tryz.ntmps24
  go_wp2_with (go_at_call 19; refine Calls.mono hg ?_; clear hg; rintro ee w3 ⟨rfl, rfl⟩)
  go_ret
  exact ⟨by first | rfl | simp, Below.refl _ _⟩
end

set_option maxRecDepth 20000 in
set_option maxHeartbeats 4000000 in
theorem walk (w : World) (a0 : Int) (w0 : (Lit.int .i64 a0).wf = true) (a1 : Option Addr) (len1 cap1 : Nat) (z1 : List Deed) (e1 : z1.length = len1) (m1 : len1 ≤ maxLen) (r1 : DeedsIn w a1 z1) (x1 : ∀ z ∈ z1, (Lit.int .i64 z.kind).wf = true ∧ z.s.size ≤ maxLen) :
    Calls Tryz.prog 4 #[.int .i64 a0, .slice a1 len1 cap1] w fun e w' => e = .returned (.bool true) ∧ Below w.heap.size w w' := by
  subst e1
  have hv := heavy_any (cap := cap1) r1 m1 (fun z hz => (x1 z hz).2)
  have HR : Hid (DeedsIn w a1 z1) := r1
  have hm1 : z1.length ≤ 9223372036854775807 := by unfold maxLen at m1; omega
  obtain ⟨b0, b1⟩ := bounds_i64 w0
  have hnew := newN_any w (fun k => w.heap.size ≤ k) (fun _ h => h) a0
  clear r1 x1 m1
  go_enter Tryz.func4, Tryz.ntmps4
  go_wp2_with (first
    | (go_at_call 8; refine Calls.mono hv ?_; clear hv; rintro ee w1 ⟨⟨hb, rfl, hli⟩, rfl⟩; have HLI : Hid (hb = false → Light z1 200) := hli; clear hli; cases hb)
    | (go_at_call 9; refine Calls.mono hnew ?_; clear hnew; rintro ee w2 ⟨e, rfl, h2, hk2⟩; have H2 : Hid (NE e (heldC a0) (fun k => w1.heap.size ≤ k) w2) := h2; have HS2 : Hid (w1.heap.size ≤ w2.heap.size) := hk2.size; have HB2 : Hid (Below w1.heap.size w1 w2) := (hk2.below (Nat.le_refl _) (fun _ h => h)); clear h2 hk2; have hrnew := rnewN_any (w := w2) (D := fun k => w2.heap.size ≤ k) a0 (fun _ h => h))
    | (go_at_call 10; refine Calls.mono hrnew ?_; clear hrnew; rintro ee w3 ⟨x, rfl, h3, hk3⟩; have H3 : Hid (Both e x 0 (A.start (heldC a0)) (fun k => k < w1.heap.size) w3) := (both_start H2.out HS2.out h3 hk3); have HB3 : Hid (Below w1.heap.size w1 w3) := (below_trans' HB2.out (hk3.below (Nat.le_refl _) (fun _ h => h))); clear h3 hk3))
  rotate_left
  · go_ret
    exact ⟨rfl, Below.refl _ _⟩
  have HL : Hid (Light z1 200) := (HLI.out (by first | rfl | trivial))
  have HC : Hid (1 ≤ heldC a0 ∧ heldC a0 ≤ 1024) := heldC_in a0
  clear HLI H2 HS2 HB2
  obtain ⟨c, hc⟩ : ∃ c, c = heldC a0 := ⟨_, rfl⟩
  rw [← hc] at H3 HC
  go_loopw [7] (fun i wr => ∃ (k : Nat) (s : Stt), k ≤ z1.length ∧ k ≤ 200 ∧ i = .int .i64 k ∧ A.Ok s ∧ s.c = c ∧ Both e x (2 * k) s (fun j => j < w1.heap.size) wr ∧ Below w1.heap.size w1 wr) (fun i _ => 200 - (intOf i).toNat)
  case atStart => exact ⟨0, A.start c, Nat.zero_le _, Nat.zero_le _, rfl, A.start_ok HC.out.1 HC.out.2, rfl, H3.out, HB3.out⟩
  case round =>
    obtain ⟨k, s, hk, hk2, rfl, hok, hsc, hA, hB⟩ := hrel
    clear H3 HB3 hc
    have HB : Hid (Below w1.heap.size w1 wr) := hB
    have HA : Hid (Both e x (2 * k) s (fun j => j < w1.heap.size) wr) := hA
    have HOk : Hid (A.Ok s) := hok
    have HSc : Hid (s.c = c) := hsc
    by_cases hin : k < z1.length ∧ k < 200
    · obtain ⟨l1, l2⟩ := hin
      obtain ⟨z, hz⟩ : ∃ z, z1[k]? = some z := ⟨_, List.getElem?_eq_getElem l1⟩
      obtain ⟨gg, off, rfl, c0, c1⟩ := (HR.out.later hB).at hz
      have hzs := HL.out k z l2 hz
      have hact := act_any hA hok (by omega) z.kind z.s (by omega)
      have l3 : (k : Int) < 200 := by omega
      clear hz hA hB hok hsc
      go_wp2_with (first
        | (go_at_call 11; refine Calls.mono hact ?_; clear hact; rintro ee w4 ⟨s', rfl, hok4, hc4, h4, hk4⟩; have HX4 : Hid (A.Ok s' ∧ s'.c = s.c) := ⟨hok4, hc4⟩; have H4 : Hid (Both e x (2 * k + 2) s' (fun j => j < w1.heap.size) w4) := h4; have HE4 : Hid (AE e (2 * k + 2) s' (fun j => w1.heap.size ≤ j) w4) := h4.eng; have HB4 : Hid (Below w1.heap.size w1 w4) := (HB.out.trans (hk4.old HB.out.size)); have hlen1 := keys_any h4.eng (by omega); have hl4 : Hid ((A.keys s').length ≤ s'.c) := hok4.res; have HBd : Hid (∀ W, AE e (2 * k + 2) s' (fun j => w1.heap.size ≤ j) W → Calls Tryz.prog 24 #[.pointer (some ⟨e, 0, none⟩)] W fun ee w' => ee = .returned (.bool true) ∧ Below W.heap.size W w') := (fun W hW => bounded_any hW hok4 (by omega)); obtain ⟨m, hm⟩ : ∃ m, m = (A.keys s').length := ⟨_, rfl⟩; have HM : Hid (m = (A.keys s').length) := hm; have hmc : m ≤ s'.c := (by rw [hm]; exact hl4.out); have hmc' : ¬ ((s'.c : Int) < (m : Int)) := (by omega); rw [← hm] at hlen1; clear hok4 hc4 h4 hk4 hm hl4 hmc)
        | (go_at_call 14; refine Calls.mono hlen1 ?_; clear hlen1; rintro ee w5 ⟨rfl, hb5⟩; have HE5 : Hid (AE e (2 * k + 2) s' (fun j => w1.heap.size ≤ j) w5) := HE4.out.below hb5; have HB5 : Hid (Below w4.heap.size w4 w5) := hb5; have hroom := room_any HE5.out; have hkeys := keysE_any HE5.out (by omega); rw [← HM.out] at hkeys; clear hb5)
        | (go_at_call 21; refine Calls.mono hroom ?_; clear hroom; rintro ee w6 ⟨rfl, rfl⟩)
        | (go_at_call 17; refine Calls.mono hkeys ?_; clear hkeys; rintro ee w7 ⟨ad, cp, rfl, hr7, hb7⟩; have HE7 : Hid (AE e (2 * k + 2) s' (fun j => w1.heap.size ≤ j) w7) := HE5.out.below hb7; have HB7 : Hid (Below w4.heap.size w4 w7) := below_trans' HB5.out hb7; have hlen2 := keys_any HE7.out (by omega); rw [← HM.out] at hlen2; clear hb7 hr7)
        | (go_at_call 14; refine Calls.mono hlen2 ?_; clear hlen2; rintro ee w8 ⟨rfl, hb8⟩; have HE8 : Hid (AE e (2 * k + 2) s' (fun j => w1.heap.size ≤ j) w8) := HE7.out.below hb8; have HB8 : Hid (Below w4.heap.size w4 w8) := below_trans' HB7.out hb8; have hbd := HBd.out w8 HE8.out; clear hb8)
        | (go_at_call 24; refine Calls.mono hbd ?_; clear hbd; rintro ee w9 ⟨rfl, hb9⟩; have HB9 : Hid (Below w4.heap.size w4 w9) := below_trans' HB8.out hb9; clear hb9))
      go_roundw
      case rel => exact ⟨k + 1, s', l1, l2, by go_num, HX4.out.1, HX4.out.2.trans HSc.out, H4.out.below HB9.out, below_trans' HB4.out HB9.out⟩
      case measure => simp [intOf]; omega
    · have hend : k = z1.length ∨ (k = 200 ∧ 200 < z1.length) := by omega
      clear hin hA hB hok hsc
      rcases hend with rfl | ⟨rfl, h200⟩
      all_goals
        go_wp2_with (go_at_call 23; refine (known_any _).mono ?_; rintro ee w13 ⟨rfl, hb13⟩; have HB13 : Hid (Below w1.heap.size w1 w13) := (below_trans' HB.out hb13); clear hb13)
        go_ret
        exact ⟨rfl, HB13.out⟩

set_option maxRecDepth 100000 in
theorem lifted (os : Os) (started : os.Started) (H : Type) (enc : TypeId × Value → H) :
    ReturnsInHanded {} Tryz.checked os 4 .any (Rows.tinylfuBoundsSpec.pre6 enc Tryz.prog Tryz.f4 Rows.tinylfuBoundsRow.domain false) (Rows.tinylfuBoundsSpec.post enc Tryz.prog Tryz.f4 false true false false) := by
  refine returnsInHanded_of_change_sized (C := Tryz.checked) own started (by kernel_rfl) Tryz.func4
    (ChangeSpec.witness6 (enc := enc) (C := Tryz.checked) false ⟨#[], #[.int .i64 0, .slice none 0 0], []⟩ 8 (by kernel_rfl) (by kernel_rfl) (by kernel_rfl) (by kernel_rfl)) ?_
  intro W base args ds gs before hval0 hW hcnd hsz0 _
  have hval : ∀ (j : Nat) t v, Tryz.f4.params[j]? = some t → args[j]? = some v → Value.okWide Tryz.prog W .any base t v := hval0
  have hsz : (DataW.weightsEach Tryz.prog (Tryz.f4.params.toList ++ Rows.tinylfuBoundsSpec.plain.varTypes Tryz.prog) (ds ++ gs)).all (· ≤ reachBytes) = true := hsz0
  have hW' := hW
  obtain ⟨p, q, hA0, hV, rfl, hfz, hnd⟩ := hW
  have hA : DataW.TrodAll enc Tryz.prog W 0 (fun _ => true) true Tryz.f4.params.toList args.toList ds p := hA0
  rw [Tryz.params4] at hA hval hsz
  obtain ⟨v0, vs0, d0, ds0, p0, q0, hargs, rfl, rfl, h0, s0⟩ := trodAll_cons hA
  obtain ⟨v1, vs1, d1, ds1, p1, q1, rfl, rfl, rfl, h1, s1⟩ := trodAll_cons s0
  obtain ⟨rfl, rfl, rfl⟩ := trodAll_nil s1
  obtain rfl : args = #[v0, v1] := by cases args; simp_all
  obtain ⟨rfl, rfl⟩ := trodVars_none hV
  obtain ⟨a0, rfl, rfl, rfl, w0⟩ := open_int Tryz.underlying3 (hval 0 3 v0 rfl rfl) h0
  obtain ⟨a1, len1, cap1, rfl⟩ := okWide_slice Tryz.underlying22 (hval 1 22 v1 rfl rfl)
  have k1 := h1
  have lt1 : ∀ x ∈ p1, x.block < W.heap.size := by obtain ⟨m, hm⟩ := k1; exact DataW.trod_lt m _ _ _ hm
  obtain ⟨z1, e1, m1, r1, x1⟩ := open_deeds h1
  clear hA0 hval0 hsz0
  refine (walk W a0 w0 a1 len1 cap1 z1 e1 m1 r1 x1).mono fun e W' ⟨he, bel⟩ => ?_
  subst he
  exact ⟨_, rfl, _, _, _, [], _, [], hW', trodAll_mk1 (shut_bool Tryz.underlying4 _), (trodAll_cons_mk (shut_int Tryz.underlying3 w0) (trodAll_cons_mk (Below.trod laidOut (by kernel_rfl) (of_decide_eq_true (by kernel_rfl)) k1 bel lt1) trodAll_mk0)), rfl, bel.frame _, fun h => by cases h⟩

theorem over : Rows.tinylfuBoundsRow.holds Tryz.pinned (OpenSpec.ofChange Rows.tinylfuBoundsSpec) :=
  OpenClaim.holds_of_wide 4 Tryz.f4 rfl rfl rfl rfl rfl rfl rfl ⟨rfl, rfl, rfl, rfl, rfl⟩ rfl rfl rfl rfl rfl (by kernel_rfl) Tryz.func4 (by kernel_rfl)
    (of_decide_eq_true (by kernel_rfl)) (by unfold Func.isWrapper; first | (rw [if_pos (by decide +kernel)]; kernel_rfl) | (rw [if_neg (by decide +kernel)]; exact ⟨rfl, rfl⟩))
    (fun os started H enc _ => lifted os started H enc)
end Go.Proofs.YtcphhlfbjkeikaaGreat.tinylfuBounds
namespace Go.Proofs.YtcphhlfbjkeikaaGreat
/-- the given statement -/
theorem tinylfuBounds_holds : Rows.TinylfuBoundsSaid := tinylfuBounds.over
#print axioms tinylfuBounds_holds
end Go.Proofs.YtcphhlfbjkeikaaGreat
