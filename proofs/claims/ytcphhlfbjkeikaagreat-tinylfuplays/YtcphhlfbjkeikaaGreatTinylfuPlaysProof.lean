/- Of every script each answer, who is resident, who is known, and all lists are as the document says: the law returns true for every room and every row of acts, and its arguments read as they did. -/
import Derived.Test.YtcphhlfbjkeikaaGreatRows
import Derived.Test.YtcphhlfbjkeikaaGreatAf9
import Derived.WalkKit
import Derived.ProofKit
import Derived.OpenShut
import Derived.ShutString
import Derived.ChangeOld
import Derived.Below
import Derived.Carry
import Derived.SizedLaws
namespace Go.Proofs.YtcphhlfbjkeikaaGreat.tinylfuPlays
open Go.ChangeShapes Go.WideShapes Go.ChangeAt Go.RowKit
open Go.ChangeMaps (open_string shut_string)
set_option linter.unusedVariables false

theorem own : ownKnob Tryz.prog.godebug = none := by kernel_rfl
theorem laidOut : laidOutB Tryz.prog = true := by kernel_rfl
theorem eqb_self (l : List ByteArray) : eqb l l = true := by unfold eqb; simp
theorem both_sizes {e x b : Nat} {s : Stt} {O : Nat → Prop} {w : World} (h : Both e x b s O w) : ∀ k, k ∈ s.t1 ∨ k ∈ s.t2 ∨ k ∈ s.b1 → k.size ≤ 1000 := by
  obtain ⟨z, y, -, h⟩ := h
  obtain ⟨D, hA⟩ := Two.left h
  rintro k h1
  refine hA.sizes ?_
  unfold A.keys
  simp only [List.mem_append]
  rcases h1 with h1 | h1 | h1
  · exact .inl h1
  · exact .inr (.inr h1)
  · exact .inr (.inl h1)
theorem both_right {e x b : Nat} {s : Stt} {O : Nat → Prop} {w : World} (h : Both e x b s O w) : ∃ y D, RE x y s D w := by
  obtain ⟨z, y, -, h⟩ := h
  obtain ⟨D, hR⟩ := Two.right h
  exact ⟨y, D, hR⟩

set_option maxRecDepth 20000 in
set_option maxHeartbeats 4000000 in
theorem walk (w : World) (a0 : Int) (w0 : (Lit.int .i64 a0).wf = true) (a1 : Option Addr) (len1 cap1 : Nat) (z1 : List Deed) (e1 : z1.length = len1) (m1 : len1 ≤ maxLen) (r1 : DeedsIn w a1 z1) (x1 : ∀ z ∈ z1, (Lit.int .i64 z.kind).wf = true ∧ z.s.size ≤ maxLen) :
    Calls Tryz.prog 3 #[.int .i64 a0, .slice a1 len1 cap1] w fun e w' => e = .returned (.bool true) ∧ Below w.heap.size w w' := by
  subst e1
  have hv := heavy_any (cap := cap1) r1 m1 (fun z hz => (x1 z hz).2)
  have HR : Hid (DeedsIn w a1 z1) := r1
  have hm1 : z1.length ≤ 9223372036854775807 := by unfold maxLen at m1; omega
  obtain ⟨b0, b1⟩ := bounds_i64 w0
  have hnew := newN_any w (fun k => w.heap.size ≤ k) (fun _ h => h) a0
  clear r1 x1 m1
  go_enter Tryz.func3, Tryz.ntmps3
  go_wp2_with (first
    | (go_at_call 8; refine Calls.mono hv ?_; clear hv; rintro ee w1 ⟨⟨hb, rfl, hli⟩, rfl⟩; have HLI : Hid (hb = false → Light z1 200) := hli; clear hli; cases hb)
    | (go_at_call 9; refine Calls.mono hnew ?_; clear hnew; rintro ee w2 ⟨e, rfl, h2, hk2⟩; have H2 : Hid (NE e (heldC a0) (fun k => w1.heap.size ≤ k) w2) := h2; have HS2 : Hid (w1.heap.size ≤ w2.heap.size) := hk2.size; have HB2 : Hid (Below w1.heap.size w1 w2) := (hk2.below (Nat.le_refl _) (fun _ h => h)); clear h2 hk2; have hrnew := rnewN_any (w := w2) (D := fun k => w2.heap.size ≤ k) a0 (fun _ h => h))
    | (go_at_call 10; refine Calls.mono hrnew ?_; clear hrnew; rintro ee w3 ⟨x, rfl, h3, hk3⟩; have H3 : Hid (Both e x 0 (A.start (heldC a0)) (fun k => k < w1.heap.size) w3) := (both_start H2.out HS2.out h3 hk3); have HB3 : Hid (Below w1.heap.size w1 w3) := (below_trans' HB2.out (hk3.below (Nat.le_refl _) (fun _ h => h))); clear h3 hk3))
  rotate_left
  · go_ret
    exact ⟨rfl, Below.refl _ _⟩
  have HL : Hid (Light z1 200) := (HLI.out (by first | rfl | trivial))
  have HC : Hid (1 ≤ heldC a0 ∧ heldC a0 ≤ 1024) := heldC_in a0
  clear HLI H2 HS2 HB2
  obtain ⟨c, hc⟩ : ∃ c, c = heldC a0 := ⟨_, rfl⟩
  rw [← hc] at H3 HC
  go_loopw [7] (fun i wr => ∃ (k : Nat) (s : Stt), k ≤ z1.length ∧ k ≤ 200 ∧ i = .int .i64 k ∧ A.Ok s ∧ s.c = c ∧ Both e x (2 * k) s (fun j => j < w1.heap.size) wr ∧ Below w1.heap.size w1 wr) (fun i _ => 200 - (intOf i).toNat)
  case atStart => exact ⟨0, A.start c, Nat.zero_le _, Nat.zero_le _, rfl, A.start_ok HC.out.1 HC.out.2, rfl, H3.out, HB3.out⟩
  case round =>
    obtain ⟨k, s, hk, hk2, rfl, hok, hsc, hA, hB⟩ := hrel
    clear H3 HB3 hc
    have HB : Hid (Below w1.heap.size w1 wr) := hB
    have HA : Hid (Both e x (2 * k) s (fun j => j < w1.heap.size) wr) := hA
    have HOk : Hid (A.Ok s) := hok
    have HSc : Hid (s.c = c) := hsc
    by_cases hin : k < z1.length ∧ k < 200
    · obtain ⟨l1, l2⟩ := hin
      obtain ⟨z, hz⟩ : ∃ z, z1[k]? = some z := ⟨_, List.getElem?_eq_getElem l1⟩
      obtain ⟨gg, off, rfl, c0, c1⟩ := (HR.out.later hB).at hz
      have hzs := HL.out k z l2 hz
      have hact := act_any hA hok (by omega) z.kind z.s (by omega)
      have l3 : (k : Int) < 200 := by omega
      clear hz hA hB hok hsc
      go_wp2_with (first
        | (go_at_call 11; refine Calls.mono hact ?_; clear hact; rintro ee w4 ⟨s', rfl, hok4, hc4, h4, hk4⟩; have HX4 : Hid (A.Ok s' ∧ s'.c = s.c) := ⟨hok4, hc4⟩; have H4 : Hid (Both e x (2 * k + 2) s' (fun j => j < w1.heap.size) w4) := h4; have HB4 : Hid (Below w1.heap.size w1 w4) := (HB.out.trans (hk4.old HB.out.size)); have hst := stateE_any h4.eng; have HRS : Hid (∀ W, Below w4.heap.size w4 W → Calls Tryz.prog 13 #[.pointer (some ⟨x, 0, none⟩)] W fun ee w' => ee = .returned (.string (stT s')) ∧ Below W.heap.size W w') := (fun W hW => by obtain ⟨yy, D, hR⟩ := both_right (h4.below hW); exact rstate_any hR (Small.of hok4) (both_sizes h4)); have HRL : Hid (∀ W, Below w4.heap.size w4 W → Calls Tryz.prog 15 #[.pointer (some ⟨x, 0, none⟩)] W fun ee w' => ee = .returned (.int .i64 ((A.keys s').length : Nat)) ∧ Below W.heap.size W w') := (fun W hW => by obtain ⟨yy, D, hR⟩ := both_right (h4.below hW); refine (rlen_any hR (Small.of hok4)).mono ?_; rintro ee w' ⟨h1, q, rfl⟩; exact ⟨h1, below_drewN (Below.refl _ W) q⟩); have HEL : Hid (∀ W, Below w4.heap.size w4 W → Calls Tryz.prog 14 #[.pointer (some ⟨e, 0, none⟩)] W fun ee w' => ee = .returned (.int .i64 ((A.keys s').length : Nat)) ∧ Below W.heap.size W w') := (fun W hW => keys_any (h4.below hW).eng (by omega)); rw [← stT_eq] at hst; have htt : ((stT s').toList == (stT s').toList) = true := (by simp); clear hok4 hc4 h4 hk4; generalize stT s' = tt at *; generalize (A.keys s').length = m at *)
        | (go_at_call 12; refine Calls.mono hst ?_; clear hst; rintro ee w5 ⟨rfl, hb5⟩; have HB5 : Hid (Below w4.heap.size w4 w5) := hb5; clear hb5)
        | (go_at_call 13; refine Calls.mono (HRS.out _ HB5.out) ?_; rintro ee w6 ⟨rfl, hb6⟩; have HB6 : Hid (Below w4.heap.size w4 w6) := below_trans' HB5.out hb6; clear hb6)
        | (go_at_call 14; refine Calls.mono (HEL.out _ HB6.out) ?_; rintro ee w7 ⟨rfl, hb7⟩; have HB7 : Hid (Below w4.heap.size w4 w7) := below_trans' HB6.out hb7; clear hb7)
        | (go_at_call 15; refine Calls.mono (HRL.out _ HB7.out) ?_; rintro ee w8 ⟨rfl, hb8⟩; have HB8 : Hid (Below w4.heap.size w4 w8) := below_trans' HB7.out hb8; clear hb8))
      go_roundw
      case rel => exact ⟨k + 1, s', l1, l2, by go_num, HX4.out.1, HX4.out.2.trans HSc.out, H4.out.below HB8.out, below_trans' HB4.out HB8.out⟩
      case measure => simp [intOf]; omega
    · have hend : k = z1.length ∨ (k = 200 ∧ 200 < z1.length) := by omega
      clear hin hA hB hok hsc
      have hkf := keys_few HOk.out
      obtain ⟨gs, hgs⟩ : ∃ gs : List ByteArray, gs = [] := ⟨_, rfl⟩
      have hgf : gs.length ≤ 4100 := by rw [hgs]; simp
      have hkeys := keysE_any HA.out.eng (by omega)
      have HRK : Hid (∀ W, Below wr.heap.size wr W → Calls Tryz.prog 18 #[.pointer (some ⟨x, 0, none⟩)] W fun e w' => ∃ ad cap, e = .returned (.slice ad (A.keys s).length cap) ∧ Row (W.heap.size ≤ ·) w' ad cap (A.keys s) ∧ Below W.heap.size W w') := fun W hW => by
        obtain ⟨yy, D, hR⟩ := both_right (HA.out.below hW)
        exact rkeys_any hR (Small.of HOk.out)
      have HRG : Hid (∀ W, Below wr.heap.size wr W → Calls Tryz.prog 20 #[.pointer (some ⟨x, 0, none⟩)] W fun e w' => ∃ ad cap, e = .returned (.slice ad (gs).length cap) ∧ Row (W.heap.size ≤ ·) w' ad cap (gs) ∧ Below W.heap.size W w') := fun W hW => by
        rw [hgs]
        exact rghosts_any.mono (by rintro ee w' ⟨rfl, rfl⟩; exact ⟨none, 0, rfl, Row.nil, Below.refl _ _⟩)
      have HRR : Hid (∀ W, Below wr.heap.size wr W → Calls Tryz.prog 22 #[.pointer (some ⟨x, 0, none⟩)] W fun e w' => e = .returned (.int .i64 (s.c : Nat)) ∧ w' = W) := fun W hW => by
        obtain ⟨yy, D, hR⟩ := both_right (HA.out.below hW)
        exact rroom_any hR
      have HEG : Hid (∀ W, Below wr.heap.size wr W → Calls Tryz.prog 19 #[.pointer (some ⟨e, 0, none⟩)] W fun ee w' => ∃ ad cap, ee = .returned (.slice ad (gs).length cap) ∧ Row (W.heap.size ≤ ·) w' ad cap (gs) ∧ Below W.heap.size W w') := fun W hW => by
        rw [hgs]
        exact (ghosts_any (HA.out.below hW).eng).mono (by rintro ee w' ⟨rfl, rfl⟩; exact ⟨none, 0, rfl, Row.nil, Below.refl _ _⟩)
      have HER : Hid (∀ W, Below wr.heap.size wr W → Calls Tryz.prog 21 #[.pointer (some ⟨e, 0, none⟩)] W fun ee w' => ee = .returned (.int .i64 (s.c : Nat)) ∧ w' = W) := fun W hW => room_any (HA.out.below hW).eng
      have HEK : Hid (eqb (A.keys s) (A.keys s) = true ∧ eqb (gs) (gs) = true) := ⟨eqb_self _, eqb_self _⟩
      generalize A.keys s = ks at *
      clear HA hgs
      rcases hend with rfl | ⟨rfl, h200⟩
      all_goals
        go_wp2_with (first
          | (go_at_call 17; refine Calls.mono hkeys ?_; clear hkeys; rintro ee w5 ⟨ad5, cp5, rfl, hr5, hb5⟩; have HR5 : Hid (RowIn Value.string w5 ad5 ks) := hr5.rowIn; have HB5 : Hid (Below wr.heap.size wr w5) := hb5; clear hr5 hb5)
          | (go_at_call 18; refine Calls.mono (HRK.out _ HB5.out) ?_; rintro ee w6 ⟨ad6, cp6, rfl, hr6, hb6⟩; have HB6 : Hid (Below wr.heap.size wr w6) := below_trans' HB5.out hb6; have htx := texts_any (c1 := cp5) (c2 := cp6) (HR5.out.later hb6) hr6.rowIn (by omega) (by omega); rw [HEK.out.1] at htx; clear hr6 hb6)
          | (go_at_call 16; refine Calls.mono htx ?_; clear htx; rintro ee w7 ⟨rfl, hb7⟩; have HB7 : Hid (Below wr.heap.size wr w7) := below_trans' HB6.out hb7; clear hb7)
          | (go_at_call 19; refine Calls.mono (HEG.out _ HB7.out) ?_; rintro ee w8 ⟨ad8, cp8, rfl, hr8, hb8⟩; have HR8 : Hid (RowIn Value.string w8 ad8 gs) := hr8.rowIn; have HB8 : Hid (Below wr.heap.size wr w8) := below_trans' HB7.out hb8; clear hr8 hb8)
          | (go_at_call 20; refine Calls.mono (HRG.out _ HB8.out) ?_; rintro ee w9 ⟨ad9, cp9, rfl, hr9, hb9⟩; have HB9 : Hid (Below wr.heap.size wr w9) := below_trans' HB8.out hb9; have htg := texts_any (c1 := cp8) (c2 := cp9) (HR8.out.later hb9) hr9.rowIn (by omega) (by omega); rw [HEK.out.2] at htg; clear hr9 hb9)
          | (go_at_call 16; refine Calls.mono htg ?_; clear htg; rintro ee w10 ⟨rfl, hb10⟩; have HB10 : Hid (Below wr.heap.size wr w10) := below_trans' HB9.out hb10; clear hb10)
          | (go_at_call 21; refine Calls.mono (HER.out _ HB10.out) ?_; rintro ee w11 ⟨rfl, rfl⟩)
          | (go_at_call 22; refine Calls.mono (HRR.out _ HB10.out) ?_; rintro ee w11 ⟨rfl, rfl⟩)
          | (go_at_call 23; refine (known_any _).mono ?_; rintro ee w13 ⟨rfl, hb13⟩; have HB13 : Hid (Below wr.heap.size wr w13) := (below_trans' HB10.out hb13); clear hb13))
        go_ret
        exact ⟨by simp, below_trans' HB.out HB13.out⟩

set_option maxRecDepth 100000 in
theorem lifted (os : Os) (started : os.Started) (H : Type) (enc : TypeId × Value → H) :
    ReturnsInHanded {} Tryz.checked os 3 .any (Rows.tinylfuPlaysSpec.pre6 enc Tryz.prog Tryz.f3 Rows.tinylfuPlaysRow.domain false) (Rows.tinylfuPlaysSpec.post enc Tryz.prog Tryz.f3 false true false false) := by
  refine returnsInHanded_of_change_sized (C := Tryz.checked) own started (by kernel_rfl) Tryz.func3
    (ChangeSpec.witness6 (enc := enc) (C := Tryz.checked) false ⟨#[], #[.int .i64 0, .slice none 0 0], []⟩ 8 (by kernel_rfl) (by kernel_rfl) (by kernel_rfl) (by kernel_rfl)) ?_
  intro W base args ds gs before hval0 hW hcnd hsz0 _
  have hval : ∀ (j : Nat) t v, Tryz.f3.params[j]? = some t → args[j]? = some v → Value.okWide Tryz.prog W .any base t v := hval0
  have hsz : (DataW.weightsEach Tryz.prog (Tryz.f3.params.toList ++ Rows.tinylfuPlaysSpec.plain.varTypes Tryz.prog) (ds ++ gs)).all (· ≤ reachBytes) = true := hsz0
  have hW' := hW
  obtain ⟨p, q, hA0, hV, rfl, hfz, hnd⟩ := hW
  have hA : DataW.TrodAll enc Tryz.prog W 0 (fun _ => true) true Tryz.f3.params.toList args.toList ds p := hA0
  rw [Tryz.params3] at hA hval hsz
  obtain ⟨v0, vs0, d0, ds0, p0, q0, hargs, rfl, rfl, h0, s0⟩ := trodAll_cons hA
  obtain ⟨v1, vs1, d1, ds1, p1, q1, rfl, rfl, rfl, h1, s1⟩ := trodAll_cons s0
  obtain ⟨rfl, rfl, rfl⟩ := trodAll_nil s1
  obtain rfl : args = #[v0, v1] := by cases args; simp_all
  obtain ⟨rfl, rfl⟩ := trodVars_none hV
  obtain ⟨a0, rfl, rfl, rfl, w0⟩ := open_int Tryz.underlying3 (hval 0 3 v0 rfl rfl) h0
  obtain ⟨a1, len1, cap1, rfl⟩ := okWide_slice Tryz.underlying22 (hval 1 22 v1 rfl rfl)
  have k1 := h1
  have lt1 : ∀ x ∈ p1, x.block < W.heap.size := by obtain ⟨m, hm⟩ := k1; exact DataW.trod_lt m _ _ _ hm
  obtain ⟨z1, e1, m1, r1, x1⟩ := open_deeds h1
  clear hA0 hval0 hsz0
  refine (walk W a0 w0 a1 len1 cap1 z1 e1 m1 r1 x1).mono fun e W' ⟨he, bel⟩ => ?_
  subst he
  exact ⟨_, rfl, _, _, _, [], _, [], hW', trodAll_mk1 (shut_bool Tryz.underlying4 _), (trodAll_cons_mk (shut_int Tryz.underlying3 w0) (trodAll_cons_mk (Below.trod laidOut (by kernel_rfl) (of_decide_eq_true (by kernel_rfl)) k1 bel lt1) trodAll_mk0)), rfl, bel.frame _, fun h => by cases h⟩

theorem over : Rows.tinylfuPlaysRow.holds Tryz.pinned (OpenSpec.ofChange Rows.tinylfuPlaysSpec) :=
  OpenClaim.holds_of_wide 3 Tryz.f3 rfl rfl rfl rfl rfl rfl rfl ⟨rfl, rfl, rfl, rfl, rfl⟩ rfl rfl rfl rfl rfl (by kernel_rfl) Tryz.func3 (by kernel_rfl)
    (of_decide_eq_true (by kernel_rfl)) (by unfold Func.isWrapper; first | (rw [if_pos (by decide +kernel)]; kernel_rfl) | (rw [if_neg (by decide +kernel)]; exact ⟨rfl, rfl⟩))
    (fun os started H enc _ => lifted os started H enc)
end Go.Proofs.YtcphhlfbjkeikaaGreat.tinylfuPlays
namespace Go.Proofs.YtcphhlfbjkeikaaGreat
/-- the given statement -/
theorem tinylfuPlays_holds : Rows.TinylfuPlaysSaid := tinylfuPlays.over
#print axioms tinylfuPlays_holds
end Go.Proofs.YtcphhlfbjkeikaaGreat
