/- Who is removed is neither resident nor known, and all others stay as they were: the law returns true for every room, every row of acts and every key, and its arguments read as they did. -/
import Derived.Test.YtcphhlfbjkeikaaGreatRows
import Derived.Test.YtcphhlfbjkeikaaGreatAf9
import Derived.WalkKit
import Derived.ProofKit
import Derived.OpenShut
import Derived.ShutString
import Derived.ChangeOld
import Derived.Below
import Derived.Carry
import Derived.SizedLaws
namespace Go.Proofs.YtcphhlfbjkeikaaGreat.tinylfuRemoves
open Go.ChangeShapes Go.WideShapes Go.ChangeAt Go.RowKit
open Go.ChangeMaps (open_string shut_string)
set_option linter.unusedVariables false

theorem own : ownKnob Tryz.prog.godebug = none := by kernel_rfl
theorem laidOut : laidOutB Tryz.prog = true := by kernel_rfl
theorem removed {s : Stt} (key : ByteArray) (hok : A.Ok s) : ∃ s', A.remove s key = (inb key (A.keys s), s') ∧ inb key (A.keys s') = false ∧ (∀ z ∈ A.keys s, z ≠ key → inb z (A.keys s') = true) ∧ (A.keys s').length + (if inb key (A.keys s) then 1 else 0) = (A.keys s).length := by
  by_cases hin : key ∈ A.keys s
  · obtain ⟨r1, r2, r3, r4, r5⟩ := A.rem_yes hok hin
    have h1 := hok.once key
    have hc := A.cnt_pos.2 hin
    refine ⟨(A.remove s key).2, ?_, inb_no ?_, fun z hz hne => inb_yes ?_, ?_⟩
    · rw [inb_yes hin, ← r1]
    · rw [← A.cnt_zero]
      have := r4 key
      rw [A.one_self] at this
      omega
    · rw [← A.cnt_pos]
      have := r4 z
      rw [A.one_ne (Ne.symm hne)] at this
      have := A.cnt_pos.2 hz
      omega
    · rw [inb_yes hin]
      simpa using r5
  · rw [A.rem_no hin, inb_no hin]
    exact ⟨s, rfl, inb_no hin, fun z hz _ => inb_yes hz, by simp⟩

set_option maxRecDepth 20000 in
set_option maxHeartbeats 4000000 in
theorem walk (w : World) (a0 : Int) (w0 : (Lit.int .i64 a0).wf = true) (a1 : Option Addr) (len1 cap1 : Nat) (z1 : List Deed) (e1 : z1.length = len1) (m1 : len1 ≤ maxLen) (r1 : DeedsIn w a1 z1) (x1 : ∀ z ∈ z1, (Lit.int .i64 z.kind).wf = true ∧ z.s.size ≤ maxLen) (a2 : ByteArray) (w2 : a2.size ≤ maxLen) :
    Calls Tryz.prog 7 #[.int .i64 a0, .slice a1 len1 cap1, .string a2] w fun e w' => e = .returned (.bool true) ∧ Below w.heap.size w w' := by
  subst e1
  have hv := heavy_any (cap := cap1) r1 m1 (fun z hz => (x1 z hz).2)
  have HR : Hid (DeedsIn w a1 z1) := r1
  have hm1 : z1.length ≤ 9223372036854775807 := by unfold maxLen at m1; omega
  obtain ⟨b0, b1⟩ := bounds_i64 w0
  have hnew := newN_any w (fun k => w.heap.size ≤ k) (fun _ h => h) a0
  clear r1 x1 m1
  by_cases s2 : a2.size ≤ 40
  rotate_left
  · clear hnew
    go_enter Tryz.func7, Tryz.ntmps7
    go_wp2_with (go_at_call 8; refine Calls.mono hv ?_; clear hv; rintro ee w1 ⟨⟨hb, rfl, hli⟩, rfl⟩; clear hli; cases hb)
    all_goals
      go_ret
      exact ⟨rfl, Below.refl _ _⟩
  have hs40 : decide ((40 : Int) < (a2.size : Int)) = false := decide_eq_false (by omega)
  go_enter Tryz.func7, Tryz.ntmps7
  go_wp2_with (first
    | (go_at_call 8; refine Calls.mono hv ?_; clear hv; rintro ee w1 ⟨⟨hb, rfl, hli⟩, rfl⟩; have HLI : Hid (hb = false → Light z1 200) := hli; clear hli; cases hb)
    | (go_at_call 9; refine Calls.mono hnew ?_; clear hnew; rintro ee w2 ⟨e, rfl, h2, hk2⟩; have H2 : Hid (NE e (heldC a0) (fun k => w1.heap.size ≤ k) w2) := h2; have HS2 : Hid (w1.heap.size ≤ w2.heap.size) := hk2.size; have HB2 : Hid (Below w1.heap.size w1 w2) := (hk2.below (Nat.le_refl _) (fun _ h => h)); clear h2 hk2; have hrnew := rnewN_any (w := w2) (D := fun k => w2.heap.size ≤ k) a0 (fun _ h => h))
    | (go_at_call 10; refine Calls.mono hrnew ?_; clear hrnew; rintro ee w3 ⟨x, rfl, h3, hk3⟩; have H3 : Hid (Both e x 0 (A.start (heldC a0)) (fun k => k < w1.heap.size) w3) := (both_start H2.out HS2.out h3 hk3); have HB3 : Hid (Below w1.heap.size w1 w3) := (below_trans' HB2.out (hk3.below (Nat.le_refl _) (fun _ h => h))); clear h3 hk3))
  rotate_left
  · go_ret
    exact ⟨rfl, Below.refl _ _⟩
  have HL : Hid (Light z1 200) := (HLI.out (by first | rfl | trivial))
  have HC : Hid (1 ≤ heldC a0 ∧ heldC a0 ≤ 1024) := heldC_in a0
  clear HLI H2 HS2 HB2
  obtain ⟨c, hc⟩ : ∃ c, c = heldC a0 := ⟨_, rfl⟩
  rw [← hc] at H3 HC
  go_loopw [9] (fun i wr => ∃ (k : Nat) (s : Stt), k ≤ z1.length ∧ k ≤ 200 ∧ i = .int .i64 k ∧ A.Ok s ∧ s.c = c ∧ Both e x (2 * k) s (fun j => j < w1.heap.size) wr ∧ Below w1.heap.size w1 wr) (fun i _ => 200 - (intOf i).toNat)
  case atStart => exact ⟨0, A.start c, Nat.zero_le _, Nat.zero_le _, rfl, A.start_ok HC.out.1 HC.out.2, rfl, H3.out, HB3.out⟩
  case round =>
    obtain ⟨k, s, hk, hk2, rfl, hok, hsc, hA, hB⟩ := hrel
    clear H3 HB3 hc
    have HB : Hid (Below w1.heap.size w1 wr) := hB
    have HA : Hid (Both e x (2 * k) s (fun j => j < w1.heap.size) wr) := hA
    have HOk : Hid (A.Ok s) := hok
    have HSc : Hid (s.c = c) := hsc
    by_cases hin : k < z1.length ∧ k < 200
    · obtain ⟨l1, l2⟩ := hin
      obtain ⟨z, hz⟩ : ∃ z, z1[k]? = some z := ⟨_, List.getElem?_eq_getElem l1⟩
      obtain ⟨gg, off, rfl, c0, c1⟩ := (HR.out.later hB).at hz
      have hzs := HL.out k z l2 hz
      have hact := act_any hA hok (by omega) z.kind z.s (by omega)
      have l3 : (k : Int) < 200 := by omega
      clear hz hA hB hok hsc
      go_wp2_with (go_at_call 11; refine Calls.mono hact ?_; clear hact; rintro ee w4 ⟨s', rfl, hok4, hc4, h4, hk4⟩; have HX4 : Hid (A.Ok s' ∧ s'.c = s.c) := ⟨hok4, hc4⟩; have H4 : Hid (Both e x (2 * k + 2) s' (fun j => j < w1.heap.size) w4) := h4; have HB4 : Hid (Below w1.heap.size w1 w4) := (HB.out.trans (hk4.old HB.out.size)); clear hok4 hc4 h4 hk4)
      go_roundw
      case rel => exact ⟨k + 1, s', l1, l2, by go_num, HX4.out.1, HX4.out.2.trans HSc.out, H4.out, HB4.out⟩
      case measure => simp [intOf]; omega
    · have hend : k = z1.length ∨ (k = 200 ∧ 200 < z1.length) := by omega
      clear hin hA hB hok hsc
      have hE : AE e (2 * k) s (fun j => w1.heap.size ≤ j) wr := HA.out.eng
      have hkeys := keysE_any hE (by omega)
      have HE : Hid (AE e (2 * k) s (fun j => w1.heap.size ≤ j) wr) := hE
      have hkl := keys_few HOk.out
      obtain ⟨s', hrem, f1, f3, f4⟩ := removed a2 HOk.out
      have HF1 : Hid (inb a2 (A.keys s') = false) := f1
      have HF3 : Hid (∀ z ∈ A.keys s, z ≠ a2 → inb z (A.keys s') = true) := f3
      have HRem : Hid (∀ (W : World) (ad : Option Addr) (cp : Nat), Beside (AE e (2 * k) s) ad cp (A.keys s) (fun j => w1.heap.size ≤ j) W → w1.heap.size ≤ W.heap.size → Calls Tryz.prog 31 #[.pointer (some ⟨e, 0, none⟩), .string a2] W fun ee w' => ee = .returned (.bool (inb a2 (A.keys s))) ∧ Beside (AE e (2 * k) s') ad cp (A.keys s) (fun j => w1.heap.size ≤ j) w' ∧ Keeps (fun j => w1.heap.size ≤ j) W w') := by
        intro W ad cp hW hs
        have h := Beside.on (b' := 2 * k) (s' := (A.remove s a2).2) (f := 31) (args := #[.pointer (some ⟨e, 0, none⟩), .string a2]) (Q := fun ee => ee = .returned (.bool (A.remove s a2).1)) hW (fun j hj => Nat.le_trans hs hj) (fun D1 hA1 hD1 => remove_any hA1 HOk.out hD1 (by omega) a2 (by omega))
        rw [hrem] at h
        exact h
      have HSz : Hid (∀ z ∈ A.keys s, z.size ≤ 1000) := fun z hz => key_size hE hz
      clear hE f1 f3 hrem HA
      have hl' : (A.keys s').length ≤ 1024 := by omega
      cases hwas : inb a2 (A.keys s)
      all_goals
        rw [hwas] at f4 HRem
        simp only [if_true, if_false, Bool.false_eq_true] at f4
        rcases hend with hend | hend
      all_goals
        go_wp2_with (first
          | (go_at_call 17; refine Calls.mono hkeys ?_; clear hkeys; rintro ee w5 ⟨ad, cp, rfl, hr5, hb5⟩; have h5 := HE.out.beside.set (fun j hj => Nat.le_trans HB.out.size hj) hr5 hb5; have H5 : Hid (Beside (AE e (2 * k) s) ad cp (A.keys s) (fun j => w1.heap.size ≤ j) w5) := h5; have HB5 : Hid (Below w1.heap.size w1 w5) := (below_trans' HB.out hb5); have hhas1 := h5.has (by omega) a2 (by omega); rw [hwas] at hhas1; clear h5 hr5 hb5)
          | (go_at_call 27; refine Calls.mono hhas1 ?_; clear hhas1; rintro ee w6 ⟨rfl, h6, hb6⟩; have HB6 : Hid (Below w1.heap.size w1 w6) := (below_trans' HB5.out hb6); have hrm := HRem.out _ _ _ h6 HB6.out.size; clear h6 hb6)
          | (go_at_call 31; refine Calls.mono hrm ?_; clear hrm; rintro ee w7 ⟨rfl, h7, hk7⟩; have HB7 : Hid (Below w1.heap.size w1 w7) := (((Keeps.of_below (D := fun j => w1.heap.size ≤ j) HB6.out).trans hk7).below (Nat.le_refl _) (fun _ h => h)); have hhas2 := h7.has (by omega) a2 (by omega); rw [HF1.out] at hhas2; clear h7 hk7)
          | (go_at_call 27; refine Calls.mono hhas2 ?_; clear hhas2; rintro ee w8 ⟨rfl, h8, hb8⟩; have H8 : Hid (Beside (AE e (2 * k) s') ad cp (A.keys s) (fun j => w1.heap.size ≤ j) w8) := h8; have HB8 : Hid (Below w1.heap.size w1 w8) := (below_trans' HB7.out hb8); have hgh := ghosts_any h8.eng; clear h8 hb8)
          | (go_at_call 19; refine Calls.mono hgh ?_; clear hgh; rintro ee w9 ⟨rfl, rfl⟩; have hlh := lhas_any (w := w9) (ad := none) (cap := 0) (zs := []) (Row.rowIn (D := fun _ => True) Row.nil) (by simp) a2; rw [inb_no (by simp)] at hlh)
          | (go_at_call 26; refine Calls.mono hlh ?_; clear hlh; rintro ee w10 ⟨rfl, rfl⟩))
        go_loopw [12] (fun i wy => ∃ j : Nat, j ≤ (A.keys s).length ∧ i = .int .i64 j ∧ Beside (AE e (2 * k) s') ad cp (A.keys s) (fun j => w1.heap.size ≤ j) wy ∧ Below w1.heap.size w1 wy) (fun i _ => (A.keys s).length - (intOf i).toNat)
        case atStart => exact ⟨0, Nat.zero_le _, rfl, H8.out, HB8.out⟩
        case round =>
          obtain ⟨j, hj, rfl, hW, hV⟩ := hrel
          have HW : Hid (Beside (AE e (2 * k) s') ad cp (A.keys s) (fun j => w1.heap.size ≤ j) wr) := hW
          have HV : Hid (Below w1.heap.size w1 wr) := hV
          rcases Nat.lt_or_ge j (A.keys s).length with hlt | hge
          · obtain ⟨z, hz⟩ : ∃ z, (A.keys s)[j]? = some z := ⟨_, List.getElem?_eq_getElem hlt⟩
            have hm := List.mem_of_getElem? hz
            obtain ⟨gg, off, rfl, cz⟩ := hW.row.at hz
            by_cases hzk : z = a2
            · have heq : (z.toList == a2.toList) = true := by rw [texts_beq, decide_eq_true hzk]
              clear hW hV hz hzk hm
              go_wp2_with fail
              go_roundw
              case rel => exact ⟨j + 1, hlt, by go_num, HW.out, HV.out⟩
              case measure => simp [intOf]; omega
            · have heq : (z.toList == a2.toList) = false := by rw [texts_beq, decide_eq_false hzk]
              have hhas3 := hW.has (by omega) z (HSz.out z hm)
              rw [HF3.out z hm hzk] at hhas3
              clear hW hV hz hzk hm
              go_wp2_with (go_at_call 27; refine Calls.mono hhas3 ?_; clear hhas3; rintro ee w11 ⟨rfl, h11, hb11⟩; have H11 : Hid (Beside (AE e (2 * k) s') (some ⟨gg, off, none⟩) cp (A.keys s) (fun j => w1.heap.size ≤ j) w11) := h11; have HB11 : Hid (Below w1.heap.size w1 w11) := (below_trans' HV.out hb11); clear h11 hb11)
              go_roundw
              case rel => exact ⟨j + 1, hlt, by go_num, H11.out, HB11.out⟩
              case measure => simp [intOf]; omega
          · have hlen := hW.len (by omega)
            obtain ⟨m, hm⟩ : ∃ m, m = (A.keys s).length := ⟨_, rfl⟩
            obtain ⟨m', hm'⟩ : ∃ m', m' = (A.keys s').length := ⟨_, rfl⟩
            rw [← hm'] at hlen
            rw [← hm, ← hm'] at f4
            rw [← hm] at hge
            clear hW hV hj
            go_wp2_with (first
              | (go_at_call 14; refine Calls.mono hlen ?_; clear hlen; rintro ee w12 ⟨rfl, h12, hb12⟩; have HB12 : Hid (Below w1.heap.size w1 w12) := (below_trans' HV.out hb12); clear h12 hb12)
              | (go_at_call 23; refine (known_any _).mono ?_; rintro ee w13 ⟨rfl, hb13⟩; have HB13 : Hid (Below w1.heap.size w1 w13) := (below_trans' HB12.out hb13); clear hb13))
            go_ret
            exact ⟨rfl, HB13.out⟩

set_option maxRecDepth 100000 in
theorem lifted (os : Os) (started : os.Started) (H : Type) (enc : TypeId × Value → H) :
    ReturnsInHanded {} Tryz.checked os 7 .any (Rows.tinylfuRemovesSpec.pre6 enc Tryz.prog Tryz.f7 Rows.tinylfuRemovesRow.domain false) (Rows.tinylfuRemovesSpec.post enc Tryz.prog Tryz.f7 false true false false) := by
  refine returnsInHanded_of_change_sized (C := Tryz.checked) own started (by kernel_rfl) Tryz.func7
    (ChangeSpec.witness6 (enc := enc) (C := Tryz.checked) false ⟨#[], #[.int .i64 0, .slice none 0 0, .string ByteArray.empty], []⟩ 8 (by kernel_rfl) (by kernel_rfl) (by kernel_rfl) (by kernel_rfl)) ?_
  intro W base args ds gs before hval0 hW hcnd hsz0 _
  have hval : ∀ (j : Nat) t v, Tryz.f7.params[j]? = some t → args[j]? = some v → Value.okWide Tryz.prog W .any base t v := hval0
  have hsz : (DataW.weightsEach Tryz.prog (Tryz.f7.params.toList ++ Rows.tinylfuRemovesSpec.plain.varTypes Tryz.prog) (ds ++ gs)).all (· ≤ reachBytes) = true := hsz0
  have hW' := hW
  obtain ⟨p, q, hA0, hV, rfl, hfz, hnd⟩ := hW
  have hA : DataW.TrodAll enc Tryz.prog W 0 (fun _ => true) true Tryz.f7.params.toList args.toList ds p := hA0
  rw [Tryz.params7] at hA hval hsz
  obtain ⟨v0, vs0, d0, ds0, p0, q0, hargs, rfl, rfl, h0, s0⟩ := trodAll_cons hA
  obtain ⟨v1, vs1, d1, ds1, p1, q1, rfl, rfl, rfl, h1, s1⟩ := trodAll_cons s0
  obtain ⟨v2, vs2, d2, ds2, p2, q2, rfl, rfl, rfl, h2, s2⟩ := trodAll_cons s1
  obtain ⟨rfl, rfl, rfl⟩ := trodAll_nil s2
  obtain rfl : args = #[v0, v1, v2] := by cases args; simp_all
  obtain ⟨rfl, rfl⟩ := trodVars_none hV
  obtain ⟨a0, rfl, rfl, rfl, w0⟩ := open_int Tryz.underlying3 (hval 0 3 v0 rfl rfl) h0
  obtain ⟨a1, len1, cap1, rfl⟩ := okWide_slice Tryz.underlying22 (hval 1 22 v1 rfl rfl)
  have k1 := h1
  have lt1 : ∀ x ∈ p1, x.block < W.heap.size := by obtain ⟨m, hm⟩ := k1; exact DataW.trod_lt m _ _ _ hm
  obtain ⟨z1, e1, m1, r1, x1⟩ := open_deeds h1
  obtain ⟨a2, rfl, rfl, rfl, w2⟩ := open_string Tryz.underlying9 (hval 2 9 v2 rfl rfl) h2
  clear hA0 hval0 hsz0
  refine (walk W a0 w0 a1 len1 cap1 z1 e1 m1 r1 x1 a2 w2).mono fun e W' ⟨he, bel⟩ => ?_
  subst he
  exact ⟨_, rfl, _, _, _, [], _, [], hW', trodAll_mk1 (shut_bool Tryz.underlying4 _), (trodAll_cons_mk (shut_int Tryz.underlying3 w0) (trodAll_cons_mk (Below.trod laidOut (by kernel_rfl) (of_decide_eq_true (by kernel_rfl)) k1 bel lt1) (trodAll_cons_mk (shut_string Tryz.underlying9 w2) trodAll_mk0))), rfl, bel.frame _, fun h => by cases h⟩

theorem over : Rows.tinylfuRemovesRow.holds Tryz.pinned (OpenSpec.ofChange Rows.tinylfuRemovesSpec) :=
  OpenClaim.holds_of_wide 7 Tryz.f7 rfl rfl rfl rfl rfl rfl rfl ⟨rfl, rfl, rfl, rfl, rfl⟩ rfl rfl rfl rfl rfl (by kernel_rfl) Tryz.func7 (by kernel_rfl)
    (of_decide_eq_true (by kernel_rfl)) (by unfold Func.isWrapper; first | (rw [if_pos (by decide +kernel)]; kernel_rfl) | (rw [if_neg (by decide +kernel)]; exact ⟨rfl, rfl⟩))
    (fun os started H enc _ => lifted os started H enc)
end Go.Proofs.YtcphhlfbjkeikaaGreat.tinylfuRemoves
namespace Go.Proofs.YtcphhlfbjkeikaaGreat
/-- the given statement -/
theorem tinylfuRemoves_holds : Rows.TinylfuRemovesSaid := tinylfuRemoves.over
#print axioms tinylfuRemoves_holds
end Go.Proofs.YtcphhlfbjkeikaaGreat
