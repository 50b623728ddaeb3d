/- Of a key that came often it is told, behind others that came once each, as the document's machine tells: the law returns true for all, and its arguments read as they did. -/
import Derived.Test.YtcphhlfbjkeikabGreatRows
import Derived.Test.YtcphhlfbjkeikabGreatAf9
import Derived.WalkKit
import Derived.ProofKit
import Derived.OpenShut
import Derived.ShutString
import Derived.ChangeOld
import Derived.Below
import Derived.Carry
import Derived.SizedLaws
namespace Go.Proofs.YtcphhlfbjkeikabGreat.tinylfuOften
open Go.ChangeShapes Go.WideShapes Go.ChangeAt Go.RowKit
open Go.ChangeMaps (open_string shut_string)
set_option linter.unusedVariables false

theorem own : ownKnob Tryz.prog.godebug = none := by kernel_rfl
theorem laidOut : laidOutB Tryz.prog = true := by kernel_rfl
section
variable {H : Type} {enc : TypeId × Value → H} {W : World} {a : Option Addr} {len cap : Nat} {d : DataW H} {ps : List MemPlace}
theorem cap_texts (h : DataW.Trod enc Tryz.prog W 0 (fun _ => true) true 22 (.slice a len cap) d ps) : len ≤ cap ∧ cap ≤ maxLen := by
  obtain ⟨fuel, hf⟩ := h
  rcases Go.Deep.open_strs Tryz.underlying22 Tryz.underlying9 (by kernel_rfl) hf with ⟨hcs, _⟩ | ⟨x, l, c, m, Sx, hcs, _, hl, hm, hmm, hd, hcell⟩
  · simp [Value.cells] at hcs
    obtain ⟨rfl, rfl, rfl⟩ := hcs
    exact ⟨Nat.zero_le _, Nat.zero_le _⟩
  · simp [Value.cells] at hcs
    obtain ⟨rfl, rfl, rfl⟩ := hcs
    exact ⟨by omega, by omega⟩
end
theorem rowIn_take {w : World} {ad : Option Addr} {zs : List ByteArray} (h : RowIn Value.string w ad zs) (k : Nat) : RowIn Value.string w ad (zs.take k) := by
  rcases h with h | ⟨g, off, e, h⟩
  · exact .inl (by rw [h]; simp)
  · refine .inr ⟨g, off, e, fun i z hz => h i z ?_⟩
    rw [List.getElem?_take] at hz
    split at hz
    · exact hz
    · cases hz
theorem lhas_of {w : World} {ad : Option Addr} {cap n : Nat} {zs : List ByteArray} (h : RowIn Value.string w ad zs) (hn : zs.length = n) (hm : n ≤ 9223372036854775807) (hx : zs.length ≤ maxLen) (key : ByteArray) (v : Bool) (hv : inb key zs = v) :
    Calls Tryz.prog 9 #[.slice ad n cap, .string key] w fun e w' => e = .returned (.bool v) ∧ w' = w := by
  subst hn hv
  exact lhas_any h hx key

theorem e35 : (⟨#[35]⟩ : ByteArray).toList = [35] := by simp

set_option maxRecDepth 20000 in
set_option maxHeartbeats 2000000 in
theorem walk (w : World) (a0 : Int) (w0 : (Lit.int .i64 a0).wf = true) (a1 : Int) (w1 : (Lit.int .i64 a1).wf = true) (a2 : Option Addr) (len2 cap2 : Nat) (z2 : List ByteArray) (e2 : z2.length = len2) (m2 : len2 ≤ maxLen) (r2 : RowIn Value.string w a2 z2) (x2 : ∀ z ∈ z2, z.size ≤ 140737488351232) (cp2 : len2 ≤ cap2 ∧ cap2 ≤ maxLen) :
    Calls Tryz.prog 3 #[.int .i64 a0, .int .i64 a1, .slice a2 len2 cap2] w fun e w' => e = .returned (.bool true) ∧ Below w.heap.size w w' := by
  subst e2
  obtain ⟨b0, b1⟩ := bounds_i64 w0
  obtain ⟨b2, b3⟩ := bounds_i64 w1
  have hlg2 := long_any (cap := cap2) r2 m2 x2
  have M2 : z2.length ≤ 9223372036854775807 := by unfold maxLen at m2; omega
  have M3 : cap2 ≤ 9223372036854775807 := by have := cp2.2; unfold maxLen at this; omega
  have M4 : z2.length ≤ cap2 := cp2.1
  have HR2 : Hid (RowIn Value.string w a2 z2) := r2
  clear r2 x2 cp2 w0 w1
  by_cases g408 : a0 < 8
  · clear hlg2
    go_enter Tryz.func3, Tryz.ntmps3
    go_wp2_with fail
    go_ret
    exact ⟨rfl, Below.refl _ _⟩
  by_cases g587 : 60 < a0
  · clear hlg2
    go_enter Tryz.func3, Tryz.ntmps3
    go_wp2_with fail
    go_ret
    exact ⟨rfl, Below.refl _ _⟩
  by_cases g767 : a1 < 4
  · clear hlg2
    go_enter Tryz.func3, Tryz.ntmps3
    go_wp2_with fail
    go_ret
    exact ⟨rfl, Below.refl _ _⟩
  by_cases g946 : 10 < a1
  · clear hlg2
    go_enter Tryz.func3, Tryz.ntmps3
    go_wp2_with fail
    go_ret
    exact ⟨rfl, Below.refl _ _⟩
  by_cases g1126 : 2 * a0 < (z2.length : Int)
  · clear hlg2
    go_enter Tryz.func3, Tryz.ntmps3
    go_wp2_with fail
    go_ret
    exact ⟨rfl, Below.refl _ _⟩
  cases hl2 : lng z2 with
  | true =>
    rw [hl2] at hlg2
    go_enter Tryz.func3, Tryz.ntmps3
    go_wp2_with (go_at_call 5; refine Calls.mono hlg2 ?_; clear hlg2; rintro ee w1 ⟨rfl, rfl⟩)
    go_ret
    exact ⟨rfl, Below.refl _ _⟩
  | false =>
    rw [hl2] at hlg2
    obtain ⟨hz2, hq2⟩ := lng_no hl2
    have HZ2 : Hid (∀ z ∈ z2, z.size ≤ 40) := hq2
    have hnew := newN_any w (fun k => w.heap.size ≤ k) (fun _ h => h) a0
    clear hl2 hq2
    go_enter Tryz.func3, Tryz.ntmps3
    go_wp2_with (first
      | (go_at_call 5; refine Calls.mono hlg2 ?_; clear hlg2; rintro ee w1 ⟨rfl, rfl⟩)
      | (go_at_call 6; refine Calls.mono hnew ?_; clear hnew; rintro ee w2 ⟨e, rfl, h2, hk2⟩; have H2 : Hid (NE e (heldC a0) (fun k => w1.heap.size ≤ k) w2) := h2; have HS2 : Hid (w1.heap.size ≤ w2.heap.size) := hk2.size; have HB2 : Hid (Below w1.heap.size w1 w2) := (hk2.below (Nat.le_refl _) (fun _ h => h)); clear h2 hk2; have hrnew := rnewN_any (w := w2) (D := fun k => w2.heap.size ≤ k) a0 (fun _ h => h))
      | (go_at_call 7; refine Calls.mono hrnew ?_; clear hrnew; rintro ee w3 ⟨x, rfl, h3, hk3⟩; have H3 : Hid (Both e x 0 (A.start (heldC a0)) (fun k => k < w1.heap.size) w3) := (both_start H2.out HS2.out h3 hk3); have HB3 : Hid (Below w1.heap.size w1 w3) := (below_trans' HB2.out (hk3.below (Nat.le_refl _) (fun _ h => h))); clear h3 hk3))
    clear H2 HS2 HB2
    have HOk0 : Hid (A.Ok (A.start (heldC a0) : Stt)) := A.start_ok (heldC_in a0).1 (heldC_in a0).2
    go_loopw [9] (fun i wr => ∃ (k : Nat) (s : Stt), (k : Int) ≤ a1 ∧ i = .int .i64 k ∧ A.Ok s ∧ Both e x 0 s (fun j => j < w1.heap.size) wr ∧ Below w1.heap.size w1 wr) (fun i _ => (a1 - intOf i).toNat)
    case atStart => exact ⟨0, _, by omega, rfl, HOk0.out, H3.out, HB3.out⟩
    case round =>
      obtain ⟨k, s, hk, rfl, hok, hA, hB⟩ := hrel
      clear H3 HB3 HOk0
      have HB : Hid (Below w1.heap.size w1 wr) := hB
      have HA : Hid (Both e x 0 s (fun j => j < w1.heap.size) wr) := hA
      have HOk : Hid (A.Ok s) := hok
      by_cases hlt : (k : Int) < a1
      · have hact := act_any hA hok (by omega) 1 ⟨#[35]⟩ (by decide)
        clear hA hB hok
        go_wp2_with (go_at_call 8; refine Calls.mono hact ?_; clear hact; rintro ee w4 ⟨s', rfl, hok4, hc4, h4, hk4⟩; have HX4 : Hid (A.Ok s') := hok4; have H4 : Hid (Both e x 2 s' (fun j => j < w1.heap.size) w4) := h4; have HB4 : Hid (Below w1.heap.size w1 w4) := (HB.out.trans (hk4.old HB.out.size)); clear hok4 hc4 h4 hk4)
        go_roundw
        case rel => exact ⟨k + 1, s', by omega, by go_num, HX4.out, H4.out, HB4.out⟩
        case measure => simp [intOf]; omega
      · have hk' : (k : Int) = a1 := by omega
        clear hA hB hok
        go_wp2_with fail
        go_loopw [10] (fun i wr' => ∃ (k : Nat) (t : Stt), k ≤ z2.length ∧ i = .int .i64 k ∧ A.Ok t ∧ Both e x 0 t (fun j => j < w1.heap.size) wr' ∧ Below w1.heap.size w1 wr') (fun i _ => z2.length - (intOf i).toNat)
        case atStart => exact ⟨0, s, Nat.zero_le _, rfl, HOk.out, HA.out, HB.out⟩
        case round =>
          clear HA HB HOk
          obtain ⟨k, t, hk, rfl, hok, hA, hB⟩ := hrel
          have HA : Hid (Both e x 0 t (fun j => j < w1.heap.size) _) := hA
          have HV : Hid (Below w1.heap.size w1 _) := hB
          have HOk : Hid (A.Ok t) := hok
          rcases Nat.lt_or_ge k z2.length with hlt2 | hge
          · obtain ⟨y, hy⟩ : ∃ y, z2[k]? = some y := ⟨_, List.getElem?_eq_getElem hlt2⟩
            obtain ⟨gg, off, rfl, cy1⟩ := HR2.out.at hy
            have cy := cell_later HV.out cy1
            have hys := HZ2.out y (List.mem_of_getElem? hy)
            have hact := fun W (hW : Below _ _ W) => act_any (HA.out.below hW) hok (by omega) 1 y (by omega)
            have HAct : Hid _ := hact
            clear cy1 hy hA hB hok hact
            by_cases hq : y = ⟨#[35]⟩
            · have heq : (y.toList == [35]) = true := by rw [← e35, texts_beq, decide_eq_true hq]
              clear hq
              go_wp2_with fail
              go_quiet (fail)
              go_wp2_with (go_at_call 10; refine (known_any _).mono ?_; rintro ee w6 ⟨rfl, hb6⟩; have HE6 : Hid (Below w1.heap.size w1 w6) := (below_trans' (below_trans' HV.out (below_drewN (Below.refl _ _) _)) hb6); clear hb6)
              go_ret
              exact ⟨rfl, HE6.out⟩
            · have heq : (y.toList == [35]) = false := by rw [← e35, texts_beq, decide_eq_false hq]
              clear hq
              have hkc : (k : Int) ≤ (cap2 : Int) := by omega
              cases hv2 : inb y (z2.take k) with
              | true =>
                have hh2 := fun W (hW : Below _ _ W) => lhas_of (w := W) (cap := cap2) (rowIn_take ((HR2.out.later HV.out).later hW) k) (List.length_take_of_le hk) (by omega) (by rw [List.length_take_of_le hk]; exact Nat.le_trans hk m2) y true hv2
                have HH2 : Hid _ := hh2
                clear hv2 hh2
                go_wp2_with fail
                go_quiet (first | (go_at_call 9; exact Calls.quiet_of_same (HH2.out _ (below_drewN (Below.refl _ _) _))))
                go_wp2_with (go_at_call 10; refine (known_any _).mono ?_; rintro ee w6 ⟨rfl, hb6⟩; have HE6 : Hid (Below w1.heap.size w1 w6) := (below_trans' (below_trans' HV.out (below_drewN (Below.refl _ _) _)) hb6); clear hb6)
                go_ret
                exact ⟨rfl, HE6.out⟩
              | false =>
                have hh2 := fun W (hW : Below _ _ W) => lhas_of (w := W) (cap := cap2) (rowIn_take ((HR2.out.later HV.out).later hW) k) (List.length_take_of_le hk) (by omega) (by rw [List.length_take_of_le hk]; exact Nat.le_trans hk m2) y false hv2
                have HH2 : Hid _ := hh2
                clear hv2 hh2
                go_wp2_with fail
                go_quiet (first | (go_at_call 9; exact Calls.quiet_of_same (HH2.out _ (below_drewN (Below.refl _ _) _))))
                go_wp2_with (go_at_call 8; refine Calls.mono (HAct.out _ (below_drewN (Below.refl _ _) _)) ?_; rintro ee w4 ⟨s', rfl, hok4, hc4, h4, hk4⟩; have HX4 : Hid (A.Ok s') := hok4; have H4 : Hid (Both e x 2 s' (fun j => j < w1.heap.size) w4) := h4; have HB4 : Hid (Below w1.heap.size w1 w4) := ((below_trans' HV.out (below_drewN (Below.refl _ _) _)).trans (hk4.old (by have := HV.out.size; simpa using this))); clear hok4 hc4 h4 hk4)
                go_roundw
                case rel => exact ⟨k + 1, s', hlt2, by go_num, HX4.out, H4.out, HB4.out⟩
                case measure => simp [intOf]; omega
          · have hk'' : k = z2.length := by omega
            subst hk''
            clear hA hB hok
            have HHe : Hid (∀ W, Below _ _ W → Calls Tryz.prog 11 #[.pointer (some ⟨e, 0, none⟩), .string ⟨#[35]⟩] W fun ee w' => ee = .returned (.bool (inb ⟨#[35]⟩ (A.keys t))) ∧ Below W.heap.size W w') := fun W hW => has_any (b := 0) (HA.out.below hW).eng (by omega) _ (by decide)
            have HHx : Hid (∀ W, Below _ _ W → Calls Tryz.prog 12 #[.pointer (some ⟨x, 0, none⟩), .string ⟨#[35]⟩] W fun ee w' => ee = .returned (.bool (inb ⟨#[35]⟩ (A.keys t))) ∧ w' = W) := fun W hW => by
              obtain ⟨z, y, -, h⟩ := HA.out.below hW
              obtain ⟨D, hR⟩ := Two.right h
              have := rhas_key hR (Small.of HOk.out) ⟨#[35]⟩
              rw [inb_inn] at this
              exact this
            generalize inb ⟨#[35]⟩ (A.keys t) = r at *
            go_wp2_with (first
              | (go_at_call 11; refine Calls.mono (HHe.out _ (Below.refl _ _)) ?_; rintro ee w5 ⟨rfl, hb5⟩; have HB5 : Hid (Below _ _ w5) := hb5; clear hb5)
              | (go_at_call 12; refine Calls.mono (HHx.out _ HB5.out) ?_; rintro ee w6 ⟨rfl, rfl⟩; have HB6 := HB5)
              | (go_at_call 10; refine (known_any _).mono ?_; rintro ee w7 ⟨rfl, hb7⟩; have HB7 : Hid (Below w1.heap.size w1 w7) := (below_trans' HV.out (below_trans' HB6.out hb7)); clear hb7))
            go_ret
            exact ⟨by first | rfl | simp, HB7.out⟩

set_option maxRecDepth 100000 in
theorem lifted (os : Os) (started : os.Started) (H : Type) (enc : TypeId × Value → H) :
    ReturnsInHanded {} Tryz.checked os 3 .any (Rows.tinylfuOftenSpec.pre6 enc Tryz.prog Tryz.f3 Rows.tinylfuOftenRow.domain false) (Rows.tinylfuOftenSpec.post enc Tryz.prog Tryz.f3 false true false false) := by
  refine returnsInHanded_of_change_sized (C := Tryz.checked) own started (by kernel_rfl) Tryz.func3
    (ChangeSpec.witness6 (enc := enc) (C := Tryz.checked) false ⟨#[], #[.int .i64 0, .int .i64 0, .slice none 0 0], []⟩ 8 (by kernel_rfl) (by kernel_rfl) (by kernel_rfl) (by kernel_rfl)) ?_
  intro W base args ds gs before hval0 hW hcnd hsz0 _
  have hval : ∀ (j : Nat) t v, Tryz.f3.params[j]? = some t → args[j]? = some v → Value.okWide Tryz.prog W .any base t v := hval0
  have hsz : (DataW.weightsEach Tryz.prog (Tryz.f3.params.toList ++ Rows.tinylfuOftenSpec.plain.varTypes Tryz.prog) (ds ++ gs)).all (· ≤ reachBytes) = true := hsz0
  have hW' := hW
  obtain ⟨p, q, hA0, hV, rfl, hfz, hnd⟩ := hW
  have hA : DataW.TrodAll enc Tryz.prog W 0 (fun _ => true) true Tryz.f3.params.toList args.toList ds p := hA0
  rw [Tryz.params3] at hA hval hsz
  obtain ⟨v0, vs0, d0, ds0, p0, q0, hargs, rfl, rfl, h0, s0⟩ := trodAll_cons hA
  obtain ⟨v1, vs1, d1, ds1, p1, q1, rfl, rfl, rfl, h1, s1⟩ := trodAll_cons s0
  obtain ⟨v2, vs2, d2, ds2, p2, q2, rfl, rfl, rfl, h2, s2⟩ := trodAll_cons s1
  obtain ⟨rfl, rfl, rfl⟩ := trodAll_nil s2
  obtain rfl : args = #[v0, v1, v2] := by cases args; simp_all
  obtain ⟨rfl, rfl⟩ := trodVars_none hV
  obtain ⟨a0, rfl, rfl, rfl, w0⟩ := open_int Tryz.underlying3 (hval 0 3 v0 rfl rfl) h0
  obtain ⟨a1, rfl, rfl, rfl, w1⟩ := open_int Tryz.underlying3 (hval 1 3 v1 rfl rfl) h1
  obtain ⟨a2, len2, cap2, rfl⟩ := okWide_slice Tryz.underlying22 (hval 2 22 v2 rfl rfl)
  have k2 := h2
  have lt2 : ∀ x ∈ p2, x.block < W.heap.size := by obtain ⟨m, hm⟩ := k2; exact DataW.trod_lt m _ _ _ hm
  have cp2 := cap_texts h2
  obtain ⟨z2, e2, m2, r2, x2⟩ := open_texts h2
  replace x2 : ∀ z ∈ z2, z.size ≤ 140737488351232 := fun z hz => reach_first (reach_tail (reach_tail hsz)) (x2 z hz)
  clear hA0 hval0 hsz0
  refine (walk W a0 w0 a1 w1 a2 len2 cap2 z2 e2 m2 r2 x2 cp2).mono fun e W' ⟨he, bel⟩ => ?_
  subst he
  exact ⟨_, rfl, _, _, _, [], _, [], hW', trodAll_mk1 (shut_bool Tryz.underlying4 _), (trodAll_cons_mk (shut_int Tryz.underlying3 w0) (trodAll_cons_mk (shut_int Tryz.underlying3 w1) (trodAll_cons_mk (Below.trod laidOut (by kernel_rfl) (of_decide_eq_true (by kernel_rfl)) k2 bel lt2) trodAll_mk0))), rfl, bel.frame _, fun h => by cases h⟩

theorem over : Rows.tinylfuOftenRow.holds Tryz.pinned (OpenSpec.ofChange Rows.tinylfuOftenSpec) :=
  OpenClaim.holds_of_wide 3 Tryz.f3 rfl rfl rfl rfl rfl rfl rfl ⟨rfl, rfl, rfl, rfl, rfl⟩ rfl rfl rfl rfl rfl (by kernel_rfl) Tryz.func3 (by kernel_rfl)
    (of_decide_eq_true (by kernel_rfl)) (by unfold Func.isWrapper; first | (rw [if_pos (by decide +kernel)]; kernel_rfl) | (rw [if_neg (by decide +kernel)]; exact ⟨rfl, rfl⟩))
    (fun os started H enc _ => lifted os started H enc)
end Go.Proofs.YtcphhlfbjkeikabGreat.tinylfuOften
namespace Go.Proofs.YtcphhlfbjkeikabGreat
/-- the given statement -/
theorem tinylfuOften_holds : Rows.TinylfuOftenSaid := tinylfuOften.over
#print axioms tinylfuOften_holds
end Go.Proofs.YtcphhlfbjkeikabGreat
