/- Of every script each answer, and all keys, whatever the seed is: the law returns true for every seed and all acts, and its arguments read as they did. -/
import Derived.Test.YtpfcmaoookhopaaRows
import Derived.Test.YtpfcmaoookhopaaAct
import Derived.WalkKit
import Derived.ProofKit
import Derived.OpenShut
import Derived.ShutString
import Derived.ChangeOld
import Derived.Below
import Derived.Carry
import Derived.SizedLaws
namespace Go.Proofs.Ytpfcmaoookhopaa.indexPlays
open Go.ChangeShapes Go.WideShapes Go.ChangeAt Go.RowKit
open Go.ChangeMaps (open_string shut_string)
set_option linter.unusedVariables false

theorem own : ownKnob Try.prog.godebug = none := by kernel_rfl
theorem laidOut : laidOutB Try.prog = true := by kernel_rfl
theorem few_keys {V : Int → Value} {te tl : TypeId} {D : Nat → Prop} {w : World} {p b c : Nat} {m : ByteArray → Option Int} (h : IX V te tl D w p m b) (hc : Card m c) : c ≤ b := by
  obtain ⟨seed, sl, u, n, ad, h1, h, o⟩ := h
  rw [hc.one o.card (fun _ => rfl)]
  exact o.few
set_option maxRecDepth 20000 in
set_option maxHeartbeats 8000000 in
theorem walkA (w : World) (S : Nat) (hS : S < 18446744073709551616) (a1 : Option Addr) (cap1 : Nat) (z1 : List Deed) (r1 : DeedsIn w a1 z1) (m1 : z1.length ≤ maxLen) (x1 : ∀ z ∈ z1, z.s.size ≤ maxLen) (hle : z1.length ≤ 200) :
    Calls Try.prog 3 #[.int .u64 (S : Nat), .slice a1 z1.length cap1] w fun e w' => e = .returned (.bool true) ∧ Below w.heap.size w w' := by
  have hv := heavy_any (cap := cap1) r1 m1 x1
  have hm : z1.length ≤ 9223372036854775807 := by unfold maxLen at m1; omega
  have R1 : Hid (DeedsIn w a1 z1) := r1
  clear r1 x1 m1
  go_enter Try.func3, Try.ntmps3
  go_wp2_with (first
    | (go_at_call 9; refine hv.mono ?_; rintro e w0 ⟨⟨hb, rfl, hli⟩, rfl⟩; have HLI : Hid (hb = false → Light z1 200) := hli; clear hv hli; cases hb)
    | (go_at_call 10; refine (Num.new_any w0 (w0.heap.size ≤ ·) (Nat.le_refl _) S hS).mono ?_; rintro e w1 ⟨p, rfl, H1, hk1, -⟩))
  rotate_left
  · go_ret
    exact ⟨rfl, Below.refl _ _⟩
  have HL : Hid (Light z1 200) := HLI.out trivial
  have HA0 : Two (NX p (fun _ => none) 0) (RX w1.heap.size (fun _ => none) 0) (fun k => k < w0.heap.size) (w1.alloc (.cells #[.slice none 0 0] 30)) := two_start (NX.lies _ _ _) (RX.lies _ _ _) H1 hk1.size (RX.made (D := (w1.heap.size ≤ ·)) (Nat.le_refl _)) ((Keeps.refl _ w1).alloc _)
  have hb0 : Below w0.heap.size w0 (w1.alloc (.cells #[.slice none 0 0] 30)) := (hk1.below (Nat.le_refl _) (fun k h => h)).alloc hk1.size _
  generalize w1.heap.size = x at HA0 ⊢
  generalize w1.alloc (.cells #[.slice none 0 0] 30) = w2 at HA0 hb0 ⊢
  clear HLI H1 hk1
  go_loopw [7] (fun i wr => ∃ (k : Nat) (m : ByteArray → Option Int), k ≤ z1.length ∧ i = .int .i64 k ∧ Two (NX p m k) (RX x m k) (fun j => j < w0.heap.size) wr ∧ Below w0.heap.size w0 wr) (fun i _ => z1.length - (intOf i).toNat)
  case atStart => exact ⟨0, _, Nat.zero_le _, rfl, HA0, hb0⟩
  case round =>
    clear HA0 hb0
    obtain ⟨k, m, hk, rfl, HA, hb⟩ := hrel
    have hs := hb.size
    rcases Nat.lt_or_ge k z1.length with hlt | hge
    · obtain ⟨z, hz⟩ : ∃ z, z1[k]? = some z := ⟨_, List.getElem?_eq_getElem (by omega)⟩
      obtain ⟨g, off, ea, c0, c1, c2⟩ := (R1.out.later hb).at hz
      subst ea
      have hzs := HL.out k z (by omega) hz
      have l1 : k < z1.length := by omega
      have l2 : (k : Int) < 200 := by omega
      clear hz
      by_cases h16 : k % 16 = 0
      · have h16' : (k : Int) % 16 = 0 := by omega
        clear h16
        go_wp2_with (first
          | (go_at_call 11; refine (act_any HA z.kind z.n z.s hzs (by omega)).mono ?_; rintro e w3 ⟨rfl, ⟨m', HA3⟩, hk3⟩; have hb3 := hb.trans (hk3.old hs); have hs3 := hb3.size; obtain ⟨DL, hL3⟩ := HA3.left; obtain ⟨DX, hX3⟩ := HA3.right; have hfew := fun ts (h : Keyed m' ts) => few_keys hL3 h.card; clear HA hk3 c0 c1 c2 hb hs)
          | (go_at_call 12; refine (Num.len_any hL3).mono ?_; rintro e w4 ⟨c, rfl, hc, hw4⟩; subst hw4)
          | (go_at_call 13; refine (rlen_any hX3).mono ?_; rintro e w5 ⟨c', rfl, hc', hw5⟩; subst hw5; have hcc : c' = c := hc'.one hc (fun _ => rfl); subst hcc)
          | (go_at_call 15; refine (Num.keys_any hL3 (by omega)).mono ?_; rintro e w6 ⟨ts, ad, cap, rfl, hKd, hown, hb6⟩; have hX6 := (RX.lies _ _ _).kept (D' := fun _ => False) hX3 (.of_below hb6) (fun _ _ e => e); have hf := hfew ts hKd)
          | (go_at_call 16; refine (rkeys_any hX6 (by omega)).mono ?_; rintro e w7 ⟨ts7, ad7, cap7, rfl, hK7, hown7, hb7⟩; obtain rfl : ts7 = ts := hK7.one hKd (fun _ => rfl); have hown6 := ownsRow_below hown hb7)
          | (go_at_call 14; refine (texts_same (TextsAt.own hown6) (TextsAt.own hown7) rfl rfl (by omega) (by omega) rfl).mono ?_; rintro e w8 ⟨rfl, hb8⟩))
        have hs6 := hb6.size
        have hs7 := hb7.size
        have hbx : Below w5.heap.size w5 w8 := hb6.trans ((hb7.mono hs6).trans (hb8.mono (by omega)))
        go_roundw
        case rel => exact ⟨k + 1, m', hlt, by go_num, HA3.below (NX.lies _ _ _) (RX.lies _ _ _) hbx, hb3.trans (hbx.mono hs3)⟩
        case measure => simp [intOf]; omega
      · have h16' : ¬ ((k : Int) % 16 = 0) := by omega
        clear h16
        go_wp2_with (first
          | (go_at_call 11; refine (act_any HA z.kind z.n z.s hzs (by omega)).mono ?_; rintro e w3 ⟨rfl, ⟨m', HA3⟩, hk3⟩; have hb3 := hb.trans (hk3.old hs); have hs3 := hb3.size; obtain ⟨DL, hL3⟩ := HA3.left; obtain ⟨DX, hX3⟩ := HA3.right; clear HA hk3 c0 c1 c2 hb hs)
          | (go_at_call 12; refine (Num.len_any hL3).mono ?_; rintro e w4 ⟨c, rfl, hc, hw4⟩; subst hw4)
          | (go_at_call 13; refine (rlen_any hX3).mono ?_; rintro e w5 ⟨c', rfl, hc', hw5⟩; subst hw5; have hcc : c' = c := hc'.one hc (fun _ => rfl); subst hcc))
        go_roundw
        case rel => exact ⟨k + 1, m', hlt, by go_num, HA3, hb3⟩
        case measure => simp [intOf]; omega
    · have hk' : k = z1.length := by omega
      subst hk'
      clear hge hk
      obtain ⟨DL, hL⟩ := HA.left
      obtain ⟨DX, hX⟩ := HA.right
      have hfew := fun ts (h : Keyed m ts) => few_keys hL h.card
      clear HA
      go_wp2_with (first
        | (go_at_call 15; refine (Num.keys_any hL (by omega)).mono ?_; rintro e w6 ⟨ts, ad, cap, rfl, hKd, hown, hb6⟩; have hX6 := (RX.lies _ _ _).kept (D' := fun _ => False) hX (.of_below hb6) (fun _ _ e => e); have hf := hfew ts hKd)
        | (go_at_call 16; refine (rkeys_any hX6 (by omega)).mono ?_; rintro e w7 ⟨ts7, ad7, cap7, rfl, hK7, hown7, hb7⟩; obtain rfl : ts7 = ts := hK7.one hKd (fun _ => rfl); have hown6 := ownsRow_below hown hb7)
        | (go_at_call 14; refine (texts_same (TextsAt.own hown6) (TextsAt.own hown7) rfl rfl (by omega) (by omega) rfl).mono ?_; rintro e w8 ⟨rfl, hb8⟩)
        | (go_at_call 17; refine (known_any _).mono ?_; rintro e w9 ⟨rfl, hb9⟩))
      have hs6 := hb6.size
      have hs7 := hb7.size
      have hs8 := hb8.size
      go_ret
      exact ⟨rfl, hb.trans (((hb6.mono hs).trans (hb7.mono (by omega))).trans ((hb8.mono (by omega)).trans (hb9.mono (by omega))))⟩
set_option maxRecDepth 20000 in
set_option maxHeartbeats 8000000 in
theorem walkB (w : World) (S : Nat) (hS : S < 18446744073709551616) (a1 : Option Addr) (cap1 : Nat) (z1 : List Deed) (r1 : DeedsIn w a1 z1) (m1 : z1.length ≤ maxLen) (x1 : ∀ z ∈ z1, z.s.size ≤ maxLen) (hle : 200 < z1.length) :
    Calls Try.prog 3 #[.int .u64 (S : Nat), .slice a1 z1.length cap1] w fun e w' => e = .returned (.bool true) ∧ Below w.heap.size w w' := by
  have hv := heavy_any (cap := cap1) r1 m1 x1
  have hm : z1.length ≤ 9223372036854775807 := by unfold maxLen at m1; omega
  have R1 : Hid (DeedsIn w a1 z1) := r1
  clear r1 x1 m1
  go_enter Try.func3, Try.ntmps3
  go_wp2_with (first
    | (go_at_call 9; refine hv.mono ?_; rintro e w0 ⟨⟨hb, rfl, hli⟩, rfl⟩; have HLI : Hid (hb = false → Light z1 200) := hli; clear hv hli; cases hb)
    | (go_at_call 10; refine (Num.new_any w0 (w0.heap.size ≤ ·) (Nat.le_refl _) S hS).mono ?_; rintro e w1 ⟨p, rfl, H1, hk1, -⟩))
  rotate_left
  · go_ret
    exact ⟨rfl, Below.refl _ _⟩
  have HL : Hid (Light z1 200) := HLI.out trivial
  have HA0 : Two (NX p (fun _ => none) 0) (RX w1.heap.size (fun _ => none) 0) (fun k => k < w0.heap.size) (w1.alloc (.cells #[.slice none 0 0] 30)) := two_start (NX.lies _ _ _) (RX.lies _ _ _) H1 hk1.size (RX.made (D := (w1.heap.size ≤ ·)) (Nat.le_refl _)) ((Keeps.refl _ w1).alloc _)
  have hb0 : Below w0.heap.size w0 (w1.alloc (.cells #[.slice none 0 0] 30)) := (hk1.below (Nat.le_refl _) (fun k h => h)).alloc hk1.size _
  generalize w1.heap.size = x at HA0 ⊢
  generalize w1.alloc (.cells #[.slice none 0 0] 30) = w2 at HA0 hb0 ⊢
  clear HLI H1 hk1
  go_loopw [7] (fun i wr => ∃ (k : Nat) (m : ByteArray → Option Int), k ≤ 200 ∧ i = .int .i64 k ∧ Two (NX p m k) (RX x m k) (fun j => j < w0.heap.size) wr ∧ Below w0.heap.size w0 wr) (fun i _ => 200 - (intOf i).toNat)
  case atStart => exact ⟨0, _, Nat.zero_le _, rfl, HA0, hb0⟩
  case round =>
    clear HA0 hb0
    obtain ⟨k, m, hk, rfl, HA, hb⟩ := hrel
    have hs := hb.size
    rcases Nat.lt_or_ge k 200 with hlt | hge
    · obtain ⟨z, hz⟩ : ∃ z, z1[k]? = some z := ⟨_, List.getElem?_eq_getElem (by omega)⟩
      obtain ⟨g, off, ea, c0, c1, c2⟩ := (R1.out.later hb).at hz
      subst ea
      have hzs := HL.out k z (by omega) hz
      have l1 : k < z1.length := by omega
      have l2 : (k : Int) < 200 := by omega
      clear hz
      by_cases h16 : k % 16 = 0
      · have h16' : (k : Int) % 16 = 0 := by omega
        clear h16
        go_wp2_with (first
          | (go_at_call 11; refine (act_any HA z.kind z.n z.s hzs (by omega)).mono ?_; rintro e w3 ⟨rfl, ⟨m', HA3⟩, hk3⟩; have hb3 := hb.trans (hk3.old hs); have hs3 := hb3.size; obtain ⟨DL, hL3⟩ := HA3.left; obtain ⟨DX, hX3⟩ := HA3.right; have hfew := fun ts (h : Keyed m' ts) => few_keys hL3 h.card; clear HA hk3 c0 c1 c2 hb hs)
          | (go_at_call 12; refine (Num.len_any hL3).mono ?_; rintro e w4 ⟨c, rfl, hc, hw4⟩; subst hw4)
          | (go_at_call 13; refine (rlen_any hX3).mono ?_; rintro e w5 ⟨c', rfl, hc', hw5⟩; subst hw5; have hcc : c' = c := hc'.one hc (fun _ => rfl); subst hcc)
          | (go_at_call 15; refine (Num.keys_any hL3 (by omega)).mono ?_; rintro e w6 ⟨ts, ad, cap, rfl, hKd, hown, hb6⟩; have hX6 := (RX.lies _ _ _).kept (D' := fun _ => False) hX3 (.of_below hb6) (fun _ _ e => e); have hf := hfew ts hKd)
          | (go_at_call 16; refine (rkeys_any hX6 (by omega)).mono ?_; rintro e w7 ⟨ts7, ad7, cap7, rfl, hK7, hown7, hb7⟩; obtain rfl : ts7 = ts := hK7.one hKd (fun _ => rfl); have hown6 := ownsRow_below hown hb7)
          | (go_at_call 14; refine (texts_same (TextsAt.own hown6) (TextsAt.own hown7) rfl rfl (by omega) (by omega) rfl).mono ?_; rintro e w8 ⟨rfl, hb8⟩))
        have hs6 := hb6.size
        have hs7 := hb7.size
        have hbx : Below w5.heap.size w5 w8 := hb6.trans ((hb7.mono hs6).trans (hb8.mono (by omega)))
        go_roundw
        case rel => exact ⟨k + 1, m', hlt, by go_num, HA3.below (NX.lies _ _ _) (RX.lies _ _ _) hbx, hb3.trans (hbx.mono hs3)⟩
        case measure => simp [intOf]; omega
      · have h16' : ¬ ((k : Int) % 16 = 0) := by omega
        clear h16
        go_wp2_with (first
          | (go_at_call 11; refine (act_any HA z.kind z.n z.s hzs (by omega)).mono ?_; rintro e w3 ⟨rfl, ⟨m', HA3⟩, hk3⟩; have hb3 := hb.trans (hk3.old hs); have hs3 := hb3.size; obtain ⟨DL, hL3⟩ := HA3.left; obtain ⟨DX, hX3⟩ := HA3.right; clear HA hk3 c0 c1 c2 hb hs)
          | (go_at_call 12; refine (Num.len_any hL3).mono ?_; rintro e w4 ⟨c, rfl, hc, hw4⟩; subst hw4)
          | (go_at_call 13; refine (rlen_any hX3).mono ?_; rintro e w5 ⟨c', rfl, hc', hw5⟩; subst hw5; have hcc : c' = c := hc'.one hc (fun _ => rfl); subst hcc))
        go_roundw
        case rel => exact ⟨k + 1, m', hlt, by go_num, HA3, hb3⟩
        case measure => simp [intOf]; omega
    · have hk' : k = 200 := by omega
      subst hk'
      have l1 : 200 < z1.length := hle
      clear hge hk
      obtain ⟨DL, hL⟩ := HA.left
      obtain ⟨DX, hX⟩ := HA.right
      have hfew := fun ts (h : Keyed m ts) => few_keys hL h.card
      clear HA
      go_wp2_with (first
        | (go_at_call 15; refine (Num.keys_any hL (by omega)).mono ?_; rintro e w6 ⟨ts, ad, cap, rfl, hKd, hown, hb6⟩; have hX6 := (RX.lies _ _ _).kept (D' := fun _ => False) hX (.of_below hb6) (fun _ _ e => e); have hf := hfew ts hKd)
        | (go_at_call 16; refine (rkeys_any hX6 (by omega)).mono ?_; rintro e w7 ⟨ts7, ad7, cap7, rfl, hK7, hown7, hb7⟩; obtain rfl : ts7 = ts := hK7.one hKd (fun _ => rfl); have hown6 := ownsRow_below hown hb7)
        | (go_at_call 14; refine (texts_same (TextsAt.own hown6) (TextsAt.own hown7) rfl rfl (by omega) (by omega) rfl).mono ?_; rintro e w8 ⟨rfl, hb8⟩)
        | (go_at_call 17; refine (known_any _).mono ?_; rintro e w9 ⟨rfl, hb9⟩))
      have hs6 := hb6.size
      have hs7 := hb7.size
      have hs8 := hb8.size
      go_ret
      exact ⟨rfl, hb.trans (((hb6.mono hs).trans (hb7.mono (by omega))).trans ((hb8.mono (by omega)).trans (hb9.mono (by omega))))⟩

set_option maxRecDepth 20000 in
set_option maxHeartbeats 8000000 in
theorem walk (w : World) (a0 : Int) (w0 : (Lit.int .u64 a0).wf = true) (a1 : Option Addr) (len1 cap1 : Nat) (z1 : List Deed) (e1 : z1.length = len1) (m1 : len1 ≤ maxLen) (r1 : DeedsIn w a1 z1) (x1 : ∀ z ∈ z1, (Lit.int .i64 z.kind).wf = true ∧ (Lit.int .i64 z.n).wf = true ∧ z.s.size ≤ maxLen) :
    Calls Try.prog 3 #[.int .u64 a0, .slice a1 len1 cap1] w fun e w' => e = .returned (.bool true) ∧ Below w.heap.size w w' := by
  obtain ⟨b0, b1⟩ := bounds_u64 w0
  obtain ⟨S, rfl⟩ : ∃ S : Nat, a0 = S := ⟨a0.toNat, by omega⟩
  have hS : S < 18446744073709551616 := by omega
  clear w0 b0 b1
  subst e1
  by_cases hle : z1.length ≤ 200
  · exact walkA w S hS a1 cap1 z1 r1 m1 (fun z hz => (x1 z hz).2.2) hle
  · exact walkB w S hS a1 cap1 z1 r1 m1 (fun z hz => (x1 z hz).2.2) (by omega)

set_option maxRecDepth 100000 in
theorem lifted (os : Os) (started : os.Started) (H : Type) (enc : TypeId × Value → H) :
    ReturnsInHanded {} Try.checked os 3 .any (Rows.indexPlaysSpec.pre6 enc Try.prog Try.f3 Rows.indexPlaysRow.domain false) (Rows.indexPlaysSpec.post enc Try.prog Try.f3 false true false false) := by
  refine returnsInHanded_of_change_sized (C := Try.checked) own started (by kernel_rfl) Try.func3
    (ChangeSpec.witness6 (enc := enc) (C := Try.checked) false ⟨#[], #[.int .u64 0, .slice none 0 0], []⟩ 8 (by kernel_rfl) (by kernel_rfl) (by kernel_rfl) (by kernel_rfl)) ?_
  intro W base args ds gs before hval0 hW hcnd hsz0 _
  have hval : ∀ (j : Nat) t v, Try.f3.params[j]? = some t → args[j]? = some v → Value.okWide Try.prog W .any base t v := hval0
  have hsz : (DataW.weightsEach Try.prog (Try.f3.params.toList ++ Rows.indexPlaysSpec.plain.varTypes Try.prog) (ds ++ gs)).all (· ≤ reachBytes) = true := hsz0
  have hW' := hW
  obtain ⟨p, q, hA0, hV, rfl, hfz, hnd⟩ := hW
  have hA : DataW.TrodAll enc Try.prog W 0 (fun _ => true) true Try.f3.params.toList args.toList ds p := hA0
  rw [Try.params3] at hA hval hsz
  obtain ⟨v0, vs0, d0, ds0, p0, q0, hargs, rfl, rfl, h0, s0⟩ := trodAll_cons hA
  obtain ⟨v1, vs1, d1, ds1, p1, q1, rfl, rfl, rfl, h1, s1⟩ := trodAll_cons s0
  obtain ⟨rfl, rfl, rfl⟩ := trodAll_nil s1
  obtain rfl : args = #[v0, v1] := by cases args; simp_all
  obtain ⟨rfl, rfl⟩ := trodVars_none hV
  obtain ⟨a0, rfl, rfl, rfl, w0⟩ := open_int Try.underlying22 (hval 0 22 v0 rfl rfl) h0
  obtain ⟨a1, len1, cap1, rfl⟩ := okWide_slice Try.underlying23 (hval 1 23 v1 rfl rfl)
  have k1 := h1
  have lt1 : ∀ x ∈ p1, x.block < W.heap.size := by obtain ⟨m, hm⟩ := k1; exact DataW.trod_lt m _ _ _ hm
  obtain ⟨z1, e1, m1, r1, x1⟩ := open_deeds h1
  clear hA0 hval0 hsz0
  refine (walk W a0 w0 a1 len1 cap1 z1 e1 m1 r1 x1).mono fun e W' ⟨he, bel⟩ => ?_
  subst he
  exact ⟨_, rfl, _, _, _, [], _, [], hW', trodAll_mk1 (shut_bool Try.underlying4 _), (trodAll_cons_mk (shut_int Try.underlying22 w0) (trodAll_cons_mk (Below.trod laidOut (by kernel_rfl) (of_decide_eq_true (by kernel_rfl)) k1 bel lt1) trodAll_mk0)), rfl, bel.frame _, fun h => by cases h⟩

theorem over : Rows.indexPlaysRow.holds Try.pinned (OpenSpec.ofChange Rows.indexPlaysSpec) :=
  OpenClaim.holds_of_wide 3 Try.f3 rfl rfl rfl rfl rfl rfl rfl ⟨rfl, rfl, rfl, rfl, rfl⟩ rfl rfl rfl rfl rfl (by kernel_rfl) Try.func3 (by kernel_rfl)
    (of_decide_eq_true (by kernel_rfl)) (by unfold Func.isWrapper; first | (rw [if_pos (by decide +kernel)]; kernel_rfl) | (rw [if_neg (by decide +kernel)]; exact ⟨rfl, rfl⟩))
    (fun os started H enc _ => lifted os started H enc)

end Go.Proofs.Ytpfcmaoookhopaa.indexPlays
namespace Go.Proofs.Ytpfcmaoookhopaa
/-- the given statement -/
theorem indexPlays_holds : Rows.IndexPlaysSaid := indexPlays.over
#print axioms indexPlays_holds
end Go.Proofs.Ytpfcmaoookhopaa
