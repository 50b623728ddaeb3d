/- No key is counted as less often than it came, held at 15, as long as nothing was halved: the law returns true for every room and all texts, and its arguments read as they did. -/
import Derived.Test.YthlpoljpfndmiaaRows
import Derived.Test.YthlpoljpfndmiaaArgs
import Derived.WalkKit
import Derived.ProofKit
import Derived.OpenShut
import Derived.ShutString
import Derived.ChangeOld
import Derived.Below
import Derived.Carry
import Derived.SizedLaws
namespace Go.Proofs.Ythlpoljpfndmiaa.sketchBelow
open Go.ChangeShapes Go.WideShapes Go.ChangeAt Go.RowKit
open Go.ChangeMaps (open_string shut_string)
set_option linter.unusedVariables false

theorem own : ownKnob Try.prog.godebug = none := by kernel_rfl
theorem laidOut : laidOutB Try.prog = true := by kernel_rfl
/-- how often a text stands in a row -/
def cnt (l : List ByteArray) (x : ByteArray) : Nat := l.countP (fun y => decide (y = x))
theorem cnt_same {zs : List ByteArray} {k : Nat} {z : ByteArray} (hz : zs[k]? = some z) : cnt (zs.take (k + 1)) z = cnt (zs.take k) z + 1 := by
  unfold cnt
  rw [List.take_add_one, hz, List.countP_append]
  simp
theorem cnt_far {zs : List ByteArray} {k : Nat} {z x : ByteArray} (hz : zs[k]? = some z) (h : z ≠ x) : cnt (zs.take (k + 1)) x = cnt (zs.take k) x := by
  unfold cnt
  rw [List.take_add_one, hz, List.countP_append]
  simp [h]
theorem cnt_le (l : List ByteArray) (x : ByteArray) : cnt l x ≤ l.length := List.countP_le_length
/-- no cell of a text is below how often it came -/
def Up (N : Nat) (c : Nat → Nat) (s : Nat) (zs : List ByteArray) (k : Nat) : Prop := s ≤ k ∧ ∀ x r, r < 4 → min 15 (cnt (zs.take k) x) ≤ c (pl N x r)
theorem Up.zero (N : Nat) (c : Nat → Nat) (zs : List ByteArray) : Up N c 0 zs 0 := ⟨Nat.le_refl _, fun x r _ => by simp [cnt]⟩
theorem Up.next {N : Nat} {c : Nat → Nat} {s : Nat} {zs : List ByteArray} {k : Nat} {z : ByteArray} (h : Up N c s zs k) (hz : zs[k]? = some z) (hN : 8 ≤ N) (hk : k < 70) : Up N (adC c N z s) (adS c N z s) zs (k + 1) := by
  obtain ⟨h1, h2⟩ := h
  rcases Nat.lt_or_ge (lw c N z) 15 with hl | hl
  · have ec : adC c N z s = adds c N z (lw c N z) 4 := by unfold adC; rw [if_neg (by omega), if_neg (by omega)]
    have es : adS c N z s = s + 1 := by unfold adS; rw [if_neg (by omega), if_neg (by omega)]
    rw [ec, es]
    refine ⟨by omega, fun x r hr => ?_⟩
    by_cases hx : z = x
    · subst hx
      rw [cnt_same hz]
      have h3 := adds_up (c := c) (N := N) (k := z) (lw_le hr) 4 hr
      have h4 : min 15 (cnt (zs.take k) z) ≤ lw c N z := le_lw (fun r hr => h2 z r hr)
      omega
    · rw [cnt_far hz hx]
      exact Nat.le_trans (h2 x r hr) (adds_mono c N z _ _ 4).1
  · have ec : adC c N z s = c := by unfold adC; rw [if_pos hl]
    have es : adS c N z s = s := by unfold adS; rw [if_pos hl]
    rw [ec, es]
    refine ⟨by omega, fun x r hr => ?_⟩
    by_cases hx : z = x
    · subst hx
      have h4 := lw_le (c := c) (N := N) (k := z) hr
      omega
    · rw [cnt_far hz hx]
      exact h2 x r hr
theorem Up.count {N : Nat} {c : Nat → Nat} {s : Nat} {zs : List ByteArray} (h : Up N c s zs zs.length) (x : ByteArray) : min 15 (cnt zs x) ≤ lw c N x := by
  refine le_lw (fun r hr => ?_)
  have := h.2 x r hr
  rwa [List.take_length] at this

set_option maxRecDepth 20000 in
set_option maxHeartbeats 4000000 in
theorem walk (w : World) (a0 : Int) (w0 : (Lit.int .i64 a0).wf = true) (a1 : Option Addr) (len1 cap1 : Nat) (z1 : List ByteArray) (e1 : z1.length = len1) (m1 : len1 ≤ maxLen) (r1 : RowIn Value.string w a1 z1) (x1 : ∀ z ∈ z1, z.size ≤ 140737488351232) :
    Calls Try.prog 4 #[.int .i64 a0, .slice a1 len1 cap1] w fun e w' => e = .returned (.bool true) ∧ Below w.heap.size w w' := by
  obtain ⟨b0, b1⟩ := bounds_i64 w0
  have hv := heavy_any (cap := cap1) r1 (by omega) x1
  subst e1
  have hm : z1.length ≤ 9223372036854775807 := by unfold maxLen at m1; omega
  have R1 : Hid (RowIn Value.string w a1 z1) := r1
  clear r1 x1 m1 w0
  by_cases h1 : 1 ≤ a0
  · by_cases h1000 : a0 ≤ 1000
    · by_cases h70 : z1.length ≤ 70
      · go_enter Try.func4, Try.ntmps4
        go_wp2_with (first
          | (go_at_call 8; refine hv.mono ?_; rintro e w0 ⟨⟨hb, rfl, hli⟩, rfl⟩; have HLI : Hid (hb = false → Light z1 300) := hli; clear hv hli; cases hb)
          | (go_at_call 9; refine (new_any (w := w0) (D := (w0.heap.size ≤ ·)) a0 b0 b1 (fun k h => h)).mono ?_; rintro e w1 ⟨p, rfl, H1, hk1⟩))
        rotate_left
        · go_ret
          exact ⟨rfl, Below.refl _ _⟩
        have HL : Hid (Light z1 300) := HLI.out trivial
        have hb1 := hk1.below (B := w0.heap.size) (Nat.le_refl _) (fun k h => h)
        clear HLI hk1
        generalize wd a0 = N at H1
        have hU := Up.zero N (fun _ => 0) z1
        go_loopw [6] (fun i wr => ∃ (k : Nat) (c : Nat → Nat) (s : Nat), k ≤ z1.length ∧ i = .int .i64 k ∧ SK p N c s (w0.heap.size ≤ ·) wr ∧ Below w0.heap.size w0 wr ∧ Up N c s z1 k) (fun i _ => z1.length - (intOf i).toNat)
        case atStart => exact ⟨0, _, _, Nat.zero_le _, rfl, H1, hb1, hU⟩
        case round =>
          clear H1 hb1 hU
          obtain ⟨k, c, s, hk, rfl, H, hb, hU⟩ := hrel
          have HU : Hid (Up N c s z1 k) := hU
          clear hU
          have hs := hb.size
          rcases Nat.lt_or_ge k z1.length with hlt | hge
          · obtain ⟨z, hz⟩ : ∃ z, z1[k]? = some z := ⟨_, List.getElem?_eq_getElem (by omega)⟩
            obtain ⟨g, off, ea, c0⟩ := (R1.out.later hb).at hz
            subst ea
            have hzs := HL.out k z (by omega) hz
            have HU2 : Hid (Up N (adC c N z s) (adS c N z s) z1 (k + 1)) := HU.out.next hz H.1.lo (by omega)
            clear hz
            go_wp2_with (go_at_call 13; refine (add_any H (fun j h => Nat.le_trans hs h) z (by omega)).mono ?_; rintro e w2 ⟨rfl, H2, hk2⟩)
            go_roundw
            case rel => exact ⟨k + 1, _, _, hlt, by go_num, H2, hb.trans (hk2.below hs (fun j h => h)), HU2.out⟩
            case measure => simp [intOf]; omega
          · have hk' : k = z1.length := by omega
            subst hk'
            clear hge hk
            obtain ⟨WA, rfl⟩ : ∃ W, W = wr := ⟨_, rfl⟩
            have HUC : Hid (∀ x, min 15 (cnt z1 x) ≤ lw c N x) := fun x => HU.out.count x
            have HCL : Hid (∀ x, lw c N x ≤ 15) := fun x => Nat.le_trans (lw_le (r := 0) (by omega)) (H.1.cell _)
            clear HU
            have hb0 := hb
            have H0 := H
            go_wp2_with fail
            go_loopw [7] (fun i wr => ∃ k : Nat, k ≤ z1.length ∧ i = .int .i64 k ∧ SK p N c s (w0.heap.size ≤ ·) wr ∧ Below w0.heap.size w0 wr) (fun i _ => z1.length - (intOf i).toNat)
            case atStart => exact ⟨0, Nat.zero_le _, rfl, H0, hb0⟩
            case round =>
              clear H hb H0 hb0 hs
              obtain ⟨k, hk, rfl, H, hb⟩ := hrel
              have hs := hb.size
              rcases Nat.lt_or_ge k z1.length with hlt | hge
              · obtain ⟨x, hx⟩ : ∃ x, z1[k]? = some x := ⟨_, List.getElem?_eq_getElem hlt⟩
                obtain ⟨g, off, ea, d0⟩ := (R1.out.later hb).at hx
                subst ea
                have hxs := HL.out k x (by omega) hx
                have hup := HUC.out x
                have hv15 := HCL.out x
                obtain ⟨WB, rfl⟩ : ∃ W, W = wr := ⟨_, rfl⟩
                have HB : Hid (∀ {y : Nat} {w5 w6 : World}, Below (WB.drewN y).heap.size (WB.drewN y) w5 ∧ Below w5.heap.size w5 w6 → Below w0.heap.size w0 w6) := by
                  rintro y w5 w6 ⟨h5, h6⟩
                  have e5 := h5.size
                  exact (below_drewN hb y).trans ((h5.mono hs).trans (h6.mono (Nat.le_trans hs e5)))
                have hcnt := fun {W : World} (HW : SK p N c s (w0.heap.size ≤ ·) W) => count_any HW x (by omega)
                have RB : Hid (∀ (j : Nat) (z : ByteArray), z1[j]? = some z → WB.cell? ⟨g, off + j, none⟩ = some (.string z)) := fun j z hz => by
                  obtain ⟨g', off', e', h'⟩ := (R1.out.later hb).at hz
                  cases e'
                  exact h'
                clear hb hs hx
                go_wp2_with fail
                go_loopw [8, 9] (fun n i wr => ∃ j q : Nat, j ≤ z1.length ∧ i = .int .i64 j ∧ n = .int .i64 (cnt (z1.take j) x : Nat) ∧ wr = WB.drewN q) (fun _ i _ => z1.length - (intOf i).toNat)
                case atStart => exact ⟨0, 0, Nat.zero_le _, rfl, rfl, rfl⟩
                case round =>
                  obtain ⟨j, y, hj, rfl, rfl, rfl⟩ := hrel
                  rcases Nat.lt_or_ge j z1.length with hjl | hjg
                  · obtain ⟨z, hz⟩ : ∃ z, z1[j]? = some z := ⟨_, List.getElem?_eq_getElem hjl⟩
                    have d1 := RB.out j z hz
                    have hn := cnt_le (z1.take j) x
                    rw [List.length_take] at hn
                    have hn70 : cnt (z1.take j) x ≤ 70 := by omega
                    clear hn
                    have jI : (j : Int) < (z1.length : Int) := by omega
                    have kI : (k : Int) < (z1.length : Int) := by omega
                    by_cases hzx : z = x
                    · have HE : Hid (cnt (z1.take (j + 1)) x = cnt (z1.take j) x + 1) := by subst hzx; exact cnt_same hz
                      generalize cnt (z1.take j) x = n at hn70 HE ⊢
                      have hB : (z.toList == x.toList) = true := by rw [bytes_beq]; simpa using hzx
                      clear hz hzx
                      go_wp2_with fail
                      go_quiet (fail)
                      go_wp2_with fail
                      go_roundw
                      case rel => exact ⟨j + 1, _, hjl, by go_num, by rw [HE.out]; rfl, rfl⟩
                      case measure => simp [intOf]; omega
                    · have HE : Hid (cnt (z1.take (j + 1)) x = cnt (z1.take j) x) := cnt_far hz hzx
                      generalize cnt (z1.take j) x = n at hn70 HE ⊢
                      have hB : (z.toList == x.toList) = false := by rw [bytes_beq]; simpa using hzx
                      clear hz hzx
                      go_wp2_with fail
                      go_quiet (fail)
                      go_wp2_with fail
                      go_roundw
                      case rel => exact ⟨j + 1, _, hjl, by go_num, by rw [HE.out], rfl⟩
                      case measure => simp [intOf]; omega
                  · have hj' : j = z1.length := by omega
                    subst hj'
                    clear hjg hj RB
                    have hn70 := cnt_le z1 x
                    rw [List.take_length]
                    have hcn := fun q => count_any ((H.below (below_drewN (Below.refl _ _) q))) x (by omega)
                    generalize lw c N x = v at hcn hcnt hv15 hup
                    generalize cnt z1 x = n at hup hn70 ⊢
                    have kI : (k : Int) < (z1.length : Int) := by omega
                    have v1 : ¬ ((15 : Int) < (v : Int)) := by omega
                    by_cases hn15 : (n : Int) < 15
                    · have v2 : ¬ ((v : Int) < (n : Int)) := by omega
                      go_wp2_with (first
                        | (go_at_call 15; refine (hcn y).mono ?_; rintro e w5 ⟨rfl, hb5⟩; have d5 := cell_later hb5 (cell_later (below_drewN (Below.refl _ _) y) d0); have H5 := (H.below (below_drewN (Below.refl _ _) y)).below hb5; have hcn5 := hcnt H5; clear hcn)
                        | (go_at_call 15; refine hcn5.mono ?_; rintro e w6 ⟨rfl, hb6⟩; have H6 := H5.below hb6; clear hcn5 H5))
                      go_roundw
                      case rel => exact ⟨k + 1, hlt, by go_num, H6, HB.out ⟨hb5, hb6⟩⟩
                      case measure => simp [intOf]; omega
                    · have v2 : ¬ ((v : Int) < 15) := by omega
                      go_wp2_with (first
                        | (go_at_call 15; refine (hcn y).mono ?_; rintro e w5 ⟨rfl, hb5⟩; have d5 := cell_later hb5 (cell_later (below_drewN (Below.refl _ _) y) d0); have H5 := (H.below (below_drewN (Below.refl _ _) y)).below hb5; have hcn5 := hcnt H5; clear hcn)
                        | (go_at_call 15; refine hcn5.mono ?_; rintro e w6 ⟨rfl, hb6⟩; have H6 := H5.below hb6; clear hcn5 H5))
                      go_roundw
                      case rel => exact ⟨k + 1, hlt, by go_num, H6, HB.out ⟨hb5, hb6⟩⟩
                      case measure => simp [intOf]; omega
              · have hk' : k = z1.length := by omega
                subst hk'
                clear hge hk
                go_wp2_with (go_at_call 20; refine (known_any _).mono ?_; rintro e w9 ⟨rfl, hb9⟩)
                go_ret
                exact ⟨rfl, hb.trans (hb9.mono hs)⟩
      · go_enter Try.func4, Try.ntmps4
        go_wp2_with (go_at_call 8; refine hv.mono ?_; rintro e w0 ⟨⟨hb, rfl, hli⟩, rfl⟩; clear hv hli; cases hb)
        all_goals
          go_ret
          exact ⟨rfl, Below.refl _ _⟩
    · go_enter Try.func4, Try.ntmps4
      go_wp2_with (go_at_call 8; refine hv.mono ?_; rintro e w0 ⟨⟨hb, rfl, hli⟩, rfl⟩; clear hv hli; cases hb)
      all_goals
        go_ret
        exact ⟨rfl, Below.refl _ _⟩
  · go_enter Try.func4, Try.ntmps4
    go_wp2_with (go_at_call 8; refine hv.mono ?_; rintro e w0 ⟨⟨hb, rfl, hli⟩, rfl⟩; clear hv hli; cases hb)
    all_goals
      go_ret
      exact ⟨rfl, Below.refl _ _⟩

set_option maxRecDepth 100000 in
theorem lifted (os : Os) (started : os.Started) (H : Type) (enc : TypeId × Value → H) :
    ReturnsInHanded {} Try.checked os 4 .any (Rows.sketchBelowSpec.pre6 enc Try.prog Try.f4 Rows.sketchBelowRow.domain false) (Rows.sketchBelowSpec.post enc Try.prog Try.f4 false true false false) := by
  refine returnsInHanded_of_change_sized (C := Try.checked) own started (by kernel_rfl) Try.func4
    (ChangeSpec.witness6 (enc := enc) (C := Try.checked) false ⟨#[], #[.int .i64 0, .slice none 0 0], []⟩ 8 (by kernel_rfl) (by kernel_rfl) (by kernel_rfl) (by kernel_rfl)) ?_
  intro W base args ds gs before hval0 hW hcnd hsz0 _
  have hval : ∀ (j : Nat) t v, Try.f4.params[j]? = some t → args[j]? = some v → Value.okWide Try.prog W .any base t v := hval0
  have hsz : (DataW.weightsEach Try.prog (Try.f4.params.toList ++ Rows.sketchBelowSpec.plain.varTypes Try.prog) (ds ++ gs)).all (· ≤ reachBytes) = true := hsz0
  have hW' := hW
  obtain ⟨p, q, hA0, hV, rfl, hfz, hnd⟩ := hW
  have hA : DataW.TrodAll enc Try.prog W 0 (fun _ => true) true Try.f4.params.toList args.toList ds p := hA0
  rw [Try.params4] at hA hval hsz
  obtain ⟨v0, vs0, d0, ds0, p0, q0, hargs, rfl, rfl, h0, s0⟩ := trodAll_cons hA
  obtain ⟨v1, vs1, d1, ds1, p1, q1, rfl, rfl, rfl, h1, s1⟩ := trodAll_cons s0
  obtain ⟨rfl, rfl, rfl⟩ := trodAll_nil s1
  obtain rfl : args = #[v0, v1] := by cases args; simp_all
  obtain ⟨rfl, rfl⟩ := trodVars_none hV
  obtain ⟨a0, rfl, rfl, rfl, w0⟩ := open_int Try.underlying3 (hval 0 3 v0 rfl rfl) h0
  obtain ⟨a1, len1, cap1, rfl⟩ := okWide_slice Try.underlying22 (hval 1 22 v1 rfl rfl)
  have k1 := h1
  have lt1 : ∀ x ∈ p1, x.block < W.heap.size := by obtain ⟨m, hm⟩ := k1; exact DataW.trod_lt m _ _ _ hm
  obtain ⟨z1, e1, m1, r1, x1⟩ := open_texts h1
  replace x1 : ∀ z ∈ z1, z.size ≤ 140737488351232 := fun z hz => reach_first (reach_tail hsz) (x1 z hz)
  clear hA0 hval0 hsz0
  refine (walk W a0 w0 a1 len1 cap1 z1 e1 m1 r1 x1).mono fun e W' ⟨he, bel⟩ => ?_
  subst he
  exact ⟨_, rfl, _, _, _, [], _, [], hW', trodAll_mk1 (shut_bool Try.underlying4 _), (trodAll_cons_mk (shut_int Try.underlying3 w0) (trodAll_cons_mk (Below.trod laidOut (by kernel_rfl) (of_decide_eq_true (by kernel_rfl)) k1 bel lt1) trodAll_mk0)), rfl, bel.frame _, fun h => by cases h⟩

theorem over : Rows.sketchBelowRow.holds Try.pinned (OpenSpec.ofChange Rows.sketchBelowSpec) :=
  OpenClaim.holds_of_wide 4 Try.f4 rfl rfl rfl rfl rfl rfl rfl ⟨rfl, rfl, rfl, rfl, rfl⟩ rfl rfl rfl rfl rfl (by kernel_rfl) Try.func4 (by kernel_rfl)
    (of_decide_eq_true (by kernel_rfl)) (by unfold Func.isWrapper; first | (rw [if_pos (by decide +kernel)]; kernel_rfl) | (rw [if_neg (by decide +kernel)]; exact ⟨rfl, rfl⟩))
    (fun os started H enc _ => lifted os started H enc)

end Go.Proofs.Ythlpoljpfndmiaa.sketchBelow
namespace Go.Proofs.Ythlpoljpfndmiaa
/-- the given statement -/
theorem sketchBelow_holds : Rows.SketchBelowSaid := sketchBelow.over
#print axioms sketchBelow_holds
end Go.Proofs.Ythlpoljpfndmiaa
