/- Halving makes each count half, rounded down: the law returns true for every room, all texts and every key, and its arguments read as they did. -/
import Derived.Test.YthlpoljpfndmiaaRows
import Derived.Test.YthlpoljpfndmiaaArgs
import Derived.WalkKit
import Derived.ProofKit
import Derived.OpenShut
import Derived.ShutString
import Derived.ChangeOld
import Derived.Below
import Derived.Carry
import Derived.SizedLaws
namespace Go.Proofs.Ythlpoljpfndmiaa.sketchHalves
open Go.ChangeShapes Go.WideShapes Go.ChangeAt Go.RowKit
open Go.ChangeMaps (open_string shut_string)
set_option linter.unusedVariables false

theorem own : ownKnob Try.prog.godebug = none := by kernel_rfl
theorem laidOut : laidOutB Try.prog = true := by kernel_rfl
theorem narrow_at {p N s B : Nat} {c : Nat → Nat} {w w' : World} (h : SK p N c s (B ≤ ·) w) (hb : Below w.heap.size w w') : SK p N c s (fun k => B ≤ k ∧ k < w.heap.size) w' := by
  obtain ⟨f, g, h⟩ := h
  exact ⟨f, g, h.narrow.below hb⟩

set_option maxRecDepth 20000 in
set_option maxHeartbeats 4000000 in
theorem walk (w : World) (a0 : Int) (w0 : (Lit.int .i64 a0).wf = true) (a1 : Option Addr) (len1 cap1 : Nat) (z1 : List ByteArray) (e1 : z1.length = len1) (m1 : len1 ≤ maxLen) (r1 : RowIn Value.string w a1 z1) (x1 : ∀ z ∈ z1, z.size ≤ 140737488351232) (a2 : ByteArray) (w2 : a2.size ≤ maxLen) :
    Calls Try.prog 5 #[.int .i64 a0, .slice a1 len1 cap1, .string a2] w fun e w' => e = .returned (.bool true) ∧ Below w.heap.size w w' := by
  obtain ⟨b0, b1⟩ := bounds_i64 w0
  have hv := heavy_any (cap := cap1) r1 (by omega) x1
  subst e1
  have hm : z1.length ≤ 9223372036854775807 := by unfold maxLen at m1; omega
  have hk9 : a2.size ≤ 9223372036854775807 := by unfold maxLen at w2; omega
  have R1 : Hid (RowIn Value.string w a1 z1) := r1
  clear r1 x1 m1 w0 w2
  by_cases h60 : a2.size ≤ 60
  · by_cases h300 : z1.length ≤ 300
    · go_enter Try.func5, Try.ntmps5
      go_wp2_with (first
        | (go_at_call 8; refine hv.mono ?_; rintro e w0 ⟨⟨hb, rfl, hli⟩, rfl⟩; have HLI : Hid (hb = false → Light z1 300) := hli; clear hv hli; cases hb)
        | (go_at_call 9; refine (new_any (w := w0) (D := (w0.heap.size ≤ ·)) a0 b0 b1 (fun k h => h)).mono ?_; rintro e w1 ⟨p, rfl, H1, hk1⟩))
      rotate_left
      · go_ret
        exact ⟨rfl, Below.refl _ _⟩
      have HL : Hid (Light z1 300) := HLI.out trivial
      have hb1 := hk1.below (B := w0.heap.size) (Nat.le_refl _) (fun k h => h)
      clear HLI hk1
      generalize wd a0 = N at H1
      go_loopw [8] (fun i wr => ∃ (k : Nat) (c : Nat → Nat) (s : Nat), k ≤ z1.length ∧ i = .int .i64 k ∧ SK p N c s (w0.heap.size ≤ ·) wr ∧ Below w0.heap.size w0 wr) (fun i _ => z1.length - (intOf i).toNat)
      case atStart => exact ⟨0, _, _, Nat.zero_le _, rfl, H1, hb1⟩
      case round =>
        clear H1 hb1
        obtain ⟨k, c, s, hk, rfl, H, hb⟩ := hrel
        have hs := hb.size
        rcases Nat.lt_or_ge k z1.length with hlt | hge
        · obtain ⟨z, hz⟩ : ∃ z, z1[k]? = some z := ⟨_, List.getElem?_eq_getElem (by omega)⟩
          obtain ⟨g, off, ea, c0⟩ := (R1.out.later hb).at hz
          subst ea
          have hzs := HL.out k z (by omega) hz
          clear hz
          go_wp2_with (go_at_call 13; refine (add_any H (fun j h => Nat.le_trans hs h) z (by omega)).mono ?_; rintro e w2 ⟨rfl, H2, hk2⟩)
          go_roundw
          case rel => exact ⟨k + 1, _, _, hlt, by go_num, H2, hb.trans (hk2.below hs (fun j h => h))⟩
          case measure => simp [intOf]; omega
        · have hk' : k = z1.length := by omega
          subst hk'
          clear hge hk
          have hN := H.1.hi
          have hsum := H.1.sum
          have hl15 : lw c N a2 ≤ 15 := Nat.le_trans (lw_le (r := 0) (by omega)) (H.1.cell _)
          have HC : Hid (∀ i, c i ≤ 15) := H.1.cell
          have HLW : Hid (lw (hv c) N a2 = lw c N a2 / 2) := lw_hv c N a2
          have hcn := count_any H a2 (by omega)
          generalize lw c N a2 = n at *
          go_wp2_with (first
            | (go_at_call 15; refine hcn.mono ?_; rintro e w2 ⟨rfl, hb2⟩; have hs2 := hb2.size; have H2 := H.below hb2; clear hcn H)
            | (go_at_call 17; refine (sum_any H2).mono ?_; rintro e w3 ⟨rfl, rfl⟩)
            | (go_at_call 19; refine (cells_any H2).mono ?_; rintro e w4 ⟨q, rfl, hq, hq0, hb4⟩; have hs4 := hb4.size; have H4 := H2.below hb4; have hb4' : Below w0.heap.size w0 w4 := hb.trans ((hb2.mono hs).trans (hb4.mono (by omega))); have H4n : SK p N c s (fun k => w0.heap.size ≤ k ∧ k < w3.heap.size) w4 := narrow_at H2 hb4; clear H2 hb2 hb4 H4)
            | (go_at_call 11; refine (halve_any H4n).mono ?_; rintro e w5 ⟨rfl, H5, hk5⟩; have hq5 := (hk5.block q (lt_of_block hq) (fun e => by omega)).trans hq; have hs5 := hk5.size; have hb5 : Below w0.heap.size w0 w5 := hb4'.trans (hk5.below (by omega) (fun k h => h.1)); have hq4 := lt_of_block hq; clear H4n hk5 hb4' hq)
            | (go_at_call 19; refine (cells_any H5).mono ?_; rintro e w6 ⟨q', rfl, hq', hq0', hb6⟩; have hq6 := (hb6.block q (by omega)).trans hq5; have hs6 := hb6.size; have H6 := H5.below hb6; have hb6' : Below w0.heap.size w0 w6 := hb5.trans (hb6.mono (by omega)); clear H5 hb6 hb5 hq5))
          have hcn6 := fun q => count_any (H6.below (below_drewN (Below.refl _ _) q)) a2 (by omega)
          rw [HLW.out] at hcn6
          obtain ⟨n2, hn2⟩ : ∃ n2, n / 2 = n2 := ⟨_, rfl⟩
          obtain ⟨s2, hs2⟩ : ∃ s2, s / 2 = s2 := ⟨_, rfl⟩
          rw [hn2] at hcn6
          rw [hs2] at H6
          have hn2I : (n : Int) / 2 = (n2 : Int) := by omega
          have hs2I : (s : Int) / 2 = (s2 : Int) := by omega
          clear hn2 hs2 HLW
          have HB : Hid (Below w0.heap.size w0 w6) := hb6'
          clear hb6' hb
          go_loopw [13] (fun i wr => ∃ j q : Nat, j ≤ 4 * N ∧ i = .int .i64 j ∧ wr = w6.drewN q) (fun i _ => 4 * N - (intOf i).toNat)
          case atStart => exact ⟨0, 0, Nat.zero_le _, rfl, rfl⟩
          case round =>
            obtain ⟨j, x, hj, rfl, rfl⟩ := hrel
            rcases Nat.lt_or_ge j (4 * N) with hjl | hjg
            · have d0 : w6.cell? ⟨q, j, none⟩ = some (.int .i64 (c j : Nat)) := by rw [cell_of_block hq6, List.getElem?_toArray, i64s_at c hjl]
              have d1 : w6.cell? ⟨q', j, none⟩ = some (.int .i64 (hv c j : Nat)) := by rw [cell_of_block hq', List.getElem?_toArray, i64s_at _ hjl]
              have hcj := HC.out j
              have hvj : (c j : Int) / 2 = (hv c j : Int) := by unfold hv; omega
              have jI : (j : Int) < 4 * (N : Int) := by omega
              generalize hv c j = y at d1 hvj
              generalize c j = v at d0 hcj hvj
              go_wp2_with fail
              go_quiet (fail)
              go_wp2_with fail
              go_roundw
              case rel => exact ⟨j + 1, _, hjl, by go_num, rfl⟩
              case measure => simp [intOf]; omega
            · have hj' : j = 4 * N := by omega
              subst hj'
              clear hjg hj hq6 hq'
              go_wp2_with (first
                | (go_at_call 15; refine (hcn6 x).mono ?_; rintro e w7 ⟨rfl, hb7⟩; have hs7 := hb7.size; have H7 := (H6.below (below_drewN (Below.refl _ _) x)).below hb7; clear hcn6)
                | (go_at_call 17; refine (sum_any H7).mono ?_; rintro e w8 ⟨rfl, rfl⟩)
                | (go_at_call 20; refine (known_any _).mono ?_; rintro e w9 ⟨rfl, hb9⟩))
              go_ret
              have hs0 := HB.out.size
              exact ⟨rfl, (below_drewN HB.out x).trans ((hb7.mono hs0).trans (hb9.mono (Nat.le_trans hs0 hs7)))⟩
    · go_enter Try.func5, Try.ntmps5
      go_wp2_with (go_at_call 8; refine hv.mono ?_; rintro e w0 ⟨⟨hb, rfl, hli⟩, rfl⟩; clear hv hli; cases hb)
      all_goals
        go_ret
        exact ⟨rfl, Below.refl _ _⟩
  · go_enter Try.func5, Try.ntmps5
    go_wp2_with (go_at_call 8; refine hv.mono ?_; rintro e w0 ⟨⟨hb, rfl, hli⟩, rfl⟩; clear hv hli; cases hb)
    all_goals
      go_ret
      exact ⟨rfl, Below.refl _ _⟩

set_option maxRecDepth 100000 in
theorem lifted (os : Os) (started : os.Started) (H : Type) (enc : TypeId × Value → H) :
    ReturnsInHanded {} Try.checked os 5 .any (Rows.sketchHalvesSpec.pre6 enc Try.prog Try.f5 Rows.sketchHalvesRow.domain false) (Rows.sketchHalvesSpec.post enc Try.prog Try.f5 false true false false) := by
  refine returnsInHanded_of_change_sized (C := Try.checked) own started (by kernel_rfl) Try.func5
    (ChangeSpec.witness6 (enc := enc) (C := Try.checked) false ⟨#[], #[.int .i64 0, .slice none 0 0, .string ByteArray.empty], []⟩ 8 (by kernel_rfl) (by kernel_rfl) (by kernel_rfl) (by kernel_rfl)) ?_
  intro W base args ds gs before hval0 hW hcnd hsz0 _
  have hval : ∀ (j : Nat) t v, Try.f5.params[j]? = some t → args[j]? = some v → Value.okWide Try.prog W .any base t v := hval0
  have hsz : (DataW.weightsEach Try.prog (Try.f5.params.toList ++ Rows.sketchHalvesSpec.plain.varTypes Try.prog) (ds ++ gs)).all (· ≤ reachBytes) = true := hsz0
  have hW' := hW
  obtain ⟨p, q, hA0, hV, rfl, hfz, hnd⟩ := hW
  have hA : DataW.TrodAll enc Try.prog W 0 (fun _ => true) true Try.f5.params.toList args.toList ds p := hA0
  rw [Try.params5] at hA hval hsz
  obtain ⟨v0, vs0, d0, ds0, p0, q0, hargs, rfl, rfl, h0, s0⟩ := trodAll_cons hA
  obtain ⟨v1, vs1, d1, ds1, p1, q1, rfl, rfl, rfl, h1, s1⟩ := trodAll_cons s0
  obtain ⟨v2, vs2, d2, ds2, p2, q2, rfl, rfl, rfl, h2, s2⟩ := trodAll_cons s1
  obtain ⟨rfl, rfl, rfl⟩ := trodAll_nil s2
  obtain rfl : args = #[v0, v1, v2] := by cases args; simp_all
  obtain ⟨rfl, rfl⟩ := trodVars_none hV
  obtain ⟨a0, rfl, rfl, rfl, w0⟩ := open_int Try.underlying3 (hval 0 3 v0 rfl rfl) h0
  obtain ⟨a1, len1, cap1, rfl⟩ := okWide_slice Try.underlying22 (hval 1 22 v1 rfl rfl)
  have k1 := h1
  have lt1 : ∀ x ∈ p1, x.block < W.heap.size := by obtain ⟨m, hm⟩ := k1; exact DataW.trod_lt m _ _ _ hm
  obtain ⟨z1, e1, m1, r1, x1⟩ := open_texts h1
  replace x1 : ∀ z ∈ z1, z.size ≤ 140737488351232 := fun z hz => reach_first (reach_tail hsz) (x1 z hz)
  obtain ⟨a2, rfl, rfl, rfl, w2⟩ := open_string Try.underlying9 (hval 2 9 v2 rfl rfl) h2
  clear hA0 hval0 hsz0
  refine (walk W a0 w0 a1 len1 cap1 z1 e1 m1 r1 x1 a2 w2).mono fun e W' ⟨he, bel⟩ => ?_
  subst he
  exact ⟨_, rfl, _, _, _, [], _, [], hW', trodAll_mk1 (shut_bool Try.underlying4 _), (trodAll_cons_mk (shut_int Try.underlying3 w0) (trodAll_cons_mk (Below.trod laidOut (by kernel_rfl) (of_decide_eq_true (by kernel_rfl)) k1 bel lt1) (trodAll_cons_mk (shut_string Try.underlying9 w2) trodAll_mk0))), rfl, bel.frame _, fun h => by cases h⟩

theorem over : Rows.sketchHalvesRow.holds Try.pinned (OpenSpec.ofChange Rows.sketchHalvesSpec) :=
  OpenClaim.holds_of_wide 5 Try.f5 rfl rfl rfl rfl rfl rfl rfl ⟨rfl, rfl, rfl, rfl, rfl⟩ rfl rfl rfl rfl rfl (by kernel_rfl) Try.func5 (by kernel_rfl)
    (of_decide_eq_true (by kernel_rfl)) (by unfold Func.isWrapper; first | (rw [if_pos (by decide +kernel)]; kernel_rfl) | (rw [if_neg (by decide +kernel)]; exact ⟨rfl, rfl⟩))
    (fun os started H enc _ => lifted os started H enc)

end Go.Proofs.Ythlpoljpfndmiaa.sketchHalves
namespace Go.Proofs.Ythlpoljpfndmiaa
/-- the given statement -/
theorem sketchHalves_holds : Rows.SketchHalvesSaid := sketchHalves.over
#print axioms sketchHalves_holds
end Go.Proofs.Ythlpoljpfndmiaa
