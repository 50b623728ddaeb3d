/- No cell is above 15, and the sum is below ten times a row: the law returns true for every room and all texts, and its arguments read as they did. -/
import Derived.Test.YthlpoljpfndmiaaRows
import Derived.Test.YthlpoljpfndmiaaArgs
import Derived.WalkKit
import Derived.ProofKit
import Derived.OpenShut
import Derived.ShutString
import Derived.ChangeOld
import Derived.Below
import Derived.Carry
import Derived.SizedLaws
namespace Go.Proofs.Ythlpoljpfndmiaa.sketchBounds
open Go.ChangeShapes Go.WideShapes Go.ChangeAt Go.RowKit
open Go.ChangeMaps (open_string shut_string)
set_option linter.unusedVariables false

theorem own : ownKnob Try.prog.godebug = none := by kernel_rfl
theorem laidOut : laidOutB Try.prog = true := by kernel_rfl
set_option maxRecDepth 20000 in
set_option maxHeartbeats 4000000 in
theorem walkA (w : World) (r : Int) (b0 : -9223372036854775808 ≤ r) (b1 : r ≤ 9223372036854775807) (a1 : Option Addr) (cap1 : Nat) (z1 : List ByteArray) (r1 : RowIn Value.string w a1 z1) (m1 : z1.length ≤ maxLen) (x1 : ∀ z ∈ z1, z.size ≤ 140737488351232) (hle : z1.length ≤ 300) :
    Calls Try.prog 6 #[.int .i64 r, .slice a1 z1.length cap1] w fun e w' => e = .returned (.bool true) ∧ Below w.heap.size w w' := by
  have hv := heavy_any (cap := cap1) r1 m1 x1
  have hm : z1.length ≤ 9223372036854775807 := by unfold maxLen at m1; omega
  have R1 : Hid (RowIn Value.string w a1 z1) := r1
  clear r1 x1 m1
  go_enter Try.func6, Try.ntmps6
  go_wp2_with (first
    | (go_at_call 8; refine hv.mono ?_; rintro e w0 ⟨⟨hb, rfl, hli⟩, rfl⟩; have HLI : Hid (hb = false → Light z1 300) := hli; clear hv hli; cases hb)
    | (go_at_call 9; refine (new_any (w := w0) (D := (w0.heap.size ≤ ·)) r b0 b1 (fun k h => h)).mono ?_; rintro e w1 ⟨p, rfl, H1, hk1⟩))
  rotate_left
  · go_ret
    exact ⟨rfl, Below.refl _ _⟩
  have HL : Hid (Light z1 300) := HLI.out trivial
  have hb1 := hk1.below (B := w0.heap.size) (Nat.le_refl _) (fun k h => h)
  clear HLI hk1
  generalize wd r = N at H1
  go_loopw [6] (fun i wr => ∃ (k : Nat) (c : Nat → Nat) (s : Nat), k ≤ z1.length ∧ i = .int .i64 k ∧ SK p N c s (w0.heap.size ≤ ·) wr ∧ Below w0.heap.size w0 wr) (fun i _ => z1.length - (intOf i).toNat)
  case atStart => exact ⟨0, _, _, Nat.zero_le _, rfl, H1, hb1⟩
  case round =>
    clear H1 hb1
    obtain ⟨k, c, s, hk, rfl, H, hb⟩ := hrel
    have hs := hb.size
    rcases Nat.lt_or_ge k z1.length with hlt | hge
    · obtain ⟨z, hz⟩ : ∃ z, z1[k]? = some z := ⟨_, List.getElem?_eq_getElem (by omega)⟩
      obtain ⟨g, off, ea, c0⟩ := (R1.out.later hb).at hz
      subst ea
      have hzs := HL.out k z (by omega) hz
      have l1 : k < z1.length := by omega
      have l2 : (k : Int) < 300 := by omega
      clear hz
      go_wp2_with (go_at_call 13; refine (add_any H (fun j h => Nat.le_trans hs h) z (by omega)).mono ?_; rintro e w2 ⟨rfl, H2, hk2⟩)
      go_roundw
      case rel => exact ⟨k + 1, _, _, hlt, by go_num, H2, hb.trans (hk2.below hs (fun j h => h))⟩
      case measure => simp [intOf]; omega
    · have hk' : k = z1.length := by omega
      subst hk'
      clear hge hk
      have hN := H.1.hi
      have hlo := H.1.lo
      have hsum := H.1.sum
      have HC : Hid (∀ i, c i ≤ 15) := H.1.cell
      go_wp2_with (go_at_call 19; refine (cells_any H).mono ?_; rintro e w2 ⟨q, rfl, hq, hq0, hb2⟩)
      have H2 := H.below hb2
      have hs2 := hb2.size
      have hb2' : Below w0.heap.size w0 w2 := hb.trans (hb2.mono hs)
      clear hb H hb2
      go_loop [8] (fun i => ∃ j : Nat, j ≤ 4 * N ∧ i = .int .i64 j) (fun i => 4 * N - (intOf i).toNat)
      case atStart => exact ⟨0, Nat.zero_le _, rfl⟩
      case round =>
        obtain ⟨j, hj, rfl⟩ := hrel
        rcases Nat.lt_or_ge j (4 * N) with hjl | hjg
        · have d0 : w2.cell? ⟨q, j, none⟩ = some (.int .i64 (c j : Nat)) := by rw [cell_of_block hq, List.getElem?_toArray, i64s_at c hjl]
          have hcj := HC.out j
          generalize c j = v at d0 hcj
          have jI : (j : Int) < 4 * (N : Int) := by omega
          have v0 : ¬ ((v : Int) < 0) := by omega
          have v1 : ¬ ((15 : Int) < (v : Int)) := by omega
          go_wp2_with fail
          go_round
          case rel => exact ⟨j + 1, hjl, by go_num⟩
          case measure => simp [intOf]; omega
        · have hj' : j = 4 * N := by omega
          subst hj'
          have q1 : (4 * (N : Int)) % 4 = 0 := by omega
          have q2 : (4 * (N : Int)) / 4 = (N : Int) := by omega
          have q3 : (s : Int) < 10 * (N : Int) := by omega
          clear hjg hj hq
          go_wp2_with (first
            | (go_at_call 17; refine (sum_any H2).mono ?_; rintro e w3 ⟨rfl, rfl⟩)
            | (go_at_call 20; refine (known_any _).mono ?_; rintro e w4 ⟨rfl, hb4⟩))
          go_ret
          exact ⟨rfl, hb2'.trans (hb4.mono (by omega))⟩
set_option maxRecDepth 20000 in
set_option maxHeartbeats 4000000 in
theorem walkB (w : World) (r : Int) (b0 : -9223372036854775808 ≤ r) (b1 : r ≤ 9223372036854775807) (a1 : Option Addr) (cap1 : Nat) (z1 : List ByteArray) (r1 : RowIn Value.string w a1 z1) (m1 : z1.length ≤ maxLen) (x1 : ∀ z ∈ z1, z.size ≤ 140737488351232) (hle : 300 < z1.length) :
    Calls Try.prog 6 #[.int .i64 r, .slice a1 z1.length cap1] w fun e w' => e = .returned (.bool true) ∧ Below w.heap.size w w' := by
  have hv := heavy_any (cap := cap1) r1 m1 x1
  have hm : z1.length ≤ 9223372036854775807 := by unfold maxLen at m1; omega
  have R1 : Hid (RowIn Value.string w a1 z1) := r1
  clear r1 x1 m1
  go_enter Try.func6, Try.ntmps6
  go_wp2_with (first
    | (go_at_call 8; refine hv.mono ?_; rintro e w0 ⟨⟨hb, rfl, hli⟩, rfl⟩; have HLI : Hid (hb = false → Light z1 300) := hli; clear hv hli; cases hb)
    | (go_at_call 9; refine (new_any (w := w0) (D := (w0.heap.size ≤ ·)) r b0 b1 (fun k h => h)).mono ?_; rintro e w1 ⟨p, rfl, H1, hk1⟩))
  rotate_left
  · go_ret
    exact ⟨rfl, Below.refl _ _⟩
  have HL : Hid (Light z1 300) := HLI.out trivial
  have hb1 := hk1.below (B := w0.heap.size) (Nat.le_refl _) (fun k h => h)
  clear HLI hk1
  generalize wd r = N at H1
  go_loopw [6] (fun i wr => ∃ (k : Nat) (c : Nat → Nat) (s : Nat), k ≤ 300 ∧ i = .int .i64 k ∧ SK p N c s (w0.heap.size ≤ ·) wr ∧ Below w0.heap.size w0 wr) (fun i _ => 300 - (intOf i).toNat)
  case atStart => exact ⟨0, _, _, Nat.zero_le _, rfl, H1, hb1⟩
  case round =>
    clear H1 hb1
    obtain ⟨k, c, s, hk, rfl, H, hb⟩ := hrel
    have hs := hb.size
    rcases Nat.lt_or_ge k 300 with hlt | hge
    · obtain ⟨z, hz⟩ : ∃ z, z1[k]? = some z := ⟨_, List.getElem?_eq_getElem (by omega)⟩
      obtain ⟨g, off, ea, c0⟩ := (R1.out.later hb).at hz
      subst ea
      have hzs := HL.out k z (by omega) hz
      have l1 : k < z1.length := by omega
      have l2 : (k : Int) < 300 := by omega
      clear hz
      go_wp2_with (go_at_call 13; refine (add_any H (fun j h => Nat.le_trans hs h) z (by omega)).mono ?_; rintro e w2 ⟨rfl, H2, hk2⟩)
      go_roundw
      case rel => exact ⟨k + 1, _, _, hlt, by go_num, H2, hb.trans (hk2.below hs (fun j h => h))⟩
      case measure => simp [intOf]; omega
    · have hk' : k = 300 := by omega
      subst hk'
      have l1 : 300 < z1.length := hle
      clear hge hk
      have hN := H.1.hi
      have hlo := H.1.lo
      have hsum := H.1.sum
      have HC : Hid (∀ i, c i ≤ 15) := H.1.cell
      go_wp2_with (go_at_call 19; refine (cells_any H).mono ?_; rintro e w2 ⟨q, rfl, hq, hq0, hb2⟩)
      have H2 := H.below hb2
      have hs2 := hb2.size
      have hb2' : Below w0.heap.size w0 w2 := hb.trans (hb2.mono hs)
      clear hb H hb2
      go_loop [8] (fun i => ∃ j : Nat, j ≤ 4 * N ∧ i = .int .i64 j) (fun i => 4 * N - (intOf i).toNat)
      case atStart => exact ⟨0, Nat.zero_le _, rfl⟩
      case round =>
        obtain ⟨j, hj, rfl⟩ := hrel
        rcases Nat.lt_or_ge j (4 * N) with hjl | hjg
        · have d0 : w2.cell? ⟨q, j, none⟩ = some (.int .i64 (c j : Nat)) := by rw [cell_of_block hq, List.getElem?_toArray, i64s_at c hjl]
          have hcj := HC.out j
          generalize c j = v at d0 hcj
          have jI : (j : Int) < 4 * (N : Int) := by omega
          have v0 : ¬ ((v : Int) < 0) := by omega
          have v1 : ¬ ((15 : Int) < (v : Int)) := by omega
          go_wp2_with fail
          go_round
          case rel => exact ⟨j + 1, hjl, by go_num⟩
          case measure => simp [intOf]; omega
        · have hj' : j = 4 * N := by omega
          subst hj'
          have q1 : (4 * (N : Int)) % 4 = 0 := by omega
          have q2 : (4 * (N : Int)) / 4 = (N : Int) := by omega
          have q3 : (s : Int) < 10 * (N : Int) := by omega
          clear hjg hj hq
          go_wp2_with (first
            | (go_at_call 17; refine (sum_any H2).mono ?_; rintro e w3 ⟨rfl, rfl⟩)
            | (go_at_call 20; refine (known_any _).mono ?_; rintro e w4 ⟨rfl, hb4⟩))
          go_ret
          exact ⟨rfl, hb2'.trans (hb4.mono (by omega))⟩

set_option maxRecDepth 20000 in
set_option maxHeartbeats 1000000 in
theorem walk (w : World) (a0 : Int) (w0 : (Lit.int .i64 a0).wf = true) (a1 : Option Addr) (len1 cap1 : Nat) (z1 : List ByteArray) (e1 : z1.length = len1) (m1 : len1 ≤ maxLen) (r1 : RowIn Value.string w a1 z1) (x1 : ∀ z ∈ z1, z.size ≤ 140737488351232) :
    Calls Try.prog 6 #[.int .i64 a0, .slice a1 len1 cap1] w fun e w' => e = .returned (.bool true) ∧ Below w.heap.size w w' := by
  obtain ⟨b0, b1⟩ := bounds_i64 w0
  clear w0
  subst e1
  by_cases hle : z1.length ≤ 300
  · exact walkA w a0 b0 b1 a1 cap1 z1 r1 m1 x1 hle
  · exact walkB w a0 b0 b1 a1 cap1 z1 r1 m1 x1 (by omega)

set_option maxRecDepth 100000 in
theorem lifted (os : Os) (started : os.Started) (H : Type) (enc : TypeId × Value → H) :
    ReturnsInHanded {} Try.checked os 6 .any (Rows.sketchBoundsSpec.pre6 enc Try.prog Try.f6 Rows.sketchBoundsRow.domain false) (Rows.sketchBoundsSpec.post enc Try.prog Try.f6 false true false false) := by
  refine returnsInHanded_of_change_sized (C := Try.checked) own started (by kernel_rfl) Try.func6
    (ChangeSpec.witness6 (enc := enc) (C := Try.checked) false ⟨#[], #[.int .i64 0, .slice none 0 0], []⟩ 8 (by kernel_rfl) (by kernel_rfl) (by kernel_rfl) (by kernel_rfl)) ?_
  intro W base args ds gs before hval0 hW hcnd hsz0 _
  have hval : ∀ (j : Nat) t v, Try.f6.params[j]? = some t → args[j]? = some v → Value.okWide Try.prog W .any base t v := hval0
  have hsz : (DataW.weightsEach Try.prog (Try.f6.params.toList ++ Rows.sketchBoundsSpec.plain.varTypes Try.prog) (ds ++ gs)).all (· ≤ reachBytes) = true := hsz0
  have hW' := hW
  obtain ⟨p, q, hA0, hV, rfl, hfz, hnd⟩ := hW
  have hA : DataW.TrodAll enc Try.prog W 0 (fun _ => true) true Try.f6.params.toList args.toList ds p := hA0
  rw [Try.params6] at hA hval hsz
  obtain ⟨v0, vs0, d0, ds0, p0, q0, hargs, rfl, rfl, h0, s0⟩ := trodAll_cons hA
  obtain ⟨v1, vs1, d1, ds1, p1, q1, rfl, rfl, rfl, h1, s1⟩ := trodAll_cons s0
  obtain ⟨rfl, rfl, rfl⟩ := trodAll_nil s1
  obtain rfl : args = #[v0, v1] := by cases args; simp_all
  obtain ⟨rfl, rfl⟩ := trodVars_none hV
  obtain ⟨a0, rfl, rfl, rfl, w0⟩ := open_int Try.underlying3 (hval 0 3 v0 rfl rfl) h0
  obtain ⟨a1, len1, cap1, rfl⟩ := okWide_slice Try.underlying22 (hval 1 22 v1 rfl rfl)
  have k1 := h1
  have lt1 : ∀ x ∈ p1, x.block < W.heap.size := by obtain ⟨m, hm⟩ := k1; exact DataW.trod_lt m _ _ _ hm
  obtain ⟨z1, e1, m1, r1, x1⟩ := open_texts h1
  replace x1 : ∀ z ∈ z1, z.size ≤ 140737488351232 := fun z hz => reach_first (reach_tail hsz) (x1 z hz)
  clear hA0 hval0 hsz0
  refine (walk W a0 w0 a1 len1 cap1 z1 e1 m1 r1 x1).mono fun e W' ⟨he, bel⟩ => ?_
  subst he
  exact ⟨_, rfl, _, _, _, [], _, [], hW', trodAll_mk1 (shut_bool Try.underlying4 _), (trodAll_cons_mk (shut_int Try.underlying3 w0) (trodAll_cons_mk (Below.trod laidOut (by kernel_rfl) (of_decide_eq_true (by kernel_rfl)) k1 bel lt1) trodAll_mk0)), rfl, bel.frame _, fun h => by cases h⟩

theorem over : Rows.sketchBoundsRow.holds Try.pinned (OpenSpec.ofChange Rows.sketchBoundsSpec) :=
  OpenClaim.holds_of_wide 6 Try.f6 rfl rfl rfl rfl rfl rfl rfl ⟨rfl, rfl, rfl, rfl, rfl⟩ rfl rfl rfl rfl rfl (by kernel_rfl) Try.func6 (by kernel_rfl)
    (of_decide_eq_true (by kernel_rfl)) (by unfold Func.isWrapper; first | (rw [if_pos (by decide +kernel)]; kernel_rfl) | (rw [if_neg (by decide +kernel)]; exact ⟨rfl, rfl⟩))
    (fun os started H enc _ => lifted os started H enc)

end Go.Proofs.Ythlpoljpfndmiaa.sketchBounds
namespace Go.Proofs.Ythlpoljpfndmiaa
/-- the given statement -/
theorem sketchBounds_holds : Rows.SketchBoundsSaid := sketchBounds.over
#print axioms sketchBounds_holds
end Go.Proofs.Ythlpoljpfndmiaa
