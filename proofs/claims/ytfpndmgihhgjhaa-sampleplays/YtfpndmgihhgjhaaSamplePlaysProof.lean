/- Of every row of keys which are taken, and how many; any room, scaled: the law returns true for every rate, all texts and every room, and its arguments read as they did. -/
import Derived.Test.YtfpndmgihhgjhaaRows
import Derived.Test.YtfpndmgihhgjhaaRf
import Derived.WalkKit
import Derived.ProofKit
import Derived.OpenShut
import Derived.ShutString
import Derived.ChangeOld
import Derived.Below
import Derived.Carry
import Derived.SizedLaws
namespace Go.Proofs.Ytfpndmgihhgjhaa.samplePlays
open Go.ChangeShapes Go.WideShapes Go.ChangeAt Go.RowKit
open Go.ChangeMaps (open_string shut_string)
set_option linter.unusedVariables false

theorem own : ownKnob Try.prog.godebug = none := by kernel_rfl
theorem laidOut : laidOutB Try.prog = true := by kernel_rfl
theorem below_drewN {B : Nat} {w w' : World} (h : Below B w w') (q : Nat) : Below B w (w'.drewN q) := ⟨h.os, h.tape, h.output, h.size, h.block⟩
set_option maxRecDepth 20000 in
set_option maxHeartbeats 4000000 in
theorem walkA (w : World) (r : Int) (a1 : Option Addr) (cap1 : Nat) (z1 : List ByteArray) (r1 : RowIn Value.string w a1 z1) (m1 : z1.length ≤ maxLen) (x1 : ∀ z ∈ z1, z.size ≤ 140737488351232) (c : Int) (hle : z1.length ≤ 300) :
    Calls Try.prog 3 #[.int .i64 r, .slice a1 z1.length cap1, .int .i64 c] w fun e w' => e = .returned (.bool true) ∧ Below w.heap.size w w' := by
  have hv := heavy_any (cap := cap1) r1 m1 x1
  have hm : z1.length ≤ 9223372036854775807 := by unfold maxLen at m1; omega
  have R1 : Hid (RowIn Value.string w a1 z1) := r1
  have HN := fun W : World => new_any (w := W) (D := (W.heap.size ≤ ·)) r (fun k h => h)
  have HM := fun W : World => rnew_any (w := W) (D := (W.heap.size ≤ ·)) r (fun k h => h)
  generalize held 16777216 r = R at *
  clear r1 x1 m1
  go_enter Try.func3, Try.ntmps3
  go_wp2_with (first
    | (go_at_call 8; refine hv.mono ?_; rintro e w0 ⟨⟨hb, rfl, hli⟩, rfl⟩; have HLI : Hid (hb = false → Light z1 300) := hli; clear hv hli; cases hb)
    | (go_at_call 9; refine (HN w0).mono ?_; rintro e w1 ⟨p, rfl, H1, hk1⟩)
    | (go_at_call 10; refine (HM w1).mono ?_; rintro e w2 ⟨x, rfl, H2, hk2⟩))
  rotate_left
  · go_ret
    exact ⟨rfl, Below.refl _ _⟩
  have HL : Hid (Light z1 300) := HLI.out trivial
  have hs1 := hk1.size
  have HA0 := two_start (SM.lies _ _ _ _ _) (SM.lies _ _ _ _ _) H1 hs1 H2 hk2
  have hb0 : Below w0.heap.size w0 w2 := (hk1.below (Nat.le_refl _) (fun k h => h)).trans (hk2.below hs1 (fun k h => Nat.le_trans hs1 h))
  clear HLI hk1 hk2 H1 H2 hs1 HN HM
  go_loopw [9] (fun i wr => ∃ (k A T : Nat), k ≤ z1.length ∧ i = .int .i64 k ∧ Two (SM 42 p R A T) (SM 32 x R A T) (fun j => j < w0.heap.size) wr ∧ Below w0.heap.size w0 wr) (fun i _ => z1.length - (intOf i).toNat)
  case atStart => exact ⟨0, _, _, Nat.zero_le _, rfl, HA0, hb0⟩
  case round =>
    clear HA0 hb0
    obtain ⟨k, A, T, hk, rfl, HA, hb⟩ := hrel
    have hs := hb.size
    rcases Nat.lt_or_ge k z1.length with hlt | hge
    · obtain ⟨z, hz⟩ : ∃ z, z1[k]? = some z := ⟨_, List.getElem?_eq_getElem (by omega)⟩
      obtain ⟨g, off, ea, c0⟩ := (R1.out.later hb).at hz
      subst ea
      have hzs := HL.out k z (by omega) hz
      have l1 : k < z1.length := by omega
      have l1I : (k : Int) < (z1.length : Int) := by omega
      have l2 : (k : Int) < 300 := by omega
      have HR : Hid (∀ w', Below w0.heap.size w0 w' → w'.cell? ⟨g, off + k, none⟩ = some (.string z)) := fun w' hb' => by
        obtain ⟨g', off', e', h'⟩ := (R1.out.later hb').at hz
        cases e'
        exact h'
      clear hz
      have HAd : Two (SM 42 p R A T) (SM 32 x R A T) (fun j => j < w0.heap.size) wr.drew := HA.below (SM.lies _ _ _ _ _) (SM.lies _ _ _ _ _) ((Below.refl _ _).drew)
      have hbd : Below w0.heap.size w0 wr.drew := hb.drew
      have hsd : w0.heap.size ≤ wr.drew.heap.size := hs
      clear HA hb hs
      have hAA := two_takes_a HAd z (by omega)
      have hBB := fun {W : World} {B U : Nat} (h : Two (SM 42 p R B U) (SM 32 x R A T) (fun j => j < w0.heap.size) W) => two_rtakes_b h z (by omega)
      generalize tk R z = t0 at hAA hBB
      have ht0 : (t0 == t0) = true := beq_self_eq_true t0
      go_wp2_with fail
      go_region_held3 (fun w' => w'.cell? ⟨g, off + k, none⟩ = some (.string z)) (first | go_keep | exact c3 | exact d0)
        (first
        | (go_at_call 11; refine hAA.mono ?_; rintro e w3 ⟨rfl, HA3, hk3⟩; have hb3 := hbd.trans (hk3.old hsd); have hs3 := hb3.size; have c3 := HR.out _ hb3; clear hk3)
        | (go_at_call 12; refine (hBB HA3).mono ?_; rintro e w4 ⟨rfl, HA4, hk4⟩; have hb4 := hb3.trans (hk4.old hs3); have hs4 := hb4.size; have d0 := HR.out _ hb4; clear hk4))
      clear HAd hAA hBB HA3
      go_wp2_with fail
      go_roundw
      case rel => exact ⟨k + 1, _, _, hlt, by go_num, HA4, hb4⟩
      case measure => simp [intOf]; omega
    · have hk' : k = z1.length := by omega
      subst hk'
      clear hge hk
      obtain ⟨DL, hL⟩ := HA.left
      obtain ⟨DX, hX⟩ := HA.right
      go_wp2_with (go_at_call 13; refine (seen_any hL).mono ?_; rintro e w5 ⟨rfl, q5, rfl⟩)
      have hLd : SM 42 p R A T DL (wr.drewN q5).drew := hL
      have hXd : SM 32 x R A T DX (wr.drewN q5).drew := hX
      have hbd : Below w0.heap.size w0 (wr.drewN q5).drew := (below_drewN hb q5).drew
      have hsd : w0.heap.size ≤ (wr.drewN q5).drew.heap.size := hs
      clear hL hX HA hb hs
      generalize wr.drewN q5 = W5 at *
      obtain ⟨c0, c1, c2, -⟩ : _ ∧ _ ∧ _ ∧ _ := SM.at (w := W5) hXd
      have hRa := rate_any hLd
      have hRo := room_any hLd c
      have hRr := fun {W : World} (h : Below W5.drew.heap.size W5.drew W) => rroom_any (hXd.below h) c
      generalize room R c = M at hRo hRr
      have HC : Hid (∀ W, Below W5.drew.heap.size W5.drew W → W.cell? ⟨x, 0, none⟩ = some (.int .i64 (R : Nat)) ∧ W.cell? ⟨x, 1, none⟩ = some (.int .i64 (A : Nat)) ∧ W.cell? ⟨x, 2, none⟩ = some (.int .i64 (T : Nat))) := fun W h => by
        obtain ⟨a, b, d, -⟩ := (hXd.below h).at
        exact ⟨a, b, d⟩
      clear hLd hXd
      go_region_held3 (fun w' => w'.cell? ⟨x, 0, none⟩ = some (.int .i64 (R : Nat)) ∧ w'.cell? ⟨x, 1, none⟩ = some (.int .i64 (A : Nat)) ∧ w'.cell? ⟨x, 2, none⟩ = some (.int .i64 (T : Nat))) (first | go_keep | exact e9 | exact e8 | exact e7)
        (first
        | (go_at_call 14; refine hRa.mono ?_; rintro e w6 ⟨rfl, rfl⟩)
        | (go_at_call 15; refine hRo.mono ?_; rintro e w7 ⟨rfl, hb7⟩; have e7 := HC.out _ hb7)
        | (go_at_call 16; refine (hRr hb7).mono ?_; rintro e w8 ⟨rfl, q8, rfl⟩; have hb8 := below_drewN hb7 q8; have e8 := HC.out _ hb8)
        | (go_at_call 17; refine (known_any _).mono ?_; rintro e w9 ⟨rfl, hb9⟩; have hb9' := hb8.trans (hb9.mono hb8.size); have e9 := HC.out _ hb9'))
      go_wp2_with fail
      go_ret
      exact ⟨rfl, hbd.trans (hb9'.mono hsd)⟩
set_option maxRecDepth 20000 in
set_option maxHeartbeats 4000000 in
theorem walkB (w : World) (r : Int) (a1 : Option Addr) (cap1 : Nat) (z1 : List ByteArray) (r1 : RowIn Value.string w a1 z1) (m1 : z1.length ≤ maxLen) (x1 : ∀ z ∈ z1, z.size ≤ 140737488351232) (c : Int) (hle : 300 < z1.length) :
    Calls Try.prog 3 #[.int .i64 r, .slice a1 z1.length cap1, .int .i64 c] w fun e w' => e = .returned (.bool true) ∧ Below w.heap.size w w' := by
  have hv := heavy_any (cap := cap1) r1 m1 x1
  have hm : z1.length ≤ 9223372036854775807 := by unfold maxLen at m1; omega
  have R1 : Hid (RowIn Value.string w a1 z1) := r1
  have HN := fun W : World => new_any (w := W) (D := (W.heap.size ≤ ·)) r (fun k h => h)
  have HM := fun W : World => rnew_any (w := W) (D := (W.heap.size ≤ ·)) r (fun k h => h)
  generalize held 16777216 r = R at *
  clear r1 x1 m1
  go_enter Try.func3, Try.ntmps3
  go_wp2_with (first
    | (go_at_call 8; refine hv.mono ?_; rintro e w0 ⟨⟨hb, rfl, hli⟩, rfl⟩; have HLI : Hid (hb = false → Light z1 300) := hli; clear hv hli; cases hb)
    | (go_at_call 9; refine (HN w0).mono ?_; rintro e w1 ⟨p, rfl, H1, hk1⟩)
    | (go_at_call 10; refine (HM w1).mono ?_; rintro e w2 ⟨x, rfl, H2, hk2⟩))
  rotate_left
  · go_ret
    exact ⟨rfl, Below.refl _ _⟩
  have HL : Hid (Light z1 300) := HLI.out trivial
  have hs1 := hk1.size
  have HA0 := two_start (SM.lies _ _ _ _ _) (SM.lies _ _ _ _ _) H1 hs1 H2 hk2
  have hb0 : Below w0.heap.size w0 w2 := (hk1.below (Nat.le_refl _) (fun k h => h)).trans (hk2.below hs1 (fun k h => Nat.le_trans hs1 h))
  clear HLI hk1 hk2 H1 H2 hs1 HN HM
  go_loopw [9] (fun i wr => ∃ (k A T : Nat), k ≤ 300 ∧ i = .int .i64 k ∧ Two (SM 42 p R A T) (SM 32 x R A T) (fun j => j < w0.heap.size) wr ∧ Below w0.heap.size w0 wr) (fun i _ => 300 - (intOf i).toNat)
  case atStart => exact ⟨0, _, _, Nat.zero_le _, rfl, HA0, hb0⟩
  case round =>
    clear HA0 hb0
    obtain ⟨k, A, T, hk, rfl, HA, hb⟩ := hrel
    have hs := hb.size
    rcases Nat.lt_or_ge k 300 with hlt | hge
    · obtain ⟨z, hz⟩ : ∃ z, z1[k]? = some z := ⟨_, List.getElem?_eq_getElem (by omega)⟩
      obtain ⟨g, off, ea, c0⟩ := (R1.out.later hb).at hz
      subst ea
      have hzs := HL.out k z (by omega) hz
      have l1 : k < z1.length := by omega
      have l1I : (k : Int) < (z1.length : Int) := by omega
      have l2 : (k : Int) < 300 := by omega
      have HR : Hid (∀ w', Below w0.heap.size w0 w' → w'.cell? ⟨g, off + k, none⟩ = some (.string z)) := fun w' hb' => by
        obtain ⟨g', off', e', h'⟩ := (R1.out.later hb').at hz
        cases e'
        exact h'
      clear hz
      have HAd : Two (SM 42 p R A T) (SM 32 x R A T) (fun j => j < w0.heap.size) wr.drew := HA.below (SM.lies _ _ _ _ _) (SM.lies _ _ _ _ _) ((Below.refl _ _).drew)
      have hbd : Below w0.heap.size w0 wr.drew := hb.drew
      have hsd : w0.heap.size ≤ wr.drew.heap.size := hs
      clear HA hb hs
      have hAA := two_takes_a HAd z (by omega)
      have hBB := fun {W : World} {B U : Nat} (h : Two (SM 42 p R B U) (SM 32 x R A T) (fun j => j < w0.heap.size) W) => two_rtakes_b h z (by omega)
      generalize tk R z = t0 at hAA hBB
      have ht0 : (t0 == t0) = true := beq_self_eq_true t0
      go_wp2_with fail
      go_region_held3 (fun w' => w'.cell? ⟨g, off + k, none⟩ = some (.string z)) (first | go_keep | exact c3 | exact d0)
        (first
        | (go_at_call 11; refine hAA.mono ?_; rintro e w3 ⟨rfl, HA3, hk3⟩; have hb3 := hbd.trans (hk3.old hsd); have hs3 := hb3.size; have c3 := HR.out _ hb3; clear hk3)
        | (go_at_call 12; refine (hBB HA3).mono ?_; rintro e w4 ⟨rfl, HA4, hk4⟩; have hb4 := hb3.trans (hk4.old hs3); have hs4 := hb4.size; have d0 := HR.out _ hb4; clear hk4))
      clear HAd hAA hBB HA3
      go_wp2_with fail
      go_roundw
      case rel => exact ⟨k + 1, _, _, hlt, by go_num, HA4, hb4⟩
      case measure => simp [intOf]; omega
    · have hk' : k = 300 := by omega
      subst hk'
      have l1 : 300 < z1.length := hle
      clear hge hk
      obtain ⟨DL, hL⟩ := HA.left
      obtain ⟨DX, hX⟩ := HA.right
      go_wp2_with (go_at_call 13; refine (seen_any hL).mono ?_; rintro e w5 ⟨rfl, q5, rfl⟩)
      have hLd : SM 42 p R A T DL (wr.drewN q5).drew := hL
      have hXd : SM 32 x R A T DX (wr.drewN q5).drew := hX
      have hbd : Below w0.heap.size w0 (wr.drewN q5).drew := (below_drewN hb q5).drew
      have hsd : w0.heap.size ≤ (wr.drewN q5).drew.heap.size := hs
      clear hL hX HA hb hs
      generalize wr.drewN q5 = W5 at *
      obtain ⟨c0, c1, c2, -⟩ : _ ∧ _ ∧ _ ∧ _ := SM.at (w := W5) hXd
      have hRa := rate_any hLd
      have hRo := room_any hLd c
      have hRr := fun {W : World} (h : Below W5.drew.heap.size W5.drew W) => rroom_any (hXd.below h) c
      generalize room R c = M at hRo hRr
      have HC : Hid (∀ W, Below W5.drew.heap.size W5.drew W → W.cell? ⟨x, 0, none⟩ = some (.int .i64 (R : Nat)) ∧ W.cell? ⟨x, 1, none⟩ = some (.int .i64 (A : Nat)) ∧ W.cell? ⟨x, 2, none⟩ = some (.int .i64 (T : Nat))) := fun W h => by
        obtain ⟨a, b, d, -⟩ := (hXd.below h).at
        exact ⟨a, b, d⟩
      clear hLd hXd
      go_region_held3 (fun w' => w'.cell? ⟨x, 0, none⟩ = some (.int .i64 (R : Nat)) ∧ w'.cell? ⟨x, 1, none⟩ = some (.int .i64 (A : Nat)) ∧ w'.cell? ⟨x, 2, none⟩ = some (.int .i64 (T : Nat))) (first | go_keep | exact e9 | exact e8 | exact e7)
        (first
        | (go_at_call 14; refine hRa.mono ?_; rintro e w6 ⟨rfl, rfl⟩)
        | (go_at_call 15; refine hRo.mono ?_; rintro e w7 ⟨rfl, hb7⟩; have e7 := HC.out _ hb7)
        | (go_at_call 16; refine (hRr hb7).mono ?_; rintro e w8 ⟨rfl, q8, rfl⟩; have hb8 := below_drewN hb7 q8; have e8 := HC.out _ hb8)
        | (go_at_call 17; refine (known_any _).mono ?_; rintro e w9 ⟨rfl, hb9⟩; have hb9' := hb8.trans (hb9.mono hb8.size); have e9 := HC.out _ hb9'))
      go_wp2_with fail
      go_ret
      exact ⟨rfl, hbd.trans (hb9'.mono hsd)⟩

set_option maxRecDepth 20000 in
set_option maxHeartbeats 1000000 in
theorem walk (w : World) (a0 : Int) (w0 : (Lit.int .i64 a0).wf = true) (a1 : Option Addr) (len1 cap1 : Nat) (z1 : List ByteArray) (e1 : z1.length = len1) (m1 : len1 ≤ maxLen) (r1 : RowIn Value.string w a1 z1) (x1 : ∀ z ∈ z1, z.size ≤ 140737488351232) (a2 : Int) (w2 : (Lit.int .i64 a2).wf = true) :
    Calls Try.prog 3 #[.int .i64 a0, .slice a1 len1 cap1, .int .i64 a2] w fun e w' => e = .returned (.bool true) ∧ Below w.heap.size w w' := by
  obtain ⟨b0, b1⟩ := bounds_i64 w0
  obtain ⟨b2, b3⟩ := bounds_i64 w2
  clear w0 w2
  subst e1
  by_cases hle : z1.length ≤ 300
  · exact walkA w a0 a1 cap1 z1 r1 m1 x1 a2 hle
  · exact walkB w a0 a1 cap1 z1 r1 m1 x1 a2 (by omega)

set_option maxRecDepth 100000 in
theorem lifted (os : Os) (started : os.Started) (H : Type) (enc : TypeId × Value → H) :
    ReturnsInHanded {} Try.checked os 3 .any (Rows.samplePlaysSpec.pre6 enc Try.prog Try.f3 Rows.samplePlaysRow.domain false) (Rows.samplePlaysSpec.post enc Try.prog Try.f3 false true false false) := by
  refine returnsInHanded_of_change_sized (C := Try.checked) own started (by kernel_rfl) Try.func3
    (ChangeSpec.witness6 (enc := enc) (C := Try.checked) false ⟨#[], #[.int .i64 0, .slice none 0 0, .int .i64 0], []⟩ 8 (by kernel_rfl) (by kernel_rfl) (by kernel_rfl) (by kernel_rfl)) ?_
  intro W base args ds gs before hval0 hW hcnd hsz0 _
  have hval : ∀ (j : Nat) t v, Try.f3.params[j]? = some t → args[j]? = some v → Value.okWide Try.prog W .any base t v := hval0
  have hsz : (DataW.weightsEach Try.prog (Try.f3.params.toList ++ Rows.samplePlaysSpec.plain.varTypes Try.prog) (ds ++ gs)).all (· ≤ reachBytes) = true := hsz0
  have hW' := hW
  obtain ⟨p, q, hA0, hV, rfl, hfz, hnd⟩ := hW
  have hA : DataW.TrodAll enc Try.prog W 0 (fun _ => true) true Try.f3.params.toList args.toList ds p := hA0
  rw [Try.params3] at hA hval hsz
  obtain ⟨v0, vs0, d0, ds0, p0, q0, hargs, rfl, rfl, h0, s0⟩ := trodAll_cons hA
  obtain ⟨v1, vs1, d1, ds1, p1, q1, rfl, rfl, rfl, h1, s1⟩ := trodAll_cons s0
  obtain ⟨v2, vs2, d2, ds2, p2, q2, rfl, rfl, rfl, h2, s2⟩ := trodAll_cons s1
  obtain ⟨rfl, rfl, rfl⟩ := trodAll_nil s2
  obtain rfl : args = #[v0, v1, v2] := by cases args; simp_all
  obtain ⟨rfl, rfl⟩ := trodVars_none hV
  obtain ⟨a0, rfl, rfl, rfl, w0⟩ := open_int Try.underlying3 (hval 0 3 v0 rfl rfl) h0
  obtain ⟨a1, len1, cap1, rfl⟩ := okWide_slice Try.underlying22 (hval 1 22 v1 rfl rfl)
  have k1 := h1
  have lt1 : ∀ x ∈ p1, x.block < W.heap.size := by obtain ⟨m, hm⟩ := k1; exact DataW.trod_lt m _ _ _ hm
  obtain ⟨z1, e1, m1, r1, x1⟩ := open_texts h1
  replace x1 : ∀ z ∈ z1, z.size ≤ 140737488351232 := fun z hz => reach_first (reach_tail hsz) (x1 z hz)
  obtain ⟨a2, rfl, rfl, rfl, w2⟩ := open_int Try.underlying3 (hval 2 3 v2 rfl rfl) h2
  clear hA0 hval0 hsz0
  refine (walk W a0 w0 a1 len1 cap1 z1 e1 m1 r1 x1 a2 w2).mono fun e W' ⟨he, bel⟩ => ?_
  subst he
  exact ⟨_, rfl, _, _, _, [], _, [], hW', trodAll_mk1 (shut_bool Try.underlying4 _), (trodAll_cons_mk (shut_int Try.underlying3 w0) (trodAll_cons_mk (Below.trod laidOut (by kernel_rfl) (of_decide_eq_true (by kernel_rfl)) k1 bel lt1) (trodAll_cons_mk (shut_int Try.underlying3 w2) trodAll_mk0))), rfl, bel.frame _, fun h => by cases h⟩

theorem over : Rows.samplePlaysRow.holds Try.pinned (OpenSpec.ofChange Rows.samplePlaysSpec) :=
  OpenClaim.holds_of_wide 3 Try.f3 rfl rfl rfl rfl rfl rfl rfl ⟨rfl, rfl, rfl, rfl, rfl⟩ rfl rfl rfl rfl rfl (by kernel_rfl) Try.func3 (by kernel_rfl)
    (of_decide_eq_true (by kernel_rfl)) (by unfold Func.isWrapper; first | (rw [if_pos (by decide +kernel)]; kernel_rfl) | (rw [if_neg (by decide +kernel)]; exact ⟨rfl, rfl⟩))
    (fun os started H enc _ => lifted os started H enc)

end Go.Proofs.Ytfpndmgihhgjhaa.samplePlays
namespace Go.Proofs.Ytfpndmgihhgjhaa
/-- the given statement -/
theorem samplePlays_holds : Rows.SamplePlaysSaid := samplePlays.over
#print axioms samplePlays_holds
end Go.Proofs.Ytfpndmgihhgjhaa
