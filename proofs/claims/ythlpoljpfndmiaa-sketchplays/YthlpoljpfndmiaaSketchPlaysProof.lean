/- Of every row of keys - an empty one halves - each cell, each count, the sum: the law returns true for every room and all texts, and its arguments read as they did. -/
import Derived.Test.YthlpoljpfndmiaaRows
import Derived.Test.YthlpoljpfndmiaaTwo
import Derived.WalkKit
import Derived.ProofKit
import Derived.OpenShut
import Derived.ShutString
import Derived.ChangeOld
import Derived.Below
import Derived.Carry
import Derived.SizedLaws
namespace Go.Proofs.Ythlpoljpfndmiaa.sketchPlays
open Go.ChangeShapes Go.WideShapes Go.ChangeAt Go.RowKit
open Go.ChangeMaps (open_string shut_string)
set_option linter.unusedVariables false

theorem own : ownKnob Try.prog.godebug = none := by kernel_rfl
theorem laidOut : laidOutB Try.prog = true := by kernel_rfl
set_option maxRecDepth 20000 in
set_option maxHeartbeats 8000000 in
theorem walkA (w : World) (r : Int) (b0 : -9223372036854775808 ≤ r) (b1 : r ≤ 9223372036854775807) (a1 : Option Addr) (cap1 : Nat) (z1 : List ByteArray) (r1 : RowIn Value.string w a1 z1) (m1 : z1.length ≤ maxLen) (x1 : ∀ z ∈ z1, z.size ≤ 140737488351232) (hle : z1.length ≤ 300) :
    Calls Try.prog 3 #[.int .i64 r, .slice a1 z1.length cap1] w fun e w' => e = .returned (.bool true) ∧ Below w.heap.size w w' := by
  have hv := heavy_any (cap := cap1) r1 m1 x1
  have hm : z1.length ≤ 9223372036854775807 := by unfold maxLen at m1; omega
  have R1 : Hid (RowIn Value.string w a1 z1) := r1
  clear r1 x1 m1
  go_enter Try.func3, Try.ntmps3
  go_wp2_with (first
    | (go_at_call 8; refine hv.mono ?_; rintro e w0 ⟨⟨hb, rfl, hli⟩, rfl⟩; have HLI : Hid (hb = false → Light z1 300) := hli; clear hv hli; cases hb)
    | (go_at_call 9; refine (new_any (w := w0) (D := (w0.heap.size ≤ ·)) r b0 b1 (fun k h => h)).mono ?_; rintro e w1 ⟨p, rfl, H1, hk1⟩)
    | (go_at_call 10; refine (rnew_any (w := w1) (D := (w1.heap.size ≤ ·)) r b0 b1 (fun k h => h)).mono ?_; rintro e w2 ⟨x, rfl, H2, hk2⟩))
  rotate_left
  · go_ret
    exact ⟨rfl, Below.refl _ _⟩
  have HL : Hid (Light z1 300) := HLI.out trivial
  have hs1 := hk1.size
  have HA0 := two_start (SK.lies _ _ _ _) (RF.lies _ _ _ _) H1 hs1 H2 hk2
  have hb0 : Below w0.heap.size w0 w2 := (hk1.below (Nat.le_refl _) (fun k h => h)).trans (hk2.below hs1 (fun k h => Nat.le_trans hs1 h))
  clear HLI hk1 hk2 H1 H2 hs1
  generalize wd r = N at HA0
  go_loopw [7] (fun i wr => ∃ (k : Nat) (c : Nat → Nat) (s : Nat), k ≤ z1.length ∧ i = .int .i64 k ∧ Two (SK p N c s) (RF x N c s) (fun j => j < w0.heap.size) wr ∧ Below w0.heap.size w0 wr) (fun i _ => z1.length - (intOf i).toNat)
  case atStart => exact ⟨0, _, _, Nat.zero_le _, rfl, HA0, hb0⟩
  case round =>
    clear HA0 hb0
    obtain ⟨k, c, s, hk, rfl, HA, hb⟩ := hrel
    have hs := hb.size
    rcases Nat.lt_or_ge k z1.length with hlt | hge
    · obtain ⟨z, hz⟩ : ∃ z, z1[k]? = some z := ⟨_, List.getElem?_eq_getElem (by omega)⟩
      obtain ⟨g, off, ea, c0⟩ := (R1.out.later hb).at hz
      subst ea
      have hzs := HL.out k z (by omega) hz
      have l1 : k < z1.length := by omega
      have l1I : (k : Int) < (z1.length : Int) := by omega
      have l2 : (k : Int) < 300 := by omega
      have HR : Hid (∀ w', Below w0.heap.size w0 w' → w'.cell? ⟨g, off + k, none⟩ = some (.string z)) := fun w' hb' => by
        obtain ⟨g', off', e', h'⟩ := (R1.out.later hb').at hz
        cases e'
        exact h'
      clear hz
      by_cases he : z = ⟨#[]⟩
      · have hE : z.toList.isEmpty = true := by rw [he, ByteArray.toList_eq]; rfl
        clear he
        go_wp2_with (first
          | (go_at_call 11; refine (both_halve_a HA).mono ?_; rintro e w3 ⟨rfl, HA3, hk3⟩; have hb3 := hb.trans (hk3.old hs); have hs3 := hb3.size; have c3 := HR.out _ hb3; clear HA hk3 c0 hb hs)
          | (go_at_call 12; refine (both_halve_b HA3).mono ?_; rintro e w4 ⟨rfl, HA4, hk4⟩; have hb4 := hb3.trans (hk4.old hs3); have hs4 := hb4.size; have d0 := HR.out _ hb4; clear HA3 hk4 c3 hb3 hs3))
        obtain ⟨DL, hL⟩ := HA4.left
        obtain ⟨DX, hX⟩ := HA4.right
        generalize hv c = c' at HA4 hL hX
        generalize s / 2 = s' at HA4 hL hX
        have e0 : w4.cell? ⟨x, 2, none⟩ = some (.int .i64 (s' : Nat)) := by obtain ⟨f, g, h⟩ := hX; exact h.top.2.2.1
        have hsm := hL.1.sum
        have hNm := hL.1.hi
        obtain ⟨W, rfl⟩ : ∃ W, W = w4 := ⟨_, rfl⟩
        go_region_held3 (fun w' => w'.cell? ⟨g, off + k, none⟩ = some (.string z) ∧ w'.cell? ⟨x, 2, none⟩ = some (.int .i64 (s' : Nat))) (first | go_keep | exact ⟨d7, e7⟩ | exact ⟨d8, e8⟩)
          (first
          | (go_at_call 15; refine (count_any (w := W.drew) hL z (by omega)).mono ?_; rintro e w7 ⟨rfl, hb7⟩; have hb7' : Below W.heap.size W w7 := ((Below.refl _ W).drew).trans hb7; have hX7 := hX.below hb7'; have hL7 := hL.below hb7'; have d7 := cell_later hb7' d0; have e7 := cell_later hb7' e0; clear hb7)
          | (go_at_call 16; refine (rcount_any hX7 z (by omega)).mono ?_; rintro e w8 ⟨rfl, hb8⟩; have hs7 := hb7'.size; have hb8' : Below W.heap.size W w8 := hb7'.trans (hb8.mono hs7); have d8 := cell_later hb8' d0; have e8 := cell_later hb8' e0; have hL8 := hL7.below hb8; clear hb8)
          | (go_at_call 17; refine (sum_any hL8).mono ?_; rintro e w9 ⟨rfl, hw9⟩; subst hw9))
        go_wp2_with fail
        go_roundw
        case rel => exact ⟨k + 1, c', s', hlt, by go_num, HA4.below (SK.lies _ _ _ _) (RF.lies _ _ _ _) hb8', hb4.trans (hb8'.mono hs4)⟩
        case measure => simp [intOf]; omega
      · have hE : z.toList.isEmpty = false := by rw [List.isEmpty_eq_false_iff]; intro e; apply he; rw [ByteArray.toList_eq] at e; exact Go.WideShapes.bytes_inj e
        clear he
        go_wp2_with (first
          | (go_at_call 13; refine (both_add_a HA z (by omega)).mono ?_; rintro e w3 ⟨rfl, HA3, hk3⟩; have hb3 := hb.trans (hk3.old hs); have hs3 := hb3.size; have c3 := HR.out _ hb3; clear HA hk3 c0 hb hs)
          | (go_at_call 14; refine (both_add_b z (by omega) HA3).mono ?_; rintro e w4 ⟨rfl, HA4, hk4⟩; have hb4 := hb3.trans (hk4.old hs3); have hs4 := hb4.size; have d0 := HR.out _ hb4; clear HA3 hk4 c3 hb3 hs3))
        obtain ⟨DL, hL⟩ := HA4.left
        obtain ⟨DX, hX⟩ := HA4.right
        generalize adC c N z s = c' at HA4 hL hX
        generalize adS c N z s = s' at HA4 hL hX
        have e0 : w4.cell? ⟨x, 2, none⟩ = some (.int .i64 (s' : Nat)) := by obtain ⟨f, g, h⟩ := hX; exact h.top.2.2.1
        have hsm := hL.1.sum
        have hNm := hL.1.hi
        obtain ⟨W, rfl⟩ : ∃ W, W = w4 := ⟨_, rfl⟩
        go_region_held3 (fun w' => w'.cell? ⟨g, off + k, none⟩ = some (.string z) ∧ w'.cell? ⟨x, 2, none⟩ = some (.int .i64 (s' : Nat))) (first | go_keep | exact ⟨d7, e7⟩ | exact ⟨d8, e8⟩)
          (first
          | (go_at_call 15; refine (count_any (w := W.drew) hL z (by omega)).mono ?_; rintro e w7 ⟨rfl, hb7⟩; have hb7' : Below W.heap.size W w7 := ((Below.refl _ W).drew).trans hb7; have hX7 := hX.below hb7'; have hL7 := hL.below hb7'; have d7 := cell_later hb7' d0; have e7 := cell_later hb7' e0; clear hb7)
          | (go_at_call 16; refine (rcount_any hX7 z (by omega)).mono ?_; rintro e w8 ⟨rfl, hb8⟩; have hs7 := hb7'.size; have hb8' : Below W.heap.size W w8 := hb7'.trans (hb8.mono hs7); have d8 := cell_later hb8' d0; have e8 := cell_later hb8' e0; have hL8 := hL7.below hb8; clear hb8)
          | (go_at_call 17; refine (sum_any hL8).mono ?_; rintro e w9 ⟨rfl, hw9⟩; subst hw9))
        go_wp2_with fail
        go_roundw
        case rel => exact ⟨k + 1, c', s', hlt, by go_num, HA4.below (SK.lies _ _ _ _) (RF.lies _ _ _ _) hb8', hb4.trans (hb8'.mono hs4)⟩
        case measure => simp [intOf]; omega
    · have hk' : k = z1.length := by omega
      subst hk'
      clear hge hk
      obtain ⟨DL, hL⟩ := HA.left
      obtain ⟨DX, f, gx, hX⟩ := HA.right
      obtain ⟨e0, -⟩ := hX.top
      have hN := f.hi
      clear HA
      go_wp2_with fail
      go_region_held3 (fun w' => w'.cell? ⟨x, 0, none⟩ = some (.slice (some ⟨gx, 0, none⟩) (4 * N) (4 * N))) (first | go_keep | exact e7 | exact e9)
        (first
        | (go_at_call 19; refine (cells_any (w := wr.drew) hL).mono ?_; rintro e w7 ⟨q, rfl, hq, hq0, hb7⟩; have hb7' : Below wr.heap.size wr w7 := ((Below.refl _ wr).drew).trans hb7; have hX7 := hX.below hb7'; have e7 := hX7.top.1; clear hb7)
        | (go_at_call 18; refine (numbers_same (by omega) hq hX7.2.2.2.2).mono ?_; rintro e w8 ⟨rfl, q8, hw8⟩; subst hw8)
        | (go_at_call 20; refine (known_any _).mono ?_; rintro e w9 ⟨rfl, hb9⟩; have e9 := (((hX7.below (below_drewN (Below.refl _ _) q8)).below hb9)).top.1))
      go_wp2_with fail
      go_ret
      have hs7 := hb7'.size
      exact ⟨rfl, hb.trans ((below_drewN (hb7'.mono hs) q8).trans (hb9.mono (Nat.le_trans hs hs7)))⟩
set_option maxRecDepth 20000 in
set_option maxHeartbeats 8000000 in
theorem walkB (w : World) (r : Int) (b0 : -9223372036854775808 ≤ r) (b1 : r ≤ 9223372036854775807) (a1 : Option Addr) (cap1 : Nat) (z1 : List ByteArray) (r1 : RowIn Value.string w a1 z1) (m1 : z1.length ≤ maxLen) (x1 : ∀ z ∈ z1, z.size ≤ 140737488351232) (hle : 300 < z1.length) :
    Calls Try.prog 3 #[.int .i64 r, .slice a1 z1.length cap1] w fun e w' => e = .returned (.bool true) ∧ Below w.heap.size w w' := by
  have hv := heavy_any (cap := cap1) r1 m1 x1
  have hm : z1.length ≤ 9223372036854775807 := by unfold maxLen at m1; omega
  have R1 : Hid (RowIn Value.string w a1 z1) := r1
  clear r1 x1 m1
  go_enter Try.func3, Try.ntmps3
  go_wp2_with (first
    | (go_at_call 8; refine hv.mono ?_; rintro e w0 ⟨⟨hb, rfl, hli⟩, rfl⟩; have HLI : Hid (hb = false → Light z1 300) := hli; clear hv hli; cases hb)
    | (go_at_call 9; refine (new_any (w := w0) (D := (w0.heap.size ≤ ·)) r b0 b1 (fun k h => h)).mono ?_; rintro e w1 ⟨p, rfl, H1, hk1⟩)
    | (go_at_call 10; refine (rnew_any (w := w1) (D := (w1.heap.size ≤ ·)) r b0 b1 (fun k h => h)).mono ?_; rintro e w2 ⟨x, rfl, H2, hk2⟩))
  rotate_left
  · go_ret
    exact ⟨rfl, Below.refl _ _⟩
  have HL : Hid (Light z1 300) := HLI.out trivial
  have hs1 := hk1.size
  have HA0 := two_start (SK.lies _ _ _ _) (RF.lies _ _ _ _) H1 hs1 H2 hk2
  have hb0 : Below w0.heap.size w0 w2 := (hk1.below (Nat.le_refl _) (fun k h => h)).trans (hk2.below hs1 (fun k h => Nat.le_trans hs1 h))
  clear HLI hk1 hk2 H1 H2 hs1
  generalize wd r = N at HA0
  go_loopw [7] (fun i wr => ∃ (k : Nat) (c : Nat → Nat) (s : Nat), k ≤ 300 ∧ i = .int .i64 k ∧ Two (SK p N c s) (RF x N c s) (fun j => j < w0.heap.size) wr ∧ Below w0.heap.size w0 wr) (fun i _ => 300 - (intOf i).toNat)
  case atStart => exact ⟨0, _, _, Nat.zero_le _, rfl, HA0, hb0⟩
  case round =>
    clear HA0 hb0
    obtain ⟨k, c, s, hk, rfl, HA, hb⟩ := hrel
    have hs := hb.size
    rcases Nat.lt_or_ge k 300 with hlt | hge
    · obtain ⟨z, hz⟩ : ∃ z, z1[k]? = some z := ⟨_, List.getElem?_eq_getElem (by omega)⟩
      obtain ⟨g, off, ea, c0⟩ := (R1.out.later hb).at hz
      subst ea
      have hzs := HL.out k z (by omega) hz
      have l1 : k < z1.length := by omega
      have l1I : (k : Int) < (z1.length : Int) := by omega
      have l2 : (k : Int) < 300 := by omega
      have HR : Hid (∀ w', Below w0.heap.size w0 w' → w'.cell? ⟨g, off + k, none⟩ = some (.string z)) := fun w' hb' => by
        obtain ⟨g', off', e', h'⟩ := (R1.out.later hb').at hz
        cases e'
        exact h'
      clear hz
      by_cases he : z = ⟨#[]⟩
      · have hE : z.toList.isEmpty = true := by rw [he, ByteArray.toList_eq]; rfl
        clear he
        go_wp2_with (first
          | (go_at_call 11; refine (both_halve_a HA).mono ?_; rintro e w3 ⟨rfl, HA3, hk3⟩; have hb3 := hb.trans (hk3.old hs); have hs3 := hb3.size; have c3 := HR.out _ hb3; clear HA hk3 c0 hb hs)
          | (go_at_call 12; refine (both_halve_b HA3).mono ?_; rintro e w4 ⟨rfl, HA4, hk4⟩; have hb4 := hb3.trans (hk4.old hs3); have hs4 := hb4.size; have d0 := HR.out _ hb4; clear HA3 hk4 c3 hb3 hs3))
        obtain ⟨DL, hL⟩ := HA4.left
        obtain ⟨DX, hX⟩ := HA4.right
        generalize hv c = c' at HA4 hL hX
        generalize s / 2 = s' at HA4 hL hX
        have e0 : w4.cell? ⟨x, 2, none⟩ = some (.int .i64 (s' : Nat)) := by obtain ⟨f, g, h⟩ := hX; exact h.top.2.2.1
        have hsm := hL.1.sum
        have hNm := hL.1.hi
        obtain ⟨W, rfl⟩ : ∃ W, W = w4 := ⟨_, rfl⟩
        go_region_held3 (fun w' => w'.cell? ⟨g, off + k, none⟩ = some (.string z) ∧ w'.cell? ⟨x, 2, none⟩ = some (.int .i64 (s' : Nat))) (first | go_keep | exact ⟨d7, e7⟩ | exact ⟨d8, e8⟩)
          (first
          | (go_at_call 15; refine (count_any (w := W.drew) hL z (by omega)).mono ?_; rintro e w7 ⟨rfl, hb7⟩; have hb7' : Below W.heap.size W w7 := ((Below.refl _ W).drew).trans hb7; have hX7 := hX.below hb7'; have hL7 := hL.below hb7'; have d7 := cell_later hb7' d0; have e7 := cell_later hb7' e0; clear hb7)
          | (go_at_call 16; refine (rcount_any hX7 z (by omega)).mono ?_; rintro e w8 ⟨rfl, hb8⟩; have hs7 := hb7'.size; have hb8' : Below W.heap.size W w8 := hb7'.trans (hb8.mono hs7); have d8 := cell_later hb8' d0; have e8 := cell_later hb8' e0; have hL8 := hL7.below hb8; clear hb8)
          | (go_at_call 17; refine (sum_any hL8).mono ?_; rintro e w9 ⟨rfl, hw9⟩; subst hw9))
        go_wp2_with fail
        go_roundw
        case rel => exact ⟨k + 1, c', s', hlt, by go_num, HA4.below (SK.lies _ _ _ _) (RF.lies _ _ _ _) hb8', hb4.trans (hb8'.mono hs4)⟩
        case measure => simp [intOf]; omega
      · have hE : z.toList.isEmpty = false := by rw [List.isEmpty_eq_false_iff]; intro e; apply he; rw [ByteArray.toList_eq] at e; exact Go.WideShapes.bytes_inj e
        clear he
        go_wp2_with (first
          | (go_at_call 13; refine (both_add_a HA z (by omega)).mono ?_; rintro e w3 ⟨rfl, HA3, hk3⟩; have hb3 := hb.trans (hk3.old hs); have hs3 := hb3.size; have c3 := HR.out _ hb3; clear HA hk3 c0 hb hs)
          | (go_at_call 14; refine (both_add_b z (by omega) HA3).mono ?_; rintro e w4 ⟨rfl, HA4, hk4⟩; have hb4 := hb3.trans (hk4.old hs3); have hs4 := hb4.size; have d0 := HR.out _ hb4; clear HA3 hk4 c3 hb3 hs3))
        obtain ⟨DL, hL⟩ := HA4.left
        obtain ⟨DX, hX⟩ := HA4.right
        generalize adC c N z s = c' at HA4 hL hX
        generalize adS c N z s = s' at HA4 hL hX
        have e0 : w4.cell? ⟨x, 2, none⟩ = some (.int .i64 (s' : Nat)) := by obtain ⟨f, g, h⟩ := hX; exact h.top.2.2.1
        have hsm := hL.1.sum
        have hNm := hL.1.hi
        obtain ⟨W, rfl⟩ : ∃ W, W = w4 := ⟨_, rfl⟩
        go_region_held3 (fun w' => w'.cell? ⟨g, off + k, none⟩ = some (.string z) ∧ w'.cell? ⟨x, 2, none⟩ = some (.int .i64 (s' : Nat))) (first | go_keep | exact ⟨d7, e7⟩ | exact ⟨d8, e8⟩)
          (first
          | (go_at_call 15; refine (count_any (w := W.drew) hL z (by omega)).mono ?_; rintro e w7 ⟨rfl, hb7⟩; have hb7' : Below W.heap.size W w7 := ((Below.refl _ W).drew).trans hb7; have hX7 := hX.below hb7'; have hL7 := hL.below hb7'; have d7 := cell_later hb7' d0; have e7 := cell_later hb7' e0; clear hb7)
          | (go_at_call 16; refine (rcount_any hX7 z (by omega)).mono ?_; rintro e w8 ⟨rfl, hb8⟩; have hs7 := hb7'.size; have hb8' : Below W.heap.size W w8 := hb7'.trans (hb8.mono hs7); have d8 := cell_later hb8' d0; have e8 := cell_later hb8' e0; have hL8 := hL7.below hb8; clear hb8)
          | (go_at_call 17; refine (sum_any hL8).mono ?_; rintro e w9 ⟨rfl, hw9⟩; subst hw9))
        go_wp2_with fail
        go_roundw
        case rel => exact ⟨k + 1, c', s', hlt, by go_num, HA4.below (SK.lies _ _ _ _) (RF.lies _ _ _ _) hb8', hb4.trans (hb8'.mono hs4)⟩
        case measure => simp [intOf]; omega
    · have hk' : k = 300 := by omega
      subst hk'
      have l1 : 300 < z1.length := hle
      clear hge hk
      obtain ⟨DL, hL⟩ := HA.left
      obtain ⟨DX, f, gx, hX⟩ := HA.right
      obtain ⟨e0, -⟩ := hX.top
      have hN := f.hi
      clear HA
      go_wp2_with fail
      go_region_held3 (fun w' => w'.cell? ⟨x, 0, none⟩ = some (.slice (some ⟨gx, 0, none⟩) (4 * N) (4 * N))) (first | go_keep | exact e7 | exact e9)
        (first
        | (go_at_call 19; refine (cells_any (w := wr.drew) hL).mono ?_; rintro e w7 ⟨q, rfl, hq, hq0, hb7⟩; have hb7' : Below wr.heap.size wr w7 := ((Below.refl _ wr).drew).trans hb7; have hX7 := hX.below hb7'; have e7 := hX7.top.1; clear hb7)
        | (go_at_call 18; refine (numbers_same (by omega) hq hX7.2.2.2.2).mono ?_; rintro e w8 ⟨rfl, q8, hw8⟩; subst hw8)
        | (go_at_call 20; refine (known_any _).mono ?_; rintro e w9 ⟨rfl, hb9⟩; have e9 := (((hX7.below (below_drewN (Below.refl _ _) q8)).below hb9)).top.1))
      go_wp2_with fail
      go_ret
      have hs7 := hb7'.size
      exact ⟨rfl, hb.trans ((below_drewN (hb7'.mono hs) q8).trans (hb9.mono (Nat.le_trans hs hs7)))⟩

set_option maxRecDepth 20000 in
set_option maxHeartbeats 1000000 in
theorem walk (w : World) (a0 : Int) (w0 : (Lit.int .i64 a0).wf = true) (a1 : Option Addr) (len1 cap1 : Nat) (z1 : List ByteArray) (e1 : z1.length = len1) (m1 : len1 ≤ maxLen) (r1 : RowIn Value.string w a1 z1) (x1 : ∀ z ∈ z1, z.size ≤ 140737488351232) :
    Calls Try.prog 3 #[.int .i64 a0, .slice a1 len1 cap1] w fun e w' => e = .returned (.bool true) ∧ Below w.heap.size w w' := by
  obtain ⟨b0, b1⟩ := bounds_i64 w0
  clear w0
  subst e1
  by_cases hle : z1.length ≤ 300
  · exact walkA w a0 b0 b1 a1 cap1 z1 r1 m1 x1 hle
  · exact walkB w a0 b0 b1 a1 cap1 z1 r1 m1 x1 (by omega)

set_option maxRecDepth 100000 in
theorem lifted (os : Os) (started : os.Started) (H : Type) (enc : TypeId × Value → H) :
    ReturnsInHanded {} Try.checked os 3 .any (Rows.sketchPlaysSpec.pre6 enc Try.prog Try.f3 Rows.sketchPlaysRow.domain false) (Rows.sketchPlaysSpec.post enc Try.prog Try.f3 false true false false) := by
  refine returnsInHanded_of_change_sized (C := Try.checked) own started (by kernel_rfl) Try.func3
    (ChangeSpec.witness6 (enc := enc) (C := Try.checked) false ⟨#[], #[.int .i64 0, .slice none 0 0], []⟩ 8 (by kernel_rfl) (by kernel_rfl) (by kernel_rfl) (by kernel_rfl)) ?_
  intro W base args ds gs before hval0 hW hcnd hsz0 _
  have hval : ∀ (j : Nat) t v, Try.f3.params[j]? = some t → args[j]? = some v → Value.okWide Try.prog W .any base t v := hval0
  have hsz : (DataW.weightsEach Try.prog (Try.f3.params.toList ++ Rows.sketchPlaysSpec.plain.varTypes Try.prog) (ds ++ gs)).all (· ≤ reachBytes) = true := hsz0
  have hW' := hW
  obtain ⟨p, q, hA0, hV, rfl, hfz, hnd⟩ := hW
  have hA : DataW.TrodAll enc Try.prog W 0 (fun _ => true) true Try.f3.params.toList args.toList ds p := hA0
  rw [Try.params3] at hA hval hsz
  obtain ⟨v0, vs0, d0, ds0, p0, q0, hargs, rfl, rfl, h0, s0⟩ := trodAll_cons hA
  obtain ⟨v1, vs1, d1, ds1, p1, q1, rfl, rfl, rfl, h1, s1⟩ := trodAll_cons s0
  obtain ⟨rfl, rfl, rfl⟩ := trodAll_nil s1
  obtain rfl : args = #[v0, v1] := by cases args; simp_all
  obtain ⟨rfl, rfl⟩ := trodVars_none hV
  obtain ⟨a0, rfl, rfl, rfl, w0⟩ := open_int Try.underlying3 (hval 0 3 v0 rfl rfl) h0
  obtain ⟨a1, len1, cap1, rfl⟩ := okWide_slice Try.underlying22 (hval 1 22 v1 rfl rfl)
  have k1 := h1
  have lt1 : ∀ x ∈ p1, x.block < W.heap.size := by obtain ⟨m, hm⟩ := k1; exact DataW.trod_lt m _ _ _ hm
  obtain ⟨z1, e1, m1, r1, x1⟩ := open_texts h1
  replace x1 : ∀ z ∈ z1, z.size ≤ 140737488351232 := fun z hz => reach_first (reach_tail hsz) (x1 z hz)
  clear hA0 hval0 hsz0
  refine (walk W a0 w0 a1 len1 cap1 z1 e1 m1 r1 x1).mono fun e W' ⟨he, bel⟩ => ?_
  subst he
  exact ⟨_, rfl, _, _, _, [], _, [], hW', trodAll_mk1 (shut_bool Try.underlying4 _), (trodAll_cons_mk (shut_int Try.underlying3 w0) (trodAll_cons_mk (Below.trod laidOut (by kernel_rfl) (of_decide_eq_true (by kernel_rfl)) k1 bel lt1) trodAll_mk0)), rfl, bel.frame _, fun h => by cases h⟩

theorem over : Rows.sketchPlaysRow.holds Try.pinned (OpenSpec.ofChange Rows.sketchPlaysSpec) :=
  OpenClaim.holds_of_wide 3 Try.f3 rfl rfl rfl rfl rfl rfl rfl ⟨rfl, rfl, rfl, rfl, rfl⟩ rfl rfl rfl rfl rfl (by kernel_rfl) Try.func3 (by kernel_rfl)
    (of_decide_eq_true (by kernel_rfl)) (by unfold Func.isWrapper; first | (rw [if_pos (by decide +kernel)]; kernel_rfl) | (rw [if_neg (by decide +kernel)]; exact ⟨rfl, rfl⟩))
    (fun os started H enc _ => lifted os started H enc)

end Go.Proofs.Ythlpoljpfndmiaa.sketchPlays
namespace Go.Proofs.Ythlpoljpfndmiaa
/-- the given statement -/
theorem sketchPlays_holds : Rows.SketchPlaysSaid := sketchPlays.over
#print axioms sketchPlays_holds
end Go.Proofs.Ythlpoljpfndmiaa
