/- An index of texts goes as one of numbers, and the last value that was put counts: the law returns true for every seed and all rows of texts, and its arguments read as they did. -/
import Derived.Test.YtpfcmaoookhopaaRows
import Derived.Test.YtpfcmaoookhopaaSmall
import Derived.Test.YtpfcmaoookhopaaStr4
import Derived.WalkKit
import Derived.ProofKit
import Derived.OpenShut
import Derived.ShutString
import Derived.ChangeOld
import Derived.Below
import Derived.Carry
import Derived.SizedLaws
namespace Go.Proofs.Ytpfcmaoookhopaa.indexTexts
open Go.ChangeShapes Go.WideShapes Go.ChangeAt Go.RowKit
open Go.ChangeMaps (open_string shut_string)
set_option linter.unusedVariables false

theorem own : ownKnob Try.prog.godebug = none := by kernel_rfl
theorem laidOut : laidOutB Try.prog = true := by kernel_rfl
/-- the keys of the first rows, the last value put counts -/
def mt (z1 z2 : List ByteArray) : Nat → ByteArray → Option ByteArray
  | 0 => fun _ => none
  | i + 1 => put (mt z1 z2 i) (z1.getD i ⟨#[]⟩) (some (z2.getD i ⟨#[]⟩))
theorem mt_next {z1 z2 : List ByteArray} {k : Nat} {x y : ByteArray} (hx : z1[k]? = some x) (hy : z2[k]? = some y) : mt z1 z2 (k + 1) = put (mt z1 z2 k) x (some y) := by
  rw [mt]
  simp [List.getD, hx, hy]
/-- what is wanted of a key, when the first k pairs were met -/
def Want (z1 z2 : List ByteArray) (j : Nat) (x : ByteArray) (k : Nat) (v : ByteArray) : Prop := k = j ∨ mt z1 z2 k x = some v
theorem want_hit {z1 z2 : List ByteArray} {j i : Nat} {x xi yi : ByteArray} (hx : z1[i]? = some xi) (hy : z2[i]? = some yi) (h : xi = x) : Want z1 z2 j x (i + 1) yi := by
  right
  rw [mt_next hx hy, h, put_same]
theorem want_miss {z1 z2 : List ByteArray} {j i : Nat} {x xi yi v : ByteArray} (hx : z1[i]? = some xi) (hy : z2[i]? = some yi) (hj : z1[j]? = some x) (h : ¬ xi = x) (hw : Want z1 z2 j x i v) : Want z1 z2 j x (i + 1) v := by
  right
  rw [mt_next hx hy, put_far (fun e => h e.symm)]
  rcases hw with e | e
  · subst e
    rw [hx] at hj
    exact absurd (Option.some.inj hj) h
  · exact e
theorem Want.last {z1 z2 : List ByteArray} {j n : Nat} {x v : ByteArray} (h : Want z1 z2 j x n v) (hj : j < n) : mt z1 z2 n x = some v := by
  rcases h with e | e
  · omega
  · exact e
theorem row_cells {β : Type} {V : β → Value} {w : World} {ad : Option Addr} {zs : List β} (h : RowIn V w ad zs) (hz : 0 < zs.length) : ∃ g off, ad = some ⟨g, off, none⟩ ∧ ∀ (i : Nat) (z : β), zs[i]? = some z → w.cell? ⟨g, off + i, none⟩ = some (V z) := by
  rcases h with h | ⟨g, off, e, h⟩
  · subst h; simp at hz
  · exact ⟨g, off, e, h⟩
set_option maxRecDepth 20000 in
set_option maxHeartbeats 4000000 in
theorem walkA (w : World) (S : Nat) (hS : S < 18446744073709551616) (a1 : Option Addr) (cap1 : Nat) (z1 : List ByteArray) (r1 : RowIn Value.string w a1 z1) (x1 : ∀ z ∈ z1, z.size ≤ 140737488351232) (a2 : Option Addr) (cap2 : Nat) (z2 : List ByteArray) (r2 : RowIn Value.string w a2 z2) (x2 : ∀ z ∈ z2, z.size ≤ 140737488351232) (h1 : z1.length ≤ 100) (h2 : z2.length ≤ 100) (hle : z1.length ≤ z2.length) :
    Calls Try.prog 7 #[.int .u64 (S : Nat), .slice a1 z1.length cap1, .slice a2 z2.length cap2] w fun e w' => e = .returned (.bool true) ∧ Below w.heap.size w w' := by
  have R1 : Hid (RowIn Value.string w a1 z1) := r1
  have R2 : Hid (RowIn Value.string w a2 z2) := r2
  have X1 : Hid (∀ z ∈ z1, z.size ≤ 140737488351232) := x1
  have X2 : Hid (∀ z ∈ z2, z.size ≤ 140737488351232) := x2
  clear r1 r2 x1 x2
  go_enter Try.func7, Try.ntmps7
  go_wp2_with (go_at_call 18; refine (Str.new_any w (w.heap.size ≤ ·) (Nat.le_refl _) S hS).mono ?_; rintro e w1 ⟨p, rfl, H1, hk1, -⟩)
  go_loopw [8] (fun i wr => ∃ k : Nat, k ≤ z1.length ∧ i = .int .i64 k ∧ IX Str.V 65 63 (w.heap.size ≤ ·) wr p (mt z1 z2 k) k ∧ Below w.heap.size w wr) (fun i _ => z1.length - (intOf i).toNat)
  case atStart => exact ⟨0, Nat.zero_le _, rfl, H1, hk1.below (Nat.le_refl _) (fun k h => h)⟩
  case round =>
    clear H1 hk1
    obtain ⟨k, hk, rfl, H, hb⟩ := hrel
    have hs := hb.size
    rcases Nat.lt_or_ge k z1.length with hlt | hge
    · obtain ⟨x, hx⟩ : ∃ x, z1[k]? = some x := ⟨_, List.getElem?_eq_getElem (by omega)⟩
      obtain ⟨y, hy⟩ : ∃ y, z2[k]? = some y := ⟨_, List.getElem?_eq_getElem (by omega)⟩
      have l1 : k < z1.length := by omega
      have l2 : k < z2.length := by omega
      obtain ⟨g1, o1, ea1, c1⟩ := (RowIn.later R1.out hb).at hx
      obtain ⟨g2, o2, ea2, c2⟩ := (RowIn.later R2.out hb).at hy
      subst ea1 ea2
      have hxs := X1.out x (List.mem_of_getElem? hx)
      have hys := X2.out y (List.mem_of_getElem? hy)
      have HM : Hid (mt z1 z2 (k + 1) = put (mt z1 z2 k) x (some y)) := mt_next hx hy
      clear hx hy
      by_cases hx60 : 60 < x.size
      · go_wp2_with fail
        go_ret
        exact ⟨rfl, hb⟩
      by_cases hy60 : 60 < y.size
      · go_wp2_with fail
        go_ret
        exact ⟨rfl, hb⟩
      go_wp2_with fail
      go_region_with (go_at_call 19; refine (Str.put_any (w := wr.drew) H (fun j h => Nat.le_trans hs h) x (by omega) y (by omega)).mono ?_; rintro e w2 ⟨rfl, H2, hk2⟩)
      all_goals
        go_wp2_with fail
        go_roundw
        case rel => exact ⟨k + 1, hlt, by go_num, by rw [HM.out]; exact H2, (hb.drew).trans (hk2.below hs (fun j h => h))⟩
        case measure => simp [intOf]; omega
    · have hk' : k = z1.length := by omega
      subst hk'
      clear hge hk
      go_wp2_with fail
      go_loopw [9] (fun i wx => ∃ (j q : Nat), j ≤ z1.length ∧ i = .int .i64 j ∧ wx = wr.drewN q) (fun i _ => z1.length - (intOf i).toNat)
      case atStart => exact ⟨0, 0, Nat.zero_le _, rfl, rfl⟩
      case round =>
        obtain ⟨j, q, hj, rfl, rfl⟩ := hrel
        rcases Nat.lt_or_ge j z1.length with hjl | hjg
        · obtain ⟨x, hx⟩ : ∃ x, z1[j]? = some x := ⟨_, List.getElem?_eq_getElem (by omega)⟩
          obtain ⟨y, hy⟩ : ∃ y, z2[j]? = some y := ⟨_, List.getElem?_eq_getElem (by omega)⟩
          have l1 : j < z1.length := by omega
          have l2 : j < z2.length := by omega
          have hxs := X1.out x (List.mem_of_getElem? hx)
          obtain ⟨g1, o1, ea1, hc1⟩ := row_cells (RowIn.later R1.out hb) (by omega)
          obtain ⟨g2, o2, ea2, hc2⟩ := row_cells (RowIn.later R2.out hb) (by omega)
          subst ea1 ea2
          have c1 := hc1 j x hx
          have c2 := hc2 j y hy
          have HX : Hid (z1[j]? = some x) := hx
          have HY : Hid (z2[j]? = some y) := hy
          have HC1 : Hid (∀ (i : Nat) (z : ByteArray), z1[i]? = some z → wr.cell? ⟨g1, o1 + i, none⟩ = some (.string z)) := hc1
          have HC2 : Hid (∀ (i : Nat) (z : ByteArray), z2[i]? = some z → wr.cell? ⟨g2, o2 + i, none⟩ = some (.string z)) := hc2
          clear hx hy hc1 hc2
          go_wp2_with fail
          go_loopw [10, 11] (fun vw vk wy => ∃ (i r : Nat) (v : ByteArray), j ≤ i ∧ i ≤ z1.length ∧ vk = .int .i64 i ∧ vw = .string v ∧ Want z1 z2 j x i v ∧ wy = wr.drewN r) (fun _ vk _ => z1.length - (intOf vk).toNat)
          case atStart => exact ⟨j, q, y, Nat.le_refl _, hj, rfl, rfl, .inl rfl, rfl⟩
          case round =>
            clear c2
            obtain ⟨i, r, v, hji, hin, rfl, rfl, hW, rfl⟩ := hrel
            have HW : Hid (Want z1 z2 j x i v) := hW
            clear hW
            rcases Nat.lt_or_ge i z1.length with hil | hig
            · obtain ⟨xi, hxi⟩ : ∃ x, z1[i]? = some x := ⟨_, List.getElem?_eq_getElem (by omega)⟩
              obtain ⟨yi, hyi⟩ : ∃ y, z2[i]? = some y := ⟨_, List.getElem?_eq_getElem (by omega)⟩
              have m1 : i < z1.length := by omega
              have m2 : i < z2.length := by omega
              have d1 := HC1.out i xi hxi
              have d2 := HC2.out i yi hyi
              have HXI : Hid (z1[i]? = some xi) := hxi
              have HYI : Hid (z2[i]? = some yi) := hyi
              clear hxi hyi
              by_cases heq : xi = x
              · have hbq : (xi.toList == x.toList) = true := by rw [bytes_beq]; simpa using heq
                have HQ : Hid (xi = x) := heq
                clear heq
                go_wp2_with fail
                go_quiet (fail)
                go_wp2_with fail
                go_roundw
                case rel => exact ⟨i + 1, _, yi, by omega, hil, by go_num, rfl, want_hit HXI.out HYI.out HQ.out, rfl⟩
                case measure => simp [intOf]; omega
              · have hbq : (xi.toList == x.toList) = false := by rw [bytes_beq]; simpa using heq
                have HQ : Hid (¬ xi = x) := heq
                clear heq
                go_wp2_with fail
                go_quiet (fail)
                go_wp2_with fail
                go_roundw
                case rel => exact ⟨i + 1, _, v, by omega, hil, by go_num, rfl, want_miss HXI.out HYI.out HX.out HQ.out HW.out, rfl⟩
                case measure => simp [intOf]; omega
            · have hi' : i = z1.length := by omega
              subst hi'
              have HG : Hid (mt z1 z2 z1.length x = some v) := HW.out.last hjl
              clear hig hin
              go_wp2_with (go_at_call 22; refine (Str.get_hit (H.drewN r) (by omega) x (by unfold maxLen; omega) HG.out).mono ?_; rintro e w5 ⟨rfl, q5, rfl⟩)
              go_roundw
              case rel => exact ⟨j + 1, r + q5, hjl, by go_num, rfl⟩
              case measure => simp [intOf]; omega
        · have hj' : j = z1.length := by omega
          subst hj'
          clear hjg hj
          go_wp2_with (go_at_call 17; refine (known_any _).mono ?_; rintro e w8 ⟨rfl, hb8⟩)
          go_ret
          exact ⟨rfl, (below_drewN hb q).trans (hb8.mono hs)⟩
set_option maxRecDepth 20000 in
set_option maxHeartbeats 4000000 in
theorem walkB (w : World) (S : Nat) (hS : S < 18446744073709551616) (a1 : Option Addr) (cap1 : Nat) (z1 : List ByteArray) (r1 : RowIn Value.string w a1 z1) (x1 : ∀ z ∈ z1, z.size ≤ 140737488351232) (a2 : Option Addr) (cap2 : Nat) (z2 : List ByteArray) (r2 : RowIn Value.string w a2 z2) (x2 : ∀ z ∈ z2, z.size ≤ 140737488351232) (h1 : z1.length ≤ 100) (h2 : z2.length ≤ 100) (hle : z2.length < z1.length) :
    Calls Try.prog 7 #[.int .u64 (S : Nat), .slice a1 z1.length cap1, .slice a2 z2.length cap2] w fun e w' => e = .returned (.bool true) ∧ Below w.heap.size w w' := by
  have R1 : Hid (RowIn Value.string w a1 z1) := r1
  have R2 : Hid (RowIn Value.string w a2 z2) := r2
  have X1 : Hid (∀ z ∈ z1, z.size ≤ 140737488351232) := x1
  have X2 : Hid (∀ z ∈ z2, z.size ≤ 140737488351232) := x2
  clear r1 r2 x1 x2
  go_enter Try.func7, Try.ntmps7
  go_wp2_with (go_at_call 18; refine (Str.new_any w (w.heap.size ≤ ·) (Nat.le_refl _) S hS).mono ?_; rintro e w1 ⟨p, rfl, H1, hk1, -⟩)
  go_loopw [8] (fun i wr => ∃ k : Nat, k ≤ z2.length ∧ i = .int .i64 k ∧ IX Str.V 65 63 (w.heap.size ≤ ·) wr p (mt z1 z2 k) k ∧ Below w.heap.size w wr) (fun i _ => z2.length - (intOf i).toNat)
  case atStart => exact ⟨0, Nat.zero_le _, rfl, H1, hk1.below (Nat.le_refl _) (fun k h => h)⟩
  case round =>
    clear H1 hk1
    obtain ⟨k, hk, rfl, H, hb⟩ := hrel
    have hs := hb.size
    rcases Nat.lt_or_ge k z2.length with hlt | hge
    · obtain ⟨x, hx⟩ : ∃ x, z1[k]? = some x := ⟨_, List.getElem?_eq_getElem (by omega)⟩
      obtain ⟨y, hy⟩ : ∃ y, z2[k]? = some y := ⟨_, List.getElem?_eq_getElem (by omega)⟩
      have l1 : k < z1.length := by omega
      have l2 : k < z2.length := by omega
      obtain ⟨g1, o1, ea1, c1⟩ := (RowIn.later R1.out hb).at hx
      obtain ⟨g2, o2, ea2, c2⟩ := (RowIn.later R2.out hb).at hy
      subst ea1 ea2
      have hxs := X1.out x (List.mem_of_getElem? hx)
      have hys := X2.out y (List.mem_of_getElem? hy)
      have HM : Hid (mt z1 z2 (k + 1) = put (mt z1 z2 k) x (some y)) := mt_next hx hy
      clear hx hy
      by_cases hx60 : 60 < x.size
      · go_wp2_with fail
        go_ret
        exact ⟨rfl, hb⟩
      by_cases hy60 : 60 < y.size
      · go_wp2_with fail
        go_ret
        exact ⟨rfl, hb⟩
      go_wp2_with fail
      go_region_with (go_at_call 19; refine (Str.put_any (w := wr.drew) H (fun j h => Nat.le_trans hs h) x (by omega) y (by omega)).mono ?_; rintro e w2 ⟨rfl, H2, hk2⟩)
      all_goals
        go_wp2_with fail
        go_roundw
        case rel => exact ⟨k + 1, hlt, by go_num, by rw [HM.out]; exact H2, (hb.drew).trans (hk2.below hs (fun j h => h))⟩
        case measure => simp [intOf]; omega
    · have hk' : k = z2.length := by omega
      subst hk'
      clear hge hk
      go_wp2_with fail
      go_loopw [9] (fun i wx => ∃ (j q : Nat), j ≤ z2.length ∧ i = .int .i64 j ∧ wx = wr.drewN q) (fun i _ => z2.length - (intOf i).toNat)
      case atStart => exact ⟨0, 0, Nat.zero_le _, rfl, rfl⟩
      case round =>
        obtain ⟨j, q, hj, rfl, rfl⟩ := hrel
        rcases Nat.lt_or_ge j z2.length with hjl | hjg
        · obtain ⟨x, hx⟩ : ∃ x, z1[j]? = some x := ⟨_, List.getElem?_eq_getElem (by omega)⟩
          obtain ⟨y, hy⟩ : ∃ y, z2[j]? = some y := ⟨_, List.getElem?_eq_getElem (by omega)⟩
          have l1 : j < z1.length := by omega
          have l2 : j < z2.length := by omega
          have hxs := X1.out x (List.mem_of_getElem? hx)
          obtain ⟨g1, o1, ea1, hc1⟩ := row_cells (RowIn.later R1.out hb) (by omega)
          obtain ⟨g2, o2, ea2, hc2⟩ := row_cells (RowIn.later R2.out hb) (by omega)
          subst ea1 ea2
          have c1 := hc1 j x hx
          have c2 := hc2 j y hy
          have HX : Hid (z1[j]? = some x) := hx
          have HY : Hid (z2[j]? = some y) := hy
          have HC1 : Hid (∀ (i : Nat) (z : ByteArray), z1[i]? = some z → wr.cell? ⟨g1, o1 + i, none⟩ = some (.string z)) := hc1
          have HC2 : Hid (∀ (i : Nat) (z : ByteArray), z2[i]? = some z → wr.cell? ⟨g2, o2 + i, none⟩ = some (.string z)) := hc2
          clear hx hy hc1 hc2
          go_wp2_with fail
          go_loopw [10, 11] (fun vw vk wy => ∃ (i r : Nat) (v : ByteArray), j ≤ i ∧ i ≤ z2.length ∧ vk = .int .i64 i ∧ vw = .string v ∧ Want z1 z2 j x i v ∧ wy = wr.drewN r) (fun _ vk _ => z2.length - (intOf vk).toNat)
          case atStart => exact ⟨j, q, y, Nat.le_refl _, hj, rfl, rfl, .inl rfl, rfl⟩
          case round =>
            clear c2
            obtain ⟨i, r, v, hji, hin, rfl, rfl, hW, rfl⟩ := hrel
            have HW : Hid (Want z1 z2 j x i v) := hW
            clear hW
            rcases Nat.lt_or_ge i z2.length with hil | hig
            · obtain ⟨xi, hxi⟩ : ∃ x, z1[i]? = some x := ⟨_, List.getElem?_eq_getElem (by omega)⟩
              obtain ⟨yi, hyi⟩ : ∃ y, z2[i]? = some y := ⟨_, List.getElem?_eq_getElem (by omega)⟩
              have m1 : i < z1.length := by omega
              have m2 : i < z2.length := by omega
              have d1 := HC1.out i xi hxi
              have d2 := HC2.out i yi hyi
              have HXI : Hid (z1[i]? = some xi) := hxi
              have HYI : Hid (z2[i]? = some yi) := hyi
              clear hxi hyi
              by_cases heq : xi = x
              · have hbq : (xi.toList == x.toList) = true := by rw [bytes_beq]; simpa using heq
                have HQ : Hid (xi = x) := heq
                clear heq
                go_wp2_with fail
                go_quiet (fail)
                go_wp2_with fail
                go_roundw
                case rel => exact ⟨i + 1, _, yi, by omega, hil, by go_num, rfl, want_hit HXI.out HYI.out HQ.out, rfl⟩
                case measure => simp [intOf]; omega
              · have hbq : (xi.toList == x.toList) = false := by rw [bytes_beq]; simpa using heq
                have HQ : Hid (¬ xi = x) := heq
                clear heq
                go_wp2_with fail
                go_quiet (fail)
                go_wp2_with fail
                go_roundw
                case rel => exact ⟨i + 1, _, v, by omega, hil, by go_num, rfl, want_miss HXI.out HYI.out HX.out HQ.out HW.out, rfl⟩
                case measure => simp [intOf]; omega
            · have hi' : i = z2.length := by omega
              subst hi'
              have HG : Hid (mt z1 z2 z2.length x = some v) := HW.out.last hjl
              clear hig hin
              go_wp2_with (go_at_call 22; refine (Str.get_hit (H.drewN r) (by omega) x (by unfold maxLen; omega) HG.out).mono ?_; rintro e w5 ⟨rfl, q5, rfl⟩)
              go_roundw
              case rel => exact ⟨j + 1, r + q5, hjl, by go_num, rfl⟩
              case measure => simp [intOf]; omega
        · have hj' : j = z2.length := by omega
          subst hj'
          clear hjg hj
          go_wp2_with (go_at_call 17; refine (known_any _).mono ?_; rintro e w8 ⟨rfl, hb8⟩)
          go_ret
          exact ⟨rfl, (below_drewN hb q).trans (hb8.mono hs)⟩

set_option maxRecDepth 20000 in
set_option maxHeartbeats 1000000 in
theorem walk (w : World) (a0 : Int) (w0 : (Lit.int .u64 a0).wf = true) (a1 : Option Addr) (len1 cap1 : Nat) (z1 : List ByteArray) (e1 : z1.length = len1) (m1 : len1 ≤ maxLen) (r1 : RowIn Value.string w a1 z1) (x1 : ∀ z ∈ z1, z.size ≤ 140737488351232) (a2 : Option Addr) (len2 cap2 : Nat) (z2 : List ByteArray) (e2 : z2.length = len2) (m2 : len2 ≤ maxLen) (r2 : RowIn Value.string w a2 z2) (x2 : ∀ z ∈ z2, z.size ≤ 140737488351232) :
    Calls Try.prog 7 #[.int .u64 a0, .slice a1 len1 cap1, .slice a2 len2 cap2] w fun e w' => e = .returned (.bool true) ∧ Below w.heap.size w w' := by
  obtain ⟨b0, b1⟩ := bounds_u64 w0
  obtain ⟨S, rfl⟩ : ∃ S : Nat, a0 = S := ⟨a0.toNat, by omega⟩
  have hS : S < 18446744073709551616 := by omega
  clear w0 b0 b1
  subst e1 e2
  unfold maxLen at m1 m2
  by_cases h1 : 100 < z1.length
  · clear r1 r2 x1 x2
    go_enter Try.func7, Try.ntmps7
    go_wp2_with fail
    go_ret
    exact ⟨rfl, Below.refl _ _⟩
  by_cases h2 : 100 < z2.length
  · clear r1 r2 x1 x2
    go_enter Try.func7, Try.ntmps7
    go_wp2_with fail
    go_ret
    exact ⟨rfl, Below.refl _ _⟩
  by_cases hle : z1.length ≤ z2.length
  · exact walkA w S hS a1 cap1 z1 r1 x1 a2 cap2 z2 r2 x2 (by omega) (by omega) hle
  · exact walkB w S hS a1 cap1 z1 r1 x1 a2 cap2 z2 r2 x2 (by omega) (by omega) (by omega)

set_option maxRecDepth 100000 in
theorem lifted (os : Os) (started : os.Started) (H : Type) (enc : TypeId × Value → H) :
    ReturnsInHanded {} Try.checked os 7 .any (Rows.indexTextsSpec.pre6 enc Try.prog Try.f7 Rows.indexTextsRow.domain false) (Rows.indexTextsSpec.post enc Try.prog Try.f7 false true false false) := by
  refine returnsInHanded_of_change_sized (C := Try.checked) own started (by kernel_rfl) Try.func7
    (ChangeSpec.witness6 (enc := enc) (C := Try.checked) false ⟨#[], #[.int .u64 0, .slice none 0 0, .slice none 0 0], []⟩ 8 (by kernel_rfl) (by kernel_rfl) (by kernel_rfl) (by kernel_rfl)) ?_
  intro W base args ds gs before hval0 hW hcnd hsz0 _
  have hval : ∀ (j : Nat) t v, Try.f7.params[j]? = some t → args[j]? = some v → Value.okWide Try.prog W .any base t v := hval0
  have hsz : (DataW.weightsEach Try.prog (Try.f7.params.toList ++ Rows.indexTextsSpec.plain.varTypes Try.prog) (ds ++ gs)).all (· ≤ reachBytes) = true := hsz0
  have hW' := hW
  obtain ⟨p, q, hA0, hV, rfl, hfz, hnd⟩ := hW
  have hA : DataW.TrodAll enc Try.prog W 0 (fun _ => true) true Try.f7.params.toList args.toList ds p := hA0
  rw [Try.params7] at hA hval hsz
  obtain ⟨v0, vs0, d0, ds0, p0, q0, hargs, rfl, rfl, h0, s0⟩ := trodAll_cons hA
  obtain ⟨v1, vs1, d1, ds1, p1, q1, rfl, rfl, rfl, h1, s1⟩ := trodAll_cons s0
  obtain ⟨v2, vs2, d2, ds2, p2, q2, rfl, rfl, rfl, h2, s2⟩ := trodAll_cons s1
  obtain ⟨rfl, rfl, rfl⟩ := trodAll_nil s2
  obtain rfl : args = #[v0, v1, v2] := by cases args; simp_all
  obtain ⟨rfl, rfl⟩ := trodVars_none hV
  obtain ⟨a0, rfl, rfl, rfl, w0⟩ := open_int Try.underlying22 (hval 0 22 v0 rfl rfl) h0
  obtain ⟨a1, len1, cap1, rfl⟩ := okWide_slice Try.underlying36 (hval 1 36 v1 rfl rfl)
  have k1 := h1
  have lt1 : ∀ x ∈ p1, x.block < W.heap.size := by obtain ⟨m, hm⟩ := k1; exact DataW.trod_lt m _ _ _ hm
  obtain ⟨z1, e1, m1, r1, x1⟩ := open_texts h1
  replace x1 : ∀ z ∈ z1, z.size ≤ 140737488351232 := fun z hz => reach_first (reach_tail hsz) (x1 z hz)
  obtain ⟨a2, len2, cap2, rfl⟩ := okWide_slice Try.underlying36 (hval 2 36 v2 rfl rfl)
  have k2 := h2
  have lt2 : ∀ x ∈ p2, x.block < W.heap.size := by obtain ⟨m, hm⟩ := k2; exact DataW.trod_lt m _ _ _ hm
  obtain ⟨z2, e2, m2, r2, x2⟩ := open_texts h2
  replace x2 : ∀ z ∈ z2, z.size ≤ 140737488351232 := fun z hz => reach_first (reach_tail (reach_tail hsz)) (x2 z hz)
  clear hA0 hval0 hsz0
  refine (walk W a0 w0 a1 len1 cap1 z1 e1 m1 r1 x1 a2 len2 cap2 z2 e2 m2 r2 x2).mono fun e W' ⟨he, bel⟩ => ?_
  subst he
  exact ⟨_, rfl, _, _, _, [], _, [], hW', trodAll_mk1 (shut_bool Try.underlying4 _), (trodAll_cons_mk (shut_int Try.underlying22 w0) (trodAll_cons_mk (Below.trod laidOut (by kernel_rfl) (of_decide_eq_true (by kernel_rfl)) k1 bel lt1) (trodAll_cons_mk (Below.trod laidOut (by kernel_rfl) (of_decide_eq_true (by kernel_rfl)) k2 bel lt2) trodAll_mk0))), rfl, bel.frame _, fun h => by cases h⟩

theorem over : Rows.indexTextsRow.holds Try.pinned (OpenSpec.ofChange Rows.indexTextsSpec) :=
  OpenClaim.holds_of_wide 7 Try.f7 rfl rfl rfl rfl rfl rfl rfl ⟨rfl, rfl, rfl, rfl, rfl⟩ rfl rfl rfl rfl rfl (by kernel_rfl) Try.func7 (by kernel_rfl)
    (of_decide_eq_true (by kernel_rfl)) (by unfold Func.isWrapper; first | (rw [if_pos (by decide +kernel)]; kernel_rfl) | (rw [if_neg (by decide +kernel)]; exact ⟨rfl, rfl⟩))
    (fun os started H enc _ => lifted os started H enc)

end Go.Proofs.Ytpfcmaoookhopaa.indexTexts
namespace Go.Proofs.Ytpfcmaoookhopaa
/-- the given statement -/
theorem indexTexts_holds : Rows.IndexTextsSaid := indexTexts.over
#print axioms indexTexts_holds
end Go.Proofs.Ytpfcmaoookhopaa
