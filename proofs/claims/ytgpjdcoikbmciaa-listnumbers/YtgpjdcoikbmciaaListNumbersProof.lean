/- A list of numbers: from the front by Next, from the back by Prev, all are met, each once: the law returns true for every row of numbers and of ends, and its arguments read as they did. -/
import Derived.Test.YtgpjdcoikbmciaaRows
import Derived.Test.YtgpjdcoikbmciaaKnown
import Derived.Test.YtgpjdcoikbmciaaPushed
import Derived.Test.YtgpjdcoikbmciaaNum
import Derived.WalkKit
import Derived.ProofKit
import Derived.OpenShut
import Derived.ShutString
import Derived.ChangeOld
import Derived.Below
import Derived.Carry
import Derived.SizedLaws
namespace Go.Proofs.Ytgpjdcoikbmciaa.listNumbers
open Go.ChangeShapes Go.WideShapes Go.ChangeAt Go.RowKit
open Go.ChangeMaps (open_string shut_string)
set_option linter.unusedVariables false

theorem own : ownKnob Try.prog.godebug = none := by kernel_rfl
theorem laidOut : laidOutB Try.prog = true := by kernel_rfl

theorem LA.len {α : Type} {V : α → Value} {te tl : TypeId} {B : Nat → Prop} {w : World} {p : Nat} {row free : List Nat} {va : Nat → α} {n : Nat} (h : LA V te tl B w p row free va n) : row.length + free.length = n := by
  obtain ⟨s, _, R, _, rfl⟩ := h
  exact R.len
theorem nums_owned {w : World} {B : Nat} {e : TypeId} {ad : Option Addr} {m cap : Nat} {zs : List Int} (h : w.ownsRow B e 1 (.slice ad m cap) m (zs.map (Value.int .i64))) (hm : 0 < m) :
    ∃ g, ad = some ⟨g, 0, none⟩ ∧ ∀ i z, zs[i]? = some z → w.cell? ⟨g, i, none⟩ = some (.int .i64 z) := by
  obtain ⟨g, cur, rfl, hb, hg, hc⟩ := ownsRow_block h hm
  exact ⟨g, rfl, fun i z hz => hc i _ (by simp [hz])⟩

set_option maxRecDepth 20000 in
set_option maxHeartbeats 4000000 in
theorem walk (w : World) (a0 : Option Addr) (len0 cap0 : Nat) (z0 : List Int) (e0 : z0.length = len0) (m0 : len0 ≤ maxLen) (r0 : RowIn (Value.int .i64) w a0 z0) (x0 : ∀ z ∈ z0, (Lit.int .i64 z).wf = true) (a1 : Option Addr) (len1 cap1 : Nat) (z1 : List Bool) (e1 : z1.length = len1) (m1 : len1 ≤ maxLen) (r1 : RowIn Value.bool w a1 z1) :
    Calls Try.prog 4 #[.slice a0 len0 cap0, .slice a1 len1 cap1] w fun e w' => e = .returned (.bool true) ∧ Below w.heap.size w w' := by
  by_cases hbig : 200 < len0
  · go_enter Try.func4, Try.ntmps4
    go_wp2
    go_ret
    exact ⟨rfl, Below.refl _ _⟩
  have hlen : len0 ≤ 200 := by omega
  have hlen1 : len1 ≤ 9223372036854775807 := by unfold maxLen at m1; omega
  clear hbig m0 m1
  have R0 : Hid _ := r0
  have E0 : Hid _ := e0
  have R1 : Hid _ := r1
  have E1 : Hid _ := e1
  clear r0 x0 e0 r1 e1
  go_enter Try.func4, Try.ntmps4
  go_wp2_with (go_at_call 21; refine (Num.make_any w (w.heap.size ≤ ·) (Nat.le_refl _)).mono ?_; rintro e w1 ⟨p, rfl, H1, hb1⟩)
  go_loopw [6] (fun v wr => ∃ (k : Nat) (row : List Nat) (va : Nat → Int), k ≤ len0 ∧ v = .int .i64 k ∧ LA (Value.int .i64) 68 65 (w.heap.size ≤ ·) wr p row [] va k ∧ Below w.heap.size w wr) (fun v _ => len0 - (intOf v).toNat)
  case atStart => exact ⟨0, _, _, Nat.zero_le _, rfl, H1, hb1.below (Nat.le_refl _) (fun k h => h)⟩
  case round =>
    obtain ⟨k, row, va, hk, rfl, H, hb⟩ := hrel
    rcases Nat.lt_or_ge k len0 with hlt | hge
    · obtain ⟨z, hz⟩ : ∃ z, z0[k]? = some z := ⟨_, List.getElem?_eq_getElem (by rw [E0.out]; exact hlt)⟩
      obtain ⟨g, off, ea, hc⟩ := (RowIn.later R0.out hb).at hz
      subst ea
      have hs := hb.size
      clear hz
      by_cases hfr : k < len1
      · obtain ⟨f, hf⟩ : ∃ f, z1[k]? = some f := ⟨_, List.getElem?_eq_getElem (by rw [E1.out]; exact hfr)⟩
        obtain ⟨g1, off1, ea1, hc1⟩ := (RowIn.later R1.out hb).at hf
        subst ea1
        clear hf
        cases f with
        | true =>
          go_wp2_with (go_at_call 22; refine (Num.pushFront_any H (fun k h => Nat.le_trans hs h) z (by omega)).mono ?_; rintro e w2 ⟨rfl, H2, hb2⟩)
          go_roundw
          case rel => exact ⟨k + 1, _, _, hlt, by go_num, H2, hb.trans (hb2.below hs (fun k h => h))⟩
          case measure => simp [intOf]; omega
        | false =>
          go_wp2_with (go_at_call 23; refine (Num.pushBack_any H (fun k h => Nat.le_trans hs h) z (by omega)).mono ?_; rintro e w2 ⟨rfl, H2, hb2⟩)
          go_roundw
          case rel => exact ⟨k + 1, _, _, hlt, by go_num, H2, hb.trans (hb2.below hs (fun k h => h))⟩
          case measure => simp [intOf]; omega
      · go_wp2_with (go_at_call 23; refine (Num.pushBack_any H (fun k h => Nat.le_trans hs h) z (by omega)).mono ?_; rintro e w2 ⟨rfl, H2, hb2⟩)
        go_roundw
        case rel => exact ⟨k + 1, _, _, hlt, by go_num, H2, hb.trans (hb2.below hs (fun k h => h))⟩
        case measure => simp [intOf]; omega
    · have hk' : k = len0 := by omega
      subst hk'
      have hrl : row.length = k := by simpa using LA.len H
      clear hge hk H1 hb1
      go_wp2_with (first
        | (go_at_call 24; refine (Num.all_any H (by omega)).mono ?_; rintro e w2 ⟨ad, cap, rfl, hown, hb2⟩; rw [hrl] at hown; rw [hrl]; replace H := H.below hb2)
        | (go_at_call 25; refine (Num.len_any H).mono ?_; rintro e w3 ⟨rfl, rfl⟩; rw [hrl])
        | (go_at_call 26; refine (Num.front_any H).mono ?_; rintro e w4 ⟨rfl, rfl⟩)
        | (go_at_call 27; refine (Num.back_any H).mono ?_; rintro e w5 ⟨rfl, rfl⟩))
      have hs := hb.size
      have t2 := hb2.size
      go_loop [8, 9, 10] (fun h b c => ∃ j : Nat, j ≤ k ∧ h = .int .i64 (hdOf (row.drop j) : Nat) ∧ b = .int .i64 (lsOf (row.take (k - j)) : Nat) ∧ c = .int .i64 j) (fun _ _ c => k - (intOf c).toNat)
      case atStart => exact ⟨0, Nat.zero_le _, by rw [List.drop_zero], by rw [Nat.sub_zero, ← hrl, List.take_length], rfl⟩
      case round =>
        obtain ⟨j, hj, rfl, rfl, rfl⟩ := hrel
        rcases Nat.lt_or_ge j k with hlt | hge
        · obtain ⟨x, hx1, hx2, hx3⟩ := row_cut (row := row) (k := j) (by omega)
          obtain ⟨y, hy1, hy2, hy3⟩ := row_cut (row := row) (k := k - 1 - j) (by omega)
          rw [show k - 1 - j + 1 = k - j by omega] at hy3
          have ex : hdOf (row.drop j) = x := by rw [hx2]; rfl
          have ey : lsOf (row.take (k - j)) = y := by rw [hy3, lsOf_concat]
          rw [ex, ey]
          have hxm : x ∈ row := by rw [hx1]; simp
          have hym : y ∈ row := by rw [hy1]; simp
          have hxj : row[j]? = some x := by
            have := List.getElem?_drop (xs := row) (i := j) (j := 0)
            rw [hx2] at this
            simpa using this.symm
          have hyj : row[k - 1 - j]? = some y := by
            have := List.getElem?_drop (xs := row) (i := k - 1 - j) (j := 0)
            rw [hy2] at this
            simpa using this.symm
          obtain ⟨g, rfl, hc⟩ := nums_owned (zs := row.map va) (by rw [List.map_map]; exact hown) (by omega)
          have cx := hc j (va x) (by rw [List.getElem?_map, hxj]; rfl)
          have cy := hc (k - 1 - j) (va y) (by rw [List.getElem?_map, hyj]; rfl)
          have Hx := H
          rw [hx1] at Hx
          have Hy := H
          rw [hy1] at Hy
          clear hx1 hx2 hx3 hy1 hy2 hy3 ex ey hxj hyj hc
          go_wp2_with (first
            | (go_at_call 28; refine (Num.get_in H x hxm (by omega)).mono ?_; rintro e w6 ⟨rfl, rfl⟩; clear hxm)
            | (go_at_call 28; refine (Num.get_in H y hym (by omega)).mono ?_; rintro e w6 ⟨rfl, rfl⟩; clear hym)
            | (go_at_call 29; refine (Num.next_in x Hx (by omega)).mono ?_; rintro e w6 ⟨rfl, rfl⟩)
            | (go_at_call 30; refine (Num.prev_in y Hy (by omega)).mono ?_; rintro e w6 ⟨rfl, rfl⟩))
          go_round
          case rel => exact ⟨j + 1, hlt, rfl, by rw [show k - (j + 1) = k - 1 - j by omega], by go_num⟩
          case measure => simp [intOf]; omega
        · have hj' : j = k := by omega
          subst hj'
          rw [← hrl, List.drop_length, hrl, Nat.sub_self, List.take_zero, show hdOf [] = 0 from rfl, show lsOf [] = 0 from rfl]
          go_wp2_with (go_at_call 20; refine (known_any _).mono ?_; rintro e w8 ⟨rfl, hb8⟩)
          go_ret
          exact ⟨rfl, (hb.trans (hb2.mono hs)).trans (hb8.mono (by omega))⟩

set_option maxRecDepth 100000 in
theorem lifted (os : Os) (started : os.Started) (H : Type) (enc : TypeId × Value → H) :
    ReturnsInHanded {} Try.checked os 4 .any (Rows.listNumbersSpec.pre6 enc Try.prog Try.f4 Rows.listNumbersRow.domain false) (Rows.listNumbersSpec.post enc Try.prog Try.f4 false true false false) := by
  refine returnsInHanded_of_change_sized (C := Try.checked) own started (by kernel_rfl) Try.func4
    (ChangeSpec.witness6 (enc := enc) (C := Try.checked) false ⟨#[], #[.slice none 0 0, .slice none 0 0], []⟩ 8 (by kernel_rfl) (by kernel_rfl) (by kernel_rfl) (by kernel_rfl)) ?_
  intro W base args ds gs before hval0 hW hcnd hsz0 _
  have hval : ∀ (j : Nat) t v, Try.f4.params[j]? = some t → args[j]? = some v → Value.okWide Try.prog W .any base t v := hval0
  have hsz : (DataW.weightsEach Try.prog (Try.f4.params.toList ++ Rows.listNumbersSpec.plain.varTypes Try.prog) (ds ++ gs)).all (· ≤ reachBytes) = true := hsz0
  have hW' := hW
  obtain ⟨p, q, hA0, hV, rfl, hfz, hnd⟩ := hW
  have hA : DataW.TrodAll enc Try.prog W 0 (fun _ => true) true Try.f4.params.toList args.toList ds p := hA0
  rw [Try.params4] at hA hval hsz
  obtain ⟨v0, vs0, d0, ds0, p0, q0, hargs, rfl, rfl, h0, s0⟩ := trodAll_cons hA
  obtain ⟨v1, vs1, d1, ds1, p1, q1, rfl, rfl, rfl, h1, s1⟩ := trodAll_cons s0
  obtain ⟨rfl, rfl, rfl⟩ := trodAll_nil s1
  obtain rfl : args = #[v0, v1] := by cases args; simp_all
  obtain ⟨rfl, rfl⟩ := trodVars_none hV
  obtain ⟨a0, len0, cap0, rfl⟩ := okWide_slice Try.underlying28 (hval 0 28 v0 rfl rfl)
  have k0 := h0
  have lt0 : ∀ x ∈ p0, x.block < W.heap.size := by obtain ⟨m, hm⟩ := k0; exact DataW.trod_lt m _ _ _ hm
  obtain ⟨z0, e0, m0, r0, x0⟩ := open_nums h0
  obtain ⟨a1, len1, cap1, rfl⟩ := okWide_slice Try.underlying39 (hval 1 39 v1 rfl rfl)
  have k1 := h1
  have lt1 : ∀ x ∈ p1, x.block < W.heap.size := by obtain ⟨m, hm⟩ := k1; exact DataW.trod_lt m _ _ _ hm
  obtain ⟨z1, e1, m1, r1⟩ := open_bools h1
  clear hA0 hval0 hsz0
  refine (walk W a0 len0 cap0 z0 e0 m0 r0 x0 a1 len1 cap1 z1 e1 m1 r1).mono fun e W' ⟨he, bel⟩ => ?_
  subst he
  exact ⟨_, rfl, _, _, _, [], _, [], hW', trodAll_mk1 (shut_bool Try.underlying4 _), (trodAll_cons_mk (Below.trod laidOut (by kernel_rfl) (of_decide_eq_true (by kernel_rfl)) k0 bel lt0) (trodAll_cons_mk (Below.trod laidOut (by kernel_rfl) (of_decide_eq_true (by kernel_rfl)) k1 bel lt1) trodAll_mk0)), rfl, bel.frame _, fun h => by cases h⟩

theorem over : Rows.listNumbersRow.holds Try.pinned (OpenSpec.ofChange Rows.listNumbersSpec) :=
  OpenClaim.holds_of_wide 4 Try.f4 rfl rfl rfl rfl rfl rfl rfl ⟨rfl, rfl, rfl, rfl, rfl⟩ rfl rfl rfl rfl rfl (by kernel_rfl) Try.func4 (by kernel_rfl)
    (of_decide_eq_true (by kernel_rfl)) (by unfold Func.isWrapper; first | (rw [if_pos (by decide +kernel)]; kernel_rfl) | (rw [if_neg (by decide +kernel)]; exact ⟨rfl, rfl⟩))
    (fun os started H enc _ => lifted os started H enc)

end Go.Proofs.Ytgpjdcoikbmciaa.listNumbers
namespace Go.Proofs.Ytgpjdcoikbmciaa
/-- the given statement -/
theorem listNumbers_holds : Rows.ListNumbersSaid := listNumbers.over
#print axioms listNumbers_holds
end Go.Proofs.Ytgpjdcoikbmciaa
