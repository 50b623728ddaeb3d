/- Who is moved to an end stands there, and the others stand as they stood: the law returns true for every row, handle and end, and its arguments read as they did. -/
import Derived.Test.YtgpjdcoikbmciaaRows
import Derived.Test.YtgpjdcoikbmciaaKnown
import Derived.Test.YtgpjdcoikbmciaaPushed
import Derived.WalkKit
import Derived.ProofKit
import Derived.OpenShut
import Derived.ShutString
import Derived.ChangeOld
import Derived.Below
import Derived.Carry
import Derived.SizedLaws
namespace Go.Proofs.Ytgpjdcoikbmciaa.listMoves
open Go.ChangeShapes Go.WideShapes Go.ChangeAt Go.RowKit
open Go.ChangeMaps (open_string shut_string)
set_option linter.unusedVariables false

theorem own : ownKnob Try.prog.godebug = none := by kernel_rfl
theorem laidOut : laidOutB Try.prog = true := by kernel_rfl

set_option maxHeartbeats 4000000 in
theorem walk (w : World) (a0 : Option Addr) (len0 cap0 : Nat) (z0 : List ByteArray) (e0 : z0.length = len0) (m0 : len0 ≤ maxLen) (r0 : RowIn Value.string w a0 z0) (x0 : ∀ z ∈ z0, z.size ≤ 140737488351232) (a1 : Int) (w1 : (Lit.int .i64 a1).wf = true) (a2 : Bool) :
    Calls Try.prog 8 #[.slice a0 len0 cap0, .int .i64 a1, .bool a2] w fun e w' => e = .returned (.bool true) ∧ Below w.heap.size w w' := by
  obtain ⟨i9, hi, hz0, hz1, hz2⟩ := info_parts Try.info9
  by_cases hbig : 60 < len0
  · go_enter Try.func8, Try.ntmps8
    go_wp2
    go_ret
    exact ⟨rfl, Below.refl _ _⟩
  by_cases hlo : a1 < 1
  · go_enter Try.func8, Try.ntmps8
    go_wp2
    go_ret
    exact ⟨rfl, Below.refl _ _⟩
  by_cases hhi : (len0 : Int) < a1
  · go_enter Try.func8, Try.ntmps8
    go_wp2
    go_ret
    exact ⟨rfl, Below.refl _ _⟩
  have hlen : len0 ≤ 60 := by omega
  obtain ⟨i, rfl⟩ : ∃ i : Nat, a1 = (i : Int) + 1 := ⟨(a1 - 1).toNat, by omega⟩
  have hil : i < len0 := by omega
  clear hbig m0 w1 hlo hhi
  have R0 : Hid _ := r0
  have E0 : Hid _ := e0
  clear r0 x0 e0
  go_enter Try.func8, Try.ntmps8
  go_wp2_with (go_at_call 10; refine (make_any w (w.heap.size ≤ ·) (Nat.le_refl _)).mono ?_; rintro e w1 ⟨p, rfl, H1, hb1⟩)
  go_loopw [8] (fun v wr => ∃ (k : Nat) (va : Nat → ByteArray), k ≤ len0 ∧ v = .int .i64 k ∧ LA Value.string 60 58 (w.heap.size ≤ ·) wr p (List.range' 1 k) [] va k ∧ Laid z0 k va ∧ Below w.heap.size w wr) (fun v _ => len0 - (intOf v).toNat)
  case atStart => exact ⟨0, _, Nat.zero_le _, rfl, H1, laid_zero _ _, hb1.below (Nat.le_refl _) (fun k h => h)⟩
  case round =>
    obtain ⟨k, va, hk, rfl, H, hla, hb⟩ := hrel
    rcases Nat.lt_or_ge k len0 with hlt | hge
    · obtain ⟨z, hz⟩ : ∃ z, z0[k]? = some z := ⟨_, List.getElem?_eq_getElem (by rw [E0.out]; exact hlt)⟩
      obtain ⟨g, off, ea, hc⟩ := (RowIn.later R0.out hb).at hz
      subst ea
      have hs := hb.size
      have HL : Hid _ := laid_more hla hz
      clear hla hz
      go_wp2_with (go_at_call 32; refine (pushBack_any H (fun k h => Nat.le_trans hs h) z (by omega)).mono ?_; rintro e w2 ⟨rfl, H2, hb2⟩; replace H2 := laid_step H2)
      go_roundw
      case rel => exact ⟨k + 1, _, hlt, by go_num, H2, HL.out, hb.trans (hb2.below hs (fun k h => h))⟩
      case measure => simp [intOf]; omega
    · have hk' : k = len0 := by omega
      subst hk'
      obtain ⟨l, r, hrow, hera, hzi⟩ := laid_cut hla E0.out.symm hil
      rw [hrow] at H
      have hs := hb.size
      replace H := H.narrow
      have HE : Hid _ := hera
      have HZ : Hid _ := hzi
      clear hera hzi hla hge hk hrow H1 hb1
      go_wp2_with fail
      obtain ⟨wz, hwz⟩ : ∃ x, x = wr := ⟨_, rfl⟩
      subst hwz
      go_loopw [9, 10] (fun v c wx => ∃ (j m : Nat) (ad : Option Addr) (cap : Nat), j ≤ k ∧ c = .int .i64 j ∧ v = .slice ad m cap ∧ m ≤ j ∧ wx.ownsRow wz.heap.size 9 1 (.slice ad m cap) m (((z0.take j).eraseIdx i).map Value.string) ∧ Below wz.heap.size wz wx) (fun _ c _ => k - (intOf c).toNat)
      case atStart => exact ⟨0, 0, none, 0, Nat.zero_le _, rfl, rfl, Nat.le_refl _, World.ownsRow_nil _ _ _ _, Below.refl _ _⟩
      case round =>
        obtain ⟨j, m, ad, cap, hj, rfl, rfl, hmj, hown, hbx⟩ := hrel
        have tx := hbx.size
        rcases Nat.lt_or_ge j k with hlt | hge
        · obtain ⟨z, hz⟩ : ∃ z, z0[j]? = some z := ⟨_, List.getElem?_eq_getElem (by rw [E0.out]; exact hlt)⟩
          obtain ⟨g, off, ea, hc⟩ := (RowIn.later R0.out (hb.trans (hbx.mono hs))).at hz
          subst ea
          by_cases hji : j = i
          · subst hji
            have HM : Hid _ := erase_same (zs := z0) (i := j) (by rw [E0.out]; exact hlt)
            clear hz
            go_wp2_with fail
            go_roundw
            case rel => exact ⟨j + 1, m, ad, cap, hlt, by go_num, rfl, by omega, by rw [HM.out]; exact hown, hbx⟩
            case measure => simp [intOf]; omega
          · have HM : Hid _ := erase_more (i := i) hz hji
            have hji' : ¬ ((j : Int) = i) := by omega
            clear hz
            go_wp2_with (at_builtin; go_must (refine wpList_append_from _ rfl _ _ 36 rfl wz.heap.size 9 i9 _ 1 16 Try.underlying36 hi hz0 hz1 hz2 rfl (by omega) (.slice ad m cap) m _ rfl (hown.alloc _) _ 1 1 _ rfl (one_new _ _ 9 rfl) (by unfold maxLen; omega) (by omega) (by simp <;> omega) ?_); intro ad2 cap2 w2 hc2 hown2 hgrow2 hat2)
            go_roundw
            case rel =>
              refine ⟨j + 1, m + 1, ad2, cap2, hlt, by go_num, rfl, by omega, ?_, (hbx.alloc tx _).grown hgrow2 (by simp <;> omega) (fun k e => (hown.lt k e).1)⟩
              rw [HM.out, List.map_append]
              exact hown2
            case measure => simp [intOf]; omega
        · have hj' : j = k := by omega
          subst hj'
          have e0 := E0.out
          rw [← e0, List.take_length] at hown
          have hz := HZ.out
          obtain ⟨g, off, ea, hc⟩ := (RowIn.later R0.out (hb.trans (hbx.mono hs))).at hz
          subst ea
          replace H := H.below hbx
          clear e0 hz hge hj
          have hm1 : (z0.eraseIdx i).length = m := by simpa using hown.1
          have hrl : (l ++ r).length = m := by rw [← hm1, ← HE.out, List.length_map]
          cases a2 with
          | true =>
            go_wp2_with (first
              | (go_at_call 37; go_must (refine (toFront_in (i + 1) H (by omega)).mono ?_); rintro e w3 ⟨rfl, H3, hb3⟩; clear H; have t3 := hb3.size; have hown3 := ownsRow_keeps hown hb3 (fun k h1 h2 => by omega); have hb4 := (hb.trans (hbx.mono hs)).trans (hb3.below (Nat.le_trans hs tx) (fun k h => h.1)); obtain ⟨g3, off3, ea3, hc3⟩ := (RowIn.later R0.out hb4).at HZ.out; cases ea3; clear hc)
              | (go_at_call 12; go_must (refine (front_any H3).mono ?_); rintro e w4 ⟨rfl, rfl⟩; rw [show hdOf ((i + 1) :: (l ++ r)) = i + 1 from rfl])
              | (at_builtin; go_must (refine wpList_append_from _ rfl _ _ 36 rfl w4.heap.size 9 i9 _ 1 16 Try.underlying36 hi hz0 hz1 hz2 rfl (by omega) _ 1 _ rfl (own_one w4 w4.heap.size (Nat.le_refl _) (va (i + 1))) _ m cap _ rfl (from_own (hown3.alloc _)) (by unfold maxLen; omega) (by omega) (by simp) ?_); intro ad5 cap5 w5 hc5 hown5 hgrow5 hat5; have hb5 : Below w4.heap.size w4 w5 := ((Below.refl _ w4).alloc (Nat.le_refl _) _).grown hgrow5 (by simp) (fun k e => by cases e; exact Nat.le_refl _); replace hown5 := TextsAt.own (zs := va (i + 1) :: z0.eraseIdx i) hown5; replace H3 := H3.below hb5; clear hgrow5 hat5 hown3)
              | (go_at_call 17; go_must (refine (all_texts H3 (by omega)).mono ?_); rintro e w6 ⟨ad6, cap6, rfl, hown6, hb6⟩; rw [show ((i + 1) :: (l ++ r)).length = m + 1 by simp only [List.length_cons, hrl]]; clear H3)
              | (go_at_call 16; go_must (refine (texts_same hown6 (hown5.later hb6) (by simp only [List.length_map, List.length_cons, hrl]) (by simp only [List.length_cons, hm1]; omega) (by omega) (by omega) (by rw [List.map_cons, HE.out])).mono ?_); rintro e w7 ⟨rfl, hb7⟩)
              | (go_at_call 20; go_must (refine (known_any _).mono ?_); rintro e w8 ⟨rfl, hb8⟩))
            go_ret
            have t4 := hb4.size
            have t5 := hb5.size
            have t6 := hb6.size
            have t7 := hb7.size
            exact ⟨rfl, hb4.trans ((hb5.mono t4).trans ((hb6.mono (by omega)).trans ((hb7.mono (by omega)).trans (hb8.mono (by omega)))))⟩
          | false =>
            go_wp2_with (first
              | (go_at_call 38; go_must (refine (toBack_in (i + 1) H (by omega)).mono ?_); rintro e w3 ⟨rfl, H3, hb3⟩; clear H; have t3 := hb3.size; have hown3 := ownsRow_keeps hown hb3 (fun k h1 h2 => by omega); have hb4 := (hb.trans (hbx.mono hs)).trans (hb3.below (Nat.le_trans hs tx) (fun k h => h.1)); obtain ⟨g3, off3, ea3, hc3⟩ := (RowIn.later R0.out hb4).at HZ.out; cases ea3; clear hc)
              | (go_at_call 14; go_must (refine (back_any H3).mono ?_); rintro e w4 ⟨rfl, rfl⟩; rw [lsOf_concat])
              | (at_builtin; go_must (refine wpList_append_from _ rfl _ _ 36 rfl wz.heap.size 9 i9 _ 1 16 Try.underlying36 hi hz0 hz1 hz2 rfl (by omega) (.slice ad m cap) m _ rfl (hown3.alloc _) _ 1 1 _ rfl (one_new w4 _ 9 rfl) (by unfold maxLen; omega) (by omega) (by simp <;> omega) ?_); intro ad5 cap5 w5 hc5 hown5 hgrow5 hat5; have hb5 : Keeps (fun k => wz.heap.size ≤ k) w4 w5 := ((Keeps.refl _ w4).alloc _).grown hgrow5 (fun k e => .inl (hown3.lt k e).1); replace hown5 := TextsAt.own (zs := z0.eraseIdx i ++ [va (i + 1)]) (by rw [List.map_append]; exact hown5); replace H3 := H3.kept hb5 (fun k h1 h2 => by omega); clear hgrow5 hat5 hown3)
              | (go_at_call 17; go_must (refine (all_texts H3 (by omega)).mono ?_); rintro e w6 ⟨ad6, cap6, rfl, hown6, hb6⟩; rw [show (l ++ r ++ [i + 1]).length = m + 1 by rw [List.length_append, hrl]; rfl]; clear H3)
              | (go_at_call 16; go_must (refine (texts_same hown6 (hown5.later hb6) (by rw [List.length_map, List.length_append, hrl]; rfl) (by rw [List.length_append, hm1]; rfl) (by omega) (by omega) (by rw [List.map_append, HE.out]; rfl)).mono ?_); rintro e w7 ⟨rfl, hb7⟩)
              | (go_at_call 20; go_must (refine (known_any _).mono ?_); rintro e w8 ⟨rfl, hb8⟩))
            go_ret
            have t4 := hb4.size
            have t5 := hb5.size
            have t6 := hb6.size
            have t7 := hb7.size
            exact ⟨rfl, hb4.trans ((hb5.below t4 (fun k h => Nat.le_trans hs h)).trans ((hb6.mono (by omega)).trans ((hb7.mono (by omega)).trans (hb8.mono (by omega)))))⟩

set_option maxRecDepth 100000 in
theorem lifted (os : Os) (started : os.Started) (H : Type) (enc : TypeId × Value → H) :
    ReturnsInHanded {} Try.checked os 8 .any (Rows.listMovesSpec.pre6 enc Try.prog Try.f8 Rows.listMovesRow.domain false) (Rows.listMovesSpec.post enc Try.prog Try.f8 false true false false) := by
  refine returnsInHanded_of_change_sized (C := Try.checked) own started (by kernel_rfl) Try.func8
    (ChangeSpec.witness6 (enc := enc) (C := Try.checked) false ⟨#[], #[.slice none 0 0, .int .i64 0, .bool false], []⟩ 8 (by kernel_rfl) (by kernel_rfl) (by kernel_rfl) (by kernel_rfl)) ?_
  intro W base args ds gs before hval0 hW hcnd hsz0 _
  have hval : ∀ (j : Nat) t v, Try.f8.params[j]? = some t → args[j]? = some v → Value.okWide Try.prog W .any base t v := hval0
  have hsz : (DataW.weightsEach Try.prog (Try.f8.params.toList ++ Rows.listMovesSpec.plain.varTypes Try.prog) (ds ++ gs)).all (· ≤ reachBytes) = true := hsz0
  have hW' := hW
  obtain ⟨p, q, hA0, hV, rfl, hfz, hnd⟩ := hW
  have hA : DataW.TrodAll enc Try.prog W 0 (fun _ => true) true Try.f8.params.toList args.toList ds p := hA0
  rw [Try.params8] at hA hval hsz
  obtain ⟨v0, vs0, d0, ds0, p0, q0, hargs, rfl, rfl, h0, s0⟩ := trodAll_cons hA
  obtain ⟨v1, vs1, d1, ds1, p1, q1, rfl, rfl, rfl, h1, s1⟩ := trodAll_cons s0
  obtain ⟨v2, vs2, d2, ds2, p2, q2, rfl, rfl, rfl, h2, s2⟩ := trodAll_cons s1
  obtain ⟨rfl, rfl, rfl⟩ := trodAll_nil s2
  obtain rfl : args = #[v0, v1, v2] := by cases args; simp_all
  obtain ⟨rfl, rfl⟩ := trodVars_none hV
  obtain ⟨a0, len0, cap0, rfl⟩ := okWide_slice Try.underlying36 (hval 0 36 v0 rfl rfl)
  have k0 := h0
  have lt0 : ∀ x ∈ p0, x.block < W.heap.size := by obtain ⟨m, hm⟩ := k0; exact DataW.trod_lt m _ _ _ hm
  obtain ⟨z0, e0, m0, r0, x0⟩ := open_texts h0
  replace x0 : ∀ z ∈ z0, z.size ≤ 140737488351232 := fun z hz => reach_first hsz (x0 z hz)
  obtain ⟨a1, rfl, rfl, rfl, w1⟩ := open_int Try.underlying3 (hval 1 3 v1 rfl rfl) h1
  obtain ⟨a2, rfl, rfl, rfl⟩ := open_bool Try.underlying4 (hval 2 4 v2 rfl rfl) h2
  clear hA0 hval0 hsz0
  refine (walk W a0 len0 cap0 z0 e0 m0 r0 x0 a1 w1 a2).mono fun e W' ⟨he, bel⟩ => ?_
  subst he
  exact ⟨_, rfl, _, _, _, [], _, [], hW', trodAll_mk1 (shut_bool Try.underlying4 _), (trodAll_cons_mk (Below.trod laidOut (by kernel_rfl) (of_decide_eq_true (by kernel_rfl)) k0 bel lt0) (trodAll_cons_mk (shut_int Try.underlying3 w1) (trodAll_cons_mk (shut_bool Try.underlying4 _) trodAll_mk0))), rfl, bel.frame _, fun h => by cases h⟩

theorem over : Rows.listMovesRow.holds Try.pinned (OpenSpec.ofChange Rows.listMovesSpec) :=
  OpenClaim.holds_of_wide 8 Try.f8 rfl rfl rfl rfl rfl rfl rfl ⟨rfl, rfl, rfl, rfl, rfl⟩ rfl rfl rfl rfl rfl (by kernel_rfl) Try.func8 (by kernel_rfl)
    (of_decide_eq_true (by kernel_rfl)) (by unfold Func.isWrapper; first | (rw [if_pos (by decide +kernel)]; kernel_rfl) | (rw [if_neg (by decide +kernel)]; exact ⟨rfl, rfl⟩))
    (fun os started H enc _ => lifted os started H enc)

end Go.Proofs.Ytgpjdcoikbmciaa.listMoves
namespace Go.Proofs.Ytgpjdcoikbmciaa
/-- the given statement -/
theorem listMoves_holds : Rows.ListMovesSaid := listMoves.over
#print axioms listMoves_holds
end Go.Proofs.Ytgpjdcoikbmciaa
