/- What All answers is new memory: the law returns true for every row of texts, and its argument reads as it did. -/
import Derived.Test.YtgpjdcoikbmciaaRows
import Derived.Test.YtgpjdcoikbmciaaKnown
import Derived.Test.YtgpjdcoikbmciaaArgs
import Derived.Test.YtgpjdcoikbmciaaPushed
import Derived.WalkKit
import Derived.ProofKit
import Derived.OpenShut
import Derived.ShutString
import Derived.ChangeOld
import Derived.Below
import Derived.Carry
import Derived.SizedLaws
namespace Go.Proofs.Ytgpjdcoikbmciaa.listOwn
open Go.ChangeShapes Go.WideShapes Go.ChangeAt Go.RowKit
open Go.ChangeMaps (open_string shut_string)
set_option linter.unusedVariables false

theorem own : ownKnob Try.prog.godebug = none := by kernel_rfl
theorem laidOut : laidOutB Try.prog = true := by kernel_rfl

set_option maxHeartbeats 1000000 in
theorem walk (w : World) (a0 : Option Addr) (len0 cap0 : Nat) (z0 : List ByteArray) (e0 : z0.length = len0) (m0 : len0 ≤ maxLen) (r0 : RowIn Value.string w a0 z0) (x0 : ∀ z ∈ z0, z.size ≤ 140737488351232) :
    Calls Try.prog 6 #[.slice a0 len0 cap0] w fun e w' => e = .returned (.bool true) ∧ Below w.heap.size w w' := by
  by_cases hbig : 100 < len0
  · go_enter Try.func6, Try.ntmps6
    go_wp2
    go_ret
    exact ⟨rfl, Below.refl _ _⟩
  have hlen : len0 ≤ 100 := by omega
  clear hbig m0
  have R0 : Hid _ := r0
  have X0 : Hid _ := x0
  have E0 : Hid _ := e0
  clear r0 x0 e0
  go_enter Try.func6, Try.ntmps6
  go_wp2_with (go_at_call 10; refine (make_any w (w.heap.size ≤ ·) (Nat.le_refl _)).mono ?_; rintro e w1 ⟨p, rfl, H1, hb1⟩)
  go_loopw [4] (fun i wr => ∃ (k : Nat) (va : Nat → ByteArray), k ≤ len0 ∧ i = .int .i64 k ∧ LA Value.string 60 58 (w.heap.size ≤ ·) wr p (List.range' 1 k) [] va k ∧ Laid z0 k va ∧ Below w.heap.size w wr) (fun i _ => len0 - (intOf i).toNat)
  case atStart => exact ⟨0, _, Nat.zero_le _, rfl, H1, laid_zero _ _, hb1.below (Nat.le_refl _) (fun k h => h)⟩
  case round =>
    obtain ⟨k, va, hk, rfl, H, hla, hb⟩ := hrel
    rcases Nat.lt_or_ge k len0 with hlt | hge
    · obtain ⟨z, hz⟩ : ∃ z, z0[k]? = some z := ⟨_, List.getElem?_eq_getElem (by rw [E0.out]; exact hlt)⟩
      obtain ⟨g, off, ea, hc⟩ := (RowIn.later R0.out hb).at hz
      subst ea
      have hs := hb.size
      have HL : Hid _ := laid_more hla hz
      clear hla hz
      go_wp2_with (go_at_call 32; refine (pushBack_any H (fun k h => Nat.le_trans hs h) z (by omega)).mono ?_; rintro e w2 ⟨rfl, H2, hb2⟩; replace H2 := laid_step H2)
      go_roundw
      case rel => exact ⟨k + 1, _, hlt, by go_num, H2, HL.out, hb.trans (hb2.below hs (fun k h => h))⟩
      case measure => simp [intOf]; omega
    · have hk' : k = len0 := by omega
      subst hk'
      have hall : ((List.range' 1 k).map fun h => Value.string (va h)) = z0.map Value.string := laid_all hla E0.out.symm
      have HA : Hid _ := hall
      have hs := hb.size
      clear hall hla hge hk
      go_wp2_with (go_at_call 17; refine (all_any H (by omega)).mono ?_; rintro e w2 ⟨ad, cap, rfl, hown, hb2⟩; rw [HA.out, List.length_range'] at hown; rw [List.length_range'])
      go_loopw [6] (fun i wx => ∃ (j : Nat) (xs : List ByteArray), j ≤ k ∧ i = .int .i64 j ∧ xs.length = k ∧ (∀ m z, j ≤ m → xs[m]? = some z → z.size ≤ 140737488351232) ∧ wx.ownsRow wr.heap.size 9 1 (.slice ad k cap) k (xs.map Value.string) ∧ Below wr.heap.size wr wx) (fun i _ => k - (intOf i).toNat)
      case atStart => exact ⟨0, _, Nat.zero_le _, rfl, E0.out, fun m z _ hz => X0.out z (List.mem_of_getElem? hz), hown, hb2⟩
      case round =>
        obtain ⟨j, xs, hj, rfl, hxl, hsz, hox, hbx⟩ := hrel
        rcases Nat.lt_or_ge j k with hlt | hge
        · obtain ⟨g, cur, rfl, hg, hgb, hgc⟩ := ownsRow_block hox (by omega)
          obtain ⟨x, hx⟩ : ∃ x, xs[j]? = some x := ⟨_, List.getElem?_eq_getElem (by omega)⟩
          have c0 := hgc j (.string x) (by simp [hx])
          have f0 := frozen_of_block (j := j) hgb
          have hx9 := hsz j x (Nat.le_refl _) hx
          have HS : Hid _ := hsz
          clear hgc hgb hsz
          go_wp2
          go_roundw
          case rel =>
            refine ⟨j + 1, xs.set j (⟨#[120]⟩ ++ x), hlt, by go_num, by simpa using hxl, ?_, ?_, hbx.setCell hg _⟩
            · intro m z hm hz
              rw [List.getElem?_set_ne (by omega)] at hz
              exact HS.out m z (by omega) hz
            · rw [List.map_set]
              exact ownsRow_setCell hox
          case measure => simp [intOf]; omega
        · have hj' : j = k := by omega
          subst hj'
          go_wp2_with (first
            | (go_at_call 17; refine (all_any (H.below hbx) (by omega)).mono ?_; rintro e w4 ⟨ad4, cap4, rfl, hown4, hb4⟩; rw [HA.out, List.length_range'] at hown4; rw [List.length_range'])
            | (go_at_call 16; refine (texts_any (TextsAt.own hown4) (RowIn.texts (RowIn.later (RowIn.later R0.out (hb.trans (hbx.mono hs))) hb4)) E0.out E0.out (by omega) (by omega)).mono ?_; rintro e w5 ⟨rfl, hb5⟩)
            | (go_at_call 20; refine (known_any _).mono ?_; rintro e w6 ⟨rfl, hb6⟩))
          go_ret
          have t4 := hb4.size
          have t5 := hb5.size
          have tx := hbx.size
          exact ⟨rfl, ((hb.trans (hbx.mono hs)).trans (hb4.mono (by omega))).trans ((hb5.mono (by omega)).trans (hb6.mono (by omega)))⟩

set_option maxRecDepth 100000 in
theorem lifted (os : Os) (started : os.Started) (H : Type) (enc : TypeId × Value → H) :
    ReturnsInHanded {} Try.checked os 6 .any (Rows.listOwnSpec.pre6 enc Try.prog Try.f6 Rows.listOwnRow.domain false) (Rows.listOwnSpec.post enc Try.prog Try.f6 false true false false) := by
  refine returnsInHanded_of_change_sized (C := Try.checked) own started (by kernel_rfl) Try.func6
    (ChangeSpec.witness6 (enc := enc) (C := Try.checked) false ⟨#[], #[.slice none 0 0], []⟩ 8 (by kernel_rfl) (by kernel_rfl) (by kernel_rfl) (by kernel_rfl)) ?_
  intro W base args ds gs before hval0 hW hcnd hsz0 _
  have hval : ∀ (j : Nat) t v, Try.f6.params[j]? = some t → args[j]? = some v → Value.okWide Try.prog W .any base t v := hval0
  have hsz : (DataW.weightsEach Try.prog (Try.f6.params.toList ++ Rows.listOwnSpec.plain.varTypes Try.prog) (ds ++ gs)).all (· ≤ reachBytes) = true := hsz0
  have hW' := hW
  obtain ⟨p, q, hA0, hV, rfl, hfz, hnd⟩ := hW
  have hA : DataW.TrodAll enc Try.prog W 0 (fun _ => true) true Try.f6.params.toList args.toList ds p := hA0
  rw [Try.params6] at hA hval hsz
  obtain ⟨v0, vs0, d0, ds0, p0, q0, hargs, rfl, rfl, h0, s0⟩ := trodAll_cons hA
  obtain ⟨rfl, rfl, rfl⟩ := trodAll_nil s0
  obtain rfl : args = #[v0] := by cases args; simp_all
  obtain ⟨rfl, rfl⟩ := trodVars_none hV
  obtain ⟨a0, len0, cap0, rfl⟩ := okWide_slice Try.underlying36 (hval 0 36 v0 rfl rfl)
  have k0 := h0
  have lt0 : ∀ x ∈ p0, x.block < W.heap.size := by obtain ⟨m, hm⟩ := k0; exact DataW.trod_lt m _ _ _ hm
  obtain ⟨z0, e0, m0, r0, x0⟩ := open_texts h0
  replace x0 : ∀ z ∈ z0, z.size ≤ 140737488351232 := fun z hz => reach_first hsz (x0 z hz)
  clear hA0 hval0 hsz0
  refine (walk W a0 len0 cap0 z0 e0 m0 r0 x0).mono fun e W' ⟨he, bel⟩ => ?_
  subst he
  exact ⟨_, rfl, _, _, _, [], _, [], hW', trodAll_mk1 (shut_bool Try.underlying4 _), (trodAll_cons_mk (Below.trod laidOut (by kernel_rfl) (of_decide_eq_true (by kernel_rfl)) k0 bel lt0) trodAll_mk0), rfl, bel.frame _, fun h => by cases h⟩

theorem over : Rows.listOwnRow.holds Try.pinned (OpenSpec.ofChange Rows.listOwnSpec) :=
  OpenClaim.holds_of_wide 6 Try.f6 rfl rfl rfl rfl rfl rfl rfl ⟨rfl, rfl, rfl, rfl, rfl⟩ rfl rfl rfl rfl rfl (by kernel_rfl) Try.func6 (by kernel_rfl)
    (of_decide_eq_true (by kernel_rfl)) (by unfold Func.isWrapper; first | (rw [if_pos (by decide +kernel)]; kernel_rfl) | (rw [if_neg (by decide +kernel)]; exact ⟨rfl, rfl⟩))
    (fun os started H enc _ => lifted os started H enc)

end Go.Proofs.Ytgpjdcoikbmciaa.listOwn
namespace Go.Proofs.Ytgpjdcoikbmciaa
/-- the given statement -/
theorem listOwn_holds : Rows.ListOwnSaid := listOwn.over
#print axioms listOwn_holds
end Go.Proofs.Ytgpjdcoikbmciaa
