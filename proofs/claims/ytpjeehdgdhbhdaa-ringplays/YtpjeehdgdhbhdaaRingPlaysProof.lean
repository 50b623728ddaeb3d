/- Of every script of what goes in and out each answer, and all that is there: the law returns true for every room and every row of numbers, and its arguments read as they did. -/
import Derived.Test.YtpjeehdgdhbhdaaRows
import Derived.Test.YtpjeehdgdhbhdaaPair
import Derived.Deep.CutRange
import Derived.Deep.RegionHeld3
import Derived.WalkKit
import Derived.ProofKit
import Derived.OpenShut
import Derived.ShutString
import Derived.ChangeOld
import Derived.Below
import Derived.Carry
import Derived.SizedLaws
namespace Go.Proofs.Ytpjeehdgdhbhdaa.ringPlays
open Go.ChangeShapes Go.WideShapes Go.ChangeAt Go.RowKit
open Go.ChangeMaps (open_string shut_string)
set_option linter.unusedVariables false

theorem own : ownKnob Try.prog.godebug = none := by kernel_rfl
theorem laidOut : laidOutB Try.prog = true := by kernel_rfl

set_option maxRecDepth 20000 in
set_option maxHeartbeats 8000000 in
theorem walk (w : World) (a0 : Int) (w0 : (Lit.int .i64 a0).wf = true) (a1 : Option Addr) (len1 cap1 : Nat) (z1 : List Int) (e1 : z1.length = len1) (m1 : len1 ≤ maxLen) (r1 : RowIn (Value.int .i64) w a1 z1) (x1 : ∀ z ∈ z1, (Lit.int .i64 z).wf = true) :
    Calls Try.prog 3 #[.int .i64 a0, .slice a1 len1 cap1] w fun e w' => e = .returned (.bool true) ∧ Below w.heap.size w w' := by
  subst e1
  have hm : z1.length ≤ 9223372036854775807 := by unfold maxLen at m1; omega
  have R1 : Hid (RowIn (Value.int .i64) w a1 z1) := r1
  clear r1 x1 m1 w0
  go_enter Try.func3, Try.ntmps3
  go_wp2_with (first
    | (go_at_call 6; refine (Num.new_any w (w.heap.size ≤ ·) (Nat.le_refl _) a0).mono ?_; rintro e w1 ⟨p, rfl, H1, hb1, -⟩)
    | (go_at_call 7; refine (rnew_any w1 (w1.heap.size ≤ ·) (Nat.le_refl _) a0).mono ?_; rintro e w2 ⟨x, rfl, HX, hb2, -⟩))
  have HA0 : Pair (fun k => k < w.heap.size) w2 p x [] [] (Num.heldRoom a0) := pair_start H1 hb1.size HX hb2
  have hbw : Below w.heap.size w w2 := (hb1.below (Nat.le_refl _) (fun k h => h)).trans ((hb2.below (Nat.le_refl _) (fun k h => h)).mono hb1.size)
  generalize Num.heldRoom a0 = room at HA0 ⊢
  clear H1 HX hb1 hb2
  go_loopw [7] (fun i wr => ∃ (k : Nat) (xs : List Int), k ≤ z1.length ∧ k ≤ 200 ∧ i = .int .i64 k ∧ Pair (fun j => j < w.heap.size) wr p x xs xs room ∧ Below w.heap.size w wr) (fun i _ => z1.length - (intOf i).toNat)
  case atStart => exact ⟨0, _, Nat.zero_le _, Nat.zero_le _, rfl, HA0, hbw⟩
  case round =>
    clear HA0 hbw
    obtain ⟨k, xs, hk, hk2, rfl, HA, hb⟩ := hrel
    have hlen := HA.len
    by_cases hlt : k < z1.length ∧ k < 200
    · obtain ⟨hlt, h200⟩ := hlt
      obtain ⟨z, hz⟩ : ∃ z, z1[k]? = some z := ⟨_, List.getElem?_eq_getElem hlt⟩
      have hsrc : ∃ g off, a1 = some ⟨g, off, none⟩ ∧ g < w.heap.size ∧ ∀ wx, Below w.heap.size w wx → wx.cell? ⟨g, off + k, none⟩ = some (.int .i64 z) := by
        obtain ⟨g, off, e, c⟩ := R1.out.at hz
        exact ⟨g, off, e, World.block_lt_of_cell? _ _ c, fun wx hbx => cell_later hbx c⟩
      obtain ⟨g, off, rfl, hgw, hcell⟩ := hsrc
      have HC : Hid (∀ wx, Below w.heap.size w wx → wx.cell? ⟨g, off + k, none⟩ = some (.int .i64 z)) := hcell
      have c0 := hcell wr hb
      have h200' : (k : Int) < 200 := by omega
      have hs := hb.size
      clear hz hcell
      go_upto_if 35 with (fail)
      go_cut [8, 9, 10, 11] from 20 to 123 (fun _ _ _ _ wx => ∃ xs' : List Int, Pair (fun j => j < w.heap.size) wx p x xs' xs' room ∧ Below w.heap.size w wx)
      case first =>
        go_wp2_with (first
          | (go_at_call 8; refine (Pair.onL HA (fun D H hD => Num.pop_any H)).mono ?_; rintro e w3 ⟨rfl, HA3, hk3⟩; have hb3 := hb.trans (hk3.old hs); have hs3 := hb3.size; clear HA hk3)
          | (go_at_call 9; refine (Pair.onX HA3 (fun D H hD => rpop_any H hD (by omega))).mono ?_; rintro e w4 ⟨rfl, HA4, hk4⟩; have hb4 := hb3.trans (hk4.old hs3); clear HA3 hk4))
        · go_meet
          case rel => exact ⟨_, HA4, hb4⟩
        · have HAd : Pair (fun j => j < w.heap.size) wr.drew p x xs xs room := HA.below ((Below.refl _ wr).drew)
          have hbd : Below w.heap.size w wr.drew := hb.drew
          clear HA
          go_region_with (first
            | (go_at_call 10; refine (Pair.onL HAd (fun D H hD => Num.push_any H hD z)).mono ?_; rintro e w3 ⟨rfl, HA3, hk3⟩; have hb3 := hbd.trans (hk3.old hs); have hs3 := hb3.size; have c3 := HC.out w3 hb3; clear hk3)
            | (go_at_call 11; refine (Pair.onX HA3 (fun D H hD => rpush_any H hD z (by omega))).mono ?_; rintro e w4 ⟨rfl, HA4, hk4⟩; have hb4 := hb3.trans (hk4.old hs3); have c4 := HC.out w4 hb4; clear hk4))
          all_goals
            go_wp2_with fail
            go_meet
            case rel => exact ⟨_, HA4, hb4⟩
      case rest =>
        obtain ⟨xs', HA1, hb1⟩ := hcut
        have c1 := HC.out wc hb1
        have hlen1 := HA1.len
        obtain ⟨DL, hL⟩ := HA1.left
        have hs1 := hb1.size
        clear HA hb c0 hs hlen
        go_wp2_with (first
          | (go_at_call 12; refine (Num.at_any hL _).mono ?_; rintro e w5 ⟨rfl, q5, rfl⟩; have HA5 := HA1.drewN q5; have hb5 := below_drewN hb1 q5; obtain ⟨DX, adx, capx, hX⟩ := HA5.right; have c5 := HC.out _ hb5; clear hL HA1 hb1)
          | (go_at_call 13; refine (rat_any ⟨adx, capx, hX⟩ _).mono ?_; rintro e w6 ⟨rfl, rfl⟩))
        obtain ⟨DL5, hL5⟩ := HA5.left
        clear c1 c5 hs1
        generalize wc.drewN q5 = W at HA5 hb5 hX hL5 ⊢
        obtain ⟨d0, d1, -, -⟩ := hX.top
        have hs5 := hb5.size
        go_region_held3 (fun w' => w'.cell? ⟨x, 0, none⟩ = some (.slice adx xs'.length capx) ∧ w'.cell? ⟨x, 1, none⟩ = some (.int .i64 (room : Nat))) (first | go_keep | exact ⟨d7, e7⟩)
          (first
          | (go_at_call 15; refine (Num.all_any (w := W.drew) hL5).mono ?_; rintro e w7 ⟨G, rfl, -, hG, hb7⟩; have hb7' : Below W.heap.size W w7 := ((Below.refl _ W).drew).trans hb7; have HG : Hid (RowIn (Value.int .i64) w7 (some ⟨G, 0, none⟩) xs') := RowIn.block hG; have hX7 := hX.below hb7'; have hL7 := hL5.below hb7'; obtain ⟨d7, e7, -, -⟩ := hX7.top; clear hG hb7)
          | (go_at_call 14; refine (numbers_same HG.out (RowIn.own hX7.2.2.1) rfl rfl (by omega)).mono ?_; rintro e w8 ⟨rfl, q8, rfl⟩; have hL8 := hL7.drewN q8)
          | (go_at_call 16; refine (Num.len_any hL8).mono ?_; rintro e w9 ⟨rfl, rfl⟩)
          | (go_at_call 17; refine (Num.room_any hL8).mono ?_; rintro e w9 ⟨rfl, rfl⟩))
        go_wp2_with fail
        go_roundw
        case rel =>
          exact ⟨k + 1, xs', hlt, h200, by go_num, HA5.below (below_drewN hb7' _), hb5.trans (below_drewN (hb7'.mono hs5) _)⟩
        case measure => simp [intOf]; omega
    · obtain ⟨DL, hL⟩ := HA.left
      obtain ⟨DX, adx, capx, hX⟩ := HA.right
      obtain ⟨d0, d1, -, -⟩ := hX.top
      have hs := hb.size
      rcases Nat.lt_or_ge k z1.length with h1 | h1
      · have h2 : ¬ ((k : Int) < 200) := by omega
        clear hlt
        go_wp2_with fail
        go_region_held3 (fun w' => w'.cell? ⟨x, 1, none⟩ = some (.int .i64 (room : Nat))) (first | go_keep)
          (first
          | (go_at_call 17; refine (Num.room_any (w := wr.drew) hL).mono ?_; rintro e w9 ⟨rfl, rfl⟩)
          | (go_at_call 18; refine (known_any _).mono ?_; rintro e w8 ⟨rfl, hb8⟩; obtain ⟨d8, e8, -, -⟩ := (hX.below (((Below.refl _ wr).drew).trans hb8)).top))
        go_wp2_with fail
        go_ret
        exact ⟨rfl, hb.trans ((((Below.refl _ wr).drew).trans hb8).mono hs)⟩
      · clear hlt
        go_wp2_with fail
        go_region_held3 (fun w' => w'.cell? ⟨x, 1, none⟩ = some (.int .i64 (room : Nat))) (first | go_keep)
          (first
          | (go_at_call 17; refine (Num.room_any (w := wr.drew) hL).mono ?_; rintro e w9 ⟨rfl, rfl⟩)
          | (go_at_call 18; refine (known_any _).mono ?_; rintro e w8 ⟨rfl, hb8⟩; obtain ⟨d8, e8, -, -⟩ := (hX.below (((Below.refl _ wr).drew).trans hb8)).top))
        go_wp2_with fail
        go_ret
        exact ⟨rfl, hb.trans ((((Below.refl _ wr).drew).trans hb8).mono hs)⟩

set_option maxRecDepth 100000 in
theorem lifted (os : Os) (started : os.Started) (H : Type) (enc : TypeId × Value → H) :
    ReturnsInHanded {} Try.checked os 3 .any (Rows.ringPlaysSpec.pre6 enc Try.prog Try.f3 Rows.ringPlaysRow.domain false) (Rows.ringPlaysSpec.post enc Try.prog Try.f3 false true false false) := by
  refine returnsInHanded_of_change_sized (C := Try.checked) own started (by kernel_rfl) Try.func3
    (ChangeSpec.witness6 (enc := enc) (C := Try.checked) false ⟨#[], #[.int .i64 0, .slice none 0 0], []⟩ 8 (by kernel_rfl) (by kernel_rfl) (by kernel_rfl) (by kernel_rfl)) ?_
  intro W base args ds gs before hval0 hW hcnd hsz0 _
  have hval : ∀ (j : Nat) t v, Try.f3.params[j]? = some t → args[j]? = some v → Value.okWide Try.prog W .any base t v := hval0
  have hsz : (DataW.weightsEach Try.prog (Try.f3.params.toList ++ Rows.ringPlaysSpec.plain.varTypes Try.prog) (ds ++ gs)).all (· ≤ reachBytes) = true := hsz0
  have hW' := hW
  obtain ⟨p, q, hA0, hV, rfl, hfz, hnd⟩ := hW
  have hA : DataW.TrodAll enc Try.prog W 0 (fun _ => true) true Try.f3.params.toList args.toList ds p := hA0
  rw [Try.params3] at hA hval hsz
  obtain ⟨v0, vs0, d0, ds0, p0, q0, hargs, rfl, rfl, h0, s0⟩ := trodAll_cons hA
  obtain ⟨v1, vs1, d1, ds1, p1, q1, rfl, rfl, rfl, h1, s1⟩ := trodAll_cons s0
  obtain ⟨rfl, rfl, rfl⟩ := trodAll_nil s1
  obtain rfl : args = #[v0, v1] := by cases args; simp_all
  obtain ⟨rfl, rfl⟩ := trodVars_none hV
  obtain ⟨a0, rfl, rfl, rfl, w0⟩ := open_int Try.underlying3 (hval 0 3 v0 rfl rfl) h0
  obtain ⟨a1, len1, cap1, rfl⟩ := okWide_slice Try.underlying22 (hval 1 22 v1 rfl rfl)
  have k1 := h1
  have lt1 : ∀ x ∈ p1, x.block < W.heap.size := by obtain ⟨m, hm⟩ := k1; exact DataW.trod_lt m _ _ _ hm
  obtain ⟨z1, e1, m1, r1, x1⟩ := open_nums h1
  clear hA0 hval0 hsz0
  refine (walk W a0 w0 a1 len1 cap1 z1 e1 m1 r1 x1).mono fun e W' ⟨he, bel⟩ => ?_
  subst he
  exact ⟨_, rfl, _, _, _, [], _, [], hW', trodAll_mk1 (shut_bool Try.underlying4 _), (trodAll_cons_mk (shut_int Try.underlying3 w0) (trodAll_cons_mk (Below.trod laidOut (by kernel_rfl) (of_decide_eq_true (by kernel_rfl)) k1 bel lt1) trodAll_mk0)), rfl, bel.frame _, fun h => by cases h⟩

theorem over : Rows.ringPlaysRow.holds Try.pinned (OpenSpec.ofChange Rows.ringPlaysSpec) :=
  OpenClaim.holds_of_wide 3 Try.f3 rfl rfl rfl rfl rfl rfl rfl ⟨rfl, rfl, rfl, rfl, rfl⟩ rfl rfl rfl rfl rfl (by kernel_rfl) Try.func3 (by kernel_rfl)
    (of_decide_eq_true (by kernel_rfl)) (by unfold Func.isWrapper; first | (rw [if_pos (by decide +kernel)]; kernel_rfl) | (rw [if_neg (by decide +kernel)]; exact ⟨rfl, rfl⟩))
    (fun os started H enc _ => lifted os started H enc)

end Go.Proofs.Ytpjeehdgdhbhdaa.ringPlays
namespace Go.Proofs.Ytpjeehdgdhbhdaa
/-- the given statement -/
theorem ringPlays_holds : Rows.RingPlaysSaid := ringPlays.over
#print axioms ringPlays_holds
end Go.Proofs.Ytpjeehdgdhbhdaa
