/- In what order keys come does not matter for who is there: the law returns true for every room, all texts and every key, and its arguments read as they did. -/
import Derived.Test.YtmhmphbicdaobaaRows
import Derived.Test.YtmhmphbicdaobaaTwo
import Derived.WalkKit
import Derived.ProofKit
import Derived.OpenShut
import Derived.ShutString
import Derived.ChangeOld
import Derived.Below
import Derived.Carry
import Derived.SizedLaws
namespace Go.Proofs.Ytmhmphbicdaobaa.doorTurns
open Go.ChangeShapes Go.WideShapes Go.ChangeAt Go.RowKit
open Go.ChangeMaps (open_string shut_string)
set_option linter.unusedVariables false

theorem own : ownKnob Try.prog.godebug = none := by kernel_rfl
theorem laidOut : laidOutB Try.prog = true := by kernel_rfl
theorem take_more {zs : List ByteArray} {k : Nat} {z : ByteArray} (M : Nat) (hz : zs[k]? = some z) : add (bof M (zs.take k)) M z 3 = bof M (zs.take (k + 1)) := by
  rw [bof_snoc, List.take_add_one, hz]
  rfl
theorem drop_more {zs : List ByteArray} {k : Nat} {z : ByteArray} (M : Nat) (hz : zs[k]? = some z) : add (bof M (zs.drop (k + 1))) M z 3 = bof M (zs.drop k) := by
  obtain ⟨h, e⟩ := List.getElem?_eq_some_iff.1 hz
  rw [bof_cons, List.drop_eq_getElem_cons h, e]
theorem drop_all (M : Nat) (zs : List ByteArray) : bof M (zs.drop (zs.length - 0)) = fun _ => false := by
  rw [Nat.sub_zero, List.drop_length]
  rfl

set_option maxRecDepth 20000 in
set_option maxHeartbeats 4000000 in
theorem walk (w : World) (a0 : Int) (w0 : (Lit.int .i64 a0).wf = true) (a1 : Option Addr) (len1 cap1 : Nat) (z1 : List ByteArray) (e1 : z1.length = len1) (m1 : len1 ≤ maxLen) (r1 : RowIn Value.string w a1 z1) (x1 : ∀ z ∈ z1, z.size ≤ 140737488351232) (a2 : ByteArray) (w2 : a2.size ≤ maxLen) :
    Calls Try.prog 6 #[.int .i64 a0, .slice a1 len1 cap1, .string a2] w fun e w' => e = .returned (.bool true) ∧ Below w.heap.size w w' := by
  obtain ⟨b0, b1⟩ := bounds_i64 w0
  have hv := heavy_any (cap := cap1) r1 (by omega) x1
  subst e1
  have hm : z1.length ≤ 9223372036854775807 := by unfold maxLen at m1; omega
  have hk9 : a2.size ≤ 9223372036854775807 := by unfold maxLen at w2; omega
  have R1 : Hid (RowIn Value.string w a1 z1) := r1
  clear r1 x1 m1 w0 w2
  by_cases h60 : a2.size ≤ 60
  · by_cases h300 : z1.length ≤ 300
    · have hgI : decide ((300 : Int) < (z1.length : Int)) = false := by simp; omega
      have hgJ : decide ((60 : Int) < (a2.size : Int)) = false := by simp; omega
      go_enter Try.func6, Try.ntmps6
      go_wp2_with (first
        | (go_at_call 7; refine hv.mono ?_; rintro e w0 ⟨⟨hb, rfl, hli⟩, rfl⟩; have HLI : Hid (hb = false → Light z1 300) := hli; clear hv hli; cases hb)
        | (go_at_call 8; refine (new_any (w := w0) (D := (w0.heap.size ≤ ·)) a0 b0 b1 (fun k h => h)).mono ?_; rintro e w1 ⟨p, rfl, H1, hk1⟩; obtain ⟨WA, hWA⟩ : ∃ W, W = w0 := ⟨_, rfl⟩)
        | (clear hWA; go_at_call 8; refine (new_any (w := w1) (D := (w1.heap.size ≤ ·)) a0 b0 b1 (fun k h => h)).mono ?_; rintro e w2 ⟨x, rfl, H2, hk2⟩))
      rotate_left
      · go_ret
        exact ⟨rfl, Below.refl _ _⟩
      have HL : Hid (Light z1 300) := HLI.out trivial
      have hs1 := hk1.size
      have HA0 := two_start (DR.lies _ _ _) (DR.lies _ _ _) H1 hs1 H2 hk2
      have hb0 : Below w0.heap.size w0 w2 := (hk1.below (Nat.le_refl _) (fun k h => h)).trans (hk2.below hs1 (fun k h => Nat.le_trans hs1 h))
      clear HLI hk1 hk2 H1 H2 hs1
      generalize nw a0 = K at HA0
      have HS0 : Hid (∀ D W, DR p K (fun _ => false) D W → 1 ≤ K ∧ K ≤ 128) := fun D W h => h.size
      have hKK : 1 ≤ K ∧ K ≤ 128 := by obtain ⟨D, h⟩ := HA0.left; exact h.size
      clear HS0
      go_loopw [9] (fun i wr => ∃ k : Nat, k ≤ z1.length ∧ i = .int .i64 k ∧ Two (DR p K (bof (64 * K) (z1.take k))) (DR x K (bof (64 * K) (z1.drop (z1.length - k)))) (fun j => j < w0.heap.size) wr ∧ Below w0.heap.size w0 wr ∧ cnt (bof (64 * K) (z1.take k)) (64 * K) ≤ 3 * k) (fun i _ => z1.length - (intOf i).toNat)
      case atStart => exact ⟨0, Nat.zero_le _, rfl, by rw [drop_all]; exact HA0, hb0, by rw [List.take_zero, bof_nil, cnt_none]; omega⟩
      case round =>
        clear HA0 hb0
        obtain ⟨k, hk, rfl, HA, hb, hcn⟩ := hrel
        have hs := hb.size
        rcases Nat.lt_or_ge k z1.length with hlt | hge
        · obtain ⟨z, hz⟩ : ∃ z, z1[k]? = some z := ⟨_, List.getElem?_eq_getElem hlt⟩
          obtain ⟨j, hj⟩ : ∃ j, z1.length - 1 - k = j := ⟨_, rfl⟩
          obtain ⟨y, hy⟩ : ∃ y, z1[j]? = some y := ⟨_, List.getElem?_eq_getElem (by omega)⟩
          obtain ⟨g, off, ea, c0⟩ := (R1.out.later hb).at hz
          subst ea
          have hzs := HL.out k z (by omega) hz
          have hys := HL.out j y (by omega) hy
          have HR : Hid (∀ w', Below w0.heap.size w0 w' → w'.cell? ⟨g, off + j, none⟩ = some (.string y)) := fun w' hb' => by
            obtain ⟨g', off', e', h'⟩ := (R1.out.later hb').at hy
            cases e'
            exact h'
          have ea := take_more (64 * K) hz
          have eb := drop_more (64 * K) hy
          have hc3 := cnt_add3 (bof (64 * K) (z1.take k)) (64 * K) z (64 * K)
          rw [ea] at hc3
          have HCN : Hid (cnt (bof (64 * K) (z1.take (k + 1))) (64 * K) ≤ 3 * (k + 1)) := by
            have : cnt (bof (64 * K) (z1.take (k + 1))) (64 * K) ≤ 3 * (k + 1) := by omega
            exact this
          rw [show j + 1 = z1.length - k by omega, show j = z1.length - (k + 1) by omega] at eb
          have hA := fun {W : World} (h : Two (DR p K (bof (64 * K) (z1.take k))) (DR x K (bof (64 * K) (z1.drop (z1.length - k)))) (fun j => j < w0.heap.size) W) => two_add_a h z (by omega)
          rw [ea] at hA
          have hB := fun {W : World} (h : Two (DR p K (bof (64 * K) (z1.take (k + 1)))) (DR x K (bof (64 * K) (z1.drop (z1.length - k)))) (fun j => j < w0.heap.size) W) => two_add_b h y (by omega)
          rw [eb] at hB
          clear ea eb hc3 hcn hz hy
          have hjI : (z1.length : Int) - 1 - (k : Int) = (j : Int) := by omega
          have jlt : (j : Int) < (z1.length : Int) := by omega
          have jl : j < z1.length := by omega
          have HJ : Hid (z1.length - 1 - k = j) := hj
          clear hj
          generalize has (bof (64 * K) (z1.take k)) (64 * K) z = t1 at hA
          generalize has (bof (64 * K) (z1.drop (z1.length - k))) (64 * K) y = t2 at hB
          go_wp2_with (first
            | (go_at_call 12; refine (hA HA).mono ?_; rintro e w3 ⟨rfl, HA3, hk3⟩; have hb3 := hb.trans (hk3.old hs); have hs3 := hb3.size; have c3 := HR.out _ hb3; clear HA hk3 c0 hb hs hA)
            | (go_at_call 12; refine (hB HA3).mono ?_; rintro e w4 ⟨rfl, HA4, hk4⟩; have hb4 := hb3.trans (hk4.old hs3); clear HA3 hk4 c3 hb3 hs3 hB))
          go_roundw
          case rel => exact ⟨k + 1, hlt, by go_num, HA4, hb4, HCN.out⟩
          case measure => simp [intOf]; omega
        · have hk' : k = z1.length := by omega
          subst hk'
          clear hge hk
          rw [Nat.sub_self, List.drop_zero, List.take_length] at HA
          rw [List.take_length] at hcn
          obtain ⟨DL, hL⟩ := HA.left
          obtain ⟨DX, hX⟩ := HA.right
          have c8 := cnt_le (bof (64 * K) z1) (64 * K)
          have hHA := has_any hL a2 (by omega)
          have hHB := fun {W : World} (hbW : Below wr.heap.size wr W) => has_any (hX.below hbW) a2 (by omega)
          have hOA := fun {W : World} (hbW : Below wr.heap.size wr W) => ones_in (hL.below hbW)
          have hOC := fun {W : World} (hbW : Below wr.heap.size wr W) => ones_in (hL.below hbW)
          have hOB := fun {W : World} (hbW : Below wr.heap.size wr W) => ones_in (hX.below hbW)
          generalize has (bof (64 * K) z1) (64 * K) a2 = t at hHA hHB
          generalize cnt (bof (64 * K) z1) (64 * K) = n at *
          have hnI : decide ((n : Int) ≤ 3 * (z1.length : Int)) = true := by simp; omega
          have hwI : IntKind.i64.wrap (3 * (z1.length : Int)) = 3 * (z1.length : Int) := by rw [IntKind.wrap_i64]; omega
          have htt : (t == t) = true := by simp
          clear HA hL hX hcn c8
          go_wp2_with (first
            | (go_at_call 14; refine hHA.mono ?_; rintro e w3 ⟨rfl, hb3⟩; have hs3 := hb3.size; clear hHA)
            | (go_at_call 14; refine (hHB hb3).mono ?_; rintro e w4 ⟨rfl, hb4⟩; have hb4' := hb3.trans (hb4.mono hs3); have hs4 := hb4'.size; clear hHB hb3 hb4)
            | (go_at_call 16; refine (hOA hb4').mono ?_; rintro e w5 ⟨rfl, rfl⟩; clear hOA)
            | (go_at_call 16; refine (hOB hb4').mono ?_; rintro e w6 ⟨rfl, rfl⟩; clear hOB)
            | (go_at_call 16; refine (hOC hb4').mono ?_; rintro e w7 ⟨rfl, rfl⟩; clear hOC)
            | (go_at_call 18; refine (known_any _).mono ?_; rintro e w8 ⟨rfl, hb7⟩))
          go_ret
          exact ⟨rfl, hb.trans ((hb4'.mono hs).trans (hb7.mono (by omega)))⟩
    · go_enter Try.func6, Try.ntmps6
      go_wp2_with (go_at_call 7; refine hv.mono ?_; rintro e w0 ⟨⟨hb, rfl, hli⟩, rfl⟩; clear hv hli; cases hb)
      all_goals
        go_ret
        exact ⟨rfl, Below.refl _ _⟩
  · go_enter Try.func6, Try.ntmps6
    go_wp2_with (go_at_call 7; refine hv.mono ?_; rintro e w0 ⟨⟨hb, rfl, hli⟩, rfl⟩; clear hv hli; cases hb)
    all_goals
      go_ret
      exact ⟨rfl, Below.refl _ _⟩

set_option maxRecDepth 100000 in
theorem lifted (os : Os) (started : os.Started) (H : Type) (enc : TypeId × Value → H) :
    ReturnsInHanded {} Try.checked os 6 .any (Rows.doorTurnsSpec.pre6 enc Try.prog Try.f6 Rows.doorTurnsRow.domain false) (Rows.doorTurnsSpec.post enc Try.prog Try.f6 false true false false) := by
  refine returnsInHanded_of_change_sized (C := Try.checked) own started (by kernel_rfl) Try.func6
    (ChangeSpec.witness6 (enc := enc) (C := Try.checked) false ⟨#[], #[.int .i64 0, .slice none 0 0, .string ByteArray.empty], []⟩ 8 (by kernel_rfl) (by kernel_rfl) (by kernel_rfl) (by kernel_rfl)) ?_
  intro W base args ds gs before hval0 hW hcnd hsz0 _
  have hval : ∀ (j : Nat) t v, Try.f6.params[j]? = some t → args[j]? = some v → Value.okWide Try.prog W .any base t v := hval0
  have hsz : (DataW.weightsEach Try.prog (Try.f6.params.toList ++ Rows.doorTurnsSpec.plain.varTypes Try.prog) (ds ++ gs)).all (· ≤ reachBytes) = true := hsz0
  have hW' := hW
  obtain ⟨p, q, hA0, hV, rfl, hfz, hnd⟩ := hW
  have hA : DataW.TrodAll enc Try.prog W 0 (fun _ => true) true Try.f6.params.toList args.toList ds p := hA0
  rw [Try.params6] at hA hval hsz
  obtain ⟨v0, vs0, d0, ds0, p0, q0, hargs, rfl, rfl, h0, s0⟩ := trodAll_cons hA
  obtain ⟨v1, vs1, d1, ds1, p1, q1, rfl, rfl, rfl, h1, s1⟩ := trodAll_cons s0
  obtain ⟨v2, vs2, d2, ds2, p2, q2, rfl, rfl, rfl, h2, s2⟩ := trodAll_cons s1
  obtain ⟨rfl, rfl, rfl⟩ := trodAll_nil s2
  obtain rfl : args = #[v0, v1, v2] := by cases args; simp_all
  obtain ⟨rfl, rfl⟩ := trodVars_none hV
  obtain ⟨a0, rfl, rfl, rfl, w0⟩ := open_int Try.underlying3 (hval 0 3 v0 rfl rfl) h0
  obtain ⟨a1, len1, cap1, rfl⟩ := okWide_slice Try.underlying22 (hval 1 22 v1 rfl rfl)
  have k1 := h1
  have lt1 : ∀ x ∈ p1, x.block < W.heap.size := by obtain ⟨m, hm⟩ := k1; exact DataW.trod_lt m _ _ _ hm
  obtain ⟨z1, e1, m1, r1, x1⟩ := open_texts h1
  replace x1 : ∀ z ∈ z1, z.size ≤ 140737488351232 := fun z hz => reach_first (reach_tail hsz) (x1 z hz)
  obtain ⟨a2, rfl, rfl, rfl, w2⟩ := open_string Try.underlying9 (hval 2 9 v2 rfl rfl) h2
  clear hA0 hval0 hsz0
  refine (walk W a0 w0 a1 len1 cap1 z1 e1 m1 r1 x1 a2 w2).mono fun e W' ⟨he, bel⟩ => ?_
  subst he
  exact ⟨_, rfl, _, _, _, [], _, [], hW', trodAll_mk1 (shut_bool Try.underlying4 _), (trodAll_cons_mk (shut_int Try.underlying3 w0) (trodAll_cons_mk (Below.trod laidOut (by kernel_rfl) (of_decide_eq_true (by kernel_rfl)) k1 bel lt1) (trodAll_cons_mk (shut_string Try.underlying9 w2) trodAll_mk0))), rfl, bel.frame _, fun h => by cases h⟩

theorem over : Rows.doorTurnsRow.holds Try.pinned (OpenSpec.ofChange Rows.doorTurnsSpec) :=
  OpenClaim.holds_of_wide 6 Try.f6 rfl rfl rfl rfl rfl rfl rfl ⟨rfl, rfl, rfl, rfl, rfl⟩ rfl rfl rfl rfl rfl (by kernel_rfl) Try.func6 (by kernel_rfl)
    (of_decide_eq_true (by kernel_rfl)) (by unfold Func.isWrapper; first | (rw [if_pos (by decide +kernel)]; kernel_rfl) | (rw [if_neg (by decide +kernel)]; exact ⟨rfl, rfl⟩))
    (fun os started H enc _ => lifted os started H enc)

end Go.Proofs.Ytmhmphbicdaobaa.doorTurns
namespace Go.Proofs.Ytmhmphbicdaobaa
/-- the given statement -/
theorem doorTurns_holds : Rows.DoorTurnsSaid := doorTurns.over
#print axioms doorTurns_holds
end Go.Proofs.Ytmhmphbicdaobaa
