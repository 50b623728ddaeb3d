/- A key that was added is there till all is cleared; then nothing is: the law returns true for every room and all texts, and its arguments read as they did. -/
import Derived.Test.YtmhmphbicdaobaaRows
import Derived.Test.YtmhmphbicdaobaaArgs
import Derived.WalkKit
import Derived.ProofKit
import Derived.OpenShut
import Derived.ShutString
import Derived.ChangeOld
import Derived.Below
import Derived.Carry
import Derived.SizedLaws
namespace Go.Proofs.Ytmhmphbicdaobaa.doorKeeps
open Go.ChangeShapes Go.WideShapes Go.ChangeAt Go.RowKit
open Go.ChangeMaps (open_string shut_string)
set_option linter.unusedVariables false

theorem own : ownKnob Try.prog.godebug = none := by kernel_rfl
theorem laidOut : laidOutB Try.prog = true := by kernel_rfl
/-- the first k texts are there -/
def There (b : Nat → Bool) (M : Nat) (zs : List ByteArray) (k : Nat) : Prop := ∀ j z, j < k → zs[j]? = some z → has b M z = true
theorem There.more {b : Nat → Bool} {M : Nat} {zs : List ByteArray} {k : Nat} {z : ByteArray} (h : There b M zs k) (hz : zs[k]? = some z) : There (add b M z 3) M zs (k + 1) := by
  intro j y hj hy
  rcases Nat.lt_or_ge j k with c | c
  · exact has_up (h j y c hy)
  · rw [show j = k by omega, hz] at hy
    cases hy
    exact has_add b M z

set_option maxRecDepth 20000 in
set_option maxHeartbeats 4000000 in
theorem walk (w : World) (a0 : Int) (w0 : (Lit.int .i64 a0).wf = true) (a1 : Option Addr) (len1 cap1 : Nat) (z1 : List ByteArray) (e1 : z1.length = len1) (m1 : len1 ≤ maxLen) (r1 : RowIn Value.string w a1 z1) (x1 : ∀ z ∈ z1, z.size ≤ 140737488351232) :
    Calls Try.prog 4 #[.int .i64 a0, .slice a1 len1 cap1] w fun e w' => e = .returned (.bool true) ∧ Below w.heap.size w w' := by
  obtain ⟨b0, b1⟩ := bounds_i64 w0
  have hv := heavy_any (cap := cap1) r1 (by omega) x1
  subst e1
  have hm : z1.length ≤ 9223372036854775807 := by unfold maxLen at m1; omega
  have R1 : Hid (RowIn Value.string w a1 z1) := r1
  clear r1 x1 m1 w0
  by_cases h300 : z1.length ≤ 300
  · have hgI : decide ((300 : Int) < (z1.length : Int)) = false := by simp; omega
    go_enter Try.func4, Try.ntmps4
    go_wp2_with (first
      | (go_at_call 7; refine hv.mono ?_; rintro e w0 ⟨⟨hb, rfl, hli⟩, rfl⟩; have HLI : Hid (hb = false → Light z1 300) := hli; clear hv hli; cases hb)
      | (go_at_call 8; refine (new_any (w := w0) (D := (w0.heap.size ≤ ·)) a0 b0 b1 (fun k h => h)).mono ?_; rintro e w1 ⟨p, rfl, H1, hk1⟩))
    rotate_left
    · go_ret
      exact ⟨rfl, Below.refl _ _⟩
    have HL : Hid (Light z1 300) := HLI.out trivial
    have hb1 := hk1.below (B := w0.heap.size) (Nat.le_refl _) (fun k h => h)
    clear HLI hk1
    generalize nw a0 = K at H1
    go_loopw [6] (fun i wr => ∃ (k : Nat) (b : Nat → Bool), k ≤ z1.length ∧ i = .int .i64 k ∧ DR p K b (w0.heap.size ≤ ·) wr ∧ Below w0.heap.size w0 wr ∧ There b (64 * K) z1 k) (fun i _ => z1.length - (intOf i).toNat)
    case atStart => exact ⟨0, _, Nat.zero_le _, rfl, H1, hb1, fun j z hj => by omega⟩
    case round =>
      clear H1 hb1
      obtain ⟨k, b, hk, rfl, H, hb, hth⟩ := hrel
      have HT : Hid (There b (64 * K) z1 k) := hth
      clear hth
      have hs := hb.size
      rcases Nat.lt_or_ge k z1.length with hlt | hge
      · obtain ⟨z, hz⟩ : ∃ z, z1[k]? = some z := ⟨_, List.getElem?_eq_getElem hlt⟩
        obtain ⟨g, off, ea, c0⟩ := (R1.out.later hb).at hz
        subst ea
        have hzs := HL.out k z (by omega) hz
        have HT2 : Hid (There (add b (64 * K) z 3) (64 * K) z1 (k + 1)) := HT.out.more hz
        clear hz
        go_wp2_with (go_at_call 12; refine (add_any H z (by omega)).mono ?_; rintro e w2 ⟨rfl, H2, hk2⟩)
        have hb2 : Below w0.heap.size w0 w2 := hb.trans (hk2.below hs (fun j h => h))
        generalize has b (64 * K) z = was
        generalize add b (64 * K) z 3 = b' at H2 HT2
        clear H hb hk2 hs HT c0
        go_loopw [7] (fun i wr => ∃ m : Nat, m ≤ k + 7 ∧ i = .int .i64 m ∧ DR p K b' (w0.heap.size ≤ ·) wr ∧ Below w0.heap.size w0 wr) (fun i _ => k + 7 - (intOf i).toNat)
        case atStart => exact ⟨0, Nat.zero_le _, rfl, H2, hb2⟩
        case round =>
          clear H2 hb2
          obtain ⟨m, hm7, rfl, H, hb⟩ := hrel
          have hs := hb.size
          rcases Nat.lt_or_ge k m with hgt | hle
          · have hnI : ¬ ((m : Int) ≤ (k : Int)) := by omega
            go_wp2_with fail
            go_roundw
            case rel => exact ⟨k + 1, b', hlt, by go_num, H, hb, HT2.out⟩
            case measure => simp [intOf]; omega
          · have hlI : (m : Int) ≤ (k : Int) := by omega
            have l1 : m < z1.length := by omega
            have l1I : (m : Int) < (z1.length : Int) := by omega
            obtain ⟨y, hy⟩ : ∃ y, z1[m]? = some y := ⟨_, List.getElem?_eq_getElem l1⟩
            obtain ⟨g', off', ea, c0⟩ := (R1.out.later hb).at hy
            cases ea
            have hys := HL.out m y (by omega) hy
            have hth := HT2.out m y (by omega) hy
            have hhas := has_any H y (by omega)
            rw [hth] at hhas
            clear hy hth
            go_wp2_with (go_at_call 14; refine hhas.mono ?_; rintro e w3 ⟨rfl, hb3⟩; have H3 := H.below hb3; clear hhas)
            go_roundw
            case rel => exact ⟨m + 7, by omega, by go_num, H3, hb.trans (hb3.mono hs)⟩
            case measure => simp [intOf]; omega
      · have hk' : k = z1.length := by omega
        subst hk'
        clear hge hk HT
        go_wp2_with (go_at_call 10; refine (clear_any H).mono ?_; rintro e w2 ⟨rfl, H2, hk2⟩)
        have hb2 : Below w0.heap.size w0 w2 := hb.trans (hk2.below hs (fun j h => h))
        clear H hb hk2 hs
        go_loopw [8] (fun i wr => ∃ m : Nat, m ≤ z1.length ∧ i = .int .i64 m ∧ DR p K (fun _ => false) (w0.heap.size ≤ ·) wr ∧ Below w0.heap.size w0 wr) (fun i _ => z1.length - (intOf i).toNat)
        case atStart => exact ⟨0, Nat.zero_le _, rfl, H2, hb2⟩
        case round =>
          clear H2 hb2
          obtain ⟨m, hm7, rfl, H, hb⟩ := hrel
          have hs := hb.size
          rcases Nat.lt_or_ge m z1.length with hlt | hge
          · obtain ⟨y, hy⟩ : ∃ y, z1[m]? = some y := ⟨_, List.getElem?_eq_getElem hlt⟩
            obtain ⟨g', off', ea, c0⟩ := (R1.out.later hb).at hy
            subst ea
            have hys := HL.out m y (by omega) hy
            have hhas := has_any H y (by omega)
            rw [has_none] at hhas
            clear hy
            go_wp2_with (go_at_call 14; refine hhas.mono ?_; rintro e w3 ⟨rfl, hb3⟩; have H3 := H.below hb3; clear hhas)
            go_roundw
            case rel => exact ⟨m + 1, hlt, by go_num, H3, hb.trans (hb3.mono hs)⟩
            case measure => simp [intOf]; omega
          · have hm' : m = z1.length := by omega
            subst hm'
            clear hge hm7
            have hones := ones_in H
            rw [cnt_none] at hones
            go_wp2_with (first
              | (go_at_call 16; refine hones.mono ?_; rintro e w3 ⟨rfl, rfl⟩)
              | (go_at_call 18; refine (known_any _).mono ?_; rintro e w4 ⟨rfl, hb4⟩))
            go_ret
            exact ⟨rfl, hb.trans (hb4.mono hs)⟩
  · go_enter Try.func4, Try.ntmps4
    go_wp2_with (go_at_call 7; refine hv.mono ?_; rintro e w0 ⟨⟨hb, rfl, hli⟩, rfl⟩; clear hv hli; cases hb)
    all_goals
      go_ret
      exact ⟨rfl, Below.refl _ _⟩

set_option maxRecDepth 100000 in
theorem lifted (os : Os) (started : os.Started) (H : Type) (enc : TypeId × Value → H) :
    ReturnsInHanded {} Try.checked os 4 .any (Rows.doorKeepsSpec.pre6 enc Try.prog Try.f4 Rows.doorKeepsRow.domain false) (Rows.doorKeepsSpec.post enc Try.prog Try.f4 false true false false) := by
  refine returnsInHanded_of_change_sized (C := Try.checked) own started (by kernel_rfl) Try.func4
    (ChangeSpec.witness6 (enc := enc) (C := Try.checked) false ⟨#[], #[.int .i64 0, .slice none 0 0], []⟩ 8 (by kernel_rfl) (by kernel_rfl) (by kernel_rfl) (by kernel_rfl)) ?_
  intro W base args ds gs before hval0 hW hcnd hsz0 _
  have hval : ∀ (j : Nat) t v, Try.f4.params[j]? = some t → args[j]? = some v → Value.okWide Try.prog W .any base t v := hval0
  have hsz : (DataW.weightsEach Try.prog (Try.f4.params.toList ++ Rows.doorKeepsSpec.plain.varTypes Try.prog) (ds ++ gs)).all (· ≤ reachBytes) = true := hsz0
  have hW' := hW
  obtain ⟨p, q, hA0, hV, rfl, hfz, hnd⟩ := hW
  have hA : DataW.TrodAll enc Try.prog W 0 (fun _ => true) true Try.f4.params.toList args.toList ds p := hA0
  rw [Try.params4] at hA hval hsz
  obtain ⟨v0, vs0, d0, ds0, p0, q0, hargs, rfl, rfl, h0, s0⟩ := trodAll_cons hA
  obtain ⟨v1, vs1, d1, ds1, p1, q1, rfl, rfl, rfl, h1, s1⟩ := trodAll_cons s0
  obtain ⟨rfl, rfl, rfl⟩ := trodAll_nil s1
  obtain rfl : args = #[v0, v1] := by cases args; simp_all
  obtain ⟨rfl, rfl⟩ := trodVars_none hV
  obtain ⟨a0, rfl, rfl, rfl, w0⟩ := open_int Try.underlying3 (hval 0 3 v0 rfl rfl) h0
  obtain ⟨a1, len1, cap1, rfl⟩ := okWide_slice Try.underlying22 (hval 1 22 v1 rfl rfl)
  have k1 := h1
  have lt1 : ∀ x ∈ p1, x.block < W.heap.size := by obtain ⟨m, hm⟩ := k1; exact DataW.trod_lt m _ _ _ hm
  obtain ⟨z1, e1, m1, r1, x1⟩ := open_texts h1
  replace x1 : ∀ z ∈ z1, z.size ≤ 140737488351232 := fun z hz => reach_first (reach_tail hsz) (x1 z hz)
  clear hA0 hval0 hsz0
  refine (walk W a0 w0 a1 len1 cap1 z1 e1 m1 r1 x1).mono fun e W' ⟨he, bel⟩ => ?_
  subst he
  exact ⟨_, rfl, _, _, _, [], _, [], hW', trodAll_mk1 (shut_bool Try.underlying4 _), (trodAll_cons_mk (shut_int Try.underlying3 w0) (trodAll_cons_mk (Below.trod laidOut (by kernel_rfl) (of_decide_eq_true (by kernel_rfl)) k1 bel lt1) trodAll_mk0)), rfl, bel.frame _, fun h => by cases h⟩

theorem over : Rows.doorKeepsRow.holds Try.pinned (OpenSpec.ofChange Rows.doorKeepsSpec) :=
  OpenClaim.holds_of_wide 4 Try.f4 rfl rfl rfl rfl rfl rfl rfl ⟨rfl, rfl, rfl, rfl, rfl⟩ rfl rfl rfl rfl rfl (by kernel_rfl) Try.func4 (by kernel_rfl)
    (of_decide_eq_true (by kernel_rfl)) (by unfold Func.isWrapper; first | (rw [if_pos (by decide +kernel)]; kernel_rfl) | (rw [if_neg (by decide +kernel)]; exact ⟨rfl, rfl⟩))
    (fun os started H enc _ => lifted os started H enc)

end Go.Proofs.Ytmhmphbicdaobaa.doorKeeps
namespace Go.Proofs.Ytmhmphbicdaobaa
/-- the given statement -/
theorem doorKeeps_holds : Rows.DoorKeepsSaid := doorKeeps.over
#print axioms doorKeeps_holds
end Go.Proofs.Ytmhmphbicdaobaa
