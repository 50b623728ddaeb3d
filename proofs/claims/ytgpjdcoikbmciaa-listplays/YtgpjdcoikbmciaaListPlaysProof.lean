/- Of every script each answer, each handle, and all values: the law returns true for every row of acts, and its argument reads as it did. -/
import Derived.Test.YtgpjdcoikbmciaaRows
import Derived.Test.YtgpjdcoikbmciaaActAll
import Derived.WalkKit
import Derived.ProofKit
import Derived.OpenShut
import Derived.ShutString
import Derived.ChangeOld
import Derived.Below
import Derived.Carry
import Derived.SizedLaws
namespace Go.Proofs.Ytgpjdcoikbmciaa.listPlays
open Go.ChangeShapes Go.WideShapes Go.ChangeAt Go.RowKit
open Go.ChangeMaps (open_string shut_string)
set_option linter.unusedVariables false

theorem own : ownKnob Try.prog.godebug = none := by kernel_rfl
theorem laidOut : laidOutB Try.prog = true := by kernel_rfl

set_option maxRecDepth 20000 in
set_option maxHeartbeats 8000000 in
theorem walk (w : World) (a0 : Option Addr) (len0 cap0 : Nat) (z0 : List Deed) (e0 : z0.length = len0) (m0 : len0 ≤ maxLen) (r0 : DeedsIn w a0 z0) (x0 : ∀ z ∈ z0, (Lit.int .i64 z.kind).wf = true ∧ (Lit.int .i64 z.h).wf = true ∧ z.s.size ≤ maxLen) :
    Calls Try.prog 3 #[.slice a0 len0 cap0] w fun e w' => e = .returned (.bool true) ∧ Below w.heap.size w w' := by
  subst e0
  have hm : z0.length ≤ 9223372036854775807 := by unfold maxLen at m0; omega
  have hh := heavy_any (cap := cap0) r0 m0 (fun z hz => (x0 z hz).2.2)
  have R0 : Hid _ := r0
  clear r0 x0 m0
  go_enter Try.func3, Try.ntmps3
  go_wp2_with (first
    | (go_at_call 9; refine hh.mono ?_; rintro e w1 ⟨⟨b, rfl⟩, rfl⟩; clear hh; cases b)
    | (go_at_call 10; refine (make_any w1 (w1.heap.size ≤ ·) (Nat.le_refl _)).mono ?_; rintro e w2 ⟨p, rfl, H1, hb1⟩))
  · have HA0 := alike_start H1 hb1.size
    have hbw : Below w1.heap.size w1 (w2.alloc (.cells #[.slice none 0 0, .slice none 0 0, .int .i64 0] 30)) := (hb1.alloc _).below (Nat.le_refl _) (fun k h => h)
    generalize w2.alloc (.cells #[.slice none 0 0, .slice none 0 0, .int .i64 0] 30) = w3 at HA0 hbw ⊢
    generalize w2.heap.size = x at HA0 ⊢
    clear H1 hb1
    go_loopw [5] (fun i wr => ∃ (k : Nat) (row free : List Nat) (va : Nat → ByteArray) (n : Nat), k ≤ z0.length ∧ k ≤ 150 ∧ i = .int .i64 k ∧ n ≤ k ∧ Alike (fun j => j < w1.heap.size) wr p x row free va n ∧ Below w1.heap.size w1 wr) (fun i _ => z0.length - (intOf i).toNat)
    case atStart => exact ⟨0, _, _, _, 0, Nat.zero_le _, Nat.zero_le _, rfl, Nat.le_refl _, HA0, hbw⟩
    case round =>
      clear HA0 hbw
      obtain ⟨k, row, free, va, n, hk, hk2, rfl, hn, HA, hb⟩ := hrel
      by_cases hlt : k < z0.length ∧ k < 150
      · obtain ⟨hlt, h150⟩ := hlt
        obtain ⟨z, hz⟩ : ∃ z, z0[k]? = some z := ⟨_, List.getElem?_eq_getElem hlt⟩
        obtain ⟨g, off, rfl, c0, c1, c2⟩ := (DeedsIn.later R0.out hb).at hz
        have h150' : (k : Int) < 150 := by omega
        have hs := hb.size
        clear hz
        go_wp2_with (first
          | (go_at_call 11; refine (act_any HA (by omega) z).mono ?_; rintro e w4 ⟨rfl, ⟨row', free', va', n', HA1, hn1, -⟩, hk1⟩; clear HA; obtain ⟨DL, hL⟩ := Pair.left HA1; obtain ⟨DX, hX⟩ := Pair.right HA1; have hlen1 := hL.len; have hb1 : Below w1.heap.size wr w4 := ⟨hk1.os, hk1.tape, hk1.output, hk1.size, fun j hj => hk1.block j (by omega) (fun e => e hj)⟩; have s1 := hb1.size; clear hk1)
          | (go_at_call 12; refine (front_any hL).mono ?_; rintro e w5 ⟨rfl, rfl⟩)
          | (go_at_call 13; refine (rfront_any hX (by omega)).mono ?_; rintro e w5 ⟨rfl, rfl⟩)
          | (go_at_call 14; refine (back_any hL).mono ?_; rintro e w5 ⟨rfl, rfl⟩)
          | (go_at_call 15; refine (rback_any hX (by omega)).mono ?_; rintro e w5 ⟨rfl, rfl⟩)
          | (go_at_call 17; refine (all_texts hL (by omega)).mono ?_; rintro e w6 ⟨ad6, cap6, rfl, ht6, hb6⟩; have HA6 := Pair.below HA1 hb6; obtain ⟨DX6, hX6⟩ := Pair.right HA6; have s6 := hb6.size; clear hL hX HA1)
          | (go_at_call 18; refine (rall_any hX6 (by omega)).mono ?_; rintro e w7 ⟨ad7, cap7, rfl, ht7, hb7⟩; have HA7 := Pair.below HA6 hb7; have s7 := hb7.size; clear hX6 HA6)
          | (go_at_call 16; refine (texts_same (ht6.later hb7) ht7 (by simp only [List.length_map]) (by simp only [List.length_map]) (by omega) (by omega) rfl).mono ?_; rintro e w8 ⟨rfl, hb8⟩; have HA8 := Pair.below HA7 hb8; obtain ⟨DX8, hX8⟩ := Pair.right HA8; obtain ⟨DL8, hL8⟩ := Pair.left HA8; have s8 := hb8.size; clear HA7 ht6 ht7)
          | (go_at_call 19; refine (len_any hL8).mono ?_; rintro e w9 ⟨rfl, rfl⟩)
          | (go_at_call 18; refine (rall_any hX8 (by omega)).mono ?_; rintro e w10 ⟨ad10, cap10, rfl, -, hb10⟩; have HA10 := Pair.below HA8 hb10; clear hX8 HA8))
        go_roundw
        case rel => exact ⟨k + 1, row', free', va', n', hlt, h150, by go_num, by omega, HA10, (hb.trans hb1).trans ((hb6.mono (by omega)).trans ((hb7.mono (by omega)).trans ((hb8.mono (by omega)).trans (hb10.mono (by omega)))))⟩
        case measure => simp [intOf]; omega
      · rcases Nat.lt_or_ge k z0.length with h1 | h1
        · have h2 : ¬ ((k : Int) < 150) := by omega
          go_wp2_with (go_at_call 20; refine (known_any _).mono ?_; rintro e w8 ⟨rfl, hb8⟩)
          go_ret
          exact ⟨rfl, hb.trans (hb8.mono hb.size)⟩
        · go_wp2_with (go_at_call 20; refine (known_any _).mono ?_; rintro e w8 ⟨rfl, hb8⟩)
          go_ret
          exact ⟨rfl, hb.trans (hb8.mono hb.size)⟩
  · go_ret
    exact ⟨rfl, Below.refl _ _⟩

set_option maxRecDepth 100000 in
theorem lifted (os : Os) (started : os.Started) (H : Type) (enc : TypeId × Value → H) :
    ReturnsInHanded {} Try.checked os 3 .any (Rows.listPlaysSpec.pre6 enc Try.prog Try.f3 Rows.listPlaysRow.domain false) (Rows.listPlaysSpec.post enc Try.prog Try.f3 false true false false) := by
  refine returnsInHanded_of_change_sized (C := Try.checked) own started (by kernel_rfl) Try.func3
    (ChangeSpec.witness6 (enc := enc) (C := Try.checked) false ⟨#[], #[.slice none 0 0], []⟩ 8 (by kernel_rfl) (by kernel_rfl) (by kernel_rfl) (by kernel_rfl)) ?_
  intro W base args ds gs before hval0 hW hcnd hsz0 _
  have hval : ∀ (j : Nat) t v, Try.f3.params[j]? = some t → args[j]? = some v → Value.okWide Try.prog W .any base t v := hval0
  have hsz : (DataW.weightsEach Try.prog (Try.f3.params.toList ++ Rows.listPlaysSpec.plain.varTypes Try.prog) (ds ++ gs)).all (· ≤ reachBytes) = true := hsz0
  have hW' := hW
  obtain ⟨p, q, hA0, hV, rfl, hfz, hnd⟩ := hW
  have hA : DataW.TrodAll enc Try.prog W 0 (fun _ => true) true Try.f3.params.toList args.toList ds p := hA0
  rw [Try.params3] at hA hval hsz
  obtain ⟨v0, vs0, d0, ds0, p0, q0, hargs, rfl, rfl, h0, s0⟩ := trodAll_cons hA
  obtain ⟨rfl, rfl, rfl⟩ := trodAll_nil s0
  obtain rfl : args = #[v0] := by cases args; simp_all
  obtain ⟨rfl, rfl⟩ := trodVars_none hV
  obtain ⟨a0, len0, cap0, rfl⟩ := okWide_slice Try.underlying22 (hval 0 22 v0 rfl rfl)
  have k0 := h0
  have lt0 : ∀ x ∈ p0, x.block < W.heap.size := by obtain ⟨m, hm⟩ := k0; exact DataW.trod_lt m _ _ _ hm
  obtain ⟨z0, e0, m0, r0, x0⟩ := open_deeds h0
  clear hA0 hval0 hsz0
  refine (walk W a0 len0 cap0 z0 e0 m0 r0 x0).mono fun e W' ⟨he, bel⟩ => ?_
  subst he
  exact ⟨_, rfl, _, _, _, [], _, [], hW', trodAll_mk1 (shut_bool Try.underlying4 _), (trodAll_cons_mk (Below.trod laidOut (by kernel_rfl) (of_decide_eq_true (by kernel_rfl)) k0 bel lt0) trodAll_mk0), rfl, bel.frame _, fun h => by cases h⟩

theorem over : Rows.listPlaysRow.holds Try.pinned (OpenSpec.ofChange Rows.listPlaysSpec) :=
  OpenClaim.holds_of_wide 3 Try.f3 rfl rfl rfl rfl rfl rfl rfl ⟨rfl, rfl, rfl, rfl, rfl⟩ rfl rfl rfl rfl rfl (by kernel_rfl) Try.func3 (by kernel_rfl)
    (of_decide_eq_true (by kernel_rfl)) (by unfold Func.isWrapper; first | (rw [if_pos (by decide +kernel)]; kernel_rfl) | (rw [if_neg (by decide +kernel)]; exact ⟨rfl, rfl⟩))
    (fun os started H enc _ => lifted os started H enc)

end Go.Proofs.Ytgpjdcoikbmciaa.listPlays
namespace Go.Proofs.Ytgpjdcoikbmciaa
/-- the given statement -/
theorem listPlays_holds : Rows.ListPlaysSaid := listPlays.over
#print axioms listPlays_holds
end Go.Proofs.Ytgpjdcoikbmciaa
