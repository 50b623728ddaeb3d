/- Of many keys, some of them deleted, each that is there has its value, and no other one is there: the law returns true for every seed and all numbers, and its arguments read as they did. -/
import Derived.Test.YtpfcmaoookhopaaRows
import Derived.Test.YtpfcmaoookhopaaSmall
import Derived.Test.YtpfcmaoookhopaaStr4
import Derived.WalkKit
import Derived.ProofKit
import Derived.OpenShut
import Derived.ShutString
import Derived.ChangeOld
import Derived.Below
import Derived.Carry
import Derived.SizedLaws
namespace Go.Proofs.Ytpfcmaoookhopaa.indexMany
open Go.ChangeShapes Go.WideShapes Go.ChangeAt Go.RowKit
open Go.ChangeMaps (open_string shut_string)
set_option linter.unusedVariables false

theorem own : ownKnob Try.prog.godebug = none := by kernel_rfl
theorem laidOut : laidOutB Try.prog = true := by kernel_rfl
/-- of the numbers below n, less those of the multiples of g below d: each has the next one's text -/
def Has (n g d : Nat) (m : ByteArray → Option ByteArray) : Prop :=
  (∀ i, i < n → i % g ≠ 0 ∨ d ≤ i → m (kn i) = some (kn (i + 1))) ∧ (∀ i, i ≤ 1000 → n ≤ i ∨ (i % g = 0 ∧ i < d) → m (kn i) = none) ∧ ∀ x, (m x).isSome = true → ∃ i, i < n ∧ x = kn i
theorem Has.zero (g : Nat) : Has 0 g 0 (fun _ => none) := ⟨fun i h => by omega, fun _ _ _ => rfl, fun x h => by cases h⟩
theorem Has.more {n g : Nat} {m : ByteArray → Option ByteArray} (h : Has n g 0 m) (hn : n + 1 ≤ 1000) : Has (n + 1) g 0 (put m (kn n) (some (kn (n + 1)))) := by
  refine ⟨?_, ?_, ?_⟩
  · intro i hi hc
    by_cases e : i = n
    · subst e; rw [put_same]
    · rw [put_far (fun e' => e (kn_inj (by omega) (by omega) e'))]
      exact h.1 i (by omega) hc
  · intro i hi hc
    rw [put_far (fun e' => by have := kn_inj hi (by omega) e'; omega)]
    exact h.2.1 i hi (by omega)
  · intro x hx
    by_cases e : x = kn n
    · exact ⟨n, by omega, e⟩
    · rw [put_far e] at hx
      obtain ⟨i, h1, h2⟩ := h.2.2 x hx
      exact ⟨i, by omega, h2⟩
/-- the multiples of g -/
theorem mod_next {i d g q : Nat} (hg : 1 ≤ g) (hd : d = g * q) : i % g = 0 ∧ i < d + g ↔ i % g = 0 ∧ (i < d ∨ i = d) := by
  constructor
  · rintro ⟨h1, h2⟩
    refine ⟨h1, ?_⟩
    rcases Nat.lt_or_ge i d with c | c
    · exact .inl c
    · right
      have e := Nat.div_add_mod i g
      rw [h1, Nat.add_zero] at e
      subst hd
      have h3 : i / g < q + 1 := by
        rw [Nat.div_lt_iff_lt_mul (by omega), Nat.add_mul, Nat.mul_comm q g]
        omega
      have h4 : q ≤ i / g := by
        rw [Nat.le_div_iff_mul_le (by omega), Nat.mul_comm]
        exact c
      have h5 : i / g = q := by omega
      rw [h5] at e
      exact e.symm
  · rintro ⟨h1, h2⟩
    exact ⟨h1, by omega⟩
theorem Has.less {n g d q : Nat} {m : ByteArray → Option ByteArray} (h : Has n g d m) (hg : 1 ≤ g) (hq : d = g * q) (hd : d < n) (hn : n ≤ 1000) : Has n g (d + g) (put m (kn d) none) := by
  have hm0 : d % g = 0 := by rw [hq]; exact Nat.mul_mod_right _ _
  refine ⟨?_, ?_, ?_⟩
  · intro i hi hc
    have hne : i ≠ d := by
      rintro rfl
      rcases hc with c | c
      · exact c hm0
      · omega
    rw [put_far (fun e' => hne (kn_inj (by omega) (by omega) e'))]
    refine h.1 i hi ?_
    rcases hc with c | c
    · exact .inl c
    · exact .inr (by omega)
  · intro i hi hc
    by_cases e : i = d
    · subst e; rw [put_same]
    · rw [put_far (fun e' => e (kn_inj hi (by omega) e'))]
      refine h.2.1 i hi ?_
      rcases hc with c | c
      · exact .inl c
      · rcases ((mod_next hg hq).1 c).2 with c' | c'
        · exact .inr ⟨c.1, c'⟩
        · exact absurd c' e
  · intro x hx
    by_cases e : x = kn d
    · rw [e, put_same] at hx; cases hx
    · rw [put_far e] at hx
      exact h.2.2 x hx
/-- how many of the first i are there -/
def lefts (n g i : Nat) : Nat := ((List.range i).filter (fun j => decide (j < n) && decide (j % g ≠ 0))).length
theorem lefts_next (n g i : Nat) : lefts n g (i + 1) = lefts n g i + if i < n ∧ i % g ≠ 0 then 1 else 0 := by
  unfold lefts
  rw [List.range_succ, List.filter_append, List.length_append]
  by_cases h : i < n ∧ i % g ≠ 0
  · rw [if_pos h]
    simp [h.1, h.2]
  · rw [if_neg h]
    congr 1
    rw [List.filter_cons_of_neg]
    · rfl
    · simpa using h
theorem Has.card {n g d : Nat} {m : ByteArray → Option ByteArray} (h : Has n g d m) (hd : n ≤ d) (hn : n ≤ 900) : Card m (lefts n g (n + 5)) := by
  refine ⟨((List.range (n + 5)).filter (fun j => decide (j < n) && decide (j % g ≠ 0))).map kn, ?_, ?_, by simp [lefts]⟩
  · rw [List.nodup_iff_pairwise_ne, List.pairwise_map, List.pairwise_filter]
    refine List.Pairwise.imp_of_mem ?_ (List.pairwise_lt_range (n := n + 5))
    intro a b ha hb hab _ _ e
    have := kn_inj (by have := List.mem_range.1 ha; omega) (by have := List.mem_range.1 hb; omega) e
    omega
  · intro k
    simp only [List.mem_map, List.mem_filter, List.mem_range, Bool.and_eq_true, decide_eq_true_eq]
    constructor
    · rintro ⟨j, ⟨_, h1, h2⟩, rfl⟩
      rw [h.1 j h1 (.inl h2)]
      rfl
    · intro hk
      obtain ⟨i, h1, rfl⟩ := h.2.2 k hk
      refine ⟨i, ⟨by omega, h1, ?_⟩, rfl⟩
      intro h0
      rw [h.2.1 i (by omega) (.inr ⟨h0, by omega⟩)] at hk
      cases hk
def IsLefts (n g i L : Nat) : Prop := L = lefts n g i
theorem mod_int (i g : Nat) : ((i : Int) % (g : Int) = 0) ↔ i % g = 0 := by
  rw [← Int.natCast_emod]
  exact Int.natCast_eq_zero

set_option maxRecDepth 20000 in
set_option maxHeartbeats 8000000 in
theorem walk (w : World) (a0 : Int) (w0 : (Lit.int .u64 a0).wf = true) (a1 : Int) (w1 : (Lit.int .i64 a1).wf = true) (a2 : Int) (w2 : (Lit.int .i64 a2).wf = true) :
    Calls Try.prog 4 #[.int .u64 a0, .int .i64 a1, .int .i64 a2] w fun e w' => e = .returned (.bool true) ∧ Below w.heap.size w w' := by
  obtain ⟨b0, b1⟩ := bounds_u64 w0
  obtain ⟨S, rfl⟩ : ∃ S : Nat, a0 = S := ⟨a0.toNat, by omega⟩
  have hS : S < 18446744073709551616 := by omega
  clear w0 b0 b1
  by_cases hin : 0 ≤ a1 ∧ a1 ≤ 400 ∧ 1 ≤ a2 ∧ a2 ≤ 20
  · obtain ⟨n, rfl⟩ : ∃ n : Nat, a1 = n := ⟨a1.toNat, by omega⟩
    obtain ⟨g, rfl⟩ : ∃ g : Nat, a2 = g := ⟨a2.toNat, by omega⟩
    have hn : n ≤ 400 := by omega
    have hg1 : 1 ≤ g := by omega
    have hg2 : g ≤ 20 := by omega
    clear hin w1 w2
    go_enter Try.func4, Try.ntmps4
    go_wp2_with (go_at_call 18; refine (Str.new_any w (w.heap.size ≤ ·) (Nat.le_refl _) S hS).mono ?_; rintro e w1 ⟨p, rfl, H1, hk1, -⟩)
    go_loopw [8] (fun i wr => ∃ (k : Nat) (m : ByteArray → Option ByteArray), k ≤ n ∧ i = .int .i64 k ∧ IX Str.V 65 63 (w.heap.size ≤ ·) wr p m k ∧ Has k g 0 m ∧ Below w.heap.size w wr) (fun i _ => n - (intOf i).toNat)
    case atStart => exact ⟨0, _, Nat.zero_le _, rfl, H1, Has.zero g, hk1.below (Nat.le_refl _) (fun k h => h)⟩
    case round =>
      clear H1 hk1
      obtain ⟨k, m, hk, rfl, H, hH, hb⟩ := hrel
      have hs := hb.size
      rcases Nat.lt_or_ge k n with hlt | hge
      · have HM : Hid (m (kn k) = none) := hH.2.1 k (by omega) (.inl (Nat.le_refl _))
        have HN : Hid (Has (k + 1) g 0 (put m (kn k) (some (kn (k + 1))))) := hH.more (by omega)
        have hky : ∀ W : World, Calls Try.prog 20 #[.int .i64 ((k : Int) + 1)] W fun e w' => e = .returned (.string (kn (k + 1))) ∧ Below W.heap.size W w' := fun W => key_any (k + 1) (by omega) W
        have hk0 := key_any k (by omega) wr
        clear hH
        go_wp2_with (first
          | (go_at_call 20; refine hk0.mono ?_; rintro e w2 ⟨rfl, hb2⟩; clear hk0; have H2 := H.below hb2; have hb2' := hb.trans (hb2.mono hs); have hs2 := hb2'.size; clear H hb2 hb)
          | (go_at_call 20; refine (hky w2).mono ?_; rintro e w3 ⟨rfl, hb3⟩; have H3 := H2.below hb3; have hb3' := hb2'.trans (hb3.mono hs2); have hs3 := hb3'.size; clear H2 hb3 hb2')
          | (go_at_call 19; refine (Str.put_any H3 (fun j h => Nat.le_trans hs3 h) (kn k) (by rw [kn_size]; omega) (kn (k + 1)) (by omega)).mono ?_; rintro e w4 ⟨rfl, H4, hk4⟩; rw [HM.out]))
        go_roundw
        case rel => exact ⟨k + 1, _, hlt, by go_num, H4, HN.out, hb3'.trans (hk4.below hs3 (fun j h => h))⟩
        case measure => simp [intOf]; omega
      · have hk' : k = n := by omega
        subst hk'
        clear hge hk
        go_wp2_with fail
        go_loopw [9] (fun i wx => ∃ (d q : Nat) (m' : ByteArray → Option ByteArray), i = .int .i64 d ∧ d = g * q ∧ d ≤ k + g ∧ IX Str.V 65 63 (w.heap.size ≤ ·) wx p m' k ∧ Has k g d m' ∧ Below w.heap.size w wx) (fun i _ => k + 20 - (intOf i).toNat)
        case atStart => exact ⟨0, 0, _, rfl, rfl, by omega, H, hH, hb⟩
        case round =>
          clear H hH hb hs
          obtain ⟨d, q, m', rfl, hdq, hdk, H, hH, hb⟩ := hrel
          have hs := hb.size
          rcases Nat.lt_or_ge d k with hlt | hge
          · have HM : Hid (m' (kn d) = some (kn (d + 1))) := hH.1 d hlt (.inr (Nat.le_refl _))
            have HN : Hid (Has k g (d + g) (put m' (kn d) none) ∧ d + g = g * (q + 1)) := ⟨hH.less hg1 hdq hlt (by omega), by rw [Nat.mul_add, hdq]; omega⟩
            have hky : ∀ W : World, Calls Try.prog 20 #[.int .i64 ((d : Int) + 1)] W fun e w' => e = .returned (.string (kn (d + 1))) ∧ Below W.heap.size W w' := fun W => key_any (d + 1) (by omega) W
            have hk0 := key_any d (by omega) wr
            clear hH hdq hdk
            go_wp2_with (first
              | (go_at_call 20; refine hk0.mono ?_; rintro e w2 ⟨rfl, hb2⟩; clear hk0; have H2 := H.below hb2; have hb2' := hb.trans (hb2.mono hs); have hs2 := hb2'.size; clear H hb2 hb)
              | (go_at_call 21; refine (Str.delete_hit H2 (by omega) (kn d) (by rw [kn_size]; decide) HM.out).mono ?_; rintro e w4 ⟨rfl, H4, hk4⟩; have hb4 := hb2'.trans (hk4.below hs2 (fun j h => h)); have hs4 := hb4.size; clear H2 hk4)
              | (go_at_call 20; refine (hky w4).mono ?_; rintro e w5 ⟨rfl, hb5⟩; have H5 := H4.below hb5; have hb5' := hb4.trans (hb5.mono hs4); clear H4 hb5))
            go_roundw
            case rel => exact ⟨d + g, q + 1, _, by go_num, HN.out.2, by omega, H5, HN.out.1, hb5'⟩
            case measure => simp [intOf]; omega
          · clear hdq
            have HH : Hid (Has k g d m') := hH
            have hgI : ¬ ((d : Int) < (k : Int)) := by omega
            have HG : Hid (k ≤ d) := hge
            clear hH hge
            go_wp2_with fail
            go_loopw [12, 13] (fun vl vi wx => ∃ (i L : Nat), i ≤ k + 5 ∧ L ≤ i ∧ vi = .int .i64 i ∧ vl = .int .i64 L ∧ IsLefts k g i L ∧ IX Str.V 65 63 (w.heap.size ≤ ·) wx p m' k ∧ Below w.heap.size w wx) (fun _ vi _ => k + 5 - (intOf vi).toNat)
            case atStart => exact ⟨0, 0, Nat.zero_le _, Nat.le_refl _, rfl, rfl, rfl, H, hb⟩
            case round =>
              clear H hb hs
              obtain ⟨i, L, hi, hLi, rfl, rfl, hL, H, hb⟩ := hrel
              have hs := hb.size
              rcases Nat.lt_or_ge i (k + 5) with hlt | hge2
              · have hky : ∀ W : World, Calls Try.prog 20 #[.int .i64 ((i : Int) + 1)] W fun e w' => e = .returned (.string (kn (i + 1))) ∧ Below W.heap.size W w' := fun W => key_any (i + 1) (by omega) W
                have hlt' : (i : Int) < (k : Int) + 5 := by omega
                have hk0 := key_any i (by omega) wr
                by_cases hik : i < k
                · by_cases h0 : i % g = 0
                  · have HM : Hid (m' (kn i) = none) := HH.out.2.1 i (by omega) (.inr ⟨h0, by have := HG.out; omega⟩)
                    have HL : Hid (IsLefts k g (i + 1) L) := by show L = _; rw [lefts_next, if_neg (by omega)]; exact hL
                    have hz : (i : Int) % (g : Int) = 0 := (mod_int i g).2 h0
                    clear hL h0
                    go_wp2_with (first
                      | (go_at_call 20; refine hk0.mono ?_; rintro e w2 ⟨rfl, hb2⟩; clear hk0; have H2 := H.below hb2; have hb2' := hb.trans (hb2.mono hs); have hs2 := hb2'.size; clear H hb2 hb)
                      | (go_at_call 22; refine (Str.get_miss H2 (by omega) (kn i) (by rw [kn_size]; decide) HM.out).mono ?_; rintro e w4 ⟨rfl, q4, rfl⟩))
                    go_roundw
                    case rel => exact ⟨i + 1, L, hlt, by omega, by go_num, rfl, HL.out, H2.drewN q4, below_drewN hb2' q4⟩
                    case measure => simp [intOf]; omega
                  · have HM : Hid (m' (kn i) = some (kn (i + 1))) := HH.out.1 i hik (.inl h0)
                    have HL : Hid (IsLefts k g (i + 1) (L + 1)) := by show L + 1 = _; rw [lefts_next, if_pos ⟨hik, h0⟩, ← (show L = _ from hL)]
                    have hz : ((i : Int) % (g : Int) != 0) = true := by simp; exact fun e => h0 ((mod_int i g).1 e)
                    clear hL h0
                    go_wp2_with (first
                      | (go_at_call 20; refine hk0.mono ?_; rintro e w2 ⟨rfl, hb2⟩; clear hk0; have H2 := H.below hb2; have hb2' := hb.trans (hb2.mono hs); have hs2 := hb2'.size; clear H hb2 hb)
                      | (go_at_call 22; refine (Str.get_hit H2 (by omega) (kn i) (by rw [kn_size]; decide) HM.out).mono ?_; rintro e w4 ⟨rfl, q4, rfl⟩; have H4 := H2.drewN q4; have hb4 := below_drewN hb2' q4; have hs4 := hb4.size; clear H2 hb2')
                      | (go_at_call 20; refine (hky _).mono ?_; rintro e w5 ⟨rfl, hb5⟩; have H5 := H4.below hb5; have hb5' := hb4.trans (hb5.mono hs4); clear H4 hb5))
                    go_roundw
                    case rel => exact ⟨i + 1, L + 1, hlt, by omega, by go_num, by go_num, HL.out, H5, hb5'⟩
                    case measure => simp [intOf]; omega
                · have HM : Hid (m' (kn i) = none) := HH.out.2.1 i (by omega) (.inl (by omega))
                  have HL : Hid (IsLefts k g (i + 1) L) := by show L = _; rw [lefts_next, if_neg (by omega)]; exact hL
                  have hik' : ¬ ((i : Int) < (k : Int)) := by omega
                  clear hL
                  go_wp2_with (first
                    | (go_at_call 20; refine hk0.mono ?_; rintro e w2 ⟨rfl, hb2⟩; clear hk0; have H2 := H.below hb2; have hb2' := hb.trans (hb2.mono hs); have hs2 := hb2'.size; clear H hb2 hb)
                    | (go_at_call 22; refine (Str.get_miss H2 (by omega) (kn i) (by rw [kn_size]; decide) HM.out).mono ?_; rintro e w4 ⟨rfl, q4, rfl⟩))
                  go_roundw
                  case rel => exact ⟨i + 1, L, hlt, by omega, by go_num, rfl, HL.out, H2.drewN q4, below_drewN hb2' q4⟩
                  case measure => simp [intOf]; omega
              · have hi' : i = k + 5 := by omega
                have HL : Hid (L = lefts k g (k + 5)) := by show L = _; rw [← hi']; exact hL
                have hge' : ¬ ((i : Int) < (k : Int) + 5) := by omega
                clear hL
                go_wp2_with (first
                  | (go_at_call 23; refine (Str.len_any H).mono ?_; rintro e w6 ⟨c, rfl, hc, rfl⟩; have hcl : c = L := (hc.one (HH.out.card HG.out (by omega)) (fun _ => rfl)).trans HL.out.symm; subst hcl)
                  | (go_at_call 17; refine (known_any _).mono ?_; rintro e w8 ⟨rfl, hb8⟩))
                go_ret
                exact ⟨rfl, hb.trans (hb8.mono hs)⟩
  · rcases Int.lt_or_le a1 0 with h1 | h1
    · go_enter Try.func4, Try.ntmps4
      go_wp2_with (go_at_call 17; refine (known_any _).mono ?_; rintro e w8 ⟨rfl, hb8⟩)
      go_ret
      exact ⟨rfl, hb8⟩
    rcases Int.lt_or_le 400 a1 with h2 | h2
    · have n1 : ¬ a1 < 0 := by omega
      go_enter Try.func4, Try.ntmps4
      go_wp2_with (go_at_call 17; refine (known_any _).mono ?_; rintro e w8 ⟨rfl, hb8⟩)
      go_ret
      exact ⟨rfl, hb8⟩
    rcases Int.lt_or_le a2 1 with h3 | h3
    · have n1 : ¬ a1 < 0 := by omega
      have n2 : ¬ 400 < a1 := by omega
      go_enter Try.func4, Try.ntmps4
      go_wp2_with (go_at_call 17; refine (known_any _).mono ?_; rintro e w8 ⟨rfl, hb8⟩)
      go_ret
      exact ⟨rfl, hb8⟩
    · have n1 : ¬ a1 < 0 := by omega
      have n2 : ¬ 400 < a1 := by omega
      have n3 : ¬ a2 < 1 := by omega
      have n4 : 20 < a2 := by omega
      clear hin
      go_enter Try.func4, Try.ntmps4
      go_wp2_with (go_at_call 17; refine (known_any _).mono ?_; rintro e w8 ⟨rfl, hb8⟩)
      go_ret
      exact ⟨rfl, hb8⟩

set_option maxRecDepth 100000 in
theorem lifted (os : Os) (started : os.Started) (H : Type) (enc : TypeId × Value → H) :
    ReturnsInHanded {} Try.checked os 4 .any (Rows.indexManySpec.pre6 enc Try.prog Try.f4 Rows.indexManyRow.domain false) (Rows.indexManySpec.post enc Try.prog Try.f4 false true false false) := by
  refine returnsInHanded_of_change_sized (C := Try.checked) own started (by kernel_rfl) Try.func4
    (ChangeSpec.witness6 (enc := enc) (C := Try.checked) false ⟨#[], #[.int .u64 0, .int .i64 0, .int .i64 0], []⟩ 8 (by kernel_rfl) (by kernel_rfl) (by kernel_rfl) (by kernel_rfl)) ?_
  intro W base args ds gs before hval0 hW hcnd hsz0 _
  have hval : ∀ (j : Nat) t v, Try.f4.params[j]? = some t → args[j]? = some v → Value.okWide Try.prog W .any base t v := hval0
  have hsz : (DataW.weightsEach Try.prog (Try.f4.params.toList ++ Rows.indexManySpec.plain.varTypes Try.prog) (ds ++ gs)).all (· ≤ reachBytes) = true := hsz0
  have hW' := hW
  obtain ⟨p, q, hA0, hV, rfl, hfz, hnd⟩ := hW
  have hA : DataW.TrodAll enc Try.prog W 0 (fun _ => true) true Try.f4.params.toList args.toList ds p := hA0
  rw [Try.params4] at hA hval hsz
  obtain ⟨v0, vs0, d0, ds0, p0, q0, hargs, rfl, rfl, h0, s0⟩ := trodAll_cons hA
  obtain ⟨v1, vs1, d1, ds1, p1, q1, rfl, rfl, rfl, h1, s1⟩ := trodAll_cons s0
  obtain ⟨v2, vs2, d2, ds2, p2, q2, rfl, rfl, rfl, h2, s2⟩ := trodAll_cons s1
  obtain ⟨rfl, rfl, rfl⟩ := trodAll_nil s2
  obtain rfl : args = #[v0, v1, v2] := by cases args; simp_all
  obtain ⟨rfl, rfl⟩ := trodVars_none hV
  obtain ⟨a0, rfl, rfl, rfl, w0⟩ := open_int Try.underlying22 (hval 0 22 v0 rfl rfl) h0
  obtain ⟨a1, rfl, rfl, rfl, w1⟩ := open_int Try.underlying3 (hval 1 3 v1 rfl rfl) h1
  obtain ⟨a2, rfl, rfl, rfl, w2⟩ := open_int Try.underlying3 (hval 2 3 v2 rfl rfl) h2
  clear hA0 hval0 hsz0
  refine (walk W a0 w0 a1 w1 a2 w2).mono fun e W' ⟨he, bel⟩ => ?_
  subst he
  exact ⟨_, rfl, _, _, _, [], _, [], hW', trodAll_mk1 (shut_bool Try.underlying4 _), (trodAll_cons_mk (shut_int Try.underlying22 w0) (trodAll_cons_mk (shut_int Try.underlying3 w1) (trodAll_cons_mk (shut_int Try.underlying3 w2) trodAll_mk0))), rfl, bel.frame _, fun h => by cases h⟩

theorem over : Rows.indexManyRow.holds Try.pinned (OpenSpec.ofChange Rows.indexManySpec) :=
  OpenClaim.holds_of_wide 4 Try.f4 rfl rfl rfl rfl rfl rfl rfl ⟨rfl, rfl, rfl, rfl, rfl⟩ rfl rfl rfl rfl rfl (by kernel_rfl) Try.func4 (by kernel_rfl)
    (of_decide_eq_true (by kernel_rfl)) (by unfold Func.isWrapper; first | (rw [if_pos (by decide +kernel)]; kernel_rfl) | (rw [if_neg (by decide +kernel)]; exact ⟨rfl, rfl⟩))
    (fun os started H enc _ => lifted os started H enc)

end Go.Proofs.Ytpfcmaoookhopaa.indexMany
namespace Go.Proofs.Ytpfcmaoookhopaa
/-- the given statement -/
theorem indexMany_holds : Rows.IndexManySaid := indexMany.over
#print axioms indexMany_holds
end Go.Proofs.Ytpfcmaoookhopaa
