/- The document's answer (hoardref6): Delete. -/
import Derived.Test.YtpfcmaoookhopaaRef4
namespace Go.Proofs.Ytpfcmaoookhopaa
open Go.RowKit

section
variable {D : Nat → Prop} {w w' : World} {x : Nat} {A B l : List (ByteArray × Int)} {ad : Option Addr} {cap b : Nat} {m : ByteArray → Option Int}
theorem from_C {g : Nat} {e : ByteArray × Int} (H : RefIn D w x (A ++ e :: B) (some ⟨g, 0, none⟩) cap) (hc : (A ++ e :: B).length ≤ cap) {Ad : Addr} (hA : (if cap = A.length + 1 then some (⟨g, 0, none⟩ : Addr) else some ⟨g, (A.length + 1) * 2, none⟩) = some Ad) (c' : Nat) : FromRow w 2 (some Ad) B.length c' (prow B) := by
  by_cases h : cap = A.length + 1
  · have : B = [] := List.eq_nil_of_length_eq_zero (by simp at hc; omega)
    subst this
    exact .inr ⟨_, rfl, rfl, fun j u hu => by simp [prow] at hu, by simp [prow]⟩
  · rw [if_neg h] at hA
    cases hA
    have ho := H.2.2.1
    rw [show A ++ e :: B = (A ++ [e]) ++ B by simp, prow_append] at ho
    exact from_last (m := (A ++ [e] ++ B).length) ho (by rw [prow_len]; simp) (prow_len _) (prow_one _)
theorem rising_gone {e : ByteArray × Int} (h : Rising (A ++ e :: B)) : Rising (A ++ B) := by
  rw [Rising, List.pairwise_append, List.pairwise_cons] at h
  rw [Rising, List.pairwise_append]
  exact ⟨h.1, h.2.1.2, fun a ha c hc => h.2.2 a ha c (by simp [hc])⟩
theorem says_gone {k : ByteArray} {v : Int} (hr : Rising (A ++ (k, v) :: B)) (h : Says (A ++ (k, v) :: B) m) : Says (A ++ B) (put m k none) := by
  rw [Rising, List.pairwise_append, List.pairwise_cons] at hr
  intro y z
  by_cases e : y = k
  · subst e
    rw [put_same]
    constructor
    · intro hz; cases hz
    · intro hm
      rcases List.mem_append.1 hm with hm | hm
      · exact absurd (hr.2.2 _ hm (y, v) (by simp)) (lt_irr _)
      · exact absurd (hr.2.1.1 _ hm) (lt_irr _)
  · rw [put_far e, h y z]
    simp [e]
set_option maxHeartbeats 4000000 in
theorem rdel_hit (H : RX x m b D w) (hD : ∀ k, w.heap.size ≤ k → D k) (hb : b ≤ 1000000) (k : ByteArray) {v : Int} (hm : m k = some v) :
    Calls Try.prog 29 #[.pointer (some ⟨x, 0, none⟩), .string k] w fun e w' => e = .returned (.tuple #[.int .i64 v, .bool true]) ∧ RX x (put m k none) b D w' ∧ Keeps D w w' := by
  obtain ⟨i0, hi, hz0, hz1, hz2⟩ := info_parts Try.info60
  obtain ⟨l, ad, cap, H, hr, hs, hl⟩ := H
  obtain ⟨A, B, rfl, hA⟩ := cut_hit hr hs hm
  have hat := rat_hit H hA hr (by omega)
  obtain ⟨g, rfl, hgx, hDg, -⟩ := H.cell (i := A.length) (e := (k, v)) (by simp)
  have hcap : (A ++ (k, v) :: B).length ≤ cap := by
    rcases row_shape H with ⟨h, _⟩ | ⟨g', _, h⟩
    · cases h
    · exact h
  have hlen : (A ++ (k, v) :: B).length = A.length + 1 + B.length := by rw [List.length_append, List.length_cons]; omega
  obtain ⟨Ad, hAd⟩ : ∃ Ad, (if cap = A.length + 1 then some (⟨g, 0, none⟩ : Addr) else some ⟨g, (A.length + 1) * 2, none⟩) = some Ad := by
    by_cases h : cap = A.length + 1
    · exact ⟨_, by rw [if_pos h]⟩
    · exact ⟨_, by rw [if_neg h]⟩
  have HAd : Hid ((if cap = A.length + 1 then some (⟨g, 0, none⟩ : Addr) else some ⟨g, (A.length + 1) * 2, none⟩) = some Ad) := hAd
  have HCap : Hid ((A ++ (k, v) :: B).length ≤ cap) := hcap
  have HH : Hid (RefIn D w x (A ++ (k, v) :: B) (some ⟨g, 0, none⟩) cap) := H
  have HD : Hid (∀ k, w.heap.size ≤ k → D k) := hD
  have HE : Hid (∀ w', (∃ ad' cap', RefIn D w' x (A ++ B) ad' cap') → RX x (put m k none) b D w') := by
    rintro w' ⟨ad', cap', h⟩
    exact ⟨_, ad', cap', h, rising_gone hr, says_gone hr hs, by simp at hl ⊢; omega⟩
  rw [hlen] at hcap hl
  have hw1 : IntKind.i64.wrap ((A.length : Int) + 1) = (A.length : Int) + 1 := by rw [IntKind.wrap_i64]; omega
  have hi1 : (A.length : Int) ≤ cap := by omega
  have hi2 : (A.length : Int) + 1 ≤ (A.length : Int) + 1 + B.length := by omega
  have hi3 : (0 : Int) ≤ (A.length : Int) + 1 := by omega
  have hi4 : A.length < A.length + 1 + B.length := by omega
  clear H hD hr hs hm hA
  go_enter Try.func29, Try.ntmps29
  go_wp2_with (go_at_call 38; refine hat.mono ?_; rintro e W ⟨rfl, q, hw⟩; have HW : RefIn D W x (A ++ (k, v) :: B) (some ⟨g, 0, none⟩) cap := (by rw [hw]; exact HH.out.drewN q); have hkW : Keeps D w W := (by rw [hw]; exact (Keeps.refl D w).drewN q); have hDW : Hid (∀ k, W.heap.size ≤ k → D k) := (by rw [hw]; exact HD.out); have hsrc1 : FromRow ((W.alloc (.cells #[] 60)).drew) 2 (some ⟨g, 0, none⟩) A.length cap (prow A) := from_A (w := W.alloc (.cells #[] 60)) (HW.alloc (.cells #[] 60)) cap; obtain ⟨t0, t1⟩ := HW.top; obtain ⟨s0, k0⟩ := (HW.alloc (.cells #[] 60)).top; rw [hlen] at s0 t0; obtain ⟨g', eg, -, -, d0, d1, -⟩ := HW.cell (i := A.length) (e := (k, v)) (by simp); cases eg; clear hat hw)
  have HLen : Hid ((A ++ (k, v) :: B).length = A.length + 1 + B.length) := hlen
  clear hlen
  go_region_law (first
    | (refine step_append_from rfl (.tmp 28) (.tmp 34) 28 rfl 0 60 i0 _ 2 24 Try.underlying28 hi hz0 hz1 hz2 rfl (by omega) _ 0 [] (by simp [Act.eval, Act.put]) (World.ownsRow_made (size := 2) (base := 0) W #[] 0 (Nat.zero_le _) (by unfold maxLen; omega) rfl) _ A.length cap _ (by simp [Act.eval, Act.put]) hsrc1 (by unfold maxLen; omega) (by omega) (Nat.zero_le _) ?_; intro ad2 cap2 w2 hc2 hown2 hgrow2 hat2; rw [Nat.zero_add] at hown2 hat2 ⊢; rw [List.nil_append] at hown2; have hb2 : Below W.heap.size W w2 := (((Below.refl _ W).alloc (Nat.le_refl _) _).drew).grown hgrow2 (by show W.heap.size ≤ (W.alloc _).heap.size; simp) (fun k e => by cases e; exact Nat.le_refl _); have hfr2 := own_fresh hat2; have hs2 := hb2.size; obtain ⟨u0, u1⟩ := (HW.below hb2).top; rw [HLen.out] at u0; have hsrc2 := from_C (HW.below hb2) HCap.out HAd.out (cap - (A.length + 1)))
    | (refine step_append_from rfl (.tmp 35) (.tmp 42) 28 rfl 0 60 i0 _ 2 24 Try.underlying28 hi hz0 hz1 hz2 rfl (by omega) (.slice ad2 A.length cap2) A.length _ (by simp [Act.eval, Act.put]) hown2 (some Ad) B.length (cap - (A.length + 1)) _ (by simp [Act.eval, Act.put]) hsrc2 (by unfold maxLen; omega) (by omega) (Nat.zero_le _) ?_; intro ad3 cap3 w3 hc3 hown3 hgrow3 hat3; have hb3 : Below W.heap.size W w3 := hb2.grown hgrow3 hs2 hfr2; have hfr3 := own_fresh3 hfr2 hs2 hat3; obtain ⟨v0, v1⟩ := (HW.below hb3).top; rw [HLen.out] at v0))
  all_goals
    go_wp2_with fail
    go_ret2
    refine ⟨rfl, HE.out _ ⟨ad3, cap3, HW.newL hb3 (l' := A ++ B) (by simp) (by rw [prow_append]; exact hown3) hfr3 hDW.out⟩, (hkW.trans (.of_below hb3)).setCell HW.1 _⟩
theorem rdel_miss (H : RX x m b D w) (hb : b ≤ 1000000) (k : ByteArray) (hm : m k = none) :
    Calls Try.prog 29 #[.pointer (some ⟨x, 0, none⟩), .string k] w fun e w' => e = .returned (.tuple #[.int .i64 0, .bool false]) ∧ ∃ q, w' = w.drewN q := by
  obtain ⟨l, ad, cap, H, hr, hs, hl⟩ := H
  obtain ⟨A, B, rfl, hA, hB⟩ := cut_miss hr hs hm
  have hat := rat_miss H k hA hB (by omega)
  clear H hr hs hm hA hB
  go_enter Try.func29, Try.ntmps29
  go_wp2_with (go_at_call 38; refine hat.mono ?_; rintro e w1 ⟨rfl, q, rfl⟩; clear hat)
  go_ret2
  exact ⟨rfl, _, rfl⟩
theorem rdel_any (H : RX x m b D w) (hD : ∀ k, w.heap.size ≤ k → D k) (hb : b ≤ 1000000) (k : ByteArray) :
    Calls Try.prog 29 #[.pointer (some ⟨x, 0, none⟩), .string k] w fun e w' => e = .returned (.tuple #[.int .i64 ((m k).getD 0), .bool (m k).isSome]) ∧ RX x (put m k none) b D w' ∧ Keeps D w w' := by
  cases hm : m k with
  | none =>
    refine (rdel_miss H hb k hm).mono ?_
    rintro e w' ⟨he, q, rfl⟩
    have e1 : put m k none = m := by
      funext y
      by_cases hy : y = k
      · rw [hy, put_same, hm]
      · rw [put_far hy]
    rw [e1]
    refine ⟨he, ?_, (Keeps.refl D w).drewN q⟩
    obtain ⟨l, ad, cap, H, r⟩ := H
    exact ⟨l, ad, cap, H.drewN q, r⟩
  | some v => exact rdel_hit H hD hb k hm
end
end Go.Proofs.Ytpfcmaoookhopaa
