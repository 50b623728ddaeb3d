/- The document's answer (hoardref6): Put of a new key. -/
import Derived.Test.YtpfcmaoookhopaaRef3
namespace Go.Proofs.Ytpfcmaoookhopaa
open Go.RowKit

section
variable {D : Nat → Prop} {w w' : World} {x : Nat} {A B l : List (ByteArray × Int)} {ad : Option Addr} {cap b : Nat} {m : ByteArray → Option Int}
theorem row_shape (H : RefIn D w x l ad cap) : (ad = none ∧ l = [] ∧ cap = 0) ∨ ∃ g, ad = some ⟨g, 0, none⟩ ∧ l.length ≤ cap := by
  rcases H.2.2.1.2 with ⟨e, _⟩ | ⟨g', cap', cur, hv, _, _, hle, _⟩
  · simp at e
    exact .inl ⟨e.1, e.2.1, e.2.2⟩
  · cases hv
    exact .inr ⟨g', rfl, hle⟩
/-- what an append takes of the first, and of the last ones -/
theorem from_A {g : Nat} (H : RefIn D w x (A ++ B) (some ⟨g, 0, none⟩) cap) (c' : Nat) : FromRow w 2 (some ⟨g, 0, none⟩) A.length c' (prow A) := by
  have ho := H.2.2.1
  rw [prow_append] at ho
  exact from_first ho (prow_len _) (prow_one _)
theorem from_B {g : Nat} (H : RefIn D w x (A ++ B) (some ⟨g, 0, none⟩) cap) (hc : (A ++ B).length ≤ cap) {Ad : Addr} (hA : (if cap = A.length then some (⟨g, 0, none⟩ : Addr) else some ⟨g, A.length * 2, none⟩) = some Ad) (c' : Nat) : FromRow w 2 (some Ad) B.length c' (prow B) := by
  by_cases h : cap = A.length
  · have : B = [] := List.eq_nil_of_length_eq_zero (by simp at hc; omega)
    subst this
    exact .inr ⟨_, rfl, rfl, fun j u hu => by simp [prow] at hu, by simp [prow]⟩
  · rw [if_neg h] at hA
    cases hA
    have ho := H.2.2.1
    rw [prow_append] at ho
    exact from_last ho (prow_len _) (prow_len _) (prow_one _)
set_option maxHeartbeats 4000000 in
theorem rput_some {g : Nat} (H : RefIn D w x (A ++ B) (some ⟨g, 0, none⟩) cap) (hD : ∀ k, w.heap.size ≤ k → D k) (k : ByteArray) (u : Int) (hA : ∀ a ∈ A, bts a.1 < bts k) (hB : ∀ c ∈ B, bts k < bts c.1) (hcap : (A ++ B).length ≤ cap) (hn : (A ++ B).length ≤ 1000000) :
    Calls Try.prog 27 #[.pointer (some ⟨x, 0, none⟩), .string k, .int .i64 u] w fun e w' => e = .returned (.bool true) ∧ (∃ ad' cap', RefIn D w' x (A ++ (k, u) :: B) ad' cap') ∧ Keeps D w w' := by
  obtain ⟨i0, hi, hz0, hz1, hz2⟩ := info_parts Try.info60
  have hat := rat_miss H k hA hB hn
  clear hA hB
  have hlen : (A ++ B).length = A.length + B.length := List.length_append
  obtain ⟨Ad, hAd⟩ : ∃ Ad, (if cap = A.length then some (⟨g, 0, none⟩ : Addr) else some ⟨g, A.length * 2, none⟩) = some Ad := by
    by_cases h : cap = A.length
    · exact ⟨_, by rw [if_pos h]⟩
    · exact ⟨_, by rw [if_neg h]⟩
  have HAd : Hid ((if cap = A.length then some (⟨g, 0, none⟩ : Addr) else some ⟨g, A.length * 2, none⟩) = some Ad) := hAd
  have HCap : Hid ((A ++ B).length ≤ cap) := hcap
  have HH : Hid (RefIn D w x (A ++ B) (some ⟨g, 0, none⟩) cap) := H
  have HD : Hid (∀ k, w.heap.size ≤ k → D k) := hD
  obtain ⟨c0, f0⟩ := H.top
  rw [hlen] at c0 hcap hn
  have hA1 : (A.length : Int) ≤ cap := by omega
  have hA2 : (A.length : Int) ≤ (A.length : Int) + B.length := by omega
  clear H hD
  go_enter Try.func27, Try.ntmps27
  go_wp2_with (first
    | (go_at_call 38; refine hat.mono ?_; rintro e W ⟨rfl, q, hw⟩; have HW : RefIn D W x (A ++ B) (some ⟨g, 0, none⟩) cap := (by rw [hw]; exact HH.out.drewN q); have hkW : Keeps D w W := (by rw [hw]; exact (Keeps.refl D w).drewN q); have hDW : Hid (∀ k, W.heap.size ≤ k → D k) := (by rw [hw]; exact HD.out); have hsrc1 := from_A (HW.alloc (.cells #[] 60)) cap; obtain ⟨s0, k0⟩ := (HW.alloc (.cells #[] 60)).top; rw [hlen] at s0; clear hat hw c0 f0)
    | (at_builtin; refine wpList_append_from _ rfl _ _ 28 rfl 0 60 i0 _ 2 24 Try.underlying28 hi hz0 hz1 hz2 rfl (by omega) _ 0 [] rfl (World.ownsRow_made (size := 2) (base := 0) W #[] 0 (Nat.zero_le _) (by unfold maxLen; omega) rfl) (some ⟨g, 0, none⟩) A.length cap _ rfl hsrc1 (by unfold maxLen; omega) (by omega) (Nat.zero_le _) ?_; (intro ad2 cap2 w2 hc2 hown2 hgrow2 hat2; clear hsrc1 s0 k0; rw [Nat.zero_add] at hown2 hat2 ⊢; rw [List.nil_append] at hown2; have hb2 : Below W.heap.size W w2 := ((Below.refl _ W).alloc (Nat.le_refl _) _).grown hgrow2 (by simp) (fun k e => by cases e; exact Nat.le_refl _); have hfr2 := own_new (q := W.heap.size) (fun k e => by cases e; exact Nat.le_refl _) (by simp) hat2; have hsrc2 := two_new w2 (.string k) (.int .i64 u) rfl rfl; have hs2 := hb2.size; clear hgrow2 hat2))
    | (at_builtin; refine wpList_append_from _ rfl _ _ 28 rfl 0 60 i0 _ 2 24 Try.underlying28 hi hz0 hz1 hz2 rfl (by omega) (.slice ad2 A.length cap2) A.length _ rfl (hown2.alloc _) (some ⟨w2.heap.size, 0, none⟩) 1 1 _ rfl hsrc2 (by unfold maxLen; omega) (by omega) (Nat.zero_le _) ?_; (intro ad3 cap3 w3 hc3 hown3 hgrow3 hat3; clear hsrc2 hown2; have hb3 : Below W.heap.size W w3 := (hb2.alloc hs2 _).grown hgrow3 (by simp; omega) hfr2; have hfr3 := own_new (q := W.heap.size) hfr2 (by simp; omega) hat3; have hs3 := hb3.size; obtain ⟨t0, t1⟩ := (HW.below hb3).top; rw [hlen] at t0; have hsrc3 := from_B (HW.below hb3) HCap.out HAd.out (cap - A.length); clear hgrow3 hat3 hb2 hfr2 hs2))
    | (at_builtin; refine wpList_append_from _ rfl _ _ 28 rfl 0 60 i0 _ 2 24 Try.underlying28 hi hz0 hz1 hz2 rfl (by omega) (.slice ad3 (A.length + 1) cap3) (A.length + 1) _ rfl hown3 (some Ad) B.length (cap - A.length) _ rfl hsrc3 (by unfold maxLen; omega) (by omega) (Nat.zero_le _) ?_; (intro ad4 cap4 w4 hc4 hown4 hgrow4 hat4; clear hsrc3 hown3; have hb4 : Below W.heap.size W w4 := hb3.grown hgrow4 hs3 hfr3; have hfr4 := own_new (q := W.heap.size) hfr3 hs3 hat4; obtain ⟨v0, v1⟩ := (HW.below hb4).top; rw [hlen] at v0; clear hgrow4 hat4 hb3 hfr3 hs3 t0 t1)))
  go_ret
  refine ⟨rfl, ⟨ad4, cap4, HW.newL hb4 (l' := A ++ (k, u) :: B) (by simp; omega) (by rw [prow_append, prow_cons]; simpa using hown4) hfr4 hDW.out⟩, (hkW.trans (.of_below hb4)).setCell HW.1 _⟩
set_option maxHeartbeats 4000000 in
theorem rput_none (H : RefIn D w x [] none 0) (hD : ∀ k, w.heap.size ≤ k → D k) (k : ByteArray) (u : Int) :
    Calls Try.prog 27 #[.pointer (some ⟨x, 0, none⟩), .string k, .int .i64 u] w fun e w' => e = .returned (.bool true) ∧ (∃ ad' cap', RefIn D w' x [(k, u)] ad' cap') ∧ Keeps D w w' := by
  obtain ⟨i0, hi, hz0, hz1, hz2⟩ := info_parts Try.info60
  have hat := rat_miss (A := []) (B := []) H k (by simp) (by simp) (by simp)
  rw [List.length_nil] at hat
  have HH : Hid (RefIn D w x [] none 0) := H
  have HD : Hid (∀ k, w.heap.size ≤ k → D k) := hD
  clear H hD
  go_enter Try.func27, Try.ntmps27
  go_wp2_with (first
    | (go_at_call 38; refine hat.mono ?_; rintro e W ⟨rfl, q, hw⟩; have HW : RefIn D W x [] none 0 := (by rw [hw]; exact HH.out.drewN q); have hkW : Keeps D w W := (by rw [hw]; exact (Keeps.refl D w).drewN q); have hDW : Hid (∀ k, W.heap.size ≤ k → D k) := (by rw [hw]; exact HD.out); obtain ⟨s0, k0⟩ := (HW.alloc (.cells #[] 60)).top; rw [List.length_nil] at s0; clear hat hw)
    | (at_builtin; refine wpList_append_from _ rfl _ _ 28 rfl 0 60 i0 _ 2 24 Try.underlying28 hi hz0 hz1 hz2 rfl (by omega) _ 0 [] rfl (World.ownsRow_made (size := 2) (base := 0) W #[] 0 (Nat.zero_le _) (by unfold maxLen; omega) rfl) none 0 0 [] rfl (.inl ⟨rfl, rfl, rfl, rfl⟩) (by unfold maxLen; omega) (by omega) (Nat.zero_le _) ?_; (intro ad2 cap2 w2 hc2 hown2 hgrow2 hat2; clear s0 k0; rw [Nat.zero_add] at hown2 hat2 ⊢; rw [List.nil_append] at hown2; have hb2 : Below W.heap.size W w2 := ((Below.refl _ W).alloc (Nat.le_refl _) _).grown hgrow2 (by simp) (fun k e => by cases e; exact Nat.le_refl _); have hfr2 := own_new (q := W.heap.size) (fun k e => by cases e; exact Nat.le_refl _) (by simp) hat2; have hsrc2 := two_new w2 (.string k) (.int .i64 u) rfl rfl; have hs2 := hb2.size; clear hgrow2 hat2))
    | (at_builtin; refine wpList_append_from _ rfl _ _ 28 rfl 0 60 i0 _ 2 24 Try.underlying28 hi hz0 hz1 hz2 rfl (by omega) (.slice ad2 0 cap2) 0 _ rfl (hown2.alloc _) (some ⟨w2.heap.size, 0, none⟩) 1 1 _ rfl hsrc2 (by unfold maxLen; omega) (by omega) (Nat.zero_le _) ?_; (intro ad3 cap3 w3 hc3 hown3 hgrow3 hat3; clear hsrc2 hown2; rw [Nat.zero_add] at hown3 hat3 ⊢; rw [List.nil_append] at hown3; have hb3 : Below W.heap.size W w3 := (hb2.alloc hs2 _).grown hgrow3 (by simp; omega) hfr2; have hfr3 := own_new (q := W.heap.size) hfr2 (by simp; omega) hat3; have hs3 := hb3.size; obtain ⟨t0, t1⟩ := (HW.below hb3).top; rw [List.length_nil] at t0; clear hgrow3 hat3 hb2 hfr2 hs2))
    | (at_builtin; refine wpList_append_from _ rfl _ _ 28 rfl 0 60 i0 _ 2 24 Try.underlying28 hi hz0 hz1 hz2 rfl (by omega) (.slice ad3 1 cap3) 1 _ rfl hown3 none 0 0 [] rfl (.inl ⟨rfl, rfl, rfl, rfl⟩) (by unfold maxLen; omega) (by omega) (Nat.zero_le _) ?_; (intro ad4 cap4 w4 hc4 hown4 hgrow4 hat4; clear hown3; rw [Nat.add_zero] at hown4 hat4 ⊢; rw [List.append_nil] at hown4; have hb4 : Below W.heap.size W w4 := hb3.grown hgrow4 hs3 hfr3; have hfr4 := own_new (q := W.heap.size) hfr3 hs3 hat4; obtain ⟨v0, v1⟩ := (HW.below hb4).top; rw [List.length_nil] at v0; clear hgrow4 hat4 hb3 hfr3 hs3 t0 t1)))
  go_ret
  refine ⟨rfl, ⟨ad4, cap4, HW.newL hb4 (l' := [(k, u)]) rfl hown4 hfr4 hDW.out⟩, (hkW.trans (.of_below hb4)).setCell HW.1 _⟩
theorem rput_miss (H : RX x m b D w) (hD : ∀ k, w.heap.size ≤ k → D k) (hb : b ≤ 1000000) (k : ByteArray) (u : Int) (hm : m k = none) :
    Calls Try.prog 27 #[.pointer (some ⟨x, 0, none⟩), .string k, .int .i64 u] w fun e w' => e = .returned (.bool true) ∧ RX x (put m k (some u)) (b + 1) D w' ∧ Keeps D w w' := by
  obtain ⟨l, ad, cap, H, hr, hs, hl⟩ := H
  obtain ⟨A, B, rfl, hA, hB⟩ := cut_miss hr hs hm
  have hend : ∀ w', (∃ ad' cap', RefIn D w' x (A ++ (k, u) :: B) ad' cap') → RX x (put m k (some u)) (b + 1) D w' := by
    rintro w' ⟨ad', cap', h⟩
    exact ⟨_, ad', cap', h, rising_new hr hA hB, says_new hs hm, by simp at hl ⊢; omega⟩
  rcases row_shape H with ⟨rfl, h0, rfl⟩ | ⟨g, rfl, hc⟩
  · have hA0 : A = [] := by simp at h0; exact h0.1
    have hB0 : B = [] := by simp at h0; exact h0.2
    subst hA0 hB0
    exact (rput_none H hD k u).mono fun e w' ⟨he, h, hk⟩ => ⟨he, hend w' h, hk⟩
  · exact (rput_some H hD k u hA hB hc (by omega)).mono fun e w' ⟨he, h, hk⟩ => ⟨he, hend w' h, hk⟩
theorem rput_any (H : RX x m b D w) (hD : ∀ k, w.heap.size ≤ k → D k) (hb : b ≤ 1000000) (k : ByteArray) (u : Int) :
    Calls Try.prog 27 #[.pointer (some ⟨x, 0, none⟩), .string k, .int .i64 u] w fun e w' => e = .returned (.bool (m k).isNone) ∧ RX x (put m k (some u)) (b + 1) D w' ∧ Keeps D w w' := by
  cases hm : m k with
  | none => exact rput_miss H hD hb k u hm
  | some v => exact rput_hit H hb k u hm
end
end Go.Proofs.Ytpfcmaoookhopaa
