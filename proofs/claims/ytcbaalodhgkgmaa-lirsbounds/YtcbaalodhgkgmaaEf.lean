/- An engine as the machine of chapter 13: prune, forget; who goes. -/
import Derived.Test.YtcbaalodhgkgmaaEe
namespace Go.Proofs.Ytcbaalodhgkgmaa
open Go.RowKit

section
variable {D : Nat → Prop} {w w' : World} {e b : Nat} {s : Stt}
set_option maxRecDepth 100000 in
set_option maxHeartbeats 2000000 in
theorem prune_any (H : AM e b s D w) (hB : A.Base s) (hD : ∀ k, w.heap.size ≤ k → D k) :
    Calls Try.prog 64 #[.pointer (some ⟨e, 0, none⟩)] w fun ee w' => ee = .returned (.tuple #[]) ∧ AM e b (A.prune s) D w' ∧ Keeps D w w' := by
  have HE : Hid (AM e b s D w) := H
  have HD : Hid (∀ k, w.heap.size ≤ k → D k) := hD
  have HB : Hid (A.Base s) := hB
  clear H hD hB
  go_enter Try.func64, Try.ntmps64
  go_wp2_with fail
  go_loopg [] (s.t1.length) (fun n wr => ∃ s' : Stt, n = s'.t1.length ∧ A.Base s' ∧ A.prune s' = A.prune s ∧ AM e b s' D wr ∧ Keeps D w wr)
  case atStart => exact ⟨s, rfl, HB.out, rfl, HE.out, Keeps.refl _ _⟩
  case round =>
    obtain ⟨s', rfl, hB', hp, hA, hK⟩ := hrel
    have HA : Hid (AM e b s' D wr) := hA
    have HK : Hid (Keeps D w wr) := hK
    have HP : Hid (A.prune s' = A.prune s) := hp
    have HDr : Hid (∀ k, wr.heap.size ≤ k → D k) := fun k h => HD.out k (Nat.le_trans hK.size h)
    have hc0 := count0 hA
    cases ht : s'.t1 with
    | nil =>
      rw [ht] at hc0
      have hst : A.prune s' = s' := A.prune_stop (fun k r h => by rw [ht] at h; cases h)
      have HST : Hid (A.prune s' = s') := hst
      clear hA hK hp hst ht hB'
      go_wp2_with (go_at_call 48; refine Calls.mono hc0 ?_; clear hc0; rintro ee w1 ⟨rfl, rfl⟩)
      refine ⟨rfl, .tuple #[], results_none rfl _ _ _, rfl, ?_, HK.out⟩
      rw [← HP.out, HST.out]
      exact HA.out
    | cons k r =>
      have hk : k.size ≤ 1000 := hA.size (.inl (by rw [ht]; simp))
      have f1 := first0 hA ht
      have HF : Hid (∀ w1, Below wr.heap.size wr w1 → Calls Try.prog 83 #[.pointer (some ⟨e, 0, none⟩), .int .i64 0] w1 fun ee w' => ee = .returned (.string k) ∧ Below w1.heap.size w1 w') := fun w1 b1 => first0 (hA.below b1) ht
      obtain ⟨n, hn, hpos⟩ : ∃ n, n = s'.t1.length ∧ 0 < n := ⟨_, rfl, by rw [ht]; simp⟩
      rw [← hn] at hc0
      cases hh : A.isHot s'.b1 s'.t2 k with
      | true =>
        have hst : A.prune s' = s' := A.prune_stop (fun k' r' h => by rw [ht] at h; cases h; exact hh)
        have HST : Hid (A.prune s' = s') := hst
        have HH : Hid (A.isHot s'.b1 s'.t2 k = true) := hh
        clear hA hK hp hst ht hB' hn hh
        go_wp2_with (first
          | (go_at_call 48; refine Calls.mono hc0 ?_; clear hc0; rintro ee w1 ⟨rfl, rfl⟩)
          | (go_at_call 83; refine Calls.mono f1 ?_; clear f1; rintro ee w2 ⟨rfl, b2⟩; obtain ⟨v, hv, hs⟩ := spotA (AM.below HA.out b2) k hk; have hho := hotA hv HH.out; clear hv)
          | (go_at_call 44; refine Calls.mono hs ?_; clear hs; rintro ee w3 ⟨rfl, b3⟩)
          | (go_at_call 51; refine Calls.mono (hho _) ?_; clear hho; rintro ee w4 ⟨rfl, b4⟩; have b24 := below_trans (below_trans b2 b3) b4))
        refine ⟨rfl, .tuple #[], results_none rfl _ _ _, rfl, ?_, HK.out.trans (.of_below b24)⟩
        rw [← HP.out, HST.out]
        exact HA.out.below b24
      | false =>
        have HH : Hid (A.isHot s'.b1 s'.t2 k = false) := hh
        have hcr : A.cut s'.t1 k = r := by rw [ht]; exact A.cut_head (by have := hB'.ot; rw [ht] at this; exact this)
        have HN : Hid (A.prune ⟨r, s'.b1, A.cut s'.t2 k, s'.c⟩ = A.prune s ∧ A.Base (⟨r, s'.b1, A.cut s'.t2 k, s'.c⟩ : Stt)) := ⟨(A.prune_step ht hh).trans hp, (A.drop_bottom hB' ht hh).base⟩
        have hr : r.length + 1 = n := by rw [hn, ht]; simp
        have HR : Hid (r.length + 1 = n) := hr
        have HNn : Hid (n = s'.t1.length) := hn
        have HS : Hid ((⟨r, s'.b1, A.cut s'.t2 k, s'.c⟩ : Stt) = ⟨A.cut s'.t1 k, s'.b1, A.cut s'.t2 k, s'.c⟩) := by
          show (⟨r, s'.b1, A.cut s'.t2 k, s'.c⟩ : Stt) = ⟨A.cut s'.t1 k, s'.b1, A.cut s'.t2 k, s'.c⟩
          rw [hcr]
        clear hA hK hp ht hB' hn hh hcr hr
        go_wp2_with (first
          | (go_at_call 48; refine Calls.mono hc0 ?_; clear hc0; rintro ee w1 ⟨rfl, rfl⟩)
          | (go_at_call 83; refine Calls.mono f1 ?_; clear f1; rintro ee w2 ⟨rfl, b2⟩; obtain ⟨v, hv, hs⟩ := spotA (AM.below HA.out b2) k hk; have hho := hotA hv HH.out; clear hv)
          | (go_at_call 44; refine Calls.mono hs ?_; clear hs; rintro ee w3 ⟨rfl, b3⟩)
          | (go_at_call 51; refine Calls.mono (hho _) ?_; clear hho; rintro ee w4 ⟨rfl, b4⟩; have b24 := below_trans (below_trans b2 b3) b4; have f2 := HF.out _ b24)
          | (go_at_call 83; refine Calls.mono f2 ?_; clear f2; rintro ee w5 ⟨rfl, b5⟩; have b25 := below_trans b24 b5; have hd := drop_any (AM.below HA.out b25) (fun k h => HDr.out k (Nat.le_trans b25.size h)) k hk HS.out)
          | (go_at_call 87; refine Calls.mono hd ?_; clear hd; rintro ee w6 ⟨rfl, a6, k6⟩; have A6 : Hid (AM e b (⟨r, s'.b1, A.cut s'.t2 k, s'.c⟩ : Stt) D w6) := a6; have K6 : Hid (Keeps D w w6) := HK.out.trans ((Keeps.of_below b25).trans k6); clear a6 k6))
        go_roundg (r.length)
        case measure => have := HR.out; have := HNn.out; omega
        case rel => exact ⟨_, rfl, HN.out.2, HN.out.1, A6.out, K6.out⟩
set_option maxRecDepth 100000 in
set_option maxHeartbeats 2000000 in
theorem forget_any (H : AM e b s D w) (hB : A.Base s) (hD : ∀ k, w.heap.size ≤ k → D k) :
    Calls Try.prog 85 #[.pointer (some ⟨e, 0, none⟩)] w fun ee w' => ee = .returned (.tuple #[]) ∧ AM e b (A.forget s) D w' ∧ Keeps D w w' := by
  have HE : Hid (AM e b s D w) := H
  have HD : Hid (∀ k, w.heap.size ≤ k → D k) := hD
  have HB : Hid (A.Base s) := hB
  clear H hD hB
  go_enter Try.func85, Try.ntmps85
  go_wp2_with fail
  go_loopg [] (s.t2.length) (fun n wr => ∃ s' : Stt, n = s'.t2.length ∧ A.Base s' ∧ s'.c = s.c ∧ A.forget s' = A.forget s ∧ AM e b s' D wr ∧ Keeps D w wr)
  case atStart => exact ⟨s, rfl, HB.out, rfl, rfl, HE.out, Keeps.refl _ _⟩
  case round =>
    obtain ⟨s', rfl, hB', hcs, hp, hA, hK⟩ := hrel
    have HA : Hid (AM e b s' D wr) := hA
    have HK : Hid (Keeps D w wr) := hK
    have HP : Hid (A.forget s' = A.forget s) := hp
    have HDr : Hid (∀ k, wr.heap.size ≤ k → D k) := fun k h => HD.out k (Nat.le_trans hK.size h)
    have hc2 : ∀ q : Nat, Calls Try.prog 48 #[.pointer (some ⟨e, 0, none⟩), .int .i64 2] (wr.drewN q) fun ee w' => ee = .returned (.int .i64 (s'.t2.length : Nat)) ∧ w' = wr.drewN q := fun q => count2 (hA.below (below_drewN (Below.refl _ wr) q))
    obtain ⟨c0, c1, f1, heo, x, c6⟩ := EN.cells hA
    by_cases hl : s'.c < s'.t2.length
    · obtain ⟨k, g, ht⟩ : ∃ k g, s'.t2 = k :: g := by
        cases ht : s'.t2 with
        | nil => rw [ht] at hl; simp at hl
        | cons k g => exact ⟨k, g, rfl⟩
      have hk : k.size ≤ 1000 := hA.size (.inr (.inr (by rw [ht]; simp)))
      have HF : Hid (∀ w1, Below wr.heap.size wr w1 → Calls Try.prog 83 #[.pointer (some ⟨e, 0, none⟩), .int .i64 2] w1 fun ee w' => ee = .returned (.string k) ∧ Below w1.heap.size w1 w') := fun w1 b1 => first2 (hA.below b1) ht
      have hcr : A.cut s'.t2 k = g := by rw [ht]; exact A.cut_head (by have := hB'.og; rw [ht] at this; exact this)
      have HN : Hid (A.forget ⟨A.cut s'.t1 k, s'.b1, g, s'.c⟩ = A.forget s ∧ A.Base (⟨A.cut s'.t1 k, s'.b1, g, s'.c⟩ : Stt) ∧ s'.c = s.c) := ⟨(A.forget_step ht hl).trans hp, (A.drop_ghost hB' ht).base, hcs⟩
      obtain ⟨n, hn⟩ : ∃ n, n = s'.t2.length := ⟨_, rfl⟩
      have HR : Hid (g.length + 1 = s'.t2.length) := by
        show g.length + 1 = s'.t2.length
        rw [ht]; simp
      have HS : Hid ((⟨A.cut s'.t1 k, s'.b1, g, s'.c⟩ : Stt) = ⟨A.cut s'.t1 k, s'.b1, A.cut s'.t2 k, s'.c⟩) := by
        show (⟨A.cut s'.t1 k, s'.b1, g, s'.c⟩ : Stt) = ⟨A.cut s'.t1 k, s'.b1, A.cut s'.t2 k, s'.c⟩
        rw [hcr]
      rw [← hn] at hc2 hl
      have HNn : Hid (n = s'.t2.length) := hn
      clear hA hK hp ht hB' hcr hcs hn
      have HW : Hid (∀ q, Below wr.heap.size wr (wr.drewN q)) := fun q => below_drewN (Below.refl _ wr) q
      go_wp2_with fail
      go_quiet (first | (go_at_call 48; exact Calls.quiet_of_same (hc2 _)))
      have f2 := HF.out _ (HW.out nq)
      clear hc2
      go_wp2_with (first
        | (go_at_call 83; refine Calls.mono f2 ?_; clear f2; rintro ee w5 ⟨rfl, b5⟩; have b25 := below_trans (HW.out nq) b5; have hd := drop_any (AM.below HA.out b25) (fun k h => HDr.out k (Nat.le_trans b25.size h)) k hk HS.out)
        | (go_at_call 87; refine Calls.mono hd ?_; clear hd; rintro ee w6 ⟨rfl, a6, k6⟩; have A6 : Hid (AM e b (⟨A.cut s'.t1 k, s'.b1, g, s'.c⟩ : Stt) D w6) := a6; have K6 : Hid (Keeps D w w6) := HK.out.trans ((Keeps.of_below b25).trans k6); clear a6 k6))
      go_roundg (g.length)
      case measure => have := HR.out; have := HNn.out; omega
      case rel => exact ⟨_, rfl, HN.out.2.1, HN.out.2.2, HN.out.1, A6.out, K6.out⟩
    · have hst : A.forget s' = s' := A.forget_stop (by omega)
      have HST : Hid (A.forget s' = s') := hst
      obtain ⟨n, hn⟩ : ∃ n, n = s'.t2.length := ⟨_, rfl⟩
      rw [← hn] at hc2 hl
      clear hA hK hp hst hB' hcs hn
      go_wp2_with fail
      go_quiet (first | (go_at_call 48; exact Calls.quiet_of_same (hc2 _)))
      go_wp2_with fail
      refine ⟨rfl, .tuple #[], results_none rfl _ _ _, rfl, ?_, HK.out.trans (.of_below (below_drewN (Below.refl _ wr) _))⟩
      rw [← HP.out, HST.out]
      exact HA.out.below (below_drewN (Below.refl _ wr) _)
end
end Go.Proofs.Ytcbaalodhgkgmaa
