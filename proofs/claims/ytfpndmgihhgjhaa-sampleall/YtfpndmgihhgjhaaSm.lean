/- The program's sample: New, Rate, Seen, Takes. -/
import Derived.Test.YtfpndmgihhgjhaaMem
import Derived.Deep.RegionHeld3
namespace Go.Proofs.Ytfpndmgihhgjhaa
open Go.RowKit

section
variable {D : Nat → Prop} {w : World} {p R A T : Nat}
theorem new_any (r : Int) (hD : ∀ k, w.heap.size ≤ k → D k) :
    Calls Try.prog 9 #[.int .i64 r] w fun e w' => ∃ p, e = .returned (.pointer (some ⟨p, 0, none⟩)) ∧ SM 42 p (held 16777216 r) 0 0 D w' ∧ Keeps D w w' := by
  have hR := held_le 16777216 r
  have hc := fun W => clamp_any 16777216 r W
  generalize held 16777216 r = R at *
  go_enter Try.func9, Try.ntmps9
  go_wp2_with (go_at_call 18; refine (hc _).mono ?_; rintro e w1 ⟨rfl, rfl⟩)
  go_ret
  exact ⟨_, rfl, SM.made hD hR, (Keeps.refl D _).alloc _⟩
theorem rate_any (H : SM 42 p R A T D w) : Calls Try.prog 14 #[.pointer (some ⟨p, 0, none⟩)] w fun e w' => e = .returned (.int .i64 (R : Nat)) ∧ w' = w := by
  obtain ⟨c0, -⟩ := H.at
  clear H
  go_enter Try.func14, Try.ntmps14
  go_wp2
  go_ret
  exact ⟨rfl, rfl⟩
theorem seen_any (H : SM 42 p R A T D w) : Calls Try.prog 13 #[.pointer (some ⟨p, 0, none⟩)] w fun e w' => e = .returned (.tuple #[.int .i64 (A : Nat), .int .i64 (T : Nat)]) ∧ ∃ q, w' = w.drewN q := by
  obtain ⟨c0, c1, c2, -⟩ := H.at
  clear H
  go_enter Try.func13, Try.ntmps13
  go_wp2_with fail
  go_quiet (fail)
  go_wp2_with fail
  go_ret2
  exact ⟨rfl, _, rfl⟩
set_option maxHeartbeats 1000000 in
theorem takes_any (H : SM 42 p R A T D w) (k : ByteArray) (hk : k.size ≤ 1000) :
    Calls Try.prog 11 #[.pointer (some ⟨p, 0, none⟩), .string k] w fun e w' => e = .returned (.bool (tk R k)) ∧ SM 42 p R (up A) (if tk R k then up T else T) D w' ∧ Keeps D w w' := by
  obtain ⟨c0, c1, c2, f0, f1, f2⟩ := H.at
  have hA := fun W => inc_any A W
  have hT := fun W => inc_any T W
  have hh := fun W => hash_key k W hk
  have hm := fun W => sampled_any k R W
  have HT2 : Hid (T ≤ 1099511627776) := H.1.2.2
  have HD : Hid (D p) := H.2.1
  have HA : Hid (SM 42 p R (up A) T D (w.setCell ⟨p, 1, none⟩ (.int .i64 (up A : Nat)))) := H.seen (up_le H.1.2.1)
  have HK : Hid (Keeps D w (w.setCell ⟨p, 1, none⟩ (.int .i64 (up A : Nat)))) := (Keeps.refl D w).setCell H.2.1 _
  obtain ⟨d0, d1, d2, g0, g1, g2⟩ := HA.out.at
  generalize hs 21 k = h at hh hm
  generalize up A = B at *
  generalize tk R k = b at hm ⊢
  clear H
  cases b
  · go_enter Try.func11, Try.ntmps11
    go_wp2_with (go_at_call 20; refine (hA _).mono ?_; rintro e w1 ⟨rfl, rfl⟩)
    clear c0 c1 c2 f0 f1 f2 hA
    generalize w1.setCell ⟨p, 1, none⟩ (.int .i64 (B : Nat)) = W at *
    go_quiet (first
      | (go_at_call 22; refine Calls.quiet_of_same (hh _))
      | (go_at_call 21; refine Calls.quiet_of_same (hm _)))
    go_wp2_with fail
    go_ret
    exact ⟨rfl, HA.out, HK.out.drewN _⟩
  · go_enter Try.func11, Try.ntmps11
    go_wp2_with (go_at_call 20; refine (hA _).mono ?_; rintro e w1 ⟨rfl, rfl⟩)
    clear c0 c1 c2 f0 f1 f2 hA
    generalize w1.setCell ⟨p, 1, none⟩ (.int .i64 (B : Nat)) = W at *
    go_quiet (first
      | (go_at_call 22; refine Calls.quiet_of_same (hh _))
      | (go_at_call 21; refine Calls.quiet_of_same (hm _)))
    go_wp2_with (go_at_call 20; refine (hT _).mono ?_; rintro e w2 ⟨rfl, rfl⟩)
    go_ret
    exact ⟨rfl, SM.took (w := W.drewN _) HA.out (up_le HT2.out), (HK.out.drewN _).setCell HD.out _⟩
end
theorem takes_nil (k : ByteArray) (w : World) : Calls Try.prog 11 #[.pointer none, .string k] w fun e w' => e = .returned (.bool false) ∧ w' = w := by
  go_enter Try.func11, Try.ntmps11
  go_wp2_with fail
  go_ret
  exact ⟨rfl, rfl⟩
theorem rate_nil (w : World) : Calls Try.prog 14 #[.pointer none] w fun e w' => e = .returned (.int .i64 0) ∧ w' = w := by
  go_enter Try.func14, Try.ntmps14
  go_wp2_with fail
  go_ret
  exact ⟨rfl, rfl⟩
theorem seen_nil (w : World) : Calls Try.prog 13 #[.pointer none] w fun e w' => e = .returned (.tuple #[.int .i64 0, .int .i64 0]) ∧ w' = w := by
  go_enter Try.func13, Try.ntmps13
  go_wp2_with fail
  go_ret2
  exact ⟨rfl, rfl⟩
end Go.Proofs.Ytfpndmgihhgjhaa
