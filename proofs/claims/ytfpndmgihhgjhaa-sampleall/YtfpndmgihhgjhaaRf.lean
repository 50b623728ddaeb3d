/- The document's sample: New, Takes, Room; both side by side. -/
import Derived.Test.YtfpndmgihhgjhaaTwo
namespace Go.Proofs.Ytfpndmgihhgjhaa
open Go.RowKit

section
variable {D : Nat → Prop} {w : World} {p R A T : Nat}
theorem rnew_any (r : Int) (hD : ∀ k, w.heap.size ≤ k → D k) :
    Calls Try.prog 10 #[.int .i64 r] w fun e w' => ∃ p, e = .returned (.pointer (some ⟨p, 0, none⟩)) ∧ SM 32 p (held 16777216 r) 0 0 D w' ∧ Keeps D w w' := by
  have hR := held_le 16777216 r
  have hc := fun W => clampr_any 16777216 r W
  generalize held 16777216 r = R at *
  go_enter Try.func10, Try.ntmps10
  go_wp2_with (go_at_call 19; refine (hc _).mono ?_; rintro e w1 ⟨rfl, rfl⟩)
  go_ret
  exact ⟨_, rfl, SM.made hD hR, (Keeps.refl D _).alloc _⟩
set_option maxHeartbeats 1000000 in
theorem rtakes_any (H : SM 32 p R A T D w) (k : ByteArray) (hk : k.size ≤ 1000) :
    Calls Try.prog 12 #[.pointer (some ⟨p, 0, none⟩), .string k] w fun e w' => e = .returned (.bool (tk R k)) ∧ SM 32 p R (up A) (if tk R k then up T else T) D w' ∧ Keeps D w w' := by
  obtain ⟨c0, c1, c2, f0, f1, f2⟩ := H.at
  have hA := fun W => incr_any A W
  have hT := fun W => incr_any T W
  have hh := fun W => hashr_key k W hk
  have hm := fun W => sampledr_any k R W
  have HT2 : Hid (T ≤ 1099511627776) := H.1.2.2
  have HD : Hid (D p) := H.2.1
  have HA : Hid (∀ q, SM 32 p R (up A) T D ((w.drewN q).setCell ⟨p, 1, none⟩ (.int .i64 (up A : Nat)))) := fun q => SM.seen (w := w.drewN q) H (up_le H.1.2.1)
  have HK : Hid (∀ q, Keeps D w ((w.drewN q).setCell ⟨p, 1, none⟩ (.int .i64 (up A : Nat)))) := fun q => ((Keeps.refl D w).drewN q).setCell H.2.1 _
  generalize hs 21 k = h at hh hm
  generalize up A = B at *
  generalize tk R k = b at hm ⊢
  clear H
  cases b
  · go_enter Try.func12, Try.ntmps12
    go_wp2_with fail
    go_quiet (first
      | (go_at_call 24; refine Calls.quiet_of_same (hh _))
      | (go_at_call 23; refine Calls.quiet_of_same (hm _)))
    go_wp2_with (go_at_call 25; refine (hA _).mono ?_; rintro e w1 ⟨rfl, rfl⟩)
    go_ret
    exact ⟨rfl, HA.out _, HK.out _⟩
  · go_enter Try.func12, Try.ntmps12
    go_wp2_with fail
    go_quiet (first
      | (go_at_call 24; refine Calls.quiet_of_same (hh _))
      | (go_at_call 23; refine Calls.quiet_of_same (hm _)))
    go_wp2_with (first
      | (go_at_call 25; refine (hA _).mono ?_; rintro e w1 ⟨rfl, rfl⟩; clear hA)
      | (go_at_call 25; refine (hT _).mono ?_; rintro e w2 ⟨rfl, rfl⟩))
    go_ret
    exact ⟨rfl, SM.took (HA.out _) (up_le HT2.out), (HK.out _).setCell HD.out _⟩
theorem rroom_any (H : SM 32 p R A T D w) (c : Int) :
    Calls Try.prog 16 #[.pointer (some ⟨p, 0, none⟩), .int .i64 c] w fun e w' => e = .returned (.int .i64 (room R c : Nat)) ∧ ∃ q, w' = w.drewN q := by
  obtain ⟨c0, -⟩ := H.at
  have hR := H.1.1
  have hc := fun W => clampr_any 1024 c W
  have h1 := held_le 1024 c
  have h2 := part_le R hR c
  have h3 : held 1024 c * R ≤ 1024 * 16777216 := Nat.mul_le_mul h1 hR
  have e0 : ((held 1024 c : Nat) : Int) * (R : Int) = ((held 1024 c * R : Nat) : Int) := by rw [Int.natCast_mul]
  unfold room
  generalize held 1024 c = C at *
  generalize C * R = N at *
  have e1 : IntKind.i64.wrap ((N : Nat) : Int) = (N : Int) := by rw [IntKind.wrap_i64]; omega
  clear H
  go_enter Try.func16, Try.ntmps16
  go_wp2_with fail
  go_quiet (first | (go_at_call 19; refine Calls.quiet_of_same (hc _)))
  go_wp2_with fail
  all_goals
    go_ret
    exact ⟨ret_int (by omega), _, rfl⟩
end
section
variable {O : Nat → Prop} {w : World} {t s p x R A T S B U : Nat}
theorem two_takes_a (h : Two (SM 42 p R A T) (SM t x S B U) O w) (k : ByteArray) (hk : k.size ≤ 1000) : Calls Try.prog 11 #[.pointer (some ⟨p, 0, none⟩), .string k] w fun e w' => e = .returned (.bool (tk R k)) ∧ Two (SM 42 p R (up A) (if tk R k then up T else T)) (SM t x S B U) O w' ∧ Keeps (fun k => ¬ O k) w w' :=
  Two.onA (Q := fun e => e = .returned (.bool (tk R k))) (SM.lies _ _ _ _ _) (SM.lies _ _ _ _ _) (SM.lies _ _ _ _ _) h (fun _ H _ => takes_any H k hk)
theorem two_takes_b (h : Two (SM t p R A T) (SM 42 x S B U) O w) (k : ByteArray) (hk : k.size ≤ 1000) : Calls Try.prog 11 #[.pointer (some ⟨x, 0, none⟩), .string k] w fun e w' => e = .returned (.bool (tk S k)) ∧ Two (SM t p R A T) (SM 42 x S (up B) (if tk S k then up U else U)) O w' ∧ Keeps (fun k => ¬ O k) w w' :=
  Two.onB (Q := fun e => e = .returned (.bool (tk S k))) (SM.lies _ _ _ _ _) (SM.lies _ _ _ _ _) (SM.lies _ _ _ _ _) h (fun _ H _ => takes_any H k hk)
theorem two_rtakes_b (h : Two (SM t p R A T) (SM 32 x S B U) O w) (k : ByteArray) (hk : k.size ≤ 1000) : Calls Try.prog 12 #[.pointer (some ⟨x, 0, none⟩), .string k] w fun e w' => e = .returned (.bool (tk S k)) ∧ Two (SM t p R A T) (SM 32 x S (up B) (if tk S k then up U else U)) O w' ∧ Keeps (fun k => ¬ O k) w w' :=
  Two.onB (Q := fun e => e = .returned (.bool (tk S k))) (SM.lies _ _ _ _ _) (SM.lies _ _ _ _ _) (SM.lies _ _ _ _ _) h (fun _ H _ => rtakes_any H k hk)
end
end Go.Proofs.Ytfpndmgihhgjhaa
