/- The document's door: Add; both doors side by side. -/
import Derived.Test.YtmhmphbicdaobaaRf2
namespace Go.Proofs.Ytmhmphbicdaobaa
open Go.RowKit

section
variable {D : Nat → Prop} {w : World} {p g K M : Nat} {b : Nat → Bool}
set_option maxHeartbeats 2000000 in
theorem radd_any (H : RF p K b D w) (k : ByteArray) (hk : k.size ≤ 1000) :
    Calls Try.prog 13 #[.pointer (some ⟨p, 0, none⟩), .string k] w fun e w' => e = .returned (.bool (has b (64 * K) k)) ∧ RF p K (add b (64 * K) k 3) D w' ∧ Keeps D w w' := by
  have hhas := rhas_any H k hk
  obtain ⟨⟨f0, f1⟩, g, H⟩ := H
  have HF : Hid (1 ≤ K ∧ K ≤ 128) := ⟨f0, f1⟩
  obtain ⟨M, hM⟩ : ∃ M, 64 * K = M := ⟨_, rfl⟩
  have HM : Hid (64 * K = M) := hM
  rw [hM] at H hhas ⊢
  have hM1 : 64 ≤ M := by omega
  have hM2 : M ≤ 8192 := by omega
  have HH : Hid (RfIn D w p g M b) := H
  clear H hM
  generalize has b M k = was at hhas ⊢
  go_enter Try.func13, Try.ntmps13
  go_wp2_with (go_at_call 15; refine hhas.mono ?_; rintro e w1 ⟨rfl, q0, rfl⟩)
  clear hhas
  go_loopw [6] (fun i wr => ∃ j : Nat, j ≤ 3 ∧ i = .int .i64 j ∧ RfIn D wr p g M (add b M k j) ∧ Keeps D w wr) (fun i _ => 3 - (intOf i).toNat)
  case atStart => exact ⟨0, by omega, rfl, HH.out.below (below_drewN (Below.refl _ _) q0), (Keeps.refl D w).drewN q0⟩
  case round =>
    obtain ⟨j, hj, rfl, HJ, hk5⟩ := hrel
    have HR : Hid (RfIn D wr p g M (add b M k j)) := HJ
    have HK : Hid (Keeps D w wr) := hk5
    rcases Nat.lt_or_ge j 3 with hlt | hge
    · obtain ⟨c0, -⟩ := HJ.top
      have hx := hp_lt hM1 k j
      obtain ⟨d0, e0⟩ := HJ.at hx
      have hbit := bit_any (w := wr.drew) HJ hM1 hM2 k hk hlt
      have HX : Hid (∀ q, RfIn D ((wr.drewN q).setCell ⟨g, hp M k j, none⟩ (.bool true)) p g M (add b M k (j + 1))) := fun q => (HR.out.below (below_drewN (Below.refl _ wr) q)).set (hp M k j)
      have HKX : Hid (∀ q x, Keeps D w ((wr.drewN q).setCell ⟨g, hp M k j, none⟩ x)) := fun q x => (HK.out.drewN q).setCell HR.out.2.1 x
      generalize add b M k j (hp M k j) = t at d0
      generalize hp M k j = P at *
      have PI : (P : Int) < (M : Int) := by omega
      have P0 : (0 : Int) ≤ (P : Int) := by omega
      have jI : (j : Int) < 3 := by omega
      clear HJ hk5
      go_wp2_with fail
      go_region_with (go_at_call 25; refine hbit.mono ?_; rintro e w5 ⟨rfl, q5, rfl⟩)
      all_goals
        go_wp2_with fail
        go_roundw
        case rel => exact ⟨j + 1, hlt, by go_num, HX.out _, HKX.out _ _⟩
        case measure => simp [intOf]; omega
    · have hj3 : j = 3 := by omega
      subst hj3
      clear HJ hk5
      go_wp2_with fail
      go_ret
      exact ⟨rfl, ⟨HF.out, g, by rw [HM.out]; exact HR.out⟩, HK.out⟩
end
section
variable {O : Nat → Prop} {w : World} {p x K : Nat} {b : Nat → Bool}
theorem both_clear_a (h : Two (DR p K b) (RF x K b) O w) : Calls Try.prog 10 #[.pointer (some ⟨p, 0, none⟩)] w fun e w' => e = .returned (.tuple #[]) ∧ Two (DR p K (fun _ => false)) (RF x K b) O w' ∧ Keeps (fun k => ¬ O k) w w' :=
  Two.onA (Q := fun e => e = .returned (.tuple #[])) (DR.lies _ _ _) (RF.lies _ _ _) (DR.lies _ _ _) h (fun _ H _ => clear_any H)
theorem both_clear_b (h : Two (DR p K (fun _ => false)) (RF x K b) O w) : Calls Try.prog 11 #[.pointer (some ⟨x, 0, none⟩)] w fun e w' => e = .returned (.tuple #[]) ∧ Two (DR p K (fun _ => false)) (RF x K (fun _ => false)) O w' ∧ Keeps (fun k => ¬ O k) w w' :=
  Two.onB (Q := fun e => e = .returned (.tuple #[])) (RF.lies _ _ _) (DR.lies _ _ _) (RF.lies _ _ _) h (fun _ H hD => rclear_any H hD)
theorem both_add_a (h : Two (DR p K b) (RF x K b) O w) (k : ByteArray) (hk : k.size ≤ 1000) : Calls Try.prog 12 #[.pointer (some ⟨p, 0, none⟩), .string k] w fun e w' => e = .returned (.bool (has b (64 * K) k)) ∧ Two (DR p K (add b (64 * K) k 3)) (RF x K b) O w' ∧ Keeps (fun k => ¬ O k) w w' :=
  Two.onA (Q := fun e => e = .returned (.bool (has b (64 * K) k))) (DR.lies _ _ _) (RF.lies _ _ _) (DR.lies _ _ _) h (fun _ H _ => add_any H k hk)
theorem both_add_b (k : ByteArray) (hk : k.size ≤ 1000) (h : Two (DR p K (add b (64 * K) k 3)) (RF x K b) O w) : Calls Try.prog 13 #[.pointer (some ⟨x, 0, none⟩), .string k] w fun e w' => e = .returned (.bool (has b (64 * K) k)) ∧ Two (DR p K (add b (64 * K) k 3)) (RF x K (add b (64 * K) k 3)) O w' ∧ Keeps (fun k => ¬ O k) w w' :=
  Two.onB (Q := fun e => e = .returned (.bool (has b (64 * K) k))) (RF.lies _ _ _) (DR.lies _ _ _) (RF.lies _ _ _) h (fun _ H _ => radd_any H k hk)
end
end Go.Proofs.Ytmhmphbicdaobaa
