/- The program's sketch: Halve, Cells. -/
import Derived.Test.YtcphhlfbjkeikaaSe
namespace Go.Proofs.Ytcphhlfbjkeikaa.Sk
open Go.RowKit

section
variable {D : Nat → Prop} {w : World} {p g N : Nat} {c : Nat → Nat} {s : Nat}
theorem fit_halve (h0 : 8 ≤ N) (h1 : N ≤ 1024) (hc : ∀ i, c i ≤ 15) (hs : s ≤ 10 * N) : Fit N (hv c) (s / 2) :=
  ⟨h0, h1, fun i => by have := hc i; unfold hv; omega, by omega⟩
theorem SkIn.halved (H : SkIn D w p g N (hvj c (2 * (2 * N))) s) : SkIn D w p g N (hv c) s := H.ext (fun i hi => by unfold hvj hv; rw [if_pos (by omega)])
set_option maxHeartbeats 1000000 in
theorem halve_in (H : SkIn D w p g N c s) (h0 : 8 ≤ N) (h1 : N ≤ 1024) (hc : ∀ i, c i ≤ 15) (hsum : s ≤ 10 * N) :
    Calls Try.prog 55 #[.pointer (some ⟨p, 0, none⟩)] w fun e w' => e = .returned (.tuple #[]) ∧ SK p N (hv c) (s / 2) D w' ∧ Keeps D w w' := by
  have hbl := blank_any H h0
  obtain ⟨c0, c1, c2, -⟩ := H.top
  have HH : Hid (SkIn D w p g N c s) := H
  have HF : Hid (Fit N (hv c) (s / 2)) := fit_halve h0 h1 hc hsum
  have HCL : Hid (∀ i, c i ≤ 15) := hc
  clear H hc
  go_enter Try.func55, Try.ntmps55
  go_wp2_with (go_at_call 50; refine hbl.mono ?_; rintro e w1 ⟨rfl, rfl⟩)
  clear hbl c0 c1 c2
  go_loopw [11] (fun i wr => ∃ j : Nat, j ≤ 2 * N ∧ i = .int .i64 j ∧ SkIn D wr p g N (hvj c (2 * j)) s ∧ Keeps D w1 wr) (fun i _ => 2 * N - (intOf i).toNat)
  case atStart => exact ⟨0, Nat.zero_le _, rfl, by rw [hvj_zero]; exact HH.out, Keeps.refl _ _⟩
  case round =>
    obtain ⟨j, hj, rfl, HJ, hk⟩ := hrel
    obtain ⟨c0, c1, c2, f0, f1, f2⟩ := HJ.top
    have HR : Hid (SkIn D wr p g N (hvj c (2 * j)) s) := HJ
    rcases Nat.lt_or_ge j (2 * N) with hlt | hge
    · obtain ⟨b0, e0⟩ := HJ.at hlt
      rw [(byt_hvj c j).1] at b0
      have hbl := byt_lt HCL.out j
      have hba := byt_and HCL.out j
      have HX : Hid (∀ y : Nat, y = byt (hv c) j → SkIn D (wr.setCell ⟨g, j, none⟩ (.int .u8 (y : Nat))) p g N (hvj c (2 * (j + 1))) s) := by
        rintro y rfl
        exact HR.out.set (u8s_halve c (2 * N) j)
      have HK : Hid (∀ u, Keeps D w1 (wr.setCell ⟨g, j, none⟩ u)) := fun u => hk.setCell HR.out.2.1 u
      generalize byt c j = b at b0 hbl hba
      generalize byt (hv c) j = y at hba HX
      obtain ⟨x, hx⟩ : ∃ x, b / 2 = x := ⟨_, rfl⟩
      have hxI : (b : Int) / 2 = (x : Int) := by omega
      rw [hx] at hba
      have hxl : x < 256 := by omega
      have ha : bits .and .u8 (x : Int) 119 = (y : Int) := by rw [show (119 : Int) = ((119 : Nat) : Int) from rfl, u8_and_nat _ _ hxl (by omega), hba]
      have jI : (j : Int) < 2 * (N : Int) := by omega
      clear HJ hba hx hk
      go_wp2_with fail
      go_roundw
      case rel => exact ⟨j + 1, hlt, by go_num, HX.out _ rfl, HK.out _⟩
      case measure => simp [intOf]; omega
    · have hj' : j = 2 * N := by omega
      subst hj'
      have HX : Hid (∀ t : Nat, s / 2 = t → SK p N (hv c) (s / 2) D (wr.setCell ⟨p, 2, none⟩ (.int .i64 (t : Nat)))) := by
        rintro t rfl
        exact ⟨HF.out, g, HJ.halved.setSum (s / 2)⟩
      have HK : Hid (∀ u, Keeps D w1 (wr.setCell ⟨p, 2, none⟩ u)) := fun u => hk.setCell HR.out.1 u
      obtain ⟨t, ht⟩ : ∃ t, s / 2 = t := ⟨_, rfl⟩
      have htI : (s : Int) / 2 = (t : Int) := by omega
      have HT : Hid (s / 2 = t) := ht
      clear HJ hk ht hge
      go_wp2_with fail
      go_end0
      exact ⟨rfl, HX.out t HT.out, HK.out _⟩
theorem halve_any (H : SK p N c s D w) :
    Calls Try.prog 55 #[.pointer (some ⟨p, 0, none⟩)] w fun e w' => e = .returned (.tuple #[]) ∧ SK p N (hv c) (s / 2) D w' ∧ Keeps D w w' := by
  obtain ⟨f, g, H⟩ := H
  exact halve_in H f.lo f.hi f.cell (by have := f.sum; omega)
end
end Go.Proofs.Ytcphhlfbjkeikaa.Sk
