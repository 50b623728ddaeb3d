/- The program's door: Clear, Ones; a nil one; known. -/
import Derived.Test.YtcphhlfbjkeikabDh
namespace Go.Proofs.Ytcphhlfbjkeikab.Dr
open Go.RowKit

section
variable {D : Nat → Prop} {w : World} {p K : Nat} {b : Nat → Bool}
theorem zero_fits {v : Nat → Nat} (f : Fit K v) : Fit K (fun _ => 0) := ⟨f.lo, f.hi, fun _ => by omega⟩
theorem DrIn.cleared {g : Nat} {v : Nat → Nat} (H : DrIn D w p g K (clr v K)) : DrIn D w p g K (fun _ => 0) := H.ext (fun i hi => by unfold clr; rw [if_pos hi])
set_option maxHeartbeats 1000000 in
theorem clear_any (H : DR p K b D w) :
    Calls Try.prog 45 #[.pointer (some ⟨p, 0, none⟩)] w fun e w' => e = .returned (.tuple #[]) ∧ DR p K (fun _ => false) D w' ∧ Keeps D w w' := by
  obtain ⟨v, f, rfl, g, H⟩ := H
  have hbl := blank_any H f.lo
  obtain ⟨c0, -⟩ := H.top
  have HH : Hid (DrIn D w p g K v) := H
  have HF : Hid (Fit K v) := f
  have hlo := f.lo
  have hhi := f.hi
  clear H f
  go_enter Try.func45, Try.ntmps45
  go_wp2_with (go_at_call 60; refine hbl.mono ?_; rintro e w1 ⟨rfl, rfl⟩)
  clear hbl c0
  go_loopw [10] (fun i wr => ∃ j : Nat, j ≤ K ∧ i = .int .i64 j ∧ DrIn D wr p g K (clr v j) ∧ Keeps D w1 wr) (fun i _ => K - (intOf i).toNat)
  case atStart => exact ⟨0, Nat.zero_le _, rfl, by rw [clr_zero]; exact HH.out, Keeps.refl _ _⟩
  case round =>
    obtain ⟨j, hj, rfl, HJ, hk⟩ := hrel
    obtain ⟨c0, -⟩ := HJ.top
    have HR : Hid (DrIn D wr p g K (clr v j)) := HJ
    have HK : Hid (Keeps D w1 wr) := hk
    rcases Nat.lt_or_ge j K with hlt | hge
    · obtain ⟨b0, e0⟩ := HJ.at hlt
      have HX : Hid (DrIn D (wr.setCell ⟨g, j, none⟩ (.int .u64 0)) p g K (clr v (j + 1))) := HR.out.set (u64s_clr v K j)
      have HKX : Hid (∀ u, Keeps D w1 (wr.setCell ⟨g, j, none⟩ u)) := fun u => HK.out.setCell HR.out.2.1 u
      have jI : (j : Int) < (K : Int) := by omega
      clear HJ hk
      go_wp2_with fail
      go_roundw
      case rel => exact ⟨j + 1, hlt, by go_num, HX.out, HKX.out _⟩
      case measure => simp [intOf]; omega
    · have hj' : j = K := by omega
      subst hj'
      clear HJ hk hge
      go_wp2_with fail
      go_end0
      exact ⟨rfl, ⟨_, zero_fits HF.out, funext bt_zero, g, HR.out.cleared⟩, HK.out⟩
end
end Go.Proofs.Ytcphhlfbjkeikab.Dr
