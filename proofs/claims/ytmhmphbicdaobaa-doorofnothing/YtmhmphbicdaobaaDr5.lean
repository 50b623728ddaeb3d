/- The program's door: Clear, Ones; a nil one; known. -/
import Derived.Test.YtmhmphbicdaobaaDr4
namespace Go.Proofs.Ytmhmphbicdaobaa
open Go.RowKit

section
variable {D : Nat → Prop} {w : World} {p K : Nat} {b : Nat → Bool}
theorem zero_fits {v : Nat → Nat} (f : Fit K v) : Fit K (fun _ => 0) := ⟨f.lo, f.hi, fun _ => by omega⟩
theorem DrIn.cleared {g : Nat} {v : Nat → Nat} (H : DrIn D w p g K (clr v K)) : DrIn D w p g K (fun _ => 0) := H.ext (fun i hi => by unfold clr; rw [if_pos hi])
set_option maxHeartbeats 1000000 in
theorem clear_any (H : DR p K b D w) :
    Calls Try.prog 10 #[.pointer (some ⟨p, 0, none⟩)] w fun e w' => e = .returned (.tuple #[]) ∧ DR p K (fun _ => false) D w' ∧ Keeps D w w' := by
  obtain ⟨v, f, rfl, g, H⟩ := H
  have hbl := blank_any H f.lo
  obtain ⟨c0, -⟩ := H.top
  have HH : Hid (DrIn D w p g K v) := H
  have HF : Hid (Fit K v) := f
  have hlo := f.lo
  have hhi := f.hi
  clear H f
  go_enter Try.func10, Try.ntmps10
  go_wp2_with (go_at_call 21; refine hbl.mono ?_; rintro e w1 ⟨rfl, rfl⟩)
  clear hbl c0
  go_loopw [10] (fun i wr => ∃ j : Nat, j ≤ K ∧ i = .int .i64 j ∧ DrIn D wr p g K (clr v j) ∧ Keeps D w1 wr) (fun i _ => K - (intOf i).toNat)
  case atStart => exact ⟨0, Nat.zero_le _, rfl, by rw [clr_zero]; exact HH.out, Keeps.refl _ _⟩
  case round =>
    obtain ⟨j, hj, rfl, HJ, hk⟩ := hrel
    obtain ⟨c0, -⟩ := HJ.top
    have HR : Hid (DrIn D wr p g K (clr v j)) := HJ
    have HK : Hid (Keeps D w1 wr) := hk
    rcases Nat.lt_or_ge j K with hlt | hge
    · obtain ⟨b0, e0⟩ := HJ.at hlt
      have HX : Hid (DrIn D (wr.setCell ⟨g, j, none⟩ (.int .u64 0)) p g K (clr v (j + 1))) := HR.out.set (u64s_clr v K j)
      have HKX : Hid (∀ u, Keeps D w1 (wr.setCell ⟨g, j, none⟩ u)) := fun u => HK.out.setCell HR.out.2.1 u
      have jI : (j : Int) < (K : Int) := by omega
      clear HJ hk
      go_wp2_with fail
      go_roundw
      case rel => exact ⟨j + 1, hlt, by go_num, HX.out, HKX.out _⟩
      case measure => simp [intOf]; omega
    · have hj' : j = K := by omega
      subst hj'
      clear HJ hk hge
      go_wp2_with fail
      go_end0
      exact ⟨rfl, ⟨_, zero_fits HF.out, funext bt_zero, g, HR.out.cleared⟩, HK.out⟩
set_option maxHeartbeats 1000000 in
theorem ones_in (H : DR p K b D w) :
    Calls Try.prog 16 #[.pointer (some ⟨p, 0, none⟩)] w fun e w' => e = .returned (.int .i64 (cnt b (64 * K) : Nat)) ∧ w' = w := by
  obtain ⟨v, f, rfl, g, H⟩ := H
  have hbl := blank_any H f.lo
  obtain ⟨c0, -⟩ := H.top
  have HH : Hid (DrIn D w p g K v) := H
  have HF : Hid (Fit K v) := f
  have hlo := f.lo
  have hhi := f.hi
  clear H f
  go_enter Try.func16, Try.ntmps16
  go_wp2_with (go_at_call 21; refine hbl.mono ?_; rintro e w1 ⟨rfl, rfl⟩)
  clear hbl c0
  go_loop [3, 13] (fun n i => ∃ j : Nat, j ≤ K ∧ i = .int .i64 j ∧ n = .int .i64 (cnt (bt v) (64 * j) : Nat)) (fun _ i => K - (intOf i).toNat)
  case atStart => exact ⟨0, Nat.zero_le _, rfl, rfl⟩
  case round =>
    obtain ⟨j, hj, rfl, rfl⟩ := hrel
    rcases Nat.lt_or_ge j K with hlt | hge
    · obtain ⟨b0, -⟩ := HH.out.at hlt
      have hv := HF.out.word j
      have HW : Hid (cnt (bt v) (64 * (j + 1)) = cnt (bt v) (64 * j) + cnt (v j).testBit 64) := cnt_word v j
      have hc := cnt_le (bt v) (64 * j)
      have hc2 := cnt_le (v j).testBit 64
      have hon := fun W => ones_any (v j) hv W
      generalize cnt (bt v) (64 * j) = n at hc HW ⊢
      generalize cnt (v j).testBit 64 = m at hc2 HW hon
      generalize v j = V at b0 hv hon
      have hc' : n ≤ 8192 := by omega
      have jI : (j : Int) < (K : Int) := by omega
      clear hc
      go_wp2_with (go_at_call 26; refine (hon _).mono ?_; rintro e w2 ⟨rfl, rfl⟩)
      go_round
      case rel => exact ⟨j + 1, hlt, by go_num, by rw [HW.out]; rfl⟩
      case measure => simp [intOf]; omega
    · have hj' : j = K := by omega
      subst hj'
      go_wp2_with fail
      go_ret
      exact ⟨rfl, rfl⟩
end
theorem add_nil (k : ByteArray) (w : World) : Calls Try.prog 12 #[.pointer none, .string k] w fun e w' => e = .returned (.bool false) ∧ w' = w := by
  have hbl := blank_nil w
  go_enter Try.func12, Try.ntmps12
  go_wp2_with (go_at_call 21; refine hbl.mono ?_; rintro e w1 ⟨rfl, rfl⟩)
  go_ret
  exact ⟨rfl, rfl⟩
theorem clear_nil (w : World) : Calls Try.prog 10 #[.pointer none] w fun e w' => e = .returned (.tuple #[]) ∧ w' = w := by
  have hbl := blank_nil w
  go_enter Try.func10, Try.ntmps10
  go_wp2_with (go_at_call 21; refine hbl.mono ?_; rintro e w1 ⟨rfl, rfl⟩)
  exact bodyPost_ret (results_none rfl _ _ _) rfl ⟨rfl, rfl⟩
theorem has_nil (k : ByteArray) (w : World) : Calls Try.prog 14 #[.pointer none, .string k] w fun e w' => e = .returned (.bool false) ∧ w' = w := by
  have hbl := blank_nil w
  go_enter Try.func14, Try.ntmps14
  go_wp2_with (go_at_call 21; refine hbl.mono ?_; rintro e w1 ⟨rfl, rfl⟩)
  go_ret
  exact ⟨rfl, rfl⟩
theorem ones_nil (w : World) : Calls Try.prog 16 #[.pointer none] w fun e w' => e = .returned (.int .i64 0) ∧ w' = w := by
  have hbl := blank_nil w
  go_enter Try.func16, Try.ntmps16
  go_wp2_with (go_at_call 21; refine hbl.mono ?_; rintro e w1 ⟨rfl, rfl⟩)
  go_ret
  exact ⟨rfl, rfl⟩
def kA : ByteArray := ⟨#[97]⟩
theorem known_any (w : World) : Calls Try.prog 18 #[] w fun e w' => e = .returned (.bool true) ∧ Below w.heap.size w w' := by
  have q0 : has (fun _ => false) (64 * nw 1) kA = false := rfl
  have q1 := has_add (fun _ => false) (64 * nw 1) kA
  have q2 := add_same q1
  have q3 := cnt_add3 (fun _ => false) (64 * nw 1) kA (64 * nw 1)
  rw [cnt_none] at q3
  have HA := fun {D : Nat → Prop} {w : World} {p : Nat} (H : DR p (nw 1) (fun _ => false) D w) => add_any H kA (by decide)
  have HB := fun {D : Nat → Prop} {w : World} {p : Nat} (H : DR p (nw 1) (add (fun _ => false) (64 * nw 1) kA 3) D w) => add_any H kA (by decide)
  have HC := fun {D : Nat → Prop} {w : World} {p : Nat} (H : DR p (nw 1) (add (fun _ => false) (64 * nw 1) kA 3) D w) => has_any H kA (by decide)
  have HD := fun {D : Nat → Prop} {w : World} {p : Nat} (H : DR p (nw 1) (add (fun _ => false) (64 * nw 1) kA 3) D w) => ones_in H
  rw [q0] at HA
  rw [q1, q2] at HB
  rw [q1] at HC
  generalize cnt (add (fun _ => false) (64 * nw 1) kA 3) (64 * nw 1) = n at HD q3
  generalize add (fun _ => false) (64 * nw 1) kA 3 = b1 at HA HB HC HD
  clear q0 q1 q2
  have hn : decide ((n : Int) ≤ 3) = true := by simp; omega
  clear q3
  have HN := new_any (w := w) (D := (w.heap.size ≤ ·)) 1 (by omega) (by omega) (fun k h => h)
  generalize nw 1 = K at *
  go_enter Try.func18, Try.ntmps18
  go_wp2_with (first
    | (go_at_call 8; refine HN.mono ?_; rintro e w1 ⟨p, rfl, H1, hk1⟩; have s1 := hk1.size; clear HN)
    | (go_at_call 12; refine (HA H1).mono ?_; rintro e w2 ⟨rfl, H2, hk2⟩; have s2 := Nat.le_trans s1 hk2.size; clear H1)
    | (go_at_call 12; refine (HB H2).mono ?_; rintro e w3 ⟨rfl, H3, hk3⟩; have s3 := Nat.le_trans s2 hk3.size; clear H2)
    | (go_at_call 14; refine (HC H3).mono ?_; rintro e w4 ⟨rfl, hb4⟩; have H4 := H3.below hb4; clear H3)
    | (go_at_call 16; refine (HD H4).mono ?_; rintro e w5 ⟨rfl, rfl⟩))
  go_ret
  exact ⟨rfl, (((hk1.trans hk2).trans hk3).below (Nat.le_refl _) (fun k h => h)).trans (hb4.mono s3)⟩
end Go.Proofs.Ytmhmphbicdaobaa
