/- The program's door: how many bits there are, New, whether it is blank, a bit within its word. -/
import Derived.Test.YtcphhlfbjkeikaaDc
namespace Go.Proofs.Ytcphhlfbjkeikaa.Dr
open Go.RowKit

theorem bitsFor_any (r : Int) (w : World) (h0 : -9223372036854775808 ≤ r) (h1 : r ≤ 9223372036854775807) :
    Calls Try.prog 27 #[.int .i64 r] w fun e w' => e = .returned (.int .i64 ((64 * nw r : Nat) : Int)) ∧ w' = w := by
  go_enter Try.func27, Try.ntmps27
  go_wp2
  go_loop [3] (fun i => ∃ n : Nat, i = .int .i64 ((64 * n : Nat) : Int) ∧ Wn r n) (fun i => 8192 - (intOf i).toNat)
  case atStart => exact ⟨1, rfl, .inl rfl⟩
  case round =>
    obtain ⟨n, rfl, hW⟩ := hrel
    have HW : Hid (Wn r n) := hW
    obtain ⟨n0, n1⟩ := hW.le
    clear hW
    have e8 : ((64 * n : Nat) : Int) / 8 = 8 * (n : Int) := by omega
    obtain ⟨m, hm⟩ : ∃ m, 64 * n = m := ⟨_, rfl⟩
    rw [hm] at e8 ⊢
    have HM : Hid (64 * n = m) := hm
    have m1 : m ≤ 8192 := by omega
    have m0 : 64 ≤ m := by omega
    clear hm
    by_cases hr : r ≤ 1024
    · by_cases hn : 8 * (n : Int) < r
      · go_wp2
        go_round
        case rel => exact ⟨2 * n, by have := HM.out; go_num, HW.out.next hn (by omega)⟩
        case measure => have := HM.out; simp [intOf]; omega
      · go_wp2
        go_ret
        exact ⟨ret_int (by rw [← HW.out.end (.inl (by omega))]; have := HM.out; omega), rfl⟩
    · have hr' : (1024 : Int) < r := by omega
      have hr2 : ¬ (r < (1024 : Int)) := by omega
      by_cases hn : 8 * (n : Int) < 1024
      · go_wp2
        go_round
        case rel => exact ⟨2 * n, by have := HM.out; go_num, HW.out.next (by omega) (by omega)⟩
        case measure => have := HM.out; simp [intOf]; omega
      · go_wp2
        go_ret
        exact ⟨ret_int (by rw [← HW.out.end (.inr (by omega))]; have := HM.out; omega), rfl⟩
theorem mask_any (a : Nat) (ha : a ≤ 1000000) (w : World) :
    Calls Try.prog 49 #[.int .i64 (a : Nat)] w fun e w' => e = .returned (.int .u64 ((2 ^ (a % 64) : Nat) : Int)) ∧ w' = w := by
  have hp := two_pow_lt a
  have e : IntKind.u64.wrap (2 ^ (a % 64)) = ((2 ^ (a % 64) : Nat) : Int) := by
    rw [IntKind.wrap_u64, show ((2 : Int) ^ (a % 64)) = ((2 ^ (a % 64) : Nat) : Int) by simp]
    generalize 2 ^ (a % 64) = y at *
    omega
  generalize 2 ^ (a % 64) = y at e hp ⊢
  go_enter Try.func49, Try.ntmps49
  go_wp2
  go_ret
  exact ⟨ret_int e, rfl⟩
theorem blank_nil (w : World) : Calls Try.prog 46 #[.pointer none] w fun e w' => e = .returned (.bool true) ∧ w' = w := by
  go_enter Try.func46, Try.ntmps46
  go_wp2
  go_ret
  exact ⟨rfl, rfl⟩
theorem info41 : (Try.prog.info? 38).map (fun i => (i.zero, i.size, i.bytes)) = some (some (.int .u64 0), 1, 8) := by kernel_rfl
theorem info4 : (Try.prog.info? 4).map (fun i => (i.zero, i.size, i.bytes)) = some (some (.bool false), 1, 1) := by kernel_rfl
section
variable {D : Nat → Prop} {w : World} {p g K : Nat} {v : Nat → Nat}
theorem blank_any (H : DrIn D w p g K v) (hK : 1 ≤ K) : Calls Try.prog 46 #[.pointer (some ⟨p, 0, none⟩)] w fun e w' => e = .returned (.bool false) ∧ w' = w := by
  obtain ⟨c0, -⟩ := H.top
  have hK' : ((K : Int) == 0) = false := by simp; omega
  clear H
  go_enter Try.func46, Try.ntmps46
  go_wp2
  go_ret
  exact ⟨rfl, rfl⟩
theorem dr_made (hD : ∀ k, w.heap.size ≤ k → D k) :
    DrIn D ((w.alloc (.cells (u64s (fun _ => 0) K).toArray 38)).alloc (.cells #[.slice (some ⟨w.heap.size, 0, none⟩) K K] 62)) (w.heap.size + 1) w.heap.size K (fun _ => 0) := by
  have h := heap_alloc_new (w.alloc (.cells (u64s (fun _ => 0) K).toArray 38)) (.cells #[.slice (some ⟨w.heap.size, 0, none⟩) K K] 62)
  rw [World.size_alloc] at h
  refine ⟨hD _ (by omega), hD _ (Nat.le_refl _), by omega, h, ?_⟩
  rw [Below.heap_alloc _ _ _ (by simp)]
  exact heap_alloc_new _ _
theorem new_any (r : Int) (h0 : -9223372036854775808 ≤ r) (h1 : r ≤ 9223372036854775807) (hD : ∀ k, w.heap.size ≤ k → D k) :
    Calls Try.prog 13 #[.int .i64 r] w fun e w' => ∃ p, e = .returned (.pointer (some ⟨p, 0, none⟩)) ∧ DR p (nw r) (fun _ => false) D w' ∧ Keeps D w w' := by
  obtain ⟨w0, w1⟩ := nw_le r
  have hw := bitsFor_any r w h0 h1
  generalize nw r = K at w0 w1 hw ⊢
  have hmk := run_make_row' (P := Try.prog) 60 38 (.int .u64 0) 8 Try.underlying60 info41 rfl .i64 .i64 K (by omega) (by omega)
  rw [u64s_made] at hmk
  have e64 : ((64 * K : Nat) : Int) / 64 = (K : Int) := by omega
  obtain ⟨m, hm⟩ : ∃ m, 64 * K = m := ⟨_, rfl⟩
  rw [hm] at hw e64
  have m1 : m ≤ 8192 := by omega
  clear hm
  go_enter Try.func13, Try.ntmps13
  go_wp2_with (go_at_call 27; refine hw.mono ?_; rintro e w1 ⟨rfl, rfl⟩)
  go_ret
  exact ⟨_, rfl, ⟨_, ⟨w0, by assumption, fun _ => by omega⟩, funext bt_zero, _, dr_made hD⟩, ((Keeps.refl D _).alloc _).alloc _⟩
end
end Go.Proofs.Ytcphhlfbjkeikaa.Dr
