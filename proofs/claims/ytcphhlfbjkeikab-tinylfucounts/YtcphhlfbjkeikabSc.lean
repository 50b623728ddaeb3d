/- The program's sketch: how many cells a row has, New, whether it is blank, half, cell, raise, Sum. -/
import Derived.Test.YtcphhlfbjkeikabSb
namespace Go.Proofs.Ytcphhlfbjkeikab.Sk
open Go.RowKit

theorem width_any (r : Int) (w : World) (h0 : -9223372036854775808 ≤ r) (h1 : r ≤ 9223372036854775807) :
    Calls Try.prog 59 #[.int .i64 r] w fun e w' => e = .returned (.int .i64 (wd r : Nat)) ∧ w' = w := by
  go_enter Try.func59, Try.ntmps59
  go_wp2
  go_loop [3] (fun i => ∃ n : Nat, i = .int .i64 n ∧ Wd r n) (fun i => 1024 - (intOf i).toNat)
  case atStart => exact ⟨8, rfl, .inl rfl⟩
  case round =>
    obtain ⟨n, rfl, hW⟩ := hrel
    have HW : Hid (Wd r n) := hW
    obtain ⟨n0, n1⟩ := hW.le
    clear hW
    by_cases hr : r ≤ 1024
    · by_cases hn : (n : Int) < r
      · go_wp2
        go_round
        case rel => exact ⟨2 * n, by go_num, HW.out.next hn (by omega)⟩
        case measure => simp [intOf]; omega
      · go_wp2
        go_ret
        exact ⟨ret_int (by rw [← HW.out.end (.inl (by omega))]), rfl⟩
    · have hr' : (1024 : Int) < r := by omega
      have hr2 : ¬ (r < (1024 : Int)) := by omega
      by_cases hn : (n : Int) < 1024
      · go_wp2
        go_round
        case rel => exact ⟨2 * n, by go_num, HW.out.next (by omega) (by omega)⟩
        case measure => simp [intOf]; omega
      · go_wp2
        go_ret
        exact ⟨ret_int (by rw [← HW.out.end (.inr (by omega))]), rfl⟩
theorem half_any (i : Nat) (hi : i ≤ 1000000) (w : World) :
    Calls Try.prog 81 #[.int .i64 (i : Nat)] w fun e w' => e = .returned (.int .i64 ((i % 2 * 4 : Nat) : Int)) ∧ w' = w := by
  go_enter Try.func81, Try.ntmps81
  go_wp2
  go_ret
  exact ⟨ret_int (by omega), rfl⟩
theorem blank_nil (w : World) : Calls Try.prog 64 #[.pointer none] w fun e w' => e = .returned (.bool true) ∧ w' = w := by
  go_enter Try.func64, Try.ntmps64
  go_wp2
  go_ret
  exact ⟨rfl, rfl⟩
section
variable {D : Nat → Prop} {w : World} {p g N : Nat} {c : Nat → Nat} {s : Nat}
theorem blank_any (H : SkIn D w p g N c s) (hN : 8 ≤ N) : Calls Try.prog 64 #[.pointer (some ⟨p, 0, none⟩)] w fun e w' => e = .returned (.bool false) ∧ w' = w := by
  obtain ⟨c0, -⟩ := H.top
  have hN' : ((N : Int) == 0) = false := by simp; omega
  clear H
  go_enter Try.func64, Try.ntmps64
  go_wp2
  go_ret
  exact ⟨rfl, rfl⟩
theorem info5 : (Try.prog.info? 5).map (fun i => (i.zero, i.size, i.bytes)) = some (some (.int .u8 0), 1, 1) := by kernel_rfl
theorem info3 : (Try.prog.info? 3).map (fun i => (i.zero, i.size, i.bytes)) = some (some (.int .i64 0), 1, 8) := by kernel_rfl
theorem sum_any (H : SK p N c s D w) : Calls Try.prog 43 #[.pointer (some ⟨p, 0, none⟩)] w fun e w' => e = .returned (.int .i64 (s : Nat)) ∧ w' = w := by
  obtain ⟨f, g, H⟩ := H
  obtain ⟨c0, c1, c2, -⟩ := H.top
  have hb := blank_any H f.lo
  clear H f
  go_enter Try.func43, Try.ntmps43
  go_wp2_with (go_at_call 64; refine hb.mono ?_; rintro e w1 ⟨rfl, rfl⟩)
  go_ret
  exact ⟨rfl, rfl⟩
theorem sk_made (hD : ∀ k, w.heap.size ≤ k → D k) :
    SkIn D ((w.alloc (.cells (u8s (fun _ => 0) (2 * N)).toArray 5)).alloc (.cells #[.int .i64 (N : Nat), .slice (some ⟨w.heap.size, 0, none⟩) (2 * N) (2 * N), .int .i64 0] 94)) (w.heap.size + 1) w.heap.size N (fun _ => 0) 0 := by
  have h := heap_alloc_new (w.alloc (.cells (u8s (fun _ => 0) (2 * N)).toArray 5)) (.cells #[.int .i64 (N : Nat), .slice (some ⟨w.heap.size, 0, none⟩) (2 * N) (2 * N), .int .i64 0] 94)
  rw [World.size_alloc] at h
  refine ⟨hD _ (by omega), hD _ (Nat.le_refl _), by omega, h, ?_⟩
  rw [Below.heap_alloc _ _ _ (by simp)]
  exact heap_alloc_new _ _
theorem new_any (r : Int) (h0 : -9223372036854775808 ≤ r) (h1 : r ≤ 9223372036854775807) (hD : ∀ k, w.heap.size ≤ k → D k) :
    Calls Try.prog 40 #[.int .i64 r] w fun e w' => ∃ p, e = .returned (.pointer (some ⟨p, 0, none⟩)) ∧ SK p (wd r) (fun _ => 0) 0 D w' ∧ Keeps D w w' := by
  obtain ⟨w0, w1⟩ := wd_le r
  have hw := width_any r w h0 h1
  generalize wd r = N at w0 w1 hw ⊢
  have hmk := run_make_row' (P := Try.prog) 58 5 (.int .u8 0) 1 Try.underlying58 info5 rfl .i64 .i64 (2 * N) (by omega) (by omega)
  rw [show ((2 * N : Nat) : Int) = 4 * (N : Int) / 2 by omega, u8s_made] at hmk
  go_enter Try.func40, Try.ntmps40
  go_wp2_with (go_at_call 59; refine hw.mono ?_; rintro e w1 ⟨rfl, rfl⟩)
  go_ret
  exact ⟨_, rfl, ⟨⟨w0, by assumption, fun _ => Nat.zero_le _, by omega⟩, _, sk_made hD⟩, ((Keeps.refl D _).alloc _).alloc _⟩
end
end Go.Proofs.Ytcphhlfbjkeikab.Sk
