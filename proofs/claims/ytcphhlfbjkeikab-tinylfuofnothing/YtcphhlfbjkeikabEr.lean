/- An engine that isn't there. -/
import Derived.Test.YtcphhlfbjkeikabEq
namespace Go.Proofs.Ytcphhlfbjkeikab
open Go.RowKit

theorem blank_nil (w : World) : Calls Try.prog 22 #[.pointer none] w fun ee w' => ee = .returned (.bool true) ∧ w' = w := by
  go_enter Try.func22, Try.ntmps22
  go_wp2
  go_ret
  exact ⟨rfl, rfl⟩
theorem access_nil (k : ByteArray) (w : World) : Calls Try.prog 7 #[.pointer none, .string k] w fun ee w' => ee = .returned (.tuple #[.bool false, .slice none 0 0]) ∧ w' = w := by
  go_enter Try.func7, Try.ntmps7
  go_wp2_with (go_at_call 22; refine (blank_nil _).mono ?_; rintro ee w1 ⟨rfl, rfl⟩)
  go_ret2
  exact ⟨rfl, rfl⟩
theorem len_nil (w : World) : Calls Try.prog 15 #[.pointer none] w fun ee w' => ee = .returned (.int .i64 0) ∧ w' = w := by
  go_enter Try.func15, Try.ntmps15
  go_wp2_with (go_at_call 22; refine (blank_nil _).mono ?_; rintro ee w1 ⟨rfl, rfl⟩)
  go_ret
  exact ⟨rfl, rfl⟩
theorem has_nil (k : ByteArray) (w : World) : Calls Try.prog 11 #[.pointer none, .string k] w fun ee w' => ee = .returned (.bool false) ∧ w' = w := by
  go_enter Try.func11, Try.ntmps11
  go_wp2_with (go_at_call 22; refine (blank_nil _).mono ?_; rintro ee w1 ⟨rfl, rfl⟩)
  go_ret
  exact ⟨rfl, rfl⟩
theorem load_nil (k : ByteArray) (w : World) : Calls Try.prog 9 #[.pointer none, .string k] w fun ee w' => ee = .returned (.bool false) ∧ Below w.heap.size w w' := by
  go_enter Try.func9, Try.ntmps9
  go_wp2_with fail
  go_quiet (first | (go_at_call 22; exact Calls.quiet_of_same (blank_nil _)))
  go_wp2
  go_ret
  exact ⟨rfl, below_drewN (Below.refl _ w) _⟩
theorem remove_nil (k : ByteArray) (w : World) : Calls Try.prog 10 #[.pointer none, .string k] w fun ee w' => ee = .returned (.bool false) ∧ w' = w := by
  go_enter Try.func10, Try.ntmps10
  go_wp2_with (go_at_call 22; refine (blank_nil _).mono ?_; rintro ee w1 ⟨rfl, rfl⟩)
  go_ret
  exact ⟨rfl, rfl⟩
theorem evict_nil (w : World) : Calls Try.prog 8 #[.pointer none] w fun ee w' => ee = .returned (.tuple #[.string ⟨#[]⟩, .bool false]) ∧ w' = w := by
  go_enter Try.func8, Try.ntmps8
  go_wp2_with (go_at_call 22; refine (blank_nil _).mono ?_; rintro ee w1 ⟨rfl, rfl⟩)
  go_ret2
  exact ⟨rfl, rfl⟩
theorem keys_nil (w : World) : Calls Try.prog 12 #[.pointer none] w fun ee w' => ee = .returned (.slice none 0 0) ∧ w' = w := by
  go_enter Try.func12, Try.ntmps12
  go_wp2_with (go_at_call 22; refine (blank_nil _).mono ?_; rintro ee w1 ⟨rfl, rfl⟩)
  go_ret
  exact ⟨rfl, rfl⟩
theorem ghosts_nil (w : World) : Calls Try.prog 13 #[.pointer none] w fun ee w' => ee = .returned (.slice none 0 0) ∧ w' = w := by
  go_enter Try.func13, Try.ntmps13
  go_wp2_with (go_at_call 22; refine (blank_nil _).mono ?_; rintro ee w1 ⟨rfl, rfl⟩)
  go_ret
  exact ⟨rfl, rfl⟩
theorem state_nil (w : World) : Calls Try.prog 14 #[.pointer none] w fun ee w' => ee = .returned (.string ⟨#[]⟩) ∧ w' = w := by
  go_enter Try.func14, Try.ntmps14
  go_wp2_with (go_at_call 22; refine (blank_nil _).mono ?_; rintro ee w1 ⟨rfl, rfl⟩)
  go_ret
  exact ⟨rfl, rfl⟩
theorem room_nil (w : World) : Calls Try.prog 16 #[.pointer none] w fun ee w' => ee = .returned (.int .i64 0) ∧ w' = w := by
  go_enter Try.func16, Try.ntmps16
  go_wp2_with (go_at_call 22; refine (blank_nil _).mono ?_; rintro ee w1 ⟨rfl, rfl⟩)
  go_ret
  exact ⟨rfl, rfl⟩
end Go.Proofs.Ytcphhlfbjkeikab
