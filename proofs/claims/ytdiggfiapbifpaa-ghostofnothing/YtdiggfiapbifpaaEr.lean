/- A nil ghost. -/
import Derived.Test.YtdiggfiapbifpaaEq
namespace Go.Proofs.Ytdiggfiapbifpaa
open Go.RowKit

theorem add_nil (k : ByteArray) (w : World) : Calls Try.prog 10 #[.pointer none, .string k] w fun ee w' => ee = .returned (.tuple #[.string ⟨#[]⟩, .bool false]) ∧ w' = w := by
  go_enter Try.func10, Try.ntmps10
  go_wp2
  go_ret2
  exact ⟨rfl, rfl⟩
theorem take_nil (k : ByteArray) (w : World) : Calls Try.prog 12 #[.pointer none, .string k] w fun ee w' => ee = .returned (.bool false) ∧ w' = w := by
  go_enter Try.func12, Try.ntmps12
  go_wp2
  go_ret
  exact ⟨rfl, rfl⟩
theorem has_nil (k : ByteArray) (w : World) : Calls Try.prog 14 #[.pointer none, .string k] w fun ee w' => ee = .returned (.bool false) ∧ w' = w := by
  go_enter Try.func14, Try.ntmps14
  go_wp2
  go_ret
  exact ⟨rfl, rfl⟩
theorem keys_nil (w : World) : Calls Try.prog 18 #[.pointer none] w fun ee w' => ee = .returned (.slice none 0 0) ∧ w' = w := by
  go_enter Try.func18, Try.ntmps18
  go_wp2
  go_ret
  exact ⟨rfl, rfl⟩
theorem len_nil (w : World) : Calls Try.prog 16 #[.pointer none] w fun ee w' => ee = .returned (.int .i64 0) ∧ w' = w := by
  go_enter Try.func16, Try.ntmps16
  go_wp2
  go_ret
  exact ⟨rfl, rfl⟩
end Go.Proofs.Ytdiggfiapbifpaa
