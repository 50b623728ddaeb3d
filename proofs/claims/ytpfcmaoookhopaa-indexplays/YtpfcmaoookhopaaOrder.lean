/- The order of texts, as the program asks it. -/
import Derived.Test.YtpfcmaoookhopaaSmall
import Derived.Laws.Cover1
namespace Go.Proofs.Ytpfcmaoookhopaa
open Go.RowKit

theorem less_rows (x : List UInt8) : ∀ y : List UInt8, Op.bytesLess x y = decide (x < y) := by
  induction x with
  | nil => intro y; cases y <;> simp [Op.bytesLess]
  | cons a x ih =>
    intro y
    cases y with
    | nil => simp [Op.bytesLess]
    | cons b y =>
      rw [Op.bytesLess, ih y]
      by_cases h1 : a < b
      · simp [h1, List.cons_lt_cons_iff]
      · by_cases h2 : a = b
        · subst h2; simp
        · simp [h1, h2, List.cons_lt_cons_iff]
theorem less_bts (x y : ByteArray) : Op.bytesLess x.toList y.toList = decide (bts x < bts y) := by
  rw [less_rows, ByteArray.toList_eq, ByteArray.toList_eq]
  rfl
end Go.Proofs.Ytpfcmaoookhopaa
