/- The law's own example: a draw, and noughts behind it. -/
import Derived.Test.YtdjbcjiobcpghaaWalks
namespace Go.Proofs.Ytdjbcjiobcpghaa
open Go.RowKit

theorem from_lit (w : World) : FromRow (w.alloc (.cells #[.int .u32 5] 25)) (some ⟨w.heap.size, 0, none⟩) 1 1 (([5] : List Int).map (Value.int .u32)) := by
  refine .inr ⟨_, rfl, rfl, fun j u hj => ?_, fun u hu => ?_⟩
  · match j, hj with
    | 0, hj => simp at hj; subst hj; simp [Addr.add]
  · simp at hu; subst hu; rfl

set_option maxHeartbeats 400000 in
theorem known_any (w : World) : Calls Try.prog 9 #[] w fun e w' => e = .returned (.bool true) ∧ Below w.heap.size w w' := by
  have hb0 : Below w.heap.size w (w.alloc (.cells #[.int .u32 5] 25)) := (Below.refl _ _).alloc (Nat.le_refl _) _
  have HB : Hid _ := hb0
  clear hb0
  go_enter Try.func9, Try.ntmps9
  go_wp2_with (first
    | (go_at_call 5; refine (new_any w.heap.size _ 1 1 [5] _ (by simp) (from_lit w) rfl (by omega)).mono ?_; rintro e w1 ⟨p, rfl, ht, hb⟩; replace HB : Hid _ := HB.out.trans hb; clear hb)
    | (go_at_call 8; refine (next_any (by assumption) (by omega) (by omega)).mono ?_; rintro e w2 ⟨rfl, ht, hb⟩; replace HB : Hid _ := HB.out.trans hb; clear hb)
    | (go_at_call 7; refine (taken_any (by assumption)).mono ?_; rintro e w2 ⟨rfl, rfl⟩)
    | (go_at_call 6; refine (left_any (by assumption)).mono ?_; rintro e w2 ⟨rfl, rfl⟩))
  go_ret
  exact ⟨rfl, HB⟩
end Go.Proofs.Ytdjbcjiobcpghaa
