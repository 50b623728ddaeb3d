/- 'known', which every law asks at its end, is true, and leaves the world as it was. -/
import Derived.Test.YtiogekddoikilaaWalks
namespace Go.Proofs.Ytiogekddoikilaa
open Go.RowKit

theorem plc_74 : plc 7 4 = 3 := by decide
theorem mix_0 (w : World) : Calls Try.prog 13 #[.int .u64 0] w fun e w' => e = .returned (.int .u64 0) ∧ w' = w := by
  have m0 := mix_any 0 w (by decide)
  rw [mx_0] at m0
  exact m0
theorem place_74 (w : World) : Calls Try.prog 15 #[.int .u64 7, .int .i64 4] w fun e w' => e = .returned (.int .i64 3) ∧ w' = w := by
  have p0 := place_any 7 4 w (by decide) (by decide) (by decide)
  rw [plc_74] at p0
  exact p0
theorem size_a : (ByteArray.mk #[97]).size = 1 := rfl
theorem data_a : (ByteArray.mk #[97]).data.toList = [97] := rfl
theorem hash_1 (w : World) : Calls Try.prog 11 #[.int .u64 1, .string (ByteArray.mk #[97])] w fun e w' => e = .returned (.int .u64 5718913436695043505) ∧ w' = w := by
  have a1 := hash_any 1 (ByteArray.mk #[97]) w (by decide) (by decide)
  rw [size_a, data_a, hsh_a1] at a1
  exact a1
theorem hash_2 (w : World) : Calls Try.prog 11 #[.int .u64 2, .string (ByteArray.mk #[97])] w fun e w' => e = .returned (.int .u64 9061604884836938622) ∧ w' = w := by
  have a1 := hash_any 2 (ByteArray.mk #[97]) w (by decide) (by decide)
  rw [size_a, data_a, hsh_a2] at a1
  exact a1
def hv (S : Int) : Int := if S = 1 then 5718913436695043505 else 9061604884836938622
theorem hv_1 : hv 1 = 5718913436695043505 := rfl
theorem hv_2 : hv 2 = 9061604884836938622 := rfl
theorem hash_n (S : Int) (w : World) (h : S = 1 ∨ S = 2) : Calls Try.prog 11 #[.int .u64 S, .string (ByteArray.mk #[97])] w fun e w' => e = .returned (.int .u64 (hv S)) ∧ w' = w := by
  rcases h with rfl | rfl
  · rw [hv_1]; exact hash_1 w
  · rw [hv_2]; exact hash_2 w
theorem known_any (w : World) : Calls Try.prog 10 #[] w fun e w' => e = .returned (.bool true) ∧ w' = w := by
  have hne : (hv 1 != hv 2) = true := by rw [hv_1, hv_2]; decide
  go_enter Try.func10, Try.ntmps10
  go_wp2_with (first | (go_at_call 13; refine (mix_0 _).mono ?_; rintro e w' ⟨rfl, rfl⟩) | (go_at_call 15; refine (place_74 _).mono ?_; rintro e w' ⟨rfl, rfl⟩) | (go_at_call 11; refine (hash_n _ _ (by decide)).mono ?_; rintro e w' ⟨rfl, rfl⟩))
  go_ret
  exact ⟨rfl, rfl⟩

end Go.Proofs.Ytiogekddoikilaa
