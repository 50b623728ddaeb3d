/- heavy: whether acts are more than is looked at. -/
import Derived.Test.YtgpjdcoikbmciaaAct
namespace Go.Proofs.Ytgpjdcoikbmciaa
open Go.RowKit

def IsBool (e : Ending) : Prop := ∃ b, e = .returned (.bool b)
set_option maxRecDepth 20000 in
set_option maxHeartbeats 1000000 in
theorem heavy_any {w : World} {ad : Option Addr} {cap : Nat} {zs : List Deed} (h : DeedsIn w ad zs) (hm : zs.length ≤ maxLen) (hs : ∀ z ∈ zs, z.s.size ≤ maxLen) :
    Calls Try.prog 9 #[.slice ad zs.length cap] w fun e w' => IsBool e ∧ w' = w := by
  have hm' : zs.length ≤ 9223372036854775807 := by unfold maxLen at hm; omega
  have HD : Hid _ := h
  have HS : Hid _ := hs
  clear h hm hs
  go_enter Try.func9, Try.ntmps9
  go_wp2
  go_loop [3] (fun i => ∃ k : Nat, k ≤ zs.length ∧ i = .int .i64 k) (fun i => zs.length - (intOf i).toNat)
  case atStart => exact ⟨0, Nat.zero_le _, rfl⟩
  case round =>
    obtain ⟨k, hk, rfl⟩ := hrel
    rcases Nat.lt_or_ge k zs.length with hlt | hge
    · by_cases h150 : k < 150
      · obtain ⟨z, hz⟩ : ∃ z, zs[k]? = some z := ⟨_, List.getElem?_eq_getElem hlt⟩
        obtain ⟨g, off, rfl, c0, c1, c2⟩ := DeedsIn.at HD.out hz
        have hsz : z.s.size ≤ 9223372036854775807 := by have := HS.out z (List.mem_of_getElem? hz); unfold maxLen at this; omega
        have h150' : (k : Int) < 150 := by omega
        clear hz
        go_wp2
        · go_ret
          exact ⟨⟨_, rfl⟩, rfl⟩
        · go_round
          case rel => exact ⟨k + 1, hlt, by go_num⟩
          case measure => simp [intOf]; omega
      · have h150' : ¬ ((k : Int) < 150) := by omega
        go_wp2
        go_ret
        exact ⟨⟨_, rfl⟩, rfl⟩
    · go_wp2
      go_ret
      exact ⟨⟨_, rfl⟩, rfl⟩
end Go.Proofs.Ytgpjdcoikbmciaa
