/- hoardlaw14.has; an engine's Has. -/
import Derived.Test.YtcphhlfbjkeikabGreatAg
namespace Go.Proofs.YtcphhlfbjkeikabGreat
open Go.RowKit

set_option maxRecDepth 20000 in
set_option maxHeartbeats 1000000 in
theorem lhas_any {w : World} {ad : Option Addr} {cap : Nat} {zs : List ByteArray} (h : RowIn Value.string w ad zs) (hm : zs.length ≤ maxLen) (key : ByteArray) :
    Calls Tryz.prog 9 #[.slice ad zs.length cap, .string key] w fun e w' => e = .returned (.bool (inb key zs)) ∧ w' = w := by
  have hm' : zs.length ≤ 9223372036854775807 := by unfold maxLen at hm; omega
  have HD : Hid _ := h
  clear h hm
  go_enter Tryz.func9, Tryz.ntmps9
  go_wp2
  go_loop [5] (fun i => ∃ k : Nat, k ≤ zs.length ∧ i = .int .i64 k ∧ key ∉ zs.take k) (fun i => zs.length - (intOf i).toNat)
  case atStart => exact ⟨0, Nat.zero_le _, rfl, by simp⟩
  case round =>
    obtain ⟨k, hk, rfl, hL⟩ := hrel
    have HL : Hid (key ∉ zs.take k) := hL
    clear hL
    rcases Nat.lt_or_ge k zs.length with hlt | hge
    · obtain ⟨z, hz⟩ : ∃ z, zs[k]? = some z := ⟨_, List.getElem?_eq_getElem hlt⟩
      obtain ⟨g, off, rfl, c0⟩ := RowIn.at HD.out hz
      have HZ : Hid (zs[k]? = some z) := hz
      clear hz
      by_cases hs : z = key
      · have heq : (z.toList == key.toList) = true := by rw [hs]; simp
        have HM : Hid (key ∈ zs) := by show key ∈ zs; rw [← hs]; exact List.mem_of_getElem? HZ.out
        clear hs
        go_wp2
        go_ret
        exact ⟨by rw [inb_yes HM.out]; rfl, rfl⟩
      · have hne : (z.toList == key.toList) = false := by rw [texts_beq]; simpa using hs
        have HN : Hid (¬ z = key) := hs
        clear hs
        go_wp2
        go_round
        case rel =>
          refine ⟨k + 1, hlt, by go_num, ?_⟩
          rw [List.take_add_one, HZ.out]
          simp
          exact ⟨HL.out, fun e => HN.out e.symm⟩
        case measure => simp [intOf]; omega
    · have HN : Hid (key ∉ zs) := by
        have h := HL.out
        rw [List.take_of_length_le hge] at h
        exact h
      go_wp2
      go_ret
      exact ⟨by rw [inb_no HN.out]; rfl, rfl⟩
end Go.Proofs.YtcphhlfbjkeikabGreat
