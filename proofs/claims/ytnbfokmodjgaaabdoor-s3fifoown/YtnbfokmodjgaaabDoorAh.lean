/- hoardlaw12.has; an engine's Has. -/
import Derived.Test.YtnbfokmodjgaaabDoorAg
namespace Go.Proofs.YtnbfokmodjgaaabDoor
open Go.RowKit

/-- whether a key is in a row -/
def inb (key : ByteArray) (zs : List ByteArray) : Bool := decide (0 < A.cnt key zs)
theorem inb_yes {key : ByteArray} {zs : List ByteArray} (h : key ∈ zs) : inb key zs = true := by
  unfold inb
  rw [decide_eq_true_eq]
  exact A.cnt_pos.2 h
theorem inb_no {key : ByteArray} {zs : List ByteArray} (h : key ∉ zs) : inb key zs = false := by
  unfold inb
  rw [decide_eq_false_iff_not, A.cnt_zero.2 h]
  omega
set_option maxRecDepth 20000 in
set_option maxHeartbeats 1000000 in
theorem lhas_any {w : World} {ad : Option Addr} {cap : Nat} {zs : List ByteArray} (h : RowIn Value.string w ad zs) (hm : zs.length ≤ maxLen) (key : ByteArray) :
    Calls Tryd.prog 22 #[.slice ad zs.length cap, .string key] w fun e w' => e = .returned (.bool (inb key zs)) ∧ w' = w := by
  have hm' : zs.length ≤ 9223372036854775807 := by unfold maxLen at hm; omega
  have HD : Hid _ := h
  clear h hm
  go_enter Tryd.func22, Tryd.ntmps22
  go_wp2
  go_loop [5] (fun i => ∃ k : Nat, k ≤ zs.length ∧ i = .int .i64 k ∧ key ∉ zs.take k) (fun i => zs.length - (intOf i).toNat)
  case atStart => exact ⟨0, Nat.zero_le _, rfl, by simp⟩
  case round =>
    obtain ⟨k, hk, rfl, hL⟩ := hrel
    have HL : Hid (key ∉ zs.take k) := hL
    clear hL
    rcases Nat.lt_or_ge k zs.length with hlt | hge
    · obtain ⟨z, hz⟩ : ∃ z, zs[k]? = some z := ⟨_, List.getElem?_eq_getElem hlt⟩
      obtain ⟨g, off, rfl, c0⟩ := RowIn.at HD.out hz
      have HZ : Hid (zs[k]? = some z) := hz
      clear hz
      by_cases hs : z = key
      · have heq : (z.toList == key.toList) = true := by rw [hs]; simp
        have HM : Hid (key ∈ zs) := by show key ∈ zs; rw [← hs]; exact List.mem_of_getElem? HZ.out
        clear hs
        go_wp2
        go_ret
        exact ⟨by rw [inb_yes HM.out]; rfl, rfl⟩
      · have hne : (z.toList == key.toList) = false := by rw [texts_beq]; simpa using hs
        have HN : Hid (¬ z = key) := hs
        clear hs
        go_wp2
        go_round
        case rel =>
          refine ⟨k + 1, hlt, by go_num, ?_⟩
          rw [List.take_add_one, HZ.out]
          simp
          exact ⟨HL.out, fun e => HN.out e.symm⟩
        case measure => simp [intOf]; omega
    · have HN : Hid (key ∉ zs) := by
        have h := HL.out
        rw [List.take_of_length_le hge] at h
        exact h
      go_wp2
      go_ret
      exact ⟨by rw [inb_no HN.out]; rfl, rfl⟩
section
variable {D : Nat → Prop} {w w' : World} {e b : Nat} {s : Stt}
set_option maxHeartbeats 1000000 in
theorem has_any (H : AE e b s D w) (hb : b ≤ 800000) (key : ByteArray) (hk : key.size ≤ 1000) :
    Calls Tryd.prog 13 #[.pointer (some ⟨e, 0, none⟩), .string key] w fun ee w' => ee = .returned (.bool (inb key (A.keys s))) ∧ Below w.heap.size w w' := by
  obtain ⟨x, c6, hx⟩ := EN.get H (by omega) key hk
  have HE : Hid (AE e b s D w) := H
  have heo := (EN.cells H).2.2.2.1
  clear H
  rcases hx with ⟨hn, hf⟩ | ⟨i, h, hi, hin, hot, hf⟩
  · have HN : Hid (key ∉ A.keys s) := by
      show key ∉ A.keys s
      have h0 := hn 0 (by omega); have h1 := hn 1 (by omega)
      unfold A.keys
      rw [List.mem_append]
      exact fun h => h.elim h0 h1
    have HF : Hid _ := hf
    clear hn hf
    go_enter Tryd.func13, Tryd.ntmps13
    go_wp2_with (first
      | (go_at_call 29; refine (blank_any HE.out).mono ?_; rintro ee w1 ⟨rfl, rfl⟩)
      | (go_at_call 30; refine (HF.out _ (Below.refl _ _)).mono ?_; rintro ee w2 ⟨rfl, hb2⟩; have hb2' : Below w1.heap.size w1 (w2.alloc (.cells #[.int .i64 0, .int .i64 0] 47)) := hb2.alloc hb2.size _))
    go_ret
    exact ⟨by rw [inb_no HN.out]; rfl, hb2'⟩
  · have HK0 : (decide (i ≠ 2) = true) ↔ key ∈ A.keys s := by
      unfold A.keys
      rw [List.mem_append, decide_eq_true_eq]
      constructor
      · intro h2
        have : i = 0 ∨ i = 1 := by omega
        rcases this with e1 | e1 <;> subst e1
        · exact .inl hin
        · exact .inr hin
      · intro h2 h3
        subst h3
        rcases h2 with h4 | h4
        · exact hot 0 (by omega) (by omega) h4
        · exact hot 1 (by omega) (by omega) h4
    have HK : Hid (decide (((i, h) : Ix.Sp).1 ≠ 2) = inb key (A.keys s)) := by
      show decide (i ≠ 2) = inb key (A.keys s)
      by_cases hm : key ∈ A.keys s
      · rw [inb_yes hm]; exact HK0.2 hm
      · rw [inb_no hm]
        cases hd : decide (i ≠ 2) with
        | true => exact absurd (HK0.1 hd) hm
        | false => rfl
    have HF : Hid _ := hf
    clear hot hf hin HK0
    go_enter Tryd.func13, Tryd.ntmps13
    go_wp2_with (first
      | (go_at_call 29; refine (blank_any HE.out).mono ?_; rintro ee w1 ⟨rfl, rfl⟩)
      | (go_at_call 30; refine (HF.out _ (Below.refl _ _)).mono ?_; rintro ee w2 ⟨rfl, hb2⟩; have hb2' : Below w1.heap.size w1 (w2.alloc (.cells #[.int .i64 (i : Nat), .int .i64 (h : Nat)] 47)) := hb2.alloc hb2.size _)
      | (go_at_call 31; refine (resident_any (i, h)).mono ?_; rintro ee w3 ⟨rfl, hb3⟩; have hb3' := below_tr hb2' hb3))
    go_ret
    exact ⟨by rw [← HK.out]; exact congrArg (fun x => Ending.returned (Value.bool x)) decide_not.symm, hb3'⟩
end
end Go.Proofs.YtnbfokmodjgaaabDoor
