/- An engine as the machine of chapter 11: Load, Remove, Evict, Room. -/
import Derived.Test.YtnbfokmodjgaaabDoorAh
namespace Go.Proofs.YtnbfokmodjgaaabDoor
open Go.RowKit

section
variable {D : Nat → Prop} {w w' : World} {e b : Nat} {s : Stt}
theorem inb_iff {key : ByteArray} {zs : List ByteArray} : inb key zs = true ↔ key ∈ zs := by
  constructor
  · intro h
    rcases Classical.em (key ∈ zs) with h1 | h1
    · exact h1
    · rw [inb_no h1] at h; cases h
  · exact inb_yes
theorem room_any (H : AE e b s D w) : Calls Tryd.prog 18 #[.pointer (some ⟨e, 0, none⟩)] w fun ee w' => ee = .returned (.int .i64 (s.c : Nat)) ∧ w' = w := by
  have HE : Hid (AE e b s D w) := H
  obtain ⟨c0, c1, f1, heo, x, c6⟩ := EN.cells H
  clear H
  go_enter Tryd.func18, Tryd.ntmps18
  go_wp2_with (go_at_call 29; refine (blank_any HE.out).mono ?_; rintro ee w1 ⟨rfl, rfl⟩)
  go_ret
  exact ⟨rfl, rfl⟩
set_option maxHeartbeats 1000000 in
theorem load_any (H : AE e b s D w) (hok : A.Ok s) (hD : ∀ k, w.heap.size ≤ k → D k) (hb : b ≤ 600000) (key : ByteArray) (hk : key.size ≤ 1000) :
    Calls Tryd.prog 11 #[.pointer (some ⟨e, 0, none⟩), .string key] w fun ee w' => ee = .returned (.bool (A.load s key).1) ∧ AE e (b + 1) (A.load s key).2 D w' ∧ Keeps D w w' := by
  have HE : Hid (AE e b s D w) := H
  have HD : Hid (∀ k, w.heap.size ≤ k → D k) := hD
  have hhas := has_any H (by omega) key hk
  have HSz : Hid (s.t1.length + s.t2.length + s.b1.length ≤ 2900) := Ok.sizes hok
  have hkl := A.keys_length s
  by_cases hin : key ∈ A.keys s
  · rw [A.load_no (.inl hin)]
    rw [inb_yes hin] at hhas
    clear H hD
    go_enter Tryd.func11, Tryd.ntmps11
    go_wp2_with (first
      | (go_at_call 29; refine (blank_any HE.out).mono ?_; rintro ee w1 ⟨rfl, rfl⟩)
      | (go_at_call 13; refine Calls.mono hhas ?_; clear hhas; rintro ee w2 ⟨rfl, hb2⟩))
    go_ret
    exact ⟨rfl, (HE.out.below hb2).more (Nat.le_succ b), .of_below hb2⟩
  · rw [inb_no hin] at hhas
    rcases Nat.lt_or_ge (A.keys s).length s.c with hl | hl
    · obtain ⟨-, h2, -⟩ := A.load_yes hok hin hl
      have e0 : A.load s key = (true, A.again (A.noGhost s key) key) := by
        unfold A.load
        rw [if_neg (by intro h3; rcases h3 with h3 | h3; exact hin h3; omega)]
      rw [e0] at h2 ⊢
      have hf : decide (s.c ≤ s.t1.length + s.t2.length) = false := by simp; omega
      have HL : Hid (∀ j, j < 3 → qs (A.again (A.noGhost s key) key) j = laid (qs s) key 1 j) := by
        show ∀ j, j < 3 → qs (A.again (A.noGhost s key) key) j = laid (qs s) key 1 j
        unfold A.keys at hin
        rw [List.mem_append] at hin
        exact laid_again (fun h => hin (.inl h)) (fun h => hin (.inr h))
      clear H hD h2 e0
      go_enter Tryd.func11, Tryd.ntmps11
      go_wp2_with (first
        | (go_at_call 29; refine (blank_any HE.out).mono ?_; rintro ee w1 ⟨rfl, rfl⟩)
        | (go_at_call 13; refine Calls.mono hhas ?_; clear hhas; rintro ee w2 ⟨rfl, hb2⟩; have hfull := fullA (HE.out.below hb2) (by omega); rw [hf] at hfull)
        | (go_at_call 36; refine Calls.mono hfull ?_; clear hfull; rintro ee w3 ⟨rfl, hb3⟩; have hb3' := below_tr hb2 hb3; have hlay := lay_to (HE.out.below hb3') (fun k h => HD.out k (Nat.le_trans hb3'.size h)) (by omega) HSz.out key hk 1 (by omega) HL.out rfl)
        | (go_at_call 34; refine Calls.mono hlay ?_; clear hlay; rintro ee w4 ⟨rfl, h4, hk4⟩))
      go_ret
      exact ⟨rfl, h4.more (Nat.le_succ b), (Keeps.of_below hb3').trans hk4⟩
    · rw [A.load_no (.inr hl)]
      have hf : decide (s.c ≤ s.t1.length + s.t2.length) = true := by simp; omega
      clear H hD
      go_enter Tryd.func11, Tryd.ntmps11
      go_wp2_with (first
        | (go_at_call 29; refine (blank_any HE.out).mono ?_; rintro ee w1 ⟨rfl, rfl⟩)
        | (go_at_call 13; refine Calls.mono hhas ?_; clear hhas; rintro ee w2 ⟨rfl, hb2⟩; have hfull := fullA (HE.out.below hb2) (by omega); rw [hf] at hfull)
        | (go_at_call 36; refine Calls.mono hfull ?_; clear hfull; rintro ee w3 ⟨rfl, hb3⟩; have hb3' := below_tr hb2 hb3))
      go_ret
      exact ⟨rfl, (HE.out.below hb3').more (Nat.le_succ b), .of_below hb3'⟩
set_option maxHeartbeats 1000000 in
theorem remove_any (H : AE e b s D w) (hok : A.Ok s) (hD : ∀ k, w.heap.size ≤ k → D k) (hb : b ≤ 600000) (key : ByteArray) (hk : key.size ≤ 1000) :
    Calls Tryd.prog 12 #[.pointer (some ⟨e, 0, none⟩), .string key] w fun ee w' => ee = .returned (.bool (A.remove s key).1) ∧ AE e b (A.remove s key).2 D w' ∧ Keeps D w w' := by
  have HE : Hid (AE e b s D w) := H
  have HD : Hid (∀ k, w.heap.size ≤ k → D k) := hD
  have hhas := has_any H (by omega) key hk
  by_cases hin : key ∈ A.keys s
  · rw [inb_yes hin] at hhas
    have e0 : A.remove s key = (true, A.gone s key) := by unfold A.remove; rw [if_pos hin]
    rw [e0]
    have HL : Hid (∀ j, j < 3 → qs (A.gone s key) j = A.less (qs s j) key) := by
      show ∀ j, j < 3 → qs (A.gone s key) j = A.less (qs s j) key
      have hb1 : key ∉ A.ks s.b1 := by
        have hout := (Single.of hok).out (k := key)
        unfold A.keys at hin
        rcases List.mem_append.1 hin with h | h
        · exact (hout.1 h).2
        · exact (hout.2.1 h).2
      refine three ?_ ?_ ?_
      · simp [qs, A.gone]
      · simp [qs, A.gone]
      · simp [qs, A.gone, less_same hb1]
    clear H hD e0
    go_enter Tryd.func12, Tryd.ntmps12
    go_wp2_with (first
      | (go_at_call 13; refine Calls.mono hhas ?_; clear hhas; rintro ee w2 ⟨rfl, hb2⟩; have htk := take_to (HE.out.below hb2) (fun k h => HD.out k (Nat.le_trans hb2.size h)) (by omega) key hk HL.out rfl)
      | (go_at_call 37; refine Calls.mono htk ?_; clear htk; rintro ee w4 ⟨rfl, h4, hk4⟩))
    go_ret
    exact ⟨rfl, h4, (Keeps.of_below hb2).trans hk4⟩
  · rw [inb_no hin] at hhas
    rw [A.rem_no hin]
    clear H hD
    go_enter Tryd.func12, Tryd.ntmps12
    go_wp2_with (go_at_call 13; refine Calls.mono hhas ?_; clear hhas; rintro ee w2 ⟨rfl, hb2⟩)
    go_ret
    exact ⟨rfl, HE.out.below hb2, .of_below hb2⟩
/-- what Evict answers: one that went, or nobody -/
def wentV (l : List ByteArray) : Value := match l with
  | [] => .tuple #[.string ⟨#[]⟩, .bool false]
  | g :: _ => .tuple #[.string g, .bool true]
set_option maxHeartbeats 1000000 in
theorem evictE_any (H : AE e b s D w) (hok : A.Ok s) (hD : ∀ k, w.heap.size ≤ k → D k) (hb : b ≤ 600000) :
    Calls Tryd.prog 10 #[.pointer (some ⟨e, 0, none⟩)] w fun ee w' => ee = .returned (wentV (A.evict s).1) ∧ AE e (b + 1) (A.evict s).2 D w' ∧ Keeps D w w' := by
  have HE : Hid (AE e b s D w) := H
  have HD : Hid (∀ k, w.heap.size ≤ k → D k) := hD
  have HO : Hid (Single s) := Single.of hok
  have hhi := hok.hi
  have HR : Hid (s.t1.length + s.t2.length ≤ 1024 ∧ s.b1.length ≤ 1100) := ⟨by have := hok.res; omega, by have := hok.out; unfold A.gmax at this; omega⟩
  have hlen := keys_any H (by omega)
  have hkl := A.keys_length s
  by_cases h0 : (A.keys s).length = 0
  · rw [A.evi_no h0]
    rw [h0] at hlen
    clear H hD
    go_enter Tryd.func10, Tryd.ntmps10
    go_wp2_with (go_at_call 17; refine Calls.mono hlen ?_; clear hlen; rintro ee w2 ⟨rfl, hb2⟩)
    go_ret2
    exact ⟨rfl, (HE.out.below hb2).more (Nat.le_succ b), .of_below hb2⟩
  · have e0 : A.evict s = A.goes s := by unfold A.evict; rw [if_neg h0]
    rw [e0]
    have hp : 0 < s.t1.length + s.t2.length := by omega
    obtain ⟨n, hn⟩ : ∃ n, n = (A.keys s).length := ⟨_, rfl⟩
    rw [← hn] at hlen h0
    clear H hD e0 hkl hn
    go_enter Tryd.func10, Tryd.ntmps10
    go_wp2_with (first
      | (go_at_call 17; refine Calls.mono hlen ?_; clear hlen; rintro ee w2 ⟨rfl, hb2⟩; have hev := evict_goes (HE.out.below hb2) HO.out (fun k h => HD.out k (Nat.le_trans hb2.size h)) (by omega) hhi (by have := HR.out.1; omega) HR.out.2 hp)
      | (go_at_call 35; refine Calls.mono hev ?_; clear hev; rintro ee w4 ⟨g, s', hg, rfl, h4, hk4⟩; have HG : Hid (A.goes s = ([g], s')) := hg; clear hg))
    go_ret2
    rw [HG.out]
    exact ⟨rfl, h4.more (Nat.le_succ b), (Keeps.of_below hb2).trans hk4⟩
end
end Go.Proofs.YtnbfokmodjgaaabDoor
