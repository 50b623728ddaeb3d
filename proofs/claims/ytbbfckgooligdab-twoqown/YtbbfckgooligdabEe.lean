/- An engine as the machine of chapter 11: who goes; reclaim. -/
import Derived.Test.YtbbfckgooligdabEd
import Derived.Deep.LoopGhost
namespace Go.Proofs.Ytbbfckgooligdab
open Go.RowKit

section
variable {D : Nat → Prop} {w w' : World} {e b : Nat} {s : Stt}
theorem count0 (H : AE e b s D w) : Calls Try.prog 42 #[.pointer (some ⟨e, 0, none⟩), .int .i64 0] w fun ee w' => ee = .returned (.int .i64 (s.t1.length : Nat)) ∧ w' = w := count_any H (i := 0) (by omega)
theorem count1 (H : AE e b s D w) : Calls Try.prog 42 #[.pointer (some ⟨e, 0, none⟩), .int .i64 1] w fun ee w' => ee = .returned (.int .i64 (s.b1.length : Nat)) ∧ w' = w := count_any H (i := 1) (by omega)
theorem count2 (H : AE e b s D w) : Calls Try.prog 42 #[.pointer (some ⟨e, 0, none⟩), .int .i64 2] w fun ee w' => ee = .returned (.int .i64 (s.t2.length : Nat)) ∧ w' = w := count_any H (i := 2) (by omega)
theorem kinA (H : AE e b s D w) (hc : s.c ≤ 1024) : Calls Try.prog 60 #[.pointer (some ⟨e, 0, none⟩)] w fun ee w' => ee = .returned (.int .i64 ((A.kin s : Nat) : Int)) ∧ w' = w := kin_any H hc
theorem koutA (H : AE e b s D w) (hc : s.c ≤ 1024) : Calls Try.prog 63 #[.pointer (some ⟨e, 0, none⟩)] w fun ee w' => ee = .returned (.int .i64 ((A.kout s : Nat) : Int)) ∧ w' = w := kout_any H hc
theorem late_is (s : Stt) : A.late s = true ↔ s.t1.length ≤ A.kin s ∧ 0 < s.t2.length := by unfold A.late; simp
set_option maxRecDepth 100000 in
set_option maxHeartbeats 1000000 in
theorem evict_late (H : AE e b s D w) (ho : Single s) (hD : ∀ k, w.heap.size ≤ k → D k) (hb : b ≤ 700000) (hc : s.c ≤ 1024) (hl : A.late s = true) {k : ByteArray} {r : List ByteArray} (hq : s.t2 = k :: r) :
    Calls Try.prog 36 #[.pointer (some ⟨e, 0, none⟩)] w fun ee w' => ee = .returned (.string k) ∧ AE e b { s with t2 := r } D w' ∧ Keeps D w w' := by
  obtain ⟨h1, h2⟩ := (late_is s).1 hl
  have hc0 := count0 H
  have hc2 := count2 H
  have hkin := kinA H hc
  have hdr := drop_am H ho hD (by omega) hq
  generalize s.t1.length = n1 at *
  generalize s.t2.length = n2 at *
  generalize A.kin s = ki at *
  clear H ho hD hl hq
  go_enter Try.func36, Try.ntmps36
  go_wp2_with (first
    | (go_at_call 42; refine Calls.mono hc0 ?_; clear hc0; rintro ee w1 ⟨rfl, rfl⟩)
    | (go_at_call 60; refine Calls.mono hkin ?_; clear hkin; rintro ee w1 ⟨rfl, rfl⟩)
    | (go_at_call 42; refine Calls.mono hc2 ?_; clear hc2; rintro ee w1 ⟨rfl, rfl⟩)
    | (go_at_call 61; refine Calls.mono hdr ?_; clear hdr; rintro ee w2 ⟨rfl, h3, hk3⟩))
  go_ret
  exact ⟨rfl, h3, hk3⟩
theorem drop_trim {l : List ByteArray} {j n : Nat} (h1 : j ≤ l.length - n) (h2 : l.length - j ≤ n) : l.drop j = A.trim n l := by
  unfold A.trim
  congr 1
  omega
theorem laid_ghost (ho : Single s) {k : ByteArray} {r : List ByteArray} (hq : s.t1 = k :: r) : ∀ i, i < 3 → qs { s with t1 := r, b1 := s.b1 ++ [k] } i = laid (qs s) k 1 i := by
  have hout := (ho.out (k := k)).1 (by rw [hq]; simp)
  have hc : A.cut (k :: r) k = r := A.cut_head (fun j => by have := ho j; rw [hq] at this; omega)
  refine three ?_ ?_ ?_
  · simp [qs, laid, hq, hc]
  · simp [qs, laid, A.cut_same hout.2]
  · simp [qs, laid, A.cut_same hout.1]
theorem single_drop {s : Stt} (ho : Single s) (l : List ByteArray) (n : Nat) (hl : s.b1 = l) : Single { s with b1 := l.drop n } := by
  intro k
  have h1 := ho k
  have h2 := A.drop_cnt k l n
  rw [hl] at h1
  show A.cnt k s.t1 + A.cnt k s.t2 + A.cnt k (l.drop n) ≤ 1
  omega
set_option maxRecDepth 100000 in
set_option maxHeartbeats 2000000 in
theorem evict_early (H : AE e b s D w) (ho : Single s) (hD : ∀ k, w.heap.size ≤ k → D k) (hb : b ≤ 700000) (hc : s.c ≤ 1024) (hl : A.late s = false) {k : ByteArray} {r : List ByteArray} (hq : s.t1 = k :: r) :
    Calls Try.prog 36 #[.pointer (some ⟨e, 0, none⟩)] w fun ee w' => ee = .returned (.string k) ∧ AE e (b + 1) { s with t1 := r, b1 := A.trim (A.kout s) (s.b1 ++ [k]) } D w' ∧ Keeps D w w' := by
  have hks : k.size ≤ 1000 := EN.size (i := 0) H (by omega) (by simp [qs, hq])
  have HE : Hid (AE e b s D w) := H
  have HD : Hid (∀ k, w.heap.size ≤ k → D k) := hD
  have HL : Hid (∀ i, i < 3 → qs { s with t1 := r, b1 := s.b1 ++ [k] } i = laid (qs s) k 1 i) := laid_ghost ho hq
  have HS : Hid (Single { s with t1 := r, b1 := s.b1 ++ [k] }) := by
    intro j
    have h1 := ho j
    rw [hq, A.cnt_cons] at h1
    show A.cnt j r + A.cnt j s.t2 + A.cnt j (s.b1 ++ [k]) ≤ 1
    rw [A.cnt_snoc]
    omega
  have hold := oldest_any (i := 0) H (by omega) (by omega) (k := k) (r := r) (by simp [qs, hq])
  have hcase : ¬ s.t1.length ≤ A.kin s ∨ (s.t1.length ≤ A.kin s ∧ s.t2.length = 0) := by
    by_cases h1 : s.t1.length ≤ A.kin s
    · refine .inr ⟨h1, ?_⟩
      by_cases h2 : 0 < s.t2.length
      · rw [(late_is s).2 ⟨h1, h2⟩] at hl; cases hl
      · omega
    · exact .inl h1
  have hbl : s.b1.length ≤ 700000 := Nat.le_trans (EN.lens H (i := 1) (by omega)) hb
  obtain ⟨L, hL⟩ : ∃ L, L = s.b1 ++ [k] := ⟨_, rfl⟩
  have hLl : L.length ≤ 700001 := by rw [hL]; simp; omega
  have hko : A.kout s ≤ 1024 := by unfold A.kout; omega
  have HLq : Hid (L = s.b1 ++ [k]) := hL
  have hc0 := count0 H
  have hc2 := count2 H
  have hkin := kinA H hc
  obtain ⟨ko, hkk⟩ : ∃ ko, ko = A.kout s := ⟨_, rfl⟩
  have HKo : Hid (ko = A.kout s) := hkk
  rw [← hkk] at hko
  clear H ho hD hl hL hkk
  rw [← HLq.out] at HL HS
  rw [← HKo.out, ← HLq.out]
  generalize s.t1.length = n1 at *
  generalize s.t2.length = n2 at *
  generalize A.kin s = ki at *
  clear hq
  rcases hcase with h1 | ⟨h1, h2⟩
  all_goals
    go_enter Try.func36, Try.ntmps36
    go_wp2_with (first
      | (go_at_call 42; refine Calls.mono hc0 ?_; clear hc0; rintro ee w1 ⟨rfl, rfl⟩)
      | (go_at_call 60; refine Calls.mono hkin ?_; clear hkin; rintro ee w1 ⟨rfl, rfl⟩)
      | (go_at_call 42; refine Calls.mono hc2 ?_; clear hc2; rintro ee w1 ⟨rfl, rfl⟩; rw [h2])
      | (go_at_call 62; refine Calls.mono hold ?_; clear hold; rintro ee w2 ⟨rfl, hb2⟩; have hlay := lay_to (HE.out.below hb2) (fun k h => HD.out k (Nat.le_trans hb2.size h)) (by omega) k hks 1 (by omega) HL.out rfl)
      | (go_at_call 35; refine Calls.mono hlay ?_; clear hlay; rintro ee w3 ⟨rfl, h3, hk3⟩; have H3 : Hid (AE e (b + 1) { s with t1 := r, b1 := L } D w3) := h3; have HK3 : Hid (Keeps D _ w3) := (Keeps.of_below hb2).trans hk3; clear h3 hk3 hb2))
    go_loopg [] (L.length) (fun n wr => ∃ j : Nat, n = L.length - j ∧ j ≤ L.length - ko ∧ AE e (b + 1) { s with t1 := r, b1 := L.drop j } D wr ∧ Keeps D w1 wr)
    case atStart => exact ⟨0, rfl, Nat.zero_le _, H3.out, HK3.out⟩
    case round =>
      obtain ⟨j, rfl, hj, hA, hK⟩ := hrel
      have HA : Hid (AE e (b + 1) { s with t1 := r, b1 := L.drop j } D wr) := hA
      have HK : Hid (Keeps D w1 wr) := hK
      have hc1 := count1 hA
      have hkout : Calls Try.prog 63 #[.pointer (some ⟨e, 0, none⟩)] wr fun ee w' => ee = .returned (.int .i64 ((ko : Nat) : Int)) ∧ w' = wr := by
        have := koutA hA hc
        rw [HKo.out]
        exact this
      rw [List.length_drop] at hc1
      by_cases hgt : ko < L.length - j
      · obtain ⟨x, rest, hx⟩ : ∃ x rest, L.drop j = x :: rest := by
          cases hx : L.drop j with
          | nil => have := congrArg List.length hx; simp at this; omega
          | cons x rest => exact ⟨x, rest, rfl⟩
        have hdr := drop_out hA (single_drop HS.out L j rfl) (fun k h => HD.out k (Nat.le_trans hK.size h)) (by omega) hx
        have hrest : rest = L.drop (j + 1) := by
          have : (L.drop j).drop 1 = rest := by rw [hx]; rfl
          rw [← this, List.drop_drop]
        rw [hrest] at hdr
        clear hx hrest hA hK
        go_wp2_with (first
          | (go_at_call 42; refine Calls.mono hc1 ?_; clear hc1; rintro ee w4 ⟨rfl, rfl⟩)
          | (go_at_call 63; refine Calls.mono hkout ?_; clear hkout; rintro ee w4 ⟨rfl, rfl⟩)
          | (go_at_call 61; refine Calls.mono hdr ?_; clear hdr; rintro ee w5 ⟨rfl, h5, hk5⟩; have H5 : Hid (AE e (b + 1) { s with t1 := r, b1 := L.drop (j + 1) } D w5) := h5; have HK5 : Hid (Keeps D w1 w5) := HK.out.trans hk5; clear h5 hk5))
        go_roundg (L.length - (j + 1))
        case measure => omega
        case rel => exact ⟨j + 1, rfl, by omega, H5.out, HK5.out⟩
      · clear hA hK
        go_wp2_with (first
          | (go_at_call 42; refine Calls.mono hc1 ?_; clear hc1; rintro ee w4 ⟨rfl, rfl⟩)
          | (go_at_call 63; refine Calls.mono hkout ?_; clear hkout; rintro ee w4 ⟨rfl, rfl⟩))
        go_ret
        refine ⟨rfl, ?_, HK.out⟩
        rw [← drop_trim hj (by omega)]
        exact HA.out
end
end Go.Proofs.Ytbbfckgooligdab
