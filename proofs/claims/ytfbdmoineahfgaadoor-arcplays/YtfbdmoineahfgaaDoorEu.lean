/- An engine as the machine of chapter 10: Load, Remove, Evict, Room. -/
import Derived.Test.YtfbdmoineahfgaaDoorAh
import Derived.Test.YtfbdmoineahfgaaDoorEh
import Derived.Deep.LoopGhost
namespace Go.Proofs.YtfbdmoineahfgaaDoor
open Go.RowKit

section
variable {D : Nat → Prop} {w w' : World} {e b : Nat} {s : Stt}
theorem inb_iff {key : ByteArray} {zs : List ByteArray} : inb key zs = true ↔ key ∈ zs := by
  constructor
  · intro h
    rcases Classical.em (key ∈ zs) with h1 | h1
    · exact h1
    · rw [inb_no h1] at h; cases h
  · exact inb_yes
theorem room_any (H : AE e b s D w) : Calls Tryd.prog 22 #[.pointer (some ⟨e, 0, none⟩)] w fun ee w' => ee = .returned (.int .i64 (s.c : Nat)) ∧ w' = w := by
  have HE : Hid (AE e b s D w) := H
  obtain ⟨c0, -⟩ := EN.cells H
  clear H
  go_enter Tryd.func22, Tryd.ntmps22
  go_wp2_with (go_at_call 41; refine (blank_any HE.out).mono ?_; rintro ee w1 ⟨rfl, rfl⟩)
  go_ret
  exact ⟨rfl, rfl⟩
theorem lenK (H : AE e b s D w) (hb : b ≤ 900000) : Calls Tryd.prog 15 #[.pointer (some ⟨e, 0, none⟩)] w fun ee w' => ee = .returned (.int .i64 ((A.keys s).length : Nat)) ∧ Below w.heap.size w w' := by
  have := len_any H hb
  rw [A.keys_length]
  exact this
theorem drop_b1 (H : AE e b s D w) (ho : Single s) (hD : ∀ k, w.heap.size ≤ k → D k) (hb : b ≤ 900000) {k : ByteArray} {r : List ByteArray} (hq : s.b1 = k :: r) :
    Calls Tryd.prog 57 #[.pointer (some ⟨e, 0, none⟩), .int .i64 2] w fun ee w' => ee = .returned (.string k) ∧ AE e b { s with b1 := r } D w' ∧ Keeps D w w' := by
  refine (drop_any (i := 2) H hD hb (by omega) (show qs s 2 = k :: r from hq)).mono ?_
  rintro ee w' ⟨h1, h2, hk⟩
  exact ⟨h1, EN.congr h2 ((tail_qs ho).2.1 hq), hk⟩
theorem drop_b2 (H : AE e b s D w) (ho : Single s) (hD : ∀ k, w.heap.size ≤ k → D k) (hb : b ≤ 900000) {k : ByteArray} {r : List ByteArray} (hq : s.b2 = k :: r) :
    Calls Tryd.prog 57 #[.pointer (some ⟨e, 0, none⟩), .int .i64 3] w fun ee w' => ee = .returned (.string k) ∧ AE e b { s with b2 := r } D w' ∧ Keeps D w w' := by
  refine (drop_any (i := 3) H hD hb (by omega) (show qs s 3 = k :: r from hq)).mono ?_
  rintro ee w' ⟨h1, h2, hk⟩
  exact ⟨h1, EN.congr h2 ((tail_qs ho).2.2 hq), hk⟩
theorem single_b1 (ho : Single s) (n : Nat) : Single { s with b1 := s.b1.drop n } := by
  intro k
  have h1 := ho k
  have h2 := A.drop_cnt k s.b1 n
  show A.cnt k s.t1 + A.cnt k s.t2 + A.cnt k (s.b1.drop n) + A.cnt k s.b2 ≤ 1
  omega
theorem single_b2 (ho : Single s) (n : Nat) : Single { s with b2 := s.b2.drop n } := by
  intro k
  have h1 := ho k
  have h2 := A.drop_cnt k s.b2 n
  show A.cnt k s.t1 + A.cnt k s.t2 + A.cnt k s.b1 + A.cnt k (s.b2.drop n) ≤ 1
  omega
theorem drop_more {l : List ByteArray} {j : Nat} {x : ByteArray} {rest : List ByteArray} (h : l.drop j = x :: rest) : rest = l.drop (j + 1) := by
  have : (l.drop j).drop 1 = rest := by rw [h]; rfl
  rw [← this, List.drop_drop]
theorem drop_some {l : List ByteArray} {j : Nat} (h : j < l.length) : ∃ x rest, l.drop j = x :: rest := by
  cases hx : l.drop j with
  | nil => have := congrArg List.length hx; simp at this; omega
  | cons x rest => exact ⟨x, rest, rfl⟩
theorem comes_single {key : ByteArray} (ho : Single s) (h1 : key ∉ s.t1) (h2 : key ∉ s.t2) : Single (A.comes s key) := by
  intro k
  have h := ho k
  have e1 := A.cnt_zero.2 h1
  have e2 := A.cnt_zero.2 h2
  show A.cnt k (s.t1 ++ [key]) + A.cnt k s.t2 + A.cnt k (A.cut s.b1 key) + A.cnt k (A.cut s.b2 key) ≤ 1
  rw [A.cnt_snoc, A.cnt_cut, A.cnt_cut]
  by_cases e : k = key
  · subst e
    rw [A.one_self]
    simp
    omega
  · rw [A.one_ne (Ne.symm e)]
    simp [e]
    omega
theorem laid_comes {key : ByteArray} (h1 : key ∉ s.t1) (h2 : key ∉ s.t2) : ∀ j, j < 4 → qs (A.comes s key) j = laid (qs s) key 0 j := by
  refine four ?_ ?_ ?_ ?_
  · simp [qs, laid, A.comes, A.cut_same h1]
  · simp [qs, laid, A.comes, A.cut_same h2]
  · simp [qs, laid, A.comes]
  · simp [qs, laid, A.comes]
end
end Go.Proofs.YtfbdmoineahfgaaDoor
