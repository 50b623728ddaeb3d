/- An engine as the machine of chapter 14: Evict; what the laws read of it. -/
import Derived.Test.YtcphhlfbjkeikabGreatEj
namespace Go.Proofs.YtcphhlfbjkeikabGreat
open Go.RowKit

section
variable {D : Nat → Prop} {w : World} {e : Nat} {s : Stt} {m : ByteArray → Option Ix.Sp} {z : Dk}
set_option maxHeartbeats 2000000 in
theorem evict_at {p q : List Nat} {i : Nat} {x : ByteArray} {r : List ByteArray} {s' : Stt} (H : MA e z s m D w) (hD : ∀ k, w.heap.size ≤ k → D k) (hpq : [1, 2, 0] = p ++ i :: q) (hp : ∀ j ∈ p, qs s j = []) (hq : qs s i = x :: r) (hs : ∀ j, j < 3 → qs s' j = A.cut (qs s j) x) (hc : s'.c = s.c) :
    Calls Tryz.prog 32 #[.pointer (some ⟨e, 0, none⟩)] w fun ee w' => ee = .returned (.tuple #[.string x, .bool true]) ∧ MB e z s' D w' ∧ Keeps D w w' := by
  have HE : Hid (MA e z s m D w) := H
  have HD : Hid (∀ k, w.heap.size ≤ k → D k) := hD
  have HU : Hid ((∀ j, j < 3 → qs s' j = A.cut (qs s j) x) ∧ s'.c = s.c) := ⟨hs, hc⟩
  have heo := H.cells.2.2.2.1
  have hfst : ∃ h, m x = some (i, h) ∧ Calls Tryz.prog 51 #[.pointer (some ⟨e, 0, none⟩), .slice (some ⟨w.heap.size, 0, none⟩) 3 3] (w.alloc (.cells #[.int .i64 1, .int .i64 2, .int .i64 0] 3)) fun ee w' => ee = .returned (.tuple #[Ix.V (i, h), .bool true]) ∧ Below (w.alloc (.cells #[.int .i64 1, .int .i64 2, .int .i64 0] 3)).heap.size (w.alloc (.cells #[.int .i64 1, .int .i64 2, .int .i64 0] 3)) w' := by
    have h3 : IntsAt (w.alloc (.cells #[.int .i64 1, .int .i64 2, .int .i64 0] 3)) w.heap.size [1, 2, 0] := ints_three w 1 2 0
    rw [hpq] at h3
    have hl : (p ++ i :: q).length = 3 := by rw [← hpq]; rfl
    obtain ⟨h, h1, h2⟩ := first_at (k := x) (r := r) (H.below ((Below.refl _ w).alloc (Nat.le_refl _) (.cells #[.int .i64 1, .int .i64 2, .int .i64 0] 3))) h3 (by rw [← hpq]; simp) (by omega) hp hq
    rw [hl] at h2
    exact ⟨h, h1, h2⟩
  obtain ⟨h, hm, hfst⟩ := hfst
  have HM : Hid (m x = some (i, h)) := hm
  clear H hD hpq hp hq hs hc hm
  go_enter Tryz.func32, Tryz.ntmps32
  go_wp2_with (first
    | (go_at_call 34; refine (blank_any HE.out).mono ?_; rintro ee w1 ⟨rfl, rfl⟩)
    | (go_at_call 51; refine Calls.mono hfst ?_; clear hfst; rintro ee w2 ⟨rfl, hb2⟩; have HB2 : Hid (Below w1.heap.size w1 (w2.alloc (.cells #[.int .i64 (i : Nat), .int .i64 (h : Nat)] 44))) := (below_trans ((Below.refl _ w1).alloc (Nat.le_refl _) _) hb2).alloc (below_trans ((Below.refl _ w1).alloc (Nat.le_refl _) (.cells #[.int .i64 1, .int .i64 2, .int .i64 0] 3)) hb2).size _; clear hb2)
    | (go_at_call 61; refine (drop_any (HE.out.below HB2.out) (fun k hk => HD.out k (Nat.le_trans HB2.out.size hk)) (by omega) HM.out).mono ?_; rintro ee w4 ⟨rfl, h4, hk4⟩; have H4 : Hid (MB e z s' D w4) := ⟨_, by unfold MA; rw [HU.out.2]; exact h4.congr HU.out.1⟩; clear h4))
  go_ret2
  exact ⟨rfl, H4.out, (Keeps.of_below HB2.out).trans hk4⟩
set_option maxHeartbeats 2000000 in
theorem evict_none (H : MA e z s m D w) (h : ∀ j ∈ [1, 2, 0], qs s j = []) :
    Calls Tryz.prog 32 #[.pointer (some ⟨e, 0, none⟩)] w fun ee w' => ee = .returned (.tuple #[.string ⟨#[]⟩, .bool false]) ∧ Below w.heap.size w w' := by
  have HE : Hid (MA e z s m D w) := H
  have heo := H.cells.2.2.2.1
  have hfst : Calls Tryz.prog 51 #[.pointer (some ⟨e, 0, none⟩), .slice (some ⟨w.heap.size, 0, none⟩) 3 3] (w.alloc (.cells #[.int .i64 1, .int .i64 2, .int .i64 0] 3)) fun ee w' => ee = .returned (.tuple #[Ix.V (0, 0), .bool false]) ∧ Below (w.alloc (.cells #[.int .i64 1, .int .i64 2, .int .i64 0] 3)).heap.size (w.alloc (.cells #[.int .i64 1, .int .i64 2, .int .i64 0] 3)) w' := by
    have h3 : IntsAt (w.alloc (.cells #[.int .i64 1, .int .i64 2, .int .i64 0] 3)) w.heap.size [1, 2, 0] := ints_three w 1 2 0
    have h4 : ∀ j ∈ [1, 2, 0], j < 3 := by simp
    obtain ⟨is, his⟩ : ∃ is : List Nat, is = [1, 2, 0] := ⟨_, rfl⟩
    have hl : is.length = 3 := by rw [his]; rfl
    rw [← his] at h3 h4 h
    have h2 := first_none (H.below ((Below.refl _ w).alloc (Nat.le_refl _) (.cells #[.int .i64 1, .int .i64 2, .int .i64 0] 3))) h3 h4 (by omega) h
    rw [hl] at h2
    exact h2
  clear H h
  go_enter Tryz.func32, Tryz.ntmps32
  go_wp2_with (first
    | (go_at_call 34; refine (blank_any HE.out).mono ?_; rintro ee w1 ⟨rfl, rfl⟩)
    | (go_at_call 51; refine Calls.mono hfst ?_; clear hfst; rintro ee w2 ⟨rfl, hb2⟩; have HB2 : Hid (Below w1.heap.size w1 (w2.alloc (.cells #[.int .i64 0, .int .i64 0] 44))) := (below_trans ((Below.refl _ w1).alloc (Nat.le_refl _) _) hb2).alloc (below_trans ((Below.refl _ w1).alloc (Nat.le_refl _) (.cells #[.int .i64 1, .int .i64 2, .int .i64 0] 3)) hb2).size _; clear hb2))
  go_ret2
  exact ⟨rfl, HB2.out⟩
theorem rows_cut {x : ByteArray} {i : Nat} {r : List ByteArray} {s' : Stt} (ho : Single s) (hi : i < 3) (hq : qs s i = x :: r) (h : ∀ j, j < 3 → qs s' j = if j = i then r else qs s j) : ∀ j, j < 3 → qs s' j = A.cut (qs s j) x := by
  intro j hj
  rw [h j hj]
  have h0 := ho x
  have hcnt : ∀ j, j < 3 → j ≠ i → x ∉ qs s j := by
    have hx : x ∈ qs s i := by rw [hq]; simp
    have hp := (ho.out (k := x))
    intro j hj hne hxj
    have e1 : i = 0 ∨ i = 1 ∨ i = 2 := by omega
    have e2 : j = 0 ∨ j = 1 ∨ j = 2 := by omega
    rcases e1 with e1 | e1 | e1 <;> subst e1 <;> rcases e2 with e2 | e2 | e2 <;> subst e2
    · omega
    · exact (hp.1 hx).2 hxj
    · exact (hp.1 hx).1 hxj
    · exact (hp.2.2 hx).1 hxj
    · omega
    · exact (hp.2.2 hx).2 hxj
    · exact (hp.2.1 hx).1 hxj
    · exact (hp.2.1 hx).2 hxj
    · omega
  by_cases e : j = i
  · subst e
    rw [if_pos rfl, hq]
    refine (A.cut_head (fun k => ?_)).symm
    have h1 := ho k
    have e1 : j = 0 ∨ j = 1 ∨ j = 2 := by omega
    rcases e1 with e1 | e1 | e1 <;> subst e1
    · have hq' : s.t1 = x :: r := hq
      rw [hq'] at h1; omega
    · have hq' : s.b1 = x :: r := hq
      rw [hq'] at h1; omega
    · have hq' : s.t2 = x :: r := hq
      rw [hq'] at h1; omega
  · rw [if_neg e, A.cut_same (hcnt j hj e)]
theorem evictM (H : MA e z s m D w) (hok : A.Ok s) (hD : ∀ k, w.heap.size ≤ k → D k) :
    Calls Tryz.prog 32 #[.pointer (some ⟨e, 0, none⟩)] w fun ee w' => ee = .returned (wentV (A.evict s).1) ∧ MB e z (A.evict s).2 D w' ∧ Keeps D w w' := by
  have ho := Single.of hok
  unfold A.evict
  cases hb : s.b1 with
  | cons x r =>
    exact evict_at (p := []) (q := [2, 0]) (i := 1) (x := x) (r := r) (s' := { s with b1 := r }) H hD rfl (by simp) hb (rows_cut (i := 1) (r := r) ho (by omega) hb (three (by simp [qs]) (by simp [qs]) (by simp [qs]))) rfl
  | nil =>
    simp only
    cases hp : s.t2 with
    | cons x r =>
      refine evict_at (p := [1]) (q := [0]) (i := 2) (x := x) (r := r) (s' := { s with b1 := [], t2 := r }) H hD rfl (by simp [qs, hb]) hp (rows_cut (i := 2) (r := r) ho (by omega) hp (three (by simp [qs]) (by simp [qs, hb]) (by simp [qs]))) rfl
    | nil =>
      simp only
      cases ht : s.t1 with
      | cons x r =>
        refine evict_at (p := [1, 2]) (q := []) (i := 0) (x := x) (r := r) (s' := { s with t1 := r, b1 := [], t2 := [] }) H hD rfl (by simp [qs, hb, hp]) ht (rows_cut (i := 0) (r := r) ho (by omega) ht (three (by simp [qs]) (by simp [qs, hb]) (by simp [qs, hp]))) rfl
      | nil =>
        refine (evict_none H (by simp [qs, hb, hp, ht])).mono ?_
        rintro ee w' ⟨rfl, hb1⟩
        exact ⟨rfl, ⟨_, H.below hb1⟩, .of_below hb1⟩
end
end Go.Proofs.YtcphhlfbjkeikabGreat
