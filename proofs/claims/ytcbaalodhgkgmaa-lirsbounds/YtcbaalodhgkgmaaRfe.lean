/- The document's machine: prune. -/
import Derived.Test.YtcbaalodhgkgmaaRfd
namespace Go.Proofs.Ytcbaalodhgkgmaa
open Go.RowKit

section
variable {D D' : Nat → Prop} {w w' : World} {x : Nat} {s : Rs}
theorem tail_src {D : Nat → Prop} {w : World} {g off cap : Nat} {z : C.It} {r : List C.It} (h : C.Row D w (some ⟨g, off, none⟩) cap (z :: r)) : Src Try.prog 2 60 (.slice (if cap = 1 then some ⟨g, off, none⟩ else some ⟨g, off + 2, none⟩) r.length (cap - 1)) r.length (C.its r) w := by
  have hc := h.1
  rw [List.length_cons] at hc
  by_cases h1 : cap = 1
  · rw [if_pos h1]
    have e : r = [] := List.eq_nil_of_length_eq_zero (by omega)
    subst e h1
    exact (C.Row.bare (D := D) (w := w) (some ⟨g, off, none⟩)).src
  · rw [if_neg h1]
    have := (h.drop 1).src
    simpa using this
set_option maxHeartbeats 4000000 in
theorem rprune_any (H : RM x s D w) (hs : s.s.length ≤ 5000) (hD : ∀ k, w.heap.size ≤ k → D k) :
    Calls Try.prog 72 #[.pointer (some ⟨x, 0, none⟩)] w fun e w' => e = .returned (.tuple #[]) ∧ RM x { s with s := C.pr s.s } D w' ∧ Keeps D w w' := by
  have HD : Hid (∀ k, w.heap.size ≤ k → D k) := hD
  have HH : Hid (RM x s D w) := H
  clear H hD
  go_enter Try.func72, Try.ntmps72
  go_wp2_with fail
  go_loopg [] s.s.length (fun n wr => ∃ l : List C.It, n = l.length ∧ l.length ≤ 5000 ∧ C.pr s.s = C.pr l ∧ RM x { s with s := l } D wr ∧ Keeps D w wr)
  case atStart => exact ⟨s.s, rfl, hs, rfl, HH.out, Keeps.refl _ _⟩
  case round =>
    obtain ⟨l, rfl, hll, hpr, hA, hK⟩ := hrel
    have HP : Hid (C.pr s.s = C.pr l) := hpr
    have HA : Hid (RM x { s with s := l } D wr) := hA
    have HK : Hid (Keeps D w wr) := hK
    obtain ⟨L, a1, c1, a2, c2, hI⟩ := hA
    obtain ⟨d0, d1, d2⟩ := hI.cells
    obtain ⟨t0, t1, t2⟩ := hI.thaw
    dsimp only at d0 d1 d2
    have HI : Hid (ReIn D L wr x { s with s := l } a1 c1 a2 c2) := hI
    clear hpr hK hI
    cases l with
    | nil =>
      have HE : Hid (C.pr s.s = []) := HP.out
      rw [List.length_nil] at d0
      go_wp2_with fail
      exact ⟨rfl, .tuple #[], results_none rfl _ _ _, rfl, by rw [HE.out]; exact HA.out, HK.out⟩
    | cons z r =>
      have hr1 : C.Row (fun g => D g ∧ L g = 1) wr a1 c1 (z :: r) := HI.out.r1
      obtain ⟨g, off, rfl, -, -, k0, k1, -⟩ := hr1.at (i := 0) (z := z) rfl
      rw [Nat.zero_mul, Nat.add_zero] at k0 k1
      have hcl : r.length + 1 ≤ c1 := by have := hr1.1; simpa using this
      rw [List.length_cons] at d0
      by_cases he : z.n = 104
      · have hE : ((z.n : Int) == 104) = true := by simp; omega
        have HE : Hid (C.pr s.s = z :: r) := by
          show C.pr s.s = z :: r
          rw [HP.out, C.pr_stop he]
        clear he hr1
        go_wp2_with fail
        exact ⟨rfl, .tuple #[], results_none rfl _ _ _, rfl, by rw [HE.out]; exact HA.out, HK.out⟩
      · have hE : ((z.n : Int) == 104) = false := by simp; omega
        have HE : Hid (C.pr s.s = C.pr r) := by
          show C.pr s.s = C.pr r
          rw [HP.out, C.pr_step he]
        have HSrc : Hid (∀ W : World, Below wr.heap.size wr W → Src Try.prog 2 60 (.slice (if c1 = 1 then some ⟨g, off, none⟩ else some ⟨g, off + 2, none⟩) r.length (c1 - 1)) r.length (C.its r) W) := fun W hW => tail_src (hr1.below hW)
        clear he hr1
        have HB1 : Hid (Below wr.heap.size wr (wr.alloc (.cells #[] 73))) := (Below.refl _ wr).alloc (Nat.le_refl _) _
        have d0' : (wr.alloc (.cells #[] 73)).cell? ⟨x, 0, none⟩ = some (.slice (some ⟨g, off, none⟩) (r.length + 1) c1) := (HI.out.below HB1.out).cells.1
        have hrl : r.length ≤ 5000 := by simp at hll; omega
        have HDr : Hid (∀ k, wr.heap.size ≤ k → D k) := fun k h => HD.out k (Nat.le_trans HK.out.size h)
        go_wp2_with (at_builtin; go_must (refine C.wpList_append_row (D := fun g => wr.heap.size ≤ g) (zs := []) (ks := r) rfl _ _ rfl rfl (C.Row.bare _) rfl (HSrc.out _ HB1.out) (by simp; omega) ?_); intro a5 n5 w5 hr5 hk5; rw [List.nil_append] at hr5; have hb5 : Below wr.heap.size wr w5 := HB1.out.trans (hk5.below (by simp) (fun _ h => h)); have hr5' : C.Row (wr.heap.size ≤ ·) w5 a5 n5 r := hr5.old (by simp); have hnew := HA.out.new1 HDr.out hb5 hr5'; have HNew : Hid _ := hnew; obtain ⟨u0, u1, u2⟩ := (HI.out.below hb5).cells; obtain ⟨v0, v1, v2⟩ := (HI.out.below hb5).thaw; simp only [List.length_nil, Nat.zero_add]; clear hr5 hk5 hnew d0' hb5 hr5')
        all_goals
          go_roundg r.length
          case measure => simp
          case rel => exact ⟨r, rfl, hrl, HE.out, HNew.out.1, HK.out.trans HNew.out.2⟩
end
end Go.Proofs.Ytcbaalodhgkgmaa
