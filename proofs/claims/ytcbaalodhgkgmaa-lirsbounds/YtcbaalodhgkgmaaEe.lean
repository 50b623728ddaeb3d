/- An engine as the machine of chapter 13: heat, layCold, demote, cool, drop, prune, forget. -/
import Derived.Test.YtcbaalodhgkgmaaEd
import Derived.Deep.LoopGhost
namespace Go.Proofs.Ytcbaalodhgkgmaa
open Go.RowKit

section
variable {D : Nat → Prop} {w w' : World} {e b : Nat} {s : Stt}
theorem lay_len (l : List ByteArray) (k : ByteArray) : (A.lay l k).length ≤ l.length + 1 := by
  unfold A.lay
  have := A.length_cut_le l k
  simp
  omega
set_option maxHeartbeats 1000000 in
theorem heat_any (H : AM e b s D w) (hD : ∀ k, w.heap.size ≤ k → D k) (k : ByteArray) (hk : k.size ≤ 1000) (hf : Few 19990 s) :
    Calls Try.prog 62 #[.pointer (some ⟨e, 0, none⟩), .string k] w fun ee w' => ee = .returned (.tuple #[]) ∧ AM e b (A.heat s k) D w' ∧ Keeps D w w' := by
  have h1 := lay_to (s' := ⟨A.lay s.t1 k, s.b1, s.t2, s.c⟩) H hD k hk 0 (by omega) (by unfold Few at *; omega) (three (by simp [qs, layAt, A.lay]) (by simp [qs, layAt]) (by simp [qs, layAt])) rfl
  have HD : Hid (∀ k, w.heap.size ≤ k → D k) := hD
  clear H hD
  go_enter Try.func62, Try.ntmps62
  go_wp2_with (first
    | (go_at_call 84; refine Calls.mono h1 ?_; clear h1; rintro ee w1 ⟨rfl, a1, k1⟩; have h2 := leave_to (s' := ⟨A.lay s.t1 k, A.cut s.b1 k, s.t2, s.c⟩) a1 (fun k h => HD.out k (Nat.le_trans k1.size h)) k hk 1 (by omega) (three (by simp [qs, cutAt]) (by simp [qs, cutAt]) (by simp [qs, cutAt])) rfl; clear a1)
    | (go_at_call 65; refine Calls.mono h2 ?_; clear h2; rintro ee w2 ⟨rfl, a2, k2⟩; have h3 := leave_to (s' := A.heat s k) a2 (fun k h => HD.out k (Nat.le_trans (k1.trans k2).size h)) k hk 2 (by omega) (three (by simp [qs, cutAt, A.heat]) (by simp [qs, cutAt, A.heat]) (by simp [qs, cutAt, A.heat])) rfl; clear a2)
    | (go_at_call 65; refine Calls.mono h3 ?_; clear h3; rintro ee w3 ⟨rfl, a3, k3⟩))
  go_end0
  exact ⟨rfl, a3, (k1.trans k2).trans k3⟩
set_option maxHeartbeats 1000000 in
theorem cold_lay (H : AM e b s D w) (hD : ∀ k, w.heap.size ≤ k → D k) (k : ByteArray) (hk : k.size ≤ 1000) (hf : Few 19990 s) :
    Calls Try.prog 63 #[.pointer (some ⟨e, 0, none⟩), .string k] w fun ee w' => ee = .returned (.tuple #[]) ∧ AM e b (A.layCold s k) D w' ∧ Keeps D w w' := by
  have h1 := lay_to (s' := ⟨A.lay s.t1 k, s.b1, s.t2, s.c⟩) H hD k hk 0 (by omega) (by unfold Few at *; omega) (three (by simp [qs, layAt, A.lay]) (by simp [qs, layAt]) (by simp [qs, layAt])) rfl
  have HD : Hid (∀ k, w.heap.size ≤ k → D k) := hD
  have HF : Hid (Few 19999 (⟨A.lay s.t1 k, s.b1, s.t2, s.c⟩ : Stt)) := by
    have := lay_len s.t1 k
    show Few 19999 (⟨A.lay s.t1 k, s.b1, s.t2, s.c⟩ : Stt)
    unfold Few at *
    simp only
    omega
  clear H hD hf
  go_enter Try.func63, Try.ntmps63
  go_wp2_with (first
    | (go_at_call 84; refine Calls.mono h1 ?_; clear h1; rintro ee w1 ⟨rfl, a1, k1⟩; have h2 := lay_to (s' := ⟨A.lay s.t1 k, A.lay s.b1 k, s.t2, s.c⟩) a1 (fun k h => HD.out k (Nat.le_trans k1.size h)) k hk 1 (by omega) HF.out (three (by simp [qs, layAt]) (by simp [qs, layAt, A.lay]) (by simp [qs, layAt])) rfl; clear a1)
    | (go_at_call 84; refine Calls.mono h2 ?_; clear h2; rintro ee w2 ⟨rfl, a2, k2⟩; have h3 := leave_to (s' := A.layCold s k) a2 (fun k h => HD.out k (Nat.le_trans (k1.trans k2).size h)) k hk 2 (by omega) (three (by simp [qs, cutAt, A.layCold]) (by simp [qs, cutAt, A.layCold]) (by simp [qs, cutAt, A.layCold])) rfl; clear a2)
    | (go_at_call 65; refine Calls.mono h3 ?_; clear h3; rintro ee w3 ⟨rfl, a3, k3⟩))
  go_end0
  exact ⟨rfl, a3, (k1.trans k2).trans k3⟩
set_option maxHeartbeats 1000000 in
theorem demote_any (H : AM e b s D w) (hB : A.Base s) (hD : ∀ k, w.heap.size ≤ k → D k) (hf : Few 19990 s) {k : ByteArray} {r : List ByteArray} (ht : s.t1 = k :: r) (hh : A.isHot s.b1 s.t2 k = true) :
    Calls Try.prog 82 #[.pointer (some ⟨e, 0, none⟩)] w fun ee w' => ee = .returned (.tuple #[]) ∧ AM e b (A.demote s) D w' ∧ Keeps D w w' := by
  have hk : k.size ≤ 1000 := H.size (.inl (by rw [ht]; simp))
  have hkq : k ∉ s.b1 := (A.isHot_iff.1 hh).1
  have hq0 := first0 H ht
  have HE : Hid (AM e b s D w) := H
  have HD : Hid (∀ k, w.heap.size ≤ k → D k) := hD
  have e0 : A.demote s = ⟨r, s.b1 ++ [k], s.t2, s.c⟩ := (A.demote_is hB ht hh).1
  rw [e0]
  have hcr : A.cut (k :: r) k = r := A.cut_head (by have := hB.ot; rw [ht] at this; exact this)
  have hl1 : ∀ j, j < 3 → qs (⟨s.t1, s.b1 ++ [k], s.t2, s.c⟩ : Stt) j = layAt (qs s) k 1 j := three (by simp [qs, layAt]) (by simp [qs, layAt, A.cut_same hkq]) (by simp [qs, layAt])
  have hl2 : ∀ j, j < 3 → qs (⟨r, s.b1 ++ [k], s.t2, s.c⟩ : Stt) j = cutAt (qs (⟨s.t1, s.b1 ++ [k], s.t2, s.c⟩ : Stt)) k 0 j := three (by simp [qs, cutAt, ht, hcr]) (by simp [qs, cutAt]) (by simp [qs, cutAt])
  have HL1 : Hid _ := hl1
  have HL2 : Hid _ := hl2
  have HF : Hid (Few 19999 s) := by
    show Few 19999 s
    unfold Few at *
    omega
  clear H hD hB hl1 hl2 e0 hcr hf ht hh hkq
  go_enter Try.func82, Try.ntmps82
  go_wp2_with (first
    | (go_at_call 83; refine Calls.mono hq0 ?_; clear hq0; rintro ee w1 ⟨rfl, b1⟩; have h1 := lay_to (AM.below HE.out b1) (fun k h => HD.out k (Nat.le_trans b1.size h)) k hk 1 (by omega) HF.out HL1.out rfl)
    | (go_at_call 84; refine Calls.mono h1 ?_; clear h1; rintro ee w2 ⟨rfl, a2, k2⟩; have h2 := leave_to a2 (fun k h => HD.out k (Nat.le_trans (Nat.le_trans b1.size k2.size) h)) k hk 0 (by omega) HL2.out rfl; clear a2)
    | (go_at_call 65; refine Calls.mono h2 ?_; clear h2; rintro ee w3 ⟨rfl, a3, k3⟩))
  go_end0
  exact ⟨rfl, a3, ((Keeps.of_below b1).trans k2).trans k3⟩
set_option maxHeartbeats 1000000 in
theorem cool_any (H : AM e b s D w) (hB : A.Base s) (hD : ∀ k, w.heap.size ≤ k → D k) (hf : Few 19990 s) (hb : (A.hots s).length ≤ A.most s ∨ A.Bot s) :
    Calls Try.prog 81 #[.pointer (some ⟨e, 0, none⟩)] w fun ee w' => ee = .returned (.tuple #[]) ∧ AM e b (A.cool s) D w' ∧ Keeps D w w' := by
  have hh := hots_any H hB
  have hm := mostA H hB.lo hB.hi
  have HE : Hid (AM e b s D w) := H
  have HD : Hid (∀ k, w.heap.size ≤ k → D k) := hD
  by_cases hl : A.most s < (A.hots s).length
  · have hbot : A.Bot s := hb.resolve_left (by omega)
    have e0 : A.cool s = A.demote s := by unfold A.cool; rw [if_pos hl]
    rw [e0]
    obtain ⟨k, r, ht⟩ : ∃ k r, s.t1 = k :: r := by
      cases ht : s.t1 with
      | nil => unfold A.hots at hl; rw [ht] at hl; simp at hl
      | cons k r => exact ⟨k, r, rfl⟩
    have hd : ∀ w1, Below w.heap.size w w1 → Calls Try.prog 82 #[.pointer (some ⟨e, 0, none⟩)] w1 fun ee w' => ee = .returned (.tuple #[]) ∧ AM e b (A.demote s) D w' ∧ Keeps D w1 w' := fun w1 b1 => demote_any (H.below b1) hB (fun k h => hD k (Nat.le_trans b1.size h)) hf ht (hbot k r ht)
    have HDm : Hid _ := hd
    generalize A.most s = n1 at *
    generalize (A.hots s).length = n2 at *
    clear H hB hf hb hbot e0 ht hd hD
    go_enter Try.func81, Try.ntmps81
    go_wp2_with (first
      | (go_at_call 60; refine Calls.mono hh ?_; clear hh; rintro ee w1 ⟨rfl, rfl⟩)
      | (go_at_call 61; refine Calls.mono hm ?_; clear hm; rintro ee w2 ⟨rfl, b2⟩)
      | (go_at_call 82; refine Calls.mono (HDm.out _ b2) ?_; rintro ee w3 ⟨rfl, a3, k3⟩))
    go_end0
    exact ⟨rfl, a3, (Keeps.of_below b2).trans k3⟩
  · rw [A.cool_room (by omega)]
    generalize A.most s = n1 at *
    generalize (A.hots s).length = n2 at *
    clear H hB hf hb hD
    go_enter Try.func81, Try.ntmps81
    go_wp2_with (first
      | (go_at_call 60; refine Calls.mono hh ?_; clear hh; rintro ee w1 ⟨rfl, rfl⟩)
      | (go_at_call 61; refine Calls.mono hm ?_; clear hm; rintro ee w2 ⟨rfl, b2⟩))
    go_end0
    exact ⟨rfl, HE.out.below b2, .of_below b2⟩
set_option maxHeartbeats 1000000 in
theorem drop_any {s' : Stt} (H : AM e b s D w) (hD : ∀ k, w.heap.size ≤ k → D k) (k : ByteArray) (hk : k.size ≤ 1000) (hs : s' = ⟨A.cut s.t1 k, s.b1, A.cut s.t2 k, s.c⟩) :
    Calls Try.prog 87 #[.pointer (some ⟨e, 0, none⟩), .string k] w fun ee w' => ee = .returned (.tuple #[]) ∧ AM e b s' D w' ∧ Keeps D w w' := by
  subst hs
  have h1 := leave_to (s' := ⟨A.cut s.t1 k, s.b1, s.t2, s.c⟩) H hD k hk 0 (by omega) (three (by simp [qs, cutAt]) (by simp [qs, cutAt]) (by simp [qs, cutAt])) rfl
  have HD : Hid (∀ k, w.heap.size ≤ k → D k) := hD
  clear H hD
  go_enter Try.func87, Try.ntmps87
  go_wp2_with (first
    | (go_at_call 65; refine Calls.mono h1 ?_; clear h1; rintro ee w1 ⟨rfl, a1, k1⟩; have h2 := leave_to (s' := ⟨A.cut s.t1 k, s.b1, A.cut s.t2 k, s.c⟩) a1 (fun k h => HD.out k (Nat.le_trans k1.size h)) k hk 2 (by omega) (three (by simp [qs, cutAt]) (by simp [qs, cutAt]) (by simp [qs, cutAt])) rfl; clear a1)
    | (go_at_call 65; refine Calls.mono h2 ?_; clear h2; rintro ee w2 ⟨rfl, a2, k2⟩))
  go_end0
  exact ⟨rfl, a2, k1.trans k2⟩
/-- where a key stands: is it hot? -/
theorem spotA (H : AM e b s D w) (k : ByteArray) (hk : k.size ≤ 1000) :
    ∃ v : Ix.Sp, ((v.1 = 0 ↔ k ∉ s.t1) ∧ (v.2.1 = 0 ↔ k ∉ s.b1) ∧ (v.2.2 = 0 ↔ k ∉ s.t2)) ∧ Calls Try.prog 44 #[.pointer (some ⟨e, 0, none⟩), .string k] w fun ee w' => ee = .returned (Ix.V v) ∧ Below w.heap.size w w' := spot_any H (by omega) k hk
theorem hot_is {v : Ix.Sp} {k : ByteArray} (h : (v.1 = 0 ↔ k ∉ s.t1) ∧ (v.2.1 = 0 ↔ k ∉ s.b1) ∧ (v.2.2 = 0 ↔ k ∉ s.t2)) : (decide (v.2.1 = 0) && decide (v.2.2 = 0)) = A.isHot s.b1 s.t2 k := by
  unfold A.isHot
  rw [decide_eq_decide.2 h.2.1, decide_eq_decide.2 h.2.2]
theorem hotA {v : Ix.Sp} {k : ByteArray} {t : Bool} (h : (v.1 = 0 ↔ k ∉ s.t1) ∧ (v.2.1 = 0 ↔ k ∉ s.b1) ∧ (v.2.2 = 0 ↔ k ∉ s.t2)) (ht : A.isHot s.b1 s.t2 k = t) : ∀ W : World, Calls Try.prog 51 #[Ix.V v] W fun ee w' => ee = .returned (.bool t) ∧ Below W.heap.size W w' := fun W => by
  have := hot_any (w := W) v
  rw [hot_is h, ht] at this
  exact this
end
end Go.Proofs.Ytcbaalodhgkgmaa
