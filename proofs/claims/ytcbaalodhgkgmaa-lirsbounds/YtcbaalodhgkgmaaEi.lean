/- An engine as the machine of chapter 13: evict, use, admit; Has. -/
import Derived.Test.YtcbaalodhgkgmaaEf
namespace Go.Proofs.Ytcbaalodhgkgmaa
open Go.RowKit

section
variable {D : Nat → Prop} {w w' : World} {e b : Nat} {s : Stt}
theorem nd_cut {l : List ByteArray} {k : ByteArray} {r : List ByteArray} (h : ∀ j, A.cnt j l ≤ 1) (e : l = k :: r) : A.cut l k = r := by
  rw [e]
  exact A.cut_head (by rw [e] at h; exact h)
theorem index_spot (v : Ix.Sp) (W : World) : (Instr.index 53 (Ix.V v) (.int .i64 0)).run Try.prog W = .ok (.int .i64 (v.1 : Nat)) W := by
  have h : ∀ (a b c : Value), (Instr.index 53 (.agg #[a, b, c]) (.int .i64 0)).run Try.prog W = .ok a W := fun a b c => by kernel_rfl
  exact h _ _ _
set_option maxRecDepth 100000 in
set_option maxHeartbeats 2000000 in
/-- the first of Q goes: where Q has one -/
theorem out_any (H : AM e b s D w) (hB : A.Base s) (hD : ∀ k, w.heap.size ≤ k → D k) (hf : Few 19990 s) {k : ByteArray} {r : List ByteArray} (hq : s.b1 = k :: r) :
    Calls Try.prog 56 #[.pointer (some ⟨e, 0, none⟩)] w fun ee w' => ee = .returned (.string k) ∧ AM e b (A.prune (A.forget (A.out s k r))) D w' ∧ Keeps D w w' := by
  have hk : k.size ≤ 1000 := H.size (.inr (.inl (by rw [hq]; simp)))
  have hc1 := count1 H
  have f1 := first1 H hq
  have HE : Hid (AM e b s D w) := H
  have HD : Hid (∀ k, w.heap.size ≤ k → D k) := hD
  obtain ⟨o1, -⟩ := A.out_is hB hq
  have HO : Hid (A.Base (A.out s k r)) := o1
  have HFo : Hid (A.Base (A.forget (A.out s k r))) := (A.forget_lt o1).1.base
  have hcq : A.cut s.b1 k = r := nd_cut hB.oq hq
  have hkg : k ∉ s.t2 := fun h => hB.dis k h (by rw [hq]; simp)
  obtain ⟨n, hn, hpos⟩ : ∃ n, n = s.b1.length ∧ 0 < n := ⟨_, rfl, by rw [hq]; simp⟩
  rw [← hn] at hc1
  by_cases hin : k ∈ s.t1
  · have hl1 : ∀ j, j < 3 → qs (⟨s.t1, s.b1, s.t2 ++ [k], s.c⟩ : Stt) j = layAt (qs s) k 2 j := three (by simp [qs, layAt]) (by simp [qs, layAt]) (by simp [qs, layAt, A.cut_same hkg])
    have HL1 : Hid _ := hl1
    have hl2 : ∀ j, j < 3 → qs (A.out s k r) j = cutAt (qs (⟨s.t1, s.b1, s.t2 ++ [k], s.c⟩ : Stt)) k 1 j := three (by simp [qs, cutAt, A.out]) (by simp [qs, cutAt, A.out, hcq]) (by simp [qs, cutAt, A.out, hin])
    have HL2 : Hid _ := hl2
    have HI : Hid (k ∈ s.t1) := hin
    have HFw : Hid (Few 19999 s) := by
      show Few 19999 s
      unfold Few at *
      omega
    clear H hD hB o1 hcq hkg hn hin hl1 hl2 hq hf
    go_enter Try.func56, Try.ntmps56
    go_wp2_with (first
      | (go_at_call 48; refine Calls.mono hc1 ?_; clear hc1; rintro ee w1 ⟨rfl, rfl⟩)
      | (go_at_call 83; refine Calls.mono f1 ?_; clear f1; rintro ee w2 ⟨rfl, b2⟩; obtain ⟨v, hv, hs⟩ := spotA (AM.below HE.out b2) k hk; have hv1 : ¬ ((v.1 : Nat) : Int) = 0 := (fun h => hv.1.1 (by omega) HI.out); have hix := index_spot v; clear hv)
      | (go_at_call 44; refine Calls.mono hs ?_; clear hs; rintro ee w3 ⟨rfl, b3⟩; have b23 := below_trans b2 b3; have h1 := lay_to (AM.below HE.out b23) (fun k h => HD.out k (Nat.le_trans b23.size h)) k hk 2 (by omega) HFw.out HL1.out rfl)
      | (go_at_call 84; refine Calls.mono h1 ?_; clear h1; rintro ee w4 ⟨rfl, a4, k4⟩; have k24 := (Keeps.of_below (D := D) b23).trans k4; have h2 := leave_to (s' := A.out s k r) a4 (fun k h => HD.out k (Nat.le_trans k24.size h)) k hk 1 (by omega) HL2.out rfl; clear a4)
      | (go_at_call 65; refine Calls.mono h2 ?_; clear h2; rintro ee w5 ⟨rfl, a5, k5⟩; have k25 := k24.trans k5; have h3 := forget_any a5 HO.out (fun k h => HD.out k (Nat.le_trans k25.size h)); clear a5)
      | (go_at_call 85; refine Calls.mono h3 ?_; clear h3; rintro ee w6 ⟨rfl, a6, k6⟩; have k26 := k25.trans k6; have h4 := prune_any a6 HFo.out (fun k h => HD.out k (Nat.le_trans k26.size h)); clear a6)
      | (go_at_call 64; refine Calls.mono h4 ?_; clear h4; rintro ee w7 ⟨rfl, a7, k7⟩))
    go_ret
    exact ⟨rfl, a7, k26.trans k7⟩
  · have hl2 : ∀ j, j < 3 → qs (A.out s k r) j = cutAt (qs s) k 1 j := three (by simp [qs, cutAt, A.out]) (by simp [qs, cutAt, A.out, hcq]) (by simp [qs, cutAt, A.out, hin])
    have HL2 : Hid _ := hl2
    have HI : Hid (k ∉ s.t1) := hin
    clear H hD hB o1 hcq hkg hn hin hl2 hq hf
    go_enter Try.func56, Try.ntmps56
    go_wp2_with (first
      | (go_at_call 48; refine Calls.mono hc1 ?_; clear hc1; rintro ee w1 ⟨rfl, rfl⟩)
      | (go_at_call 83; refine Calls.mono f1 ?_; clear f1; rintro ee w2 ⟨rfl, b2⟩; obtain ⟨v, hv, hs⟩ := spotA (AM.below HE.out b2) k hk; have hv1 : ((v.1 : Nat) : Int) = 0 := (by have := hv.1.2 HI.out; omega); have hix := index_spot v; rw [hv1] at hix; clear hv)
      | (go_at_call 44; refine Calls.mono hs ?_; clear hs; rintro ee w3 ⟨rfl, b3⟩; have b23 := below_trans b2 b3; have h2 := leave_to (s' := A.out s k r) (AM.below HE.out b23) (fun k h => HD.out k (Nat.le_trans b23.size h)) k hk 1 (by omega) HL2.out rfl)
      | (go_at_call 65; refine Calls.mono h2 ?_; clear h2; rintro ee w5 ⟨rfl, a5, k5⟩; have k25 := (Keeps.of_below (D := D) b23).trans k5; have h3 := forget_any a5 HO.out (fun k h => HD.out k (Nat.le_trans k25.size h)); clear a5)
      | (go_at_call 85; refine Calls.mono h3 ?_; clear h3; rintro ee w6 ⟨rfl, a6, k6⟩; have k26 := k25.trans k6; have h4 := prune_any a6 HFo.out (fun k h => HD.out k (Nat.le_trans k26.size h)); clear a6)
      | (go_at_call 64; refine Calls.mono h4 ?_; clear h4; rintro ee w7 ⟨rfl, a7, k7⟩))
    go_ret
    exact ⟨rfl, a7, k26.trans k7⟩
set_option maxRecDepth 100000 in
set_option maxHeartbeats 2000000 in
/-- the lowest hot one goes: where Q has none -/
theorem low_any (H : AM e b s D w) (hB : A.Base s) (hD : ∀ k, w.heap.size ≤ k → D k) (hf : Few 19990 s) (hq0 : s.b1 = []) {k : ByteArray} {t : List ByteArray} (ht : s.t1 = k :: t) (hh : A.isHot s.b1 s.t2 k = true) :
    Calls Try.prog 56 #[.pointer (some ⟨e, 0, none⟩)] w fun ee w' => ee = .returned (.string k) ∧ AM e b (A.prune (A.forget (A.out (A.demote s) k []))) D w' ∧ Keeps D w w' := by
  have hk : k.size ≤ 1000 := H.size (.inl (by rw [ht]; simp))
  have hc1 := count1 H
  rw [hq0] at hc1
  have hdm := demote_any H hB hD hf ht hh
  have HD : Hid (∀ k, w.heap.size ≤ k → D k) := hD
  obtain ⟨d0, d1, -, -⟩ := A.demote_is hB ht hh
  have hkt : k ∉ t := by
    have := hB.ot k
    rw [ht, A.cnt_cons, A.one_self] at this
    exact A.cnt_zero.1 (by omega)
  have e1 : (A.demote s).b1 = [k] := by rw [d0, hq0]; rfl
  have e2 : (A.demote s).t1 = t := by rw [d0]
  generalize A.demote s = s1 at *
  obtain ⟨o1, -⟩ := A.out_is d1 e1
  have HO : Hid (A.Base (A.out s1 k [])) := o1
  have HFo : Hid (A.Base (A.forget (A.out s1 k []))) := (A.forget_lt o1).1.base
  have hcq : A.cut s1.b1 k = [] := nd_cut d1.oq e1
  have hin : k ∉ s1.t1 := by rw [e2]; exact hkt
  have hl2 : ∀ j, j < 3 → qs (A.out s1 k []) j = cutAt (qs s1) k 1 j := three (by simp [qs, cutAt, A.out]) (by simp [qs, cutAt, A.out, hcq]) (by simp [qs, cutAt, A.out, hin])
  have HL2 : Hid _ := hl2
  have HI : Hid (k ∉ s1.t1) := hin
  have HQ : Hid (s1.b1 = [k]) := e1
  clear H hD hB o1 hcq hin hl2 hf d0 d1 e1 e2 hkt hq0 ht hh
  go_enter Try.func56, Try.ntmps56
  go_wp2_with (first
    | (go_at_call 48; refine Calls.mono hc1 ?_; clear hc1; rintro ee w1 ⟨rfl, rfl⟩)
    | (go_at_call 82; refine Calls.mono hdm ?_; clear hdm; rintro ee w0 ⟨rfl, a0, k0⟩; have HE : Hid (AM e b s1 D w0) := a0; have f1 := first1 a0 HQ.out; clear a0)
    | (go_at_call 83; refine Calls.mono f1 ?_; clear f1; rintro ee w2 ⟨rfl, b2⟩; obtain ⟨v, hv, hs⟩ := spotA (AM.below HE.out b2) k hk; have hv1 : ((v.1 : Nat) : Int) = 0 := (by have := hv.1.2 HI.out; omega); have hix := index_spot v; rw [hv1] at hix; clear hv)
    | (go_at_call 44; refine Calls.mono hs ?_; clear hs; rintro ee w3 ⟨rfl, b3⟩; have b23 := below_trans b2 b3; have k03 := k0.trans (Keeps.of_below (D := D) b23); have h2 := leave_to (s' := A.out s1 k []) (AM.below HE.out b23) (fun k h => HD.out k (Nat.le_trans k03.size h)) k hk 1 (by omega) HL2.out rfl)
    | (go_at_call 65; refine Calls.mono h2 ?_; clear h2; rintro ee w5 ⟨rfl, a5, k5⟩; have k25 := k03.trans k5; have h3 := forget_any a5 HO.out (fun k h => HD.out k (Nat.le_trans k25.size h)); clear a5)
    | (go_at_call 85; refine Calls.mono h3 ?_; clear h3; rintro ee w6 ⟨rfl, a6, k6⟩; have k26 := k25.trans k6; have h4 := prune_any a6 HFo.out (fun k h => HD.out k (Nat.le_trans k26.size h)); clear a6)
    | (go_at_call 64; refine Calls.mono h4 ?_; clear h4; rintro ee w7 ⟨rfl, a7, k7⟩))
  go_ret
  exact ⟨rfl, a7, k26.trans k7⟩
theorem evict_goes (H : AM e b s D w) (hok : A.Ok s) (hD : ∀ k, w.heap.size ≤ k → D k) (h : (A.keys s).length ≠ 0) :
    Calls Try.prog 56 #[.pointer (some ⟨e, 0, none⟩)] w fun ee w' => ∃ g s', A.goes s = ([g], s') ∧ ee = .returned (.string g) ∧ AM e b s' D w' ∧ Keeps D w w' := by
  have hf : Few 19990 s := by have := Few.of hok; unfold Few at *; omega
  by_cases hq : s.b1 = []
  · have hr : A.ready s = A.demote s := by unfold A.ready; rw [if_pos hq]
    have hh : (A.hots s).length ≠ 0 := by rw [A.keys_length, hq] at h; simpa using h
    cases ht : s.t1 with
    | nil => unfold A.hots at hh; rw [ht] at hh; simp at hh
    | cons k t =>
      have hb := hok.bot k t ht
      obtain ⟨d0, -⟩ := A.demote_is hok.toBase ht hb
      have e1 : (A.ready s).b1 = k :: [] := by rw [hr, d0, hq]; rfl
      refine (low_any H hok.toBase hD hf hq ht hb).mono ?_
      rintro ee w' ⟨rfl, a, k1⟩
      refine ⟨k, _, A.goes_is e1, rfl, ?_, k1⟩
      rw [hr]
      exact a
  · have hr : A.ready s = s := by unfold A.ready; rw [if_neg hq]
    cases hb : s.b1 with
    | nil => exact absurd hb hq
    | cons k r =>
      have e1 : (A.ready s).b1 = k :: r := by rw [hr]; exact hb
      refine (out_any H hok.toBase hD hf hb).mono ?_
      rintro ee w' ⟨rfl, a, k1⟩
      refine ⟨k, _, A.goes_is e1, rfl, ?_, k1⟩
      rw [hr]
      exact a
set_option maxRecDepth 100000 in
set_option maxHeartbeats 2000000 in
theorem use_any (H : AM e b s D w) (hok : A.Ok s) (hD : ∀ k, w.heap.size ≤ k → D k) (k : ByteArray) (hk : k.size ≤ 1000) :
    Calls Try.prog 54 #[.pointer (some ⟨e, 0, none⟩), .string k] w fun ee w' => ee = .returned (.tuple #[]) ∧ AM e b (A.use s k) D w' ∧ Keeps D w w' := by
  have hf : Few 19980 s := by have := Few.of hok; unfold Few at *; omega
  have HE : Hid (AM e b s D w) := H
  have HD : Hid (∀ k, w.heap.size ≤ k → D k) := hD
  obtain ⟨v, hv, hs⟩ := spotA H k hk
  have hix := index_spot v
  have hB := hok.toBase
  by_cases ht : k ∈ s.t1
  · have hu : A.use s k = A.prune (A.cool (A.heat s k)) := by unfold A.use; rw [if_pos ht]
    have hv1 : ¬ ((v.1 : Nat) : Int) = 0 := fun h => hv.1.1 (by omega) ht
    have hBh := A.heat_base hB k
    have hfh : Few 19990 (A.heat s k) := by
      have h1 := lay_len s.t1 k
      have h2 := A.length_cut_le s.b1 k
      have h3 := A.length_cut_le s.t2 k
      unfold Few at *
      simp only [A.heat]
      omega
    have hcond : (A.hots (A.heat s k)).length ≤ A.most (A.heat s k) ∨ A.Bot (A.heat s k) := by
      cases hh : A.isHot s.b1 s.t2 k with
      | false => exact .inr (A.bot_heat hok.bot ht hh)
      | true =>
        left
        rw [A.hots_heat, A.length_of_cnt (fun j => A.cnt_moved (A.Ok.once_hots hB) (List.mem_filter.2 ⟨ht, hh⟩) j)]
        exact hok.hot
    have HBc : Hid (A.Base (A.cool (A.heat s k))) := (A.cool_is hBh hcond).1
    have HFl : Hid (Few 19990 s) := by show Few 19990 s; unfold Few at *; omega
    have HX : Hid (A.Base (A.heat s k) ∧ Few 19990 (A.heat s k) ∧ ((A.hots (A.heat s k)).length ≤ A.most (A.heat s k) ∨ A.Bot (A.heat s k))) := ⟨hBh, hfh, hcond⟩
    rw [hu]
    clear H hok hD hf hv hB ht hu hBh hfh hcond
    go_enter Try.func54, Try.ntmps54
    go_wp2_with (first
      | (go_at_call 44; refine Calls.mono hs ?_; clear hs; rintro ee w1 ⟨rfl, b1⟩; have h1 := heat_any (AM.below HE.out b1) (fun k h => HD.out k (Nat.le_trans b1.size h)) k hk HFl.out)
      | (go_at_call 62; refine Calls.mono h1 ?_; clear h1; rintro ee w2 ⟨rfl, a2, k2⟩; have k12 := (Keeps.of_below (D := D) b1).trans k2; have h2 := cool_any a2 HX.out.1 (fun k h => HD.out k (Nat.le_trans k12.size h)) HX.out.2.1 HX.out.2.2; clear a2)
      | (go_at_call 81; refine Calls.mono h2 ?_; clear h2; rintro ee w3 ⟨rfl, a3, k3⟩; have k13 := k12.trans k3; have h3 := prune_any a3 HBc.out (fun k h => HD.out k (Nat.le_trans k13.size h)); clear a3)
      | (go_at_call 64; refine Calls.mono h3 ?_; clear h3; rintro ee w4 ⟨rfl, a4, k4⟩))
    go_end0
    exact ⟨rfl, a4, k13.trans k4⟩
  · have hu : A.use s k = A.prune (A.layCold s k) := by unfold A.use; rw [if_neg ht]
    have hv1 : ((v.1 : Nat) : Int) = 0 := by have := hv.1.2 ht; omega
    rw [hv1] at hix
    have HBc : Hid (A.Base (A.layCold s k)) := A.cold_base hB k
    have HFl : Hid (Few 19990 s) := by show Few 19990 s; unfold Few at *; omega
    rw [hu]
    clear H hok hD hf hv hB ht hu
    go_enter Try.func54, Try.ntmps54
    go_wp2_with (first
      | (go_at_call 44; refine Calls.mono hs ?_; clear hs; rintro ee w1 ⟨rfl, b1⟩; have h1 := cold_lay (AM.below HE.out b1) (fun k h => HD.out k (Nat.le_trans b1.size h)) k hk HFl.out)
      | (go_at_call 63; refine Calls.mono h1 ?_; clear h1; rintro ee w2 ⟨rfl, a2, k2⟩; have k12 := (Keeps.of_below (D := D) b1).trans k2; have h3 := prune_any a2 HBc.out (fun k h => HD.out k (Nat.le_trans k12.size h)); clear a2)
      | (go_at_call 64; refine Calls.mono h3 ?_; clear h3; rintro ee w4 ⟨rfl, a4, k4⟩))
    go_end0
    exact ⟨rfl, a4, k12.trans k4⟩
end
end Go.Proofs.Ytcbaalodhgkgmaa
