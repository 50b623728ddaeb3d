/- An engine as the machine of chapter 14: use. -/
import Derived.Test.YtcphhlfbjkeikabGreatEf
namespace Go.Proofs.YtcphhlfbjkeikabGreat
open Go.RowKit

/-- the machine's three rows -/
def qs (s : Stt) : Nat → List ByteArray := fun i => if i = 0 then s.t1 else if i = 1 then s.b1 else s.t2
theorem three {P : Nat → Prop} (h0 : P 0) (h1 : P 1) (h2 : P 2) : ∀ i, i < 3 → P i := by
  intro i hi
  have : i = 0 ∨ i = 1 ∨ i = 2 := by omega
  rcases this with e | e | e <;> subst e <;> assumption
theorem Single.out {s : Stt} (ho : Single s) {k : ByteArray} : (k ∈ s.t1 → k ∉ s.t2 ∧ k ∉ s.b1) ∧ (k ∈ s.t2 → k ∉ s.t1 ∧ k ∉ s.b1) ∧ (k ∈ s.b1 → k ∉ s.t1 ∧ k ∉ s.t2) := by
  have h := ho k
  refine ⟨fun hk => ?_, fun hk => ?_, fun hk => ?_⟩ <;> have h1 := A.cnt_pos.2 hk <;> exact ⟨fun h2 => by have := A.cnt_pos.2 h2; omega, fun h2 => by have := A.cnt_pos.2 h2; omega⟩
theorem Single.of {s : Stt} (h : A.Ok s) : Single s := fun k => by have := h.one k; omega
/-- how a use leaves the rows ahead of the taming -/
def used (s : Stt) (k : ByteArray) : Stt := { s with b1 := A.cut s.b1 k, t2 := A.cut s.t2 k ++ [k] }
theorem use_w {s : Stt} {k : ByteArray} (ho : Single s) (hk : k ∈ s.t1) : ∀ j, j < 3 → qs (A.use s k) j = laid (qs s) k 0 j := by
  have h := ho.out.1 hk
  have e : A.use s k = { s with t1 := A.cut s.t1 k ++ [k] } := by unfold A.use; rw [if_pos hk]
  rw [e]
  refine three ?_ ?_ ?_
  · simp [qs, laid]
  · simp [qs, laid, A.cut_same h.2]
  · simp [qs, laid, A.cut_same h.1]
theorem used_rows {s : Stt} {k : ByteArray} (hk : k ∉ s.t1) : ∀ j, j < 3 → qs (used s k) j = laid (qs s) k 2 j := by
  refine three ?_ ?_ ?_
  · simp [qs, laid, used, A.cut_same hk]
  · simp [qs, laid, used]
  · simp [qs, laid, used]
theorem used_single {s : Stt} {k : ByteArray} (ho : Single s) (hk : k ∉ s.t1) : Single (used s k) := by
  intro j
  have h := ho j
  have h0 := A.cnt_zero.2 hk
  show A.cnt j s.t1 + A.cnt j (A.cut s.t2 k ++ [k]) + A.cnt j (A.cut s.b1 k) ≤ 1
  rw [A.cnt_snoc, A.cnt_cut, A.cnt_cut]
  by_cases e : j = k
  · subst e; rw [if_pos rfl, if_pos rfl, A.one_self]; omega
  · rw [if_neg e, if_neg e, A.one_ne (Ne.symm e)]; omega
theorem tame_rows {s : Stt} {x : ByteArray} {r : List ByteArray} (ho : Single s) (hp : A.proom s < s.t2.length) (ht : s.t2 = x :: r) : (∀ j, j < 3 → qs (A.tame s) j = laid (qs s) x 1 j) ∧ (A.tame s).t2 = r ∧ (A.tame s).c = s.c := by
  have e : A.tame s = { s with b1 := s.b1 ++ [x], t2 := r } := by unfold A.tame; rw [if_pos hp, ht]
  have h := (ho.out (k := x)).2.1 (by rw [ht]; simp)
  have hc : A.cut (x :: r) x = r := A.cut_head (fun j => by have := ho j; rw [ht] at this; omega)
  rw [e]
  refine ⟨three ?_ ?_ ?_, rfl, rfl⟩
  · simp [qs, laid, A.cut_same h.1]
  · simp [qs, laid, A.cut_same h.2]
  · simp [qs, laid, ht, hc]
theorem tame_no {s : Stt} (hp : ¬ A.proom s < s.t2.length) : A.tame s = s := by unfold A.tame; rw [if_neg hp]
section
variable {D : Nat → Prop} {w : World} {e : Nat} {s : Stt} {m : ByteArray → Option Ix.Sp} {z : Dk}
/-- an engine in memory, as a machine -/
abbrev MA (e : Nat) (z : Dk) (s : Stt) (m : ByteArray → Option Ix.Sp) (D : Nat → Prop) (w : World) : Prop := EM D w e s.c (qs s) m 20000 z
set_option maxHeartbeats 2000000 in
theorem use_win (H : MA e z s m D w) (ho : Single s) (hD : ∀ k, w.heap.size ≤ k → D k) (hl : s.t1.length + s.b1.length + s.t2.length ≤ 2000) {k : ByteArray} {h : Nat} (hm : m k = some (0, h)) :
    Calls Tryz.prog 47 #[.pointer (some ⟨e, 0, none⟩), Ix.V (0, h)] w fun ee w' => ee = .returned (.tuple #[]) ∧ (∃ m', MA e z (A.use s k) m' D w') ∧ Keeps D w w' := by
  have hin : k ∈ s.t1 := (H.spot hm).2.1
  have HU : Hid (∀ j, j < 3 → qs (A.use s k) j = laid (qs s) k 0 j) := use_w ho hin
  have HC : Hid ((A.use s k).c = s.c) := by show (A.use s k).c = s.c; unfold A.use; rw [if_pos hin]
  have HE : Hid (MA e z s m D w) := H
  have HD : Hid (∀ k, w.heap.size ≤ k → D k) := hD
  have hbW : Hid (Below w.heap.size w (w.alloc (.cells #[.int .i64 0, .int .i64 (h : Nat)] 44))) := (Below.refl _ w).alloc (Nat.le_refl _) _
  have hmv := move_any (HE.out.below hbW.out) (fun k hk => HD.out k (Nat.le_trans hbW.out.size hk)) (by omega) hm (i' := 0) (by omega) (by show s.t1.length + s.b1.length + s.t2.length + 1 ≤ 20000; omega)
  clear H ho hD hm hin
  go_enter Tryz.func47, Tryz.ntmps47
  go_wp2_with (go_at_call 70; refine Calls.mono hmv ?_; clear hmv; rintro ee w2 ⟨rfl, ⟨h', h2⟩, hk2⟩)
  exact bodyPost_ret (results_none rfl _ _ _) rfl ⟨rfl, ⟨_, by unfold MA; rw [HC.out]; exact h2.congr HU.out⟩, (Keeps.of_below hbW.out).trans hk2⟩
set_option maxHeartbeats 2000000 in
theorem use_main (H : MA e z s m D w) (hok : A.Ok s) (hD : ∀ k, w.heap.size ≤ k → D k) {k : ByteArray} {i h : Nat} (hm : m k = some (i, h)) (hi : i ≠ 0) :
    Calls Tryz.prog 47 #[.pointer (some ⟨e, 0, none⟩), Ix.V (i, h)] w fun ee w' => ee = .returned (.tuple #[]) ∧ (∃ m', MA e z (A.use s k) m' D w') ∧ Keeps D w w' := by
  have ho := Single.of hok
  have hnin : k ∉ s.t1 := (H.spot hm).2.2 0 (by omega) (Ne.symm hi)
  have hres := hok.res
  have hcl := hok.hi
  have hp := hok.prot
  have hlo := hok.lo
  rw [A.keys_length] at hres
  have hU : A.use s k = A.tame (used s k) := by unfold A.use; rw [if_neg hnin]; rfl
  rw [hU]
  obtain ⟨s1, hs1⟩ : ∃ s1, s1 = used s k := ⟨_, rfl⟩
  have HR1 : Hid (∀ j, j < 3 → qs s1 j = laid (qs s) k 2 j) := by rw [hs1]; exact used_rows hnin
  have HS1 : Hid (Single s1) := by rw [hs1]; exact used_single ho hnin
  have hc1 : s1.c = s.c := by rw [hs1]; rfl
  have hlen : s1.t1.length + s1.b1.length + s1.t2.length ≤ 2000 := by
    rw [hs1]
    have h1 := A.length_cut_le s.b1 k
    have h2 := A.length_cut_le s.t2 k
    show s.t1.length + (A.cut s.b1 k).length + (A.cut s.t2 k ++ [k]).length ≤ 2000
    simp; omega
  have hpr : A.proom s1 = pr s.c := by unfold A.proom A.mroom A.wroom pr mr wr; rw [hc1]
  have hone : s1.t2.length ≤ pr s.c + 1 := by
    rw [hs1]
    have h2 := A.length_cut_le s.t2 k
    have : A.proom s = pr s.c := rfl
    show (A.cut s.t2 k ++ [k]).length ≤ _
    simp; omega
  rw [← hs1]
  have HE : Hid (MA e z s m D w) := H
  have HD : Hid (∀ k, w.heap.size ≤ k → D k) := hD
  have hbW : Hid (Below w.heap.size w (w.alloc (.cells #[.int .i64 (i : Nat), .int .i64 (h : Nat)] 44))) := (Below.refl _ w).alloc (Nat.le_refl _) _
  have hmv := move_any (HE.out.below hbW.out) (fun k hk => HD.out k (Nat.le_trans hbW.out.size hk)) (by omega) hm (i' := 2) (by omega) (by show s.t1.length + s.b1.length + s.t2.length + 1 ≤ 20000; omega)
  obtain ⟨s2, hs2⟩ : ∃ s2, s2 = A.tame s1 := ⟨_, rfl⟩
  obtain ⟨n0, hn0⟩ : ∃ n0 : Nat, (n0 = 1 ∧ A.proom s1 < s1.t2.length) ∨ (n0 = 0 ∧ s2 = s1 ∧ s1.t2.length ≤ pr s.c) := by
    by_cases hq : A.proom s1 < s1.t2.length
    · exact ⟨1, .inl ⟨rfl, hq⟩⟩
    · exact ⟨0, .inr ⟨rfl, hs2.trans (tame_no hq), by omega⟩⟩
  have HS2 : Hid (s2 = A.tame s1) := hs2
  rw [← hs2]
  have HN0 : Hid ((n0 = 1 ∧ A.proom s1 < s1.t2.length) ∨ (n0 = 0 ∧ s2 = s1 ∧ s1.t2.length ≤ pr s.c)) := hn0
  have hi0 : ((i : Nat) : Int) ≠ 0 := by omega
  have HPr : Hid (A.proom s1 = pr s.c) := hpr
  clear H ho hD hm hnin hU hs1 hs2 hn0 hok hres hp hpr
  go_enter Tryz.func47, Tryz.ntmps47
  go_wp2_with (go_at_call 70; refine Calls.mono hmv ?_; clear hmv; rintro ee w2 ⟨rfl, ⟨h', h2⟩, hk2⟩; have H2 : Hid (∃ m', MA e z s1 m' D w2) := ⟨_, by unfold MA; rw [hc1]; exact h2.congr HR1.out⟩; have HK2 : Hid (Keeps D w w2) := (Keeps.of_below hbW.out).trans hk2; clear h2 hk2)
  go_loopg [] n0 (fun n wr => ((n = 1 ∧ A.proom s1 < s1.t2.length ∧ ∃ m', MA e z s1 m' D wr) ∨ (n = 0 ∧ s2.t2.length ≤ pr s.c ∧ s2.c = s.c ∧ ∃ m', MA e z s2 m' D wr)) ∧ Keeps D w wr)
  case atStart =>
    rcases HN0.out with ⟨rfl, hq⟩ | ⟨rfl, e2, hq⟩
    · exact ⟨.inl ⟨rfl, hq, H2.out⟩, HK2.out⟩
    · exact ⟨.inr ⟨rfl, by rw [e2]; exact hq, by rw [e2]; exact hc1, by rw [e2]; exact H2.out⟩, HK2.out⟩
  case round =>
    obtain ⟨hcase, hkr⟩ := hrel
    have HKr : Hid (Keeps D w wr) := hkr
    clear H2 HK2 hkr
    rcases hcase with ⟨rfl, hq, m', hA⟩ | ⟨rfl, hq, hc2, m', hA⟩
    · have HA : Hid (MA e z s1 m' D wr) := hA
      have hcnt : Calls Tryz.prog 49 #[.pointer (some ⟨e, 0, none⟩), .int .i64 2] wr fun ee w' => ee = .returned (.int .i64 (s1.t2.length : Nat)) ∧ w' = wr := count_any hA (i := 2) (by omega)
      have hprt := prot_any hA (by omega) (by omega)
      rw [hc1] at hprt
      obtain ⟨x, r, ht⟩ : ∃ x r, s1.t2 = x :: r := by
        cases hx : s1.t2 with
        | nil => rw [hx] at hq; simp at hq
        | cons x r => exact ⟨x, r, rfl⟩
      have HT : Hid (s1.t2 = x :: r) := ht
      have HTm : Hid ((∀ j, j < 3 → qs s2 j = laid (qs s1) x 1 j) ∧ s2.t2 = r ∧ s2.c = s1.c) := by
        show (∀ j, j < 3 → qs s2 j = laid (qs s1) x 1 j) ∧ s2.t2 = r ∧ s2.c = s1.c
        rw [HS2.out]
        exact tame_rows HS1.out hq ht
      rw [HPr.out] at hq
      have hr : r.length ≤ pr s.c := by rw [ht] at hone; simp at hone; omega
      have HFst : Hid (∀ W, Below wr.heap.size wr W → ∃ h, m' x = some (2, h) ∧ Calls Tryz.prog 51 #[.pointer (some ⟨e, 0, none⟩), .slice (some ⟨W.heap.size, 0, none⟩) 1 1] (W.alloc (.cells #[.int .i64 2] 3)) fun ee w' => ee = .returned (.tuple #[Ix.V (2, h), .bool true]) ∧ Below W.heap.size W w') := fun W hW => by
        have hW2 : Below W.heap.size W (W.alloc (.cells #[.int .i64 2] 3)) := (Below.refl _ W).alloc (Nat.le_refl _) _
        obtain ⟨h, h1, h2⟩ := first_at (p := []) (q := []) (i := 2) (k := x) (r := r) (HA.out.below (below_trans hW hW2)) (ints_one W 2) (by simp) (by simp) (by simp) (by simp [qs, HT.out])
        exact ⟨h, h1, h2.mono (by rintro ee w' ⟨rfl, hb⟩; exact ⟨rfl, below_trans hW2 hb⟩)⟩
      have HLen : Hid ((qs s1 0).length + (qs s1 1).length + (qs s1 2).length + 1 ≤ 20000) := by show s1.t1.length + s1.b1.length + s1.t2.length + 1 ≤ 20000; omega
      generalize s1.t2.length = n1 at *
      generalize pr s.c = n2 at *
      clear hA ht
      go_wp2_with (first
        | (go_at_call 49; refine Calls.mono hcnt ?_; clear hcnt; rintro ee w3 ⟨rfl, rfl⟩)
        | (go_at_call 71; refine Calls.mono hprt ?_; clear hprt; rintro ee w4 ⟨rfl, hb4⟩; have HB4 : Hid (Below w3.heap.size w3 w4) := hb4; clear hb4)
        | (go_at_call 51; obtain ⟨hh, hm1, hf1⟩ := HFst.out _ HB4.out; refine Calls.mono hf1 ?_; rintro ee w5 ⟨rfl, hb5⟩; have HM1 : Hid (m' x = some (2, hh)) := hm1; have HB5 : Hid (Below w3.heap.size w3 (w5.alloc (.cells #[.int .i64 2, .int .i64 (hh : Nat)] 44))) := (below_trans HB4.out hb5).alloc (below_trans HB4.out hb5).size _; clear hf1 hm1 hb5)
        | (go_at_call 70; refine (move_any (HA.out.below HB5.out) (fun k hk => HD.out k (Nat.le_trans HKr.out.size (Nat.le_trans HB5.out.size hk))) (by omega) HM1.out (i' := 1) (by omega) HLen.out).mono ?_; rintro ee w6 ⟨rfl, ⟨h6, hA6⟩, hk6⟩; have HA6 : Hid (∃ m', MA e z s2 m' D w6) := ⟨_, by unfold MA; rw [HTm.out.2.2]; exact hA6.congr HTm.out.1⟩; have HK6 : Hid (Keeps D w w6) := (HKr.out.trans (.of_below HB5.out)).trans hk6; clear hA6 hk6))
      go_roundg 0
      case measure => omega
      case rel => exact ⟨.inr ⟨rfl, by rw [HTm.out.2.1]; exact hr, by rw [HTm.out.2.2]; exact hc1, HA6.out⟩, HK6.out⟩
    · have HA : Hid (MA e z s2 m' D wr) := hA
      have hcnt : Calls Tryz.prog 49 #[.pointer (some ⟨e, 0, none⟩), .int .i64 2] wr fun ee w' => ee = .returned (.int .i64 (s2.t2.length : Nat)) ∧ w' = wr := count_any hA (i := 2) (by omega)
      have hprt := prot_any hA (by omega) (by omega)
      rw [hc2] at hprt
      generalize s2.t2.length = n1 at *
      generalize pr s.c = n2 at *
      clear hA
      go_wp2_with (first
        | (go_at_call 49; refine Calls.mono hcnt ?_; clear hcnt; rintro ee w3 ⟨rfl, rfl⟩)
        | (go_at_call 71; refine Calls.mono hprt ?_; clear hprt; rintro ee w4 ⟨rfl, hb4⟩; have HB4 : Hid (Below w3.heap.size w3 w4) := hb4; clear hb4))
      go_end0
      exact ⟨rfl, ⟨_, HA.out.below HB4.out⟩, HKr.out.trans (.of_below HB4.out)⟩
end
end Go.Proofs.YtcphhlfbjkeikabGreat
