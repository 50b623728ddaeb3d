/- The document's machine: Len, Room, Has; Evict. -/
import Derived.Test.YtbbfckgooligdabRfb
import Derived.Test.YtbbfckgooligdabAl
import Derived.Deep.LoopGhost
namespace Go.Proofs.Ytbbfckgooligdab
open Go.RowKit

section
variable {D D' : Nat → Prop} {w w' : World} {x : Nat} {s : Stt}
theorem rlen_any (H : RE x s D w) (hs : Small s) : Calls Try.prog 69 #[.pointer (some ⟨x, 0, none⟩)] w fun e w' => e = .returned (.int .i64 ((A.keys s).length : Nat)) ∧ ∃ q, w' = w.drewN q := by
  obtain ⟨L, a1, c1, a2, c2, a3, c3, H⟩ := H
  obtain ⟨d0, d1, d2, d3⟩ := H.cells
  have h1 := hs.l1
  have h2 := hs.l3
  rw [A.keys_length]
  generalize s.t1.length = n at *
  generalize s.t2.length = m at *
  clear H hs
  go_enter Try.func69, Try.ntmps69
  go_wp2_with fail
  go_quiet (fail)
  go_wp2_with fail
  go_ret
  exact ⟨ret_int (by omega), _, rfl⟩
theorem idx_false {zs : List ByteArray} {k : ByteArray} (h : k ∉ zs) : decide (0 ≤ idx zs k) = false := by rw [idx_no h]; decide
theorem idx_true {zs : List ByteArray} {k : ByteArray} (h : k ∈ zs) : decide (0 ≤ idx zs k) = true := decide_eq_true (idx_mem h)
/-- is it there? -/
def inn (k : ByteArray) (zs : List ByteArray) : Bool := decide (0 ≤ idx zs k)
theorem inn_yes {zs : List ByteArray} {k : ByteArray} (h : k ∈ zs) : inn k zs = true := idx_true h
theorem inn_no {zs : List ByteArray} {k : ByteArray} (h : k ∉ zs) : inn k zs = false := idx_false h
theorem inn_iff {zs : List ByteArray} {k : ByteArray} : inn k zs = true ↔ k ∈ zs := by
  by_cases h : k ∈ zs
  · simp [inn_yes h, h]
  · simp [inn_no h, h]
theorem inn_keys (s : Stt) (k : ByteArray) : inn k (A.keys s) = (inn k s.t1 || inn k s.t2) := by
  by_cases h1 : k ∈ s.t1
  · rw [inn_yes h1, inn_yes (by simp [A.keys, h1])]; rfl
  · by_cases h2 : k ∈ s.t2
    · rw [inn_yes h2, inn_yes (by simp [A.keys, h2])]; simp
    · rw [inn_no h1, inn_no h2, inn_no (by simp [A.keys, h1, h2])]; rfl
theorem rhas_key (H : RE x s D w) (hs : Small s) (k : ByteArray) : Calls Try.prog 49 #[.pointer (some ⟨x, 0, none⟩), .string k] w fun e w' => e = .returned (.bool (inn k (A.keys s))) ∧ w' = w := by
  obtain ⟨L, a1, c1, a2, c2, a3, c3, H⟩ := H
  obtain ⟨d0, d1, d2, d3⟩ := H.cells
  have e1 := rhas_any H.r1 (by have := hs.l1; omega) k
  have e2 := rhas_any H.r3 (by have := hs.l3; omega) k
  rw [inn_keys]
  by_cases h1 : k ∈ s.t1
  · have hi := idx_mem h1
    rw [inn_yes h1]
    generalize idx s.t1 k = j1 at *
    clear H hs
    go_enter Try.func49, Try.ntmps49
    go_wp2_with (go_at_call 66; refine e1.mono ?_; rintro e w1 ⟨rfl, rfl⟩; clear e1)
    go_ret
    exact ⟨by simp, rfl⟩
  · rw [inn_no h1]
    rw [idx_no h1] at e1
    unfold inn
    generalize idx s.t2 k = j2 at *
    clear H hs
    go_enter Try.func49, Try.ntmps49
    go_wp2_with (first | (go_at_call 66; refine e1.mono ?_; rintro e w1 ⟨rfl, rfl⟩; clear e1) | (go_at_call 66; refine e2.mono ?_; rintro e w2 ⟨rfl, rfl⟩; clear e2))
    go_ret
    exact ⟨by simp, rfl⟩
set_option maxRecDepth 100000 in
set_option maxHeartbeats 1000000 in
theorem revi_no (H : RE x s D w) (hs : Small s) (h0 : (A.keys s).length = 0) :
    Calls Try.prog 48 #[.pointer (some ⟨x, 0, none⟩)] w fun e w' => e = .returned (.tuple #[.string ⟨#[]⟩, .bool false]) ∧ ∃ q, w' = w.drewN q := by
  have hl := rlen_any H hs
  rw [h0] at hl
  clear H hs
  go_enter Try.func48, Try.ntmps48
  go_wp2_with (go_at_call 69; refine Calls.mono hl ?_; clear hl; rintro e w1 ⟨rfl, q, rfl⟩)
  go_ret2
  exact ⟨rfl, _, rfl⟩
set_option maxRecDepth 100000 in
set_option maxHeartbeats 1000000 in
theorem revi_late (H : RE x s D w) (hs : Small s) (ho : Single s) (hD : ∀ k, w.heap.size ≤ k → D k) (hlate : A.late s = true) {k : ByteArray} {r : List ByteArray} (hq : s.t2 = k :: r) :
    Calls Try.prog 48 #[.pointer (some ⟨x, 0, none⟩)] w fun e w' => e = .returned (.tuple #[.string k, .bool true]) ∧ RE x { s with t2 := r } D w' ∧ Keeps D w w' := by
  have hl := rlen_any H hs
  have hne : ¬ (A.keys s).length = 0 := by rw [A.keys_length, hq]; simp
  unfold A.late at hlate
  simp at hlate
  obtain ⟨h1, h2⟩ := hlate
  obtain ⟨L, a1, c1, a2, c2, a3, c3, H⟩ := H
  obtain ⟨g3, o3, rfl, -, ck, -⟩ := H.r3.at (i := 0) (z := k) (by rw [hq]; rfl)
  rw [Nat.add_zero] at ck
  have HQ : Hid (s.t2 = k :: r) := hq
  have HO : Hid (Single s) := ho
  have HD : Hid (∀ k, w.heap.size ≤ k → D k) := hD
  have HE : Hid (ReIn D L w x s a1 c1 a2 c2 (some ⟨g3, o3, none⟩) c3) := H
  have hl1 := hs.l1; have hl3 := hs.l3; have hc := hs.hc
  clear H hs ho hD hq
  generalize (A.keys s).length = nk at *
  go_enter Try.func48, Try.ntmps48
  have hgt : decide (max 1 ((s.c : Int) / 4) < (s.t1.length : Int)) = false := by rw [decide_eq_false_iff_not]; unfold A.kin at h1; omega
  have hz3 : (((s.t2.length : Nat) : Int) == 0) = false := by simp; intro h; rw [h] at h2; simp at h2
  have hw4 : IntKind.i64.wrap ((s.c : Int) / 4) = (s.c : Int) / 4 := by simp [IntKind.wrap_i64]; omega
  go_wp2_with (go_at_call 69; refine Calls.mono hl ?_; clear hl; rintro e w1 ⟨rfl, q, hw1⟩; have hb1 : Below w.heap.size w w1 := (by rw [hw1]; exact below_drewN (Below.refl _ w) q); have HE1 : Hid (ReIn D L w1 x s a1 c1 a2 c2 (some ⟨g3, o3, none⟩) c3) := (HE.out.below hb1); obtain ⟨d0, d1, d2, d3⟩ := HE1.out.cells; have HB1 : Hid (Below w.heap.size w w1) := hb1; have ck1 := (cell_later hb1 ck); clear hw1 hb1)
  refine region_same (by kernel_rfl) 19 9 rfl (fun j => [(.pointer (some ⟨x, 0, none⟩) : Value), (.pointer (some ⟨x, 0, none⟩) : Value), (.pointer (some ⟨x, 0, none⟩) : Value), (.slice a1 s.t1.length c1 : Value), (.int .i64 (s.t1.length : Nat) : Value), (.pointer (some ⟨x, 0, none⟩) : Value), (.pointer (some ⟨x, 0, none⟩) : Value), (.pointer (some ⟨x, 3, none⟩) : Value), (.int .i64 (s.c : Nat) : Value), (.int .i64 ((s.c : Int) / 4) : Value), (.int .i64 (max 1 ((s.c : Int) / 4)) : Value), (.bool false : Value), (.bool false : Value), (.pointer (some ⟨x, 0, none⟩) : Value), (.pointer (some ⟨x, 0, none⟩) : Value), (.pointer (some ⟨x, 2, none⟩) : Value), (.slice (some ⟨g3, o3, none⟩) s.t2.length c3 : Value), (.int .i64 (s.t2.length : Nat) : Value), (.bool false : Value), (.bool false : Value)].getD j undef) (lex_of (by kernel_rfl)) (wait_of (by kernel_rfl)) (by simp) ?_ ?_
  · intro i hi a' hst hdep Kc hKc
    have hcase : i = 0 ∨ i = 1 ∨ i = 2 ∨ i = 3 ∨ i = 4 ∨ i = 5 ∨ i = 6 ∨ i = 7 ∨ i = 8 ∨ i = 9 ∨ i = 10 ∨ i = 11 ∨ i = 12 ∨ i = 13 ∨ i = 14 ∨ i = 15 ∨ i = 16 ∨ i = 17 ∨ i = 18 ∨ i = 19 := by omega
    rcases hcase with e1 | e1 | e1 | e1 | e1 | e1 | e1 | e1 | e1 | e1 | e1 | e1 | e1 | e1 | e1 | e1 | e1 | e1 | e1 | e1
    · subst e1
      have o0 := hst.at 0 (by omega)
      simp at o0
      refine still_op rfl rfl ?_
      simp [Oper.wp, execOp, Act.eval, go_sem, o0]
      exact hKc
    · subst e1
      have d0 : a'.tmps[9]?.getD undef = .pointer (some ⟨x, 0, none⟩) := by simpa using hdep 0 (by kernel_rfl)
      refine still_op rfl rfl ?_
      simp [Oper.wp, execOp, Act.eval, go_sem, d0]
      exact hKc
    · subst e1
      have d1 : a'.tmps[10]?.getD undef = .pointer (some ⟨x, 0, none⟩) := by simpa using hdep 1 (by kernel_rfl)
      refine still_op rfl rfl ?_
      simp [Oper.wp, execOp, Act.eval, go_sem, d1]
      exact hKc
    · subst e1
      have d2 : a'.tmps[11]?.getD undef = .pointer (some ⟨x, 0, none⟩) := by simpa using hdep 2 (by kernel_rfl)
      refine still_op rfl rfl ?_
      simp [Oper.wp, execOp, Act.eval, go_sem, d2, d0]
      exact hKc
    · subst e1
      have d3 : a'.tmps[12]?.getD undef = .slice a1 s.t1.length c1 := by simpa using hdep 3 (by kernel_rfl)
      refine still_op rfl rfl ?_
      simp [Oper.wp, execOp, Act.eval, go_sem, d3]
      exact hKc
    · subst e1
      have o0 := hst.at 0 (by omega)
      simp at o0
      refine still_op rfl rfl ?_
      simp [Oper.wp, execOp, Act.eval, go_sem, o0]
      exact hKc
    · subst e1
      have d5 : a'.tmps[14]?.getD undef = .pointer (some ⟨x, 0, none⟩) := by simpa using hdep 5 (by kernel_rfl)
      refine still_op rfl rfl ?_
      simp [Oper.wp, execOp, Act.eval, go_sem, d5]
      exact hKc
    · subst e1
      have d6 : a'.tmps[15]?.getD undef = .pointer (some ⟨x, 0, none⟩) := by simpa using hdep 6 (by kernel_rfl)
      refine still_op rfl rfl ?_
      simp [Oper.wp, execOp, Act.eval, go_sem, d6]
      exact hKc
    · subst e1
      have d7 : a'.tmps[16]?.getD undef = .pointer (some ⟨x, 3, none⟩) := by simpa using hdep 7 (by kernel_rfl)
      refine still_op rfl rfl ?_
      simp [Oper.wp, execOp, Act.eval, go_sem, d7, d3]
      exact hKc
    · subst e1
      have d8 : a'.tmps[17]?.getD undef = .int .i64 (s.c : Nat) := by simpa using hdep 8 (by kernel_rfl)
      refine still_op rfl rfl ?_
      simp [Oper.wp, execOp, Act.eval, go_sem, d8, hw4]
      exact hKc
    · subst e1
      have d9 : a'.tmps[18]?.getD undef = .int .i64 ((s.c : Int) / 4) := by simpa using hdep 9 (by kernel_rfl)
      refine still_op rfl rfl ?_
      simp [Oper.wp, execOp, Act.eval, go_sem, d9]
      exact hKc
    · subst e1
      have d4 : a'.tmps[13]?.getD undef = .int .i64 (s.t1.length : Nat) := by simpa using hdep 4 (by kernel_rfl)
      have d10 : a'.tmps[19]?.getD undef = .int .i64 (max 1 ((s.c : Int) / 4)) := by simpa using hdep 10 (by kernel_rfl)
      refine still_op rfl rfl ?_
      simp [Oper.wp, execOp, Act.eval, go_sem, d4, d10, hgt]
      exact hKc
    · subst e1
      have d11 : a'.tmps[20]?.getD undef = .bool false := by simpa using hdep 11 (by kernel_rfl)
      refine still_op rfl rfl ?_
      simp [Oper.wp, execOp, Act.eval, go_sem, d11]
      exact hKc
    · subst e1
      have o0 := hst.at 0 (by omega)
      simp at o0
      refine still_on rfl rfl rfl rfl (hdep 12 (by kernel_rfl)) ?_
      simp [Oper.wp, execOp, Act.eval, go_sem, o0]
      exact hKc
    · subst e1
      have d13 : a'.tmps[22]?.getD undef = .pointer (some ⟨x, 0, none⟩) := by simpa using hdep 13 (by kernel_rfl)
      refine still_on rfl rfl rfl rfl (hdep 12 (by kernel_rfl)) ?_
      simp [Oper.wp, execOp, Act.eval, go_sem, d13]
      exact hKc
    · subst e1
      have d14 : a'.tmps[23]?.getD undef = .pointer (some ⟨x, 0, none⟩) := by simpa using hdep 14 (by kernel_rfl)
      refine still_on rfl rfl rfl rfl (hdep 12 (by kernel_rfl)) ?_
      simp [Oper.wp, execOp, Act.eval, go_sem, d14]
      exact hKc
    · subst e1
      have d15 : a'.tmps[24]?.getD undef = .pointer (some ⟨x, 2, none⟩) := by simpa using hdep 15 (by kernel_rfl)
      refine still_on rfl rfl rfl rfl (hdep 12 (by kernel_rfl)) ?_
      simp [Oper.wp, execOp, Act.eval, go_sem, d15, d2]
      exact hKc
    · subst e1
      have d16 : a'.tmps[25]?.getD undef = .slice (some ⟨g3, o3, none⟩) s.t2.length c3 := by simpa using hdep 16 (by kernel_rfl)
      refine still_on rfl rfl rfl rfl (hdep 12 (by kernel_rfl)) ?_
      simp [Oper.wp, execOp, Act.eval, go_sem, d16]
      exact hKc
    · subst e1
      have d17 : a'.tmps[26]?.getD undef = .int .i64 (s.t2.length : Nat) := by simpa using hdep 17 (by kernel_rfl)
      refine still_on rfl rfl rfl rfl (hdep 12 (by kernel_rfl)) ?_
      simp [Oper.wp, execOp, Act.eval, go_sem, d17, hz3]
      exact hKc
    · subst e1
      have d12 : a'.tmps[21]?.getD undef = .bool false := by simpa using hdep 12 (by kernel_rfl)
      have d18 : a'.tmps[27]?.getD undef = .bool false := by simpa using hdep 18 (by kernel_rfl)
      refine still_op rfl rfl ?_
      simp [Oper.wp, execOp, Act.eval, go_sem, d12, d18]
      exact hKc
  simp only [fillA, Act.put, List.setIfInBounds_toArray, List.set_cons_succ, List.set_cons_zero, List.getD_cons_zero, List.getD_cons_succ, Nat.reduceAdd, Nat.add_zero]
  have hcut := rcut_any (HE1.out.below (Below.refl _ w1).drew).r3 (by omega) k
  have HC : Hid (A.cut s.t2 k = r) := by
    show A.cut s.t2 k = r
    rw [HQ.out]
    exact A.cut_head (fun j => by have := HO.out j; rw [HQ.out] at this; omega)
  rw [HC.out] at hcut
  go_wp2_with (go_at_call 67; refine Calls.mono hcut ?_; clear hcut; rintro e w5 ⟨ad5, cp5, rfl, hr5, hb5⟩; have HE5 : Hid (ReIn D L w5 x s a1 c1 a2 c2 (some ⟨g3, o3, none⟩) c3) := ((HE1.out.below (Below.refl _ w1).drew).below hb5); obtain ⟨p0, p1, p2, p3⟩ := HE5.out.cells; obtain ⟨t0, t1, t2, t3⟩ := HE5.out.thaw; have H6 : Hid (ReIn D (lab L w1.heap.size 3) (w5.setCell ⟨x, 2, none⟩ (.slice ad5 r.length cp5)) x { s with t2 := r } a1 c1 a2 c2 ad5 cp5) := ((HE1.out.below (Below.refl _ w1).drew).put3 (fun k h => HD.out k (Nat.le_trans HB1.out.size h)) (Keeps.of_below hb5) (hr5.wide (fun _ _ h => .inr h))); have HK6 : Hid (Keeps D w (w5.setCell ⟨x, 2, none⟩ (.slice ad5 r.length cp5))) := ((((Keeps.of_below HB1.out).trans (Keeps.of_below (Below.refl _ w1).drew)).trans (Keeps.of_below hb5)).setCell (p := ⟨x, 2, none⟩) HE.out.dx _); clear hr5 hb5)
  go_ret2
  exact ⟨rfl, ⟨_, _, _, _, _, _, _, H6.out⟩, HK6.out⟩
end
end Go.Proofs.Ytbbfckgooligdab
