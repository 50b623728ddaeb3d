/- The document's machine: Evict, where one of A1in goes. -/
import Derived.Test.YtbbfckgooligdabRfc
import Derived.Test.YtbbfckgooligdabEe
namespace Go.Proofs.Ytbbfckgooligdab
open Go.RowKit

section
variable {D D' : Nat → Prop} {w w' : World} {x : Nat} {s : Stt}
/-- the oldest of A1out goes: what is laid is one of two spellings -/
theorem ReIn.popped2 {L : Nat → Nat} {a1 a3 : Option Addr} {c1 c2 c3 g off : Nat} (H : ReIn D L w x s a1 c1 (some ⟨g, off, none⟩) c2 a3 c3) (hD : ∀ k, w.heap.size ≤ k → D k) {n : Nat} (hn : n = s.b1.tail.length) :
    RE x { s with b1 := s.b1.tail } D (w.setCell ⟨x, 1, none⟩ (.slice (if c2 = 1 then some ⟨g, off, none⟩ else some ⟨g, off + 1, none⟩) n (c2 - 1))) := by
  subst hn
  by_cases h : c2 = 1
  · rw [if_pos h, h]
    have hz := H.r2.1
    have he : s.b1.tail = [] := List.eq_nil_of_length_eq_zero (by rw [List.length_tail]; omega)
    exact ⟨_, _, _, _, _, _, _, H.put2 hD (Keeps.refl _ _) (by rw [he]; exact Row.bare _)⟩
  · rw [if_neg h]
    have := H.r2.drop 1
    rw [List.drop_one] at this
    exact ⟨_, _, _, _, _, _, _, H.put2 hD (Keeps.refl _ _) (this.wide (fun _ _ h => .inl h))⟩
set_option maxRecDepth 100000 in
set_option maxHeartbeats 2000000 in
theorem revi_early (H : RE x s D w) (hs : Small s) (ho : Single s) (hD : ∀ k, w.heap.size ≤ k → D k) (hlate : A.late s = false) {k : ByteArray} {r : List ByteArray} (hq : s.t1 = k :: r) :
    Calls Try.prog 48 #[.pointer (some ⟨x, 0, none⟩)] w fun e w' => e = .returned (.tuple #[.string k, .bool true]) ∧ RE x { s with t1 := r, b1 := A.trim (A.kout s) (s.b1 ++ [k]) } D w' ∧ Keeps D w w' := by
  have hl := rlen_any H hs
  have hne : ¬ (A.keys s).length = 0 := by rw [A.keys_length, hq]; simp
  have hcase : ¬ s.t1.length ≤ A.kin s ∨ (s.t1.length ≤ A.kin s ∧ s.t2.length = 0) := by
    by_cases h1 : s.t1.length ≤ A.kin s
    · refine .inr ⟨h1, ?_⟩
      by_cases h2 : 0 < s.t2.length
      · rw [(late_is s).2 ⟨h1, h2⟩] at hlate; cases hlate
      · omega
    · exact .inl h1
  obtain ⟨L, a1, c1, a2, c2, a3, c3, H⟩ := H
  obtain ⟨g1, o1, rfl, -, ck, -⟩ := H.r1.at (i := 0) (z := k) (by rw [hq]; rfl)
  rw [Nat.add_zero] at ck
  have HE : Hid (ReIn D L w x s (some ⟨g1, o1, none⟩) c1 a2 c2 a3 c3) := H
  have HD : Hid (∀ k, w.heap.size ≤ k → D k) := hD
  have HC : Hid (A.cut s.t1 k = r) := by
    show A.cut s.t1 k = r
    rw [hq]
    exact A.cut_head (fun j => by have := ho j; rw [hq] at this; omega)
  have hp1 : 0 < s.t1.length := by rw [hq]; simp
  have hl1 := hs.l1; have hl2 := hs.l2; have hl3 := hs.l3; have hc := hs.hc
  have hw4 : IntKind.i64.wrap ((s.c : Int) / 4) = (s.c : Int) / 4 := by simp [IntKind.wrap_i64]; omega
  have hw2 : IntKind.i64.wrap ((s.c : Int) / 2) = (s.c : Int) / 2 := by simp [IntKind.wrap_i64]; omega
  obtain ⟨L2, hL2⟩ : ∃ L2, L2 = s.b1 ++ [k] := ⟨_, rfl⟩
  have HL2 : Hid (L2 = s.b1 ++ [k]) := hL2
  have hLl : L2.length ≤ 4101 := by rw [hL2]; simp; omega
  obtain ⟨ko, hko⟩ : ∃ ko, ko = A.kout s := ⟨_, rfl⟩
  have HKo : Hid (ko = A.kout s) := hko
  have HKe : Hid (A.kin s = max 1 (s.c / 4)) := rfl
  clear H hs ho hD hq hL2 hko hlate
  generalize (A.keys s).length = nk at *
  rcases hcase with h1 | ⟨h1, h2⟩
  · have hgt : decide (max 1 ((s.c : Int) / 4) < (s.t1.length : Int)) = true := by rw [decide_eq_true_eq]; rw [HKe.out] at h1; omega
    clear h1
    go_enter Try.func48, Try.ntmps48
    go_wp2_with (go_at_call 69; refine Calls.mono hl ?_; clear hl; rintro e w1 ⟨rfl, q, hw1⟩; have hb1 : Below w.heap.size w w1 := (by rw [hw1]; exact below_drewN (Below.refl _ w) q); have HE1 : Hid (ReIn D L w1 x s (some ⟨g1, o1, none⟩) c1 a2 c2 a3 c3) := (HE.out.below hb1); obtain ⟨d0, d1, d2, d3⟩ := HE1.out.cells; have HB1 : Hid (Below w.heap.size w w1) := hb1; have ck1 := (cell_later hb1 ck); clear hw1 hb1)
    refine region_same (by kernel_rfl) 19 9 rfl (fun slot => [(.pointer (some ⟨x, 0, none⟩) : Value), (.pointer (some ⟨x, 0, none⟩) : Value), (.pointer (some ⟨x, 0, none⟩) : Value), (.slice (some ⟨g1, o1, none⟩) s.t1.length c1 : Value), (.int .i64 (s.t1.length : Nat) : Value), (.pointer (some ⟨x, 0, none⟩) : Value), (.pointer (some ⟨x, 0, none⟩) : Value), (.pointer (some ⟨x, 3, none⟩) : Value), (.int .i64 (s.c : Nat) : Value), (.int .i64 ((s.c : Int) / 4) : Value), (.int .i64 (max 1 ((s.c : Int) / 4)) : Value), (.bool true : Value), (.bool true : Value), (undef : Value), (undef : Value), (undef : Value), (undef : Value), (undef : Value), (undef : Value), (.bool true : Value)].getD slot undef) (lex_of (by kernel_rfl)) (wait_of (by kernel_rfl)) (by simp) ?_ ?_
    · intro i hi a' hst hdep Kc hKc
      have hcase : i = 0 ∨ i = 1 ∨ i = 2 ∨ i = 3 ∨ i = 4 ∨ i = 5 ∨ i = 6 ∨ i = 7 ∨ i = 8 ∨ i = 9 ∨ i = 10 ∨ i = 11 ∨ i = 12 ∨ i = 13 ∨ i = 14 ∨ i = 15 ∨ i = 16 ∨ i = 17 ∨ i = 18 ∨ i = 19 := by omega
      rcases hcase with e1 | e1 | e1 | e1 | e1 | e1 | e1 | e1 | e1 | e1 | e1 | e1 | e1 | e1 | e1 | e1 | e1 | e1 | e1 | e1
      · subst e1
        have o0 := hst.at 0 (by omega)
        simp at o0
        refine still_op rfl rfl ?_
        simp [Oper.wp, execOp, Act.eval, go_sem, o0]
        exact hKc
      · subst e1
        have d0 : a'.tmps[9]?.getD undef = .pointer (some ⟨x, 0, none⟩) := by simpa using hdep 0 (by kernel_rfl)
        refine still_op rfl rfl ?_
        simp [Oper.wp, execOp, Act.eval, go_sem, d0]
        exact hKc
      · subst e1
        have d1 : a'.tmps[10]?.getD undef = .pointer (some ⟨x, 0, none⟩) := by simpa using hdep 1 (by kernel_rfl)
        refine still_op rfl rfl ?_
        simp [Oper.wp, execOp, Act.eval, go_sem, d1]
        exact hKc
      · subst e1
        have d2 : a'.tmps[11]?.getD undef = .pointer (some ⟨x, 0, none⟩) := by simpa using hdep 2 (by kernel_rfl)
        refine still_op rfl rfl ?_
        simp [Oper.wp, execOp, Act.eval, go_sem, d2, d0]
        exact hKc
      · subst e1
        have d3 : a'.tmps[12]?.getD undef = .slice (some ⟨g1, o1, none⟩) s.t1.length c1 := by simpa using hdep 3 (by kernel_rfl)
        refine still_op rfl rfl ?_
        simp [Oper.wp, execOp, Act.eval, go_sem, d3]
        exact hKc
      · subst e1
        have o0 := hst.at 0 (by omega)
        simp at o0
        refine still_op rfl rfl ?_
        simp [Oper.wp, execOp, Act.eval, go_sem, o0]
        exact hKc
      · subst e1
        have d5 : a'.tmps[14]?.getD undef = .pointer (some ⟨x, 0, none⟩) := by simpa using hdep 5 (by kernel_rfl)
        refine still_op rfl rfl ?_
        simp [Oper.wp, execOp, Act.eval, go_sem, d5]
        exact hKc
      · subst e1
        have d6 : a'.tmps[15]?.getD undef = .pointer (some ⟨x, 0, none⟩) := by simpa using hdep 6 (by kernel_rfl)
        refine still_op rfl rfl ?_
        simp [Oper.wp, execOp, Act.eval, go_sem, d6]
        exact hKc
      · subst e1
        have d7 : a'.tmps[16]?.getD undef = .pointer (some ⟨x, 3, none⟩) := by simpa using hdep 7 (by kernel_rfl)
        refine still_op rfl rfl ?_
        simp [Oper.wp, execOp, Act.eval, go_sem, d7, d3]
        exact hKc
      · subst e1
        have d8 : a'.tmps[17]?.getD undef = .int .i64 (s.c : Nat) := by simpa using hdep 8 (by kernel_rfl)
        refine still_op rfl rfl ?_
        simp [Oper.wp, execOp, Act.eval, go_sem, d8, hw4]
        exact hKc
      · subst e1
        have d9 : a'.tmps[18]?.getD undef = .int .i64 ((s.c : Int) / 4) := by simpa using hdep 9 (by kernel_rfl)
        refine still_op rfl rfl ?_
        simp [Oper.wp, execOp, Act.eval, go_sem, d9]
        exact hKc
      · subst e1
        have d4 : a'.tmps[13]?.getD undef = .int .i64 (s.t1.length : Nat) := by simpa using hdep 4 (by kernel_rfl)
        have d10 : a'.tmps[19]?.getD undef = .int .i64 (max 1 ((s.c : Int) / 4)) := by simpa using hdep 10 (by kernel_rfl)
        refine still_op rfl rfl ?_
        simp [Oper.wp, execOp, Act.eval, go_sem, d4, d10, hgt]
        exact hKc
      · subst e1
        have d11 : a'.tmps[20]?.getD undef = .bool true := by simpa using hdep 11 (by kernel_rfl)
        refine still_op rfl rfl ?_
        simp [Oper.wp, execOp, Act.eval, go_sem, d11]
        exact hKc
      · subst e1
        exact still_off rfl rfl rfl rfl (hdep 12 (by kernel_rfl)) rfl hKc
      · subst e1
        exact still_off rfl rfl rfl rfl (hdep 12 (by kernel_rfl)) rfl hKc
      · subst e1
        exact still_off rfl rfl rfl rfl (hdep 12 (by kernel_rfl)) rfl hKc
      · subst e1
        exact still_off rfl rfl rfl rfl (hdep 12 (by kernel_rfl)) rfl hKc
      · subst e1
        exact still_off rfl rfl rfl rfl (hdep 12 (by kernel_rfl)) rfl hKc
      · subst e1
        exact still_off rfl rfl rfl rfl (hdep 12 (by kernel_rfl)) rfl hKc
      · subst e1
        have d12 : a'.tmps[21]?.getD undef = .bool true := by simpa using hdep 12 (by kernel_rfl)
        refine still_op rfl rfl ?_
        simp [Oper.wp, execOp, Act.eval, go_sem, d12]
        exact hKc
    simp only [fillA, Act.put, List.setIfInBounds_toArray, List.set_cons_succ, List.set_cons_zero, List.getD_cons_zero, List.getD_cons_succ, Nat.reduceAdd, Nat.add_zero]
    have hcut := rcut_any (HE1.out.below (Below.refl _ w1).drew).r1 (by omega) k
    rw [HC.out] at hcut
    go_wp2_with (first
      | (go_at_call 67; refine Calls.mono hcut ?_; clear hcut; rintro e w5 ⟨ad5, cp5, rfl, hr5, hb5⟩; have HE5 : Hid (ReIn D L w5 x s (some ⟨g1, o1, none⟩) c1 a2 c2 a3 c3) := ((HE1.out.below (Below.refl _ w1).drew).below hb5); obtain ⟨p0, p1, p2, p3⟩ := HE5.out.cells; obtain ⟨t0, t1, t2, t3⟩ := HE5.out.thaw; have H6 : Hid (ReIn D (lab L w1.heap.size 1) (w5.setCell ⟨x, 0, none⟩ (.slice ad5 r.length cp5)) x { s with t1 := r } ad5 cp5 a2 c2 a3 c3) := ((HE1.out.below (Below.refl _ w1).drew).put1 (fun k h => HD.out k (Nat.le_trans HB1.out.size h)) (Keeps.of_below hb5) (hr5.wide (fun _ _ h => .inr h))); have HK6 : Hid (Keeps D w (w5.setCell ⟨x, 0, none⟩ (.slice ad5 r.length cp5))) := ((((Keeps.of_below HB1.out).trans (Keeps.of_below (Below.refl _ w1).drew)).trans (Keeps.of_below hb5)).setCell (p := ⟨x, 0, none⟩) HE.out.dx _); clear hr5 hb5)
      | (at_builtin; go_must (refine wpList_append_row (ks := [k]) rfl _ _ rfl rfl (H6.out.r2.below ((Below.refl _ _).alloc (Nat.le_refl _) _)) rfl (src_at k (by simp [World.setCell])) (by simp; omega) ?_); intro a7 n7 w7 hr7 hk7; obtain ⟨⟨x0, x1, x2, x3⟩, y0, y1, y2, y3⟩ := (H6.out.below ((Below.refl _ _).alloc (Nat.le_refl _) _)).still (by omega) hk7; have H7 : Hid (ReIn D _ (w7.setCell ⟨x, 1, none⟩ (.slice a7 (s.b1 ++ [k]).length n7)) x { s with t1 := r, b1 := s.b1 ++ [k] } ad5 cp5 a7 n7 a3 c3) := ((H6.out.below ((Below.refl _ _).alloc (Nat.le_refl _) _)).put2 (fun k h => HD.out k (Nat.le_trans (Nat.le_trans HK6.out.size (by simp)) h)) hk7 hr7); have HK7 : Hid (Keeps D w (w7.setCell ⟨x, 1, none⟩ (.slice a7 (s.b1 ++ [k]).length n7))) := (((HK6.out.alloc _).trans (hk7.mono (fun _ _ h => h.1))).setCell (p := ⟨x, 1, none⟩) HE.out.dx _); clear hr7 hk7))
    rw [List.length_append, List.length_cons, List.length_nil] at H7 HK7
    go_loopg [] (L2.length) (fun n wr => ∃ j : Nat, n = L2.length - j ∧ j ≤ L2.length - ko ∧ RE x { s with t1 := r, b1 := L2.drop j } D wr ∧ Keeps D w wr)
    case atStart => exact ⟨0, rfl, Nat.zero_le _, by rw [List.drop_zero, HL2.out]; exact ⟨_, _, _, _, _, _, _, H7.out⟩, HK7.out⟩
    case round =>
      obtain ⟨j, rfl, hj, hA, hK⟩ := hrel
      have HA : Hid (RE x { s with t1 := r, b1 := L2.drop j } D wr) := hA
      have HK : Hid (Keeps D w wr) := hK
      obtain ⟨M, b1, n1, b2, n2, b3, n3, hM⟩ := hA
      have HM : Hid (ReIn D M wr x { s with t1 := r, b1 := L2.drop j } b1 n1 b2 n2 b3 n3) := hM
      obtain ⟨u0, u1, u2, u3⟩ := hM.cells
      obtain ⟨v0, v1, v2, v3⟩ := hM.thaw
      simp only [List.length_drop] at u0 u1 u2 u3
      clear hM hK H7 HK7 H6 HK6 HE5 p0 p1 p2 p3 x0 x1 x2 x3 y0 y1 y2 y3 t0 t1 t2 t3 d0 d1 d2 d3 ck ck1
      by_cases hgt0 : ko < L2.length - j
      · have hgt2 : decide (max 1 ((s.c : Int) / 2) < ((L2.length - j : Nat) : Int)) = true := by rw [decide_eq_true_eq]; have := HKo.out; unfold A.kout at this; omega
        obtain ⟨y, hy⟩ : ∃ y, (L2.drop j)[0]? = some y := ⟨_, List.getElem?_eq_getElem (by rw [List.length_drop]; omega)⟩
        obtain ⟨g2, o2, rfl, -, -, -⟩ := HM.out.r2.at hy
        have hcap := HM.out.r2.1
        rw [List.length_drop] at hcap
        have HP := HM.out.popped2 (fun k h => HD.out k (Nat.le_trans HK.out.size h)) (n := L2.length - j - 1) (by rw [List.length_tail, List.length_drop])
        have e9 : (L2.drop j).tail = L2.drop (j + 1) := by rw [← List.drop_one, List.drop_drop]
        have HPop : Hid (RE x { s with t1 := r, b1 := L2.drop (j + 1) } D (wr.setCell ⟨x, 1, none⟩ (.slice (if n2 = 1 then some ⟨g2, o2, none⟩ else some ⟨g2, o2 + 1, none⟩) (L2.length - j - 1) (n2 - 1)))) := by
          rw [← e9]
          exact HP
        clear e9
        clear hy HP
        go_wp2_with fail
        refine region_same (by kernel_rfl) 11 54 rfl (fun slot => [(.pointer (some ⟨x, 0, none⟩) : Value), (.pointer (some ⟨x, 0, none⟩) : Value), (.pointer (some ⟨x, 1, none⟩) : Value), (.slice (some ⟨g2, o2, none⟩) (L2.length - j) n2 : Value), (.int .i64 ((L2.length - j : Nat) : Int) : Value), (.pointer (some ⟨x, 0, none⟩) : Value), (.pointer (some ⟨x, 0, none⟩) : Value), (.pointer (some ⟨x, 3, none⟩) : Value), (.int .i64 (s.c : Nat) : Value), (.int .i64 ((s.c : Int) / 2) : Value), (.int .i64 (max 1 ((s.c : Int) / 2)) : Value), (.bool true : Value)].getD slot undef) (lex_of (by kernel_rfl)) (wait_of (by kernel_rfl)) (by simp) ?_ ?_
        · intro i hi a' hst hdep Kc hKc
          have hcase : i = 0 ∨ i = 1 ∨ i = 2 ∨ i = 3 ∨ i = 4 ∨ i = 5 ∨ i = 6 ∨ i = 7 ∨ i = 8 ∨ i = 9 ∨ i = 10 ∨ i = 11 := by omega
          rcases hcase with e1 | e1 | e1 | e1 | e1 | e1 | e1 | e1 | e1 | e1 | e1 | e1
          · subst e1
            have o0 := hst.at 0 (by omega)
            simp at o0
            refine still_op rfl rfl ?_
            simp [Oper.wp, execOp, Act.eval, go_sem, o0]
            exact hKc
          · subst e1
            have d0 : a'.tmps[54]?.getD undef = .pointer (some ⟨x, 0, none⟩) := by simpa using hdep 0 (by kernel_rfl)
            refine still_op rfl rfl ?_
            simp [Oper.wp, execOp, Act.eval, go_sem, d0]
            exact hKc
          · subst e1
            have d1 : a'.tmps[55]?.getD undef = .pointer (some ⟨x, 0, none⟩) := by simpa using hdep 1 (by kernel_rfl)
            refine still_op rfl rfl ?_
            simp [Oper.wp, execOp, Act.eval, go_sem, d1]
            exact hKc
          · subst e1
            have d2 : a'.tmps[56]?.getD undef = .pointer (some ⟨x, 1, none⟩) := by simpa using hdep 2 (by kernel_rfl)
            refine still_op rfl rfl ?_
            simp [Oper.wp, execOp, Act.eval, go_sem, d2, u1]
            exact hKc
          · subst e1
            have d3 : a'.tmps[57]?.getD undef = .slice (some ⟨g2, o2, none⟩) (L2.length - j) n2 := by simpa using hdep 3 (by kernel_rfl)
            refine still_op rfl rfl ?_
            simp [Oper.wp, execOp, Act.eval, go_sem, d3]
            exact hKc
          · subst e1
            have o0 := hst.at 0 (by omega)
            simp at o0
            refine still_op rfl rfl ?_
            simp [Oper.wp, execOp, Act.eval, go_sem, o0]
            exact hKc
          · subst e1
            have d5 : a'.tmps[59]?.getD undef = .pointer (some ⟨x, 0, none⟩) := by simpa using hdep 5 (by kernel_rfl)
            refine still_op rfl rfl ?_
            simp [Oper.wp, execOp, Act.eval, go_sem, d5]
            exact hKc
          · subst e1
            have d6 : a'.tmps[60]?.getD undef = .pointer (some ⟨x, 0, none⟩) := by simpa using hdep 6 (by kernel_rfl)
            refine still_op rfl rfl ?_
            simp [Oper.wp, execOp, Act.eval, go_sem, d6]
            exact hKc
          · subst e1
            have d7 : a'.tmps[61]?.getD undef = .pointer (some ⟨x, 3, none⟩) := by simpa using hdep 7 (by kernel_rfl)
            refine still_op rfl rfl ?_
            simp [Oper.wp, execOp, Act.eval, go_sem, d7, u3]
            exact hKc
          · subst e1
            have d8 : a'.tmps[62]?.getD undef = .int .i64 (s.c : Nat) := by simpa using hdep 8 (by kernel_rfl)
            refine still_op rfl rfl ?_
            simp [Oper.wp, execOp, Act.eval, go_sem, d8, hw2]
            exact hKc
          · subst e1
            have d9 : a'.tmps[63]?.getD undef = .int .i64 ((s.c : Int) / 2) := by simpa using hdep 9 (by kernel_rfl)
            refine still_op rfl rfl ?_
            simp [Oper.wp, execOp, Act.eval, go_sem, d9]
            exact hKc
          · subst e1
            have d4 : a'.tmps[58]?.getD undef = .int .i64 ((L2.length - j : Nat) : Int) := by simpa using hdep 4 (by kernel_rfl)
            have d10 : a'.tmps[64]?.getD undef = .int .i64 (max 1 ((s.c : Int) / 2)) := by simpa using hdep 10 (by kernel_rfl)
            refine still_op rfl rfl ?_
            simp [Oper.wp, execOp, Act.eval, go_sem, d4, d10, hgt2]
            exact hKc
        simp only [fillA, Act.put, List.setIfInBounds_toArray, List.set_cons_succ, List.set_cons_zero, List.getD_cons_zero, List.getD_cons_succ, Nat.reduceAdd, Nat.add_zero]
        go_wp2_with fail
        all_goals
          go_roundg (L2.length - (j + 1))
          case measure => omega
          case rel =>
            refine ⟨j + 1, rfl, by omega, ?_, (HK.out.setCell (p := ⟨x, 1, none⟩) HE.out.dx _).drew⟩
            have h9 := HPop.out
            first
              | (rw [if_neg h] at h9; exact h9.below (Below.refl _ _).drew)
              | (rw [if_pos h, h] at h9; exact h9.below (Below.refl _ _).drew)
      · have hgt2 : decide (max 1 ((s.c : Int) / 2) < ((L2.length - j : Nat) : Int)) = false := by rw [decide_eq_false_iff_not]; have := HKo.out; unfold A.kout at this; omega
        go_wp2_with fail
        refine region_same (by kernel_rfl) 11 54 rfl (fun slot => [(.pointer (some ⟨x, 0, none⟩) : Value), (.pointer (some ⟨x, 0, none⟩) : Value), (.pointer (some ⟨x, 1, none⟩) : Value), (.slice b2 (L2.length - j) n2 : Value), (.int .i64 ((L2.length - j : Nat) : Int) : Value), (.pointer (some ⟨x, 0, none⟩) : Value), (.pointer (some ⟨x, 0, none⟩) : Value), (.pointer (some ⟨x, 3, none⟩) : Value), (.int .i64 (s.c : Nat) : Value), (.int .i64 ((s.c : Int) / 2) : Value), (.int .i64 (max 1 ((s.c : Int) / 2)) : Value), (.bool false : Value)].getD slot undef) (lex_of (by kernel_rfl)) (wait_of (by kernel_rfl)) (by simp) ?_ ?_
        · intro i hi a' hst hdep Kc hKc
          have hcase : i = 0 ∨ i = 1 ∨ i = 2 ∨ i = 3 ∨ i = 4 ∨ i = 5 ∨ i = 6 ∨ i = 7 ∨ i = 8 ∨ i = 9 ∨ i = 10 ∨ i = 11 := by omega
          rcases hcase with e1 | e1 | e1 | e1 | e1 | e1 | e1 | e1 | e1 | e1 | e1 | e1
          · subst e1
            have o0 := hst.at 0 (by omega)
            simp at o0
            refine still_op rfl rfl ?_
            simp [Oper.wp, execOp, Act.eval, go_sem, o0]
            exact hKc
          · subst e1
            have d0 : a'.tmps[54]?.getD undef = .pointer (some ⟨x, 0, none⟩) := by simpa using hdep 0 (by kernel_rfl)
            refine still_op rfl rfl ?_
            simp [Oper.wp, execOp, Act.eval, go_sem, d0]
            exact hKc
          · subst e1
            have d1 : a'.tmps[55]?.getD undef = .pointer (some ⟨x, 0, none⟩) := by simpa using hdep 1 (by kernel_rfl)
            refine still_op rfl rfl ?_
            simp [Oper.wp, execOp, Act.eval, go_sem, d1]
            exact hKc
          · subst e1
            have d2 : a'.tmps[56]?.getD undef = .pointer (some ⟨x, 1, none⟩) := by simpa using hdep 2 (by kernel_rfl)
            refine still_op rfl rfl ?_
            simp [Oper.wp, execOp, Act.eval, go_sem, d2, u1]
            exact hKc
          · subst e1
            have d3 : a'.tmps[57]?.getD undef = .slice b2 (L2.length - j) n2 := by simpa using hdep 3 (by kernel_rfl)
            refine still_op rfl rfl ?_
            simp [Oper.wp, execOp, Act.eval, go_sem, d3]
            exact hKc
          · subst e1
            have o0 := hst.at 0 (by omega)
            simp at o0
            refine still_op rfl rfl ?_
            simp [Oper.wp, execOp, Act.eval, go_sem, o0]
            exact hKc
          · subst e1
            have d5 : a'.tmps[59]?.getD undef = .pointer (some ⟨x, 0, none⟩) := by simpa using hdep 5 (by kernel_rfl)
            refine still_op rfl rfl ?_
            simp [Oper.wp, execOp, Act.eval, go_sem, d5]
            exact hKc
          · subst e1
            have d6 : a'.tmps[60]?.getD undef = .pointer (some ⟨x, 0, none⟩) := by simpa using hdep 6 (by kernel_rfl)
            refine still_op rfl rfl ?_
            simp [Oper.wp, execOp, Act.eval, go_sem, d6]
            exact hKc
          · subst e1
            have d7 : a'.tmps[61]?.getD undef = .pointer (some ⟨x, 3, none⟩) := by simpa using hdep 7 (by kernel_rfl)
            refine still_op rfl rfl ?_
            simp [Oper.wp, execOp, Act.eval, go_sem, d7, u3]
            exact hKc
          · subst e1
            have d8 : a'.tmps[62]?.getD undef = .int .i64 (s.c : Nat) := by simpa using hdep 8 (by kernel_rfl)
            refine still_op rfl rfl ?_
            simp [Oper.wp, execOp, Act.eval, go_sem, d8, hw2]
            exact hKc
          · subst e1
            have d9 : a'.tmps[63]?.getD undef = .int .i64 ((s.c : Int) / 2) := by simpa using hdep 9 (by kernel_rfl)
            refine still_op rfl rfl ?_
            simp [Oper.wp, execOp, Act.eval, go_sem, d9]
            exact hKc
          · subst e1
            have d4 : a'.tmps[58]?.getD undef = .int .i64 ((L2.length - j : Nat) : Int) := by simpa using hdep 4 (by kernel_rfl)
            have d10 : a'.tmps[64]?.getD undef = .int .i64 (max 1 ((s.c : Int) / 2)) := by simpa using hdep 10 (by kernel_rfl)
            refine still_op rfl rfl ?_
            simp [Oper.wp, execOp, Act.eval, go_sem, d4, d10, hgt2]
            exact hKc
        simp only [fillA, Act.put, List.setIfInBounds_toArray, List.set_cons_succ, List.set_cons_zero, List.getD_cons_zero, List.getD_cons_succ, Nat.reduceAdd, Nat.add_zero]
        go_wp2_with fail
        go_ret2
        refine ⟨rfl, ?_, HK.out.trans (Keeps.of_below (Below.refl _ _).drew)⟩
        have h9 := HA.out.below (Below.refl _ wr).drew
        rw [drop_trim hj (by omega), HL2.out, HKo.out] at h9
        exact h9
  · have hgt : decide (max 1 ((s.c : Int) / 4) < (s.t1.length : Int)) = false := by rw [decide_eq_false_iff_not]; rw [HKe.out] at h1; omega
    have hz3 : (((s.t2.length : Nat) : Int) == 0) = true := by rw [h2]; rfl
    clear h1 h2
    go_enter Try.func48, Try.ntmps48
    go_wp2_with (go_at_call 69; refine Calls.mono hl ?_; clear hl; rintro e w1 ⟨rfl, q, hw1⟩; have hb1 : Below w.heap.size w w1 := (by rw [hw1]; exact below_drewN (Below.refl _ w) q); have HE1 : Hid (ReIn D L w1 x s (some ⟨g1, o1, none⟩) c1 a2 c2 a3 c3) := (HE.out.below hb1); obtain ⟨d0, d1, d2, d3⟩ := HE1.out.cells; have HB1 : Hid (Below w.heap.size w w1) := hb1; have ck1 := (cell_later hb1 ck); clear hw1 hb1)
    refine region_same (by kernel_rfl) 19 9 rfl (fun slot => [(.pointer (some ⟨x, 0, none⟩) : Value), (.pointer (some ⟨x, 0, none⟩) : Value), (.pointer (some ⟨x, 0, none⟩) : Value), (.slice (some ⟨g1, o1, none⟩) s.t1.length c1 : Value), (.int .i64 (s.t1.length : Nat) : Value), (.pointer (some ⟨x, 0, none⟩) : Value), (.pointer (some ⟨x, 0, none⟩) : Value), (.pointer (some ⟨x, 3, none⟩) : Value), (.int .i64 (s.c : Nat) : Value), (.int .i64 ((s.c : Int) / 4) : Value), (.int .i64 (max 1 ((s.c : Int) / 4)) : Value), (.bool false : Value), (.bool false : Value), (.pointer (some ⟨x, 0, none⟩) : Value), (.pointer (some ⟨x, 0, none⟩) : Value), (.pointer (some ⟨x, 2, none⟩) : Value), (.slice a3 s.t2.length c3 : Value), (.int .i64 (s.t2.length : Nat) : Value), (.bool true : Value), (.bool true : Value)].getD slot undef) (lex_of (by kernel_rfl)) (wait_of (by kernel_rfl)) (by simp) ?_ ?_
    · intro i hi a' hst hdep Kc hKc
      have hcase : i = 0 ∨ i = 1 ∨ i = 2 ∨ i = 3 ∨ i = 4 ∨ i = 5 ∨ i = 6 ∨ i = 7 ∨ i = 8 ∨ i = 9 ∨ i = 10 ∨ i = 11 ∨ i = 12 ∨ i = 13 ∨ i = 14 ∨ i = 15 ∨ i = 16 ∨ i = 17 ∨ i = 18 ∨ i = 19 := by omega
      rcases hcase with e1 | e1 | e1 | e1 | e1 | e1 | e1 | e1 | e1 | e1 | e1 | e1 | e1 | e1 | e1 | e1 | e1 | e1 | e1 | e1
      · subst e1
        have o0 := hst.at 0 (by omega)
        simp at o0
        refine still_op rfl rfl ?_
        simp [Oper.wp, execOp, Act.eval, go_sem, o0]
        exact hKc
      · subst e1
        have d0 : a'.tmps[9]?.getD undef = .pointer (some ⟨x, 0, none⟩) := by simpa using hdep 0 (by kernel_rfl)
        refine still_op rfl rfl ?_
        simp [Oper.wp, execOp, Act.eval, go_sem, d0]
        exact hKc
      · subst e1
        have d1 : a'.tmps[10]?.getD undef = .pointer (some ⟨x, 0, none⟩) := by simpa using hdep 1 (by kernel_rfl)
        refine still_op rfl rfl ?_
        simp [Oper.wp, execOp, Act.eval, go_sem, d1]
        exact hKc
      · subst e1
        have d2 : a'.tmps[11]?.getD undef = .pointer (some ⟨x, 0, none⟩) := by simpa using hdep 2 (by kernel_rfl)
        refine still_op rfl rfl ?_
        simp [Oper.wp, execOp, Act.eval, go_sem, d2, d0]
        exact hKc
      · subst e1
        have d3 : a'.tmps[12]?.getD undef = .slice (some ⟨g1, o1, none⟩) s.t1.length c1 := by simpa using hdep 3 (by kernel_rfl)
        refine still_op rfl rfl ?_
        simp [Oper.wp, execOp, Act.eval, go_sem, d3]
        exact hKc
      · subst e1
        have o0 := hst.at 0 (by omega)
        simp at o0
        refine still_op rfl rfl ?_
        simp [Oper.wp, execOp, Act.eval, go_sem, o0]
        exact hKc
      · subst e1
        have d5 : a'.tmps[14]?.getD undef = .pointer (some ⟨x, 0, none⟩) := by simpa using hdep 5 (by kernel_rfl)
        refine still_op rfl rfl ?_
        simp [Oper.wp, execOp, Act.eval, go_sem, d5]
        exact hKc
      · subst e1
        have d6 : a'.tmps[15]?.getD undef = .pointer (some ⟨x, 0, none⟩) := by simpa using hdep 6 (by kernel_rfl)
        refine still_op rfl rfl ?_
        simp [Oper.wp, execOp, Act.eval, go_sem, d6]
        exact hKc
      · subst e1
        have d7 : a'.tmps[16]?.getD undef = .pointer (some ⟨x, 3, none⟩) := by simpa using hdep 7 (by kernel_rfl)
        refine still_op rfl rfl ?_
        simp [Oper.wp, execOp, Act.eval, go_sem, d7, d3]
        exact hKc
      · subst e1
        have d8 : a'.tmps[17]?.getD undef = .int .i64 (s.c : Nat) := by simpa using hdep 8 (by kernel_rfl)
        refine still_op rfl rfl ?_
        simp [Oper.wp, execOp, Act.eval, go_sem, d8, hw4]
        exact hKc
      · subst e1
        have d9 : a'.tmps[18]?.getD undef = .int .i64 ((s.c : Int) / 4) := by simpa using hdep 9 (by kernel_rfl)
        refine still_op rfl rfl ?_
        simp [Oper.wp, execOp, Act.eval, go_sem, d9]
        exact hKc
      · subst e1
        have d4 : a'.tmps[13]?.getD undef = .int .i64 (s.t1.length : Nat) := by simpa using hdep 4 (by kernel_rfl)
        have d10 : a'.tmps[19]?.getD undef = .int .i64 (max 1 ((s.c : Int) / 4)) := by simpa using hdep 10 (by kernel_rfl)
        refine still_op rfl rfl ?_
        simp [Oper.wp, execOp, Act.eval, go_sem, d4, d10, hgt]
        exact hKc
      · subst e1
        have d11 : a'.tmps[20]?.getD undef = .bool false := by simpa using hdep 11 (by kernel_rfl)
        refine still_op rfl rfl ?_
        simp [Oper.wp, execOp, Act.eval, go_sem, d11]
        exact hKc
      · subst e1
        have o0 := hst.at 0 (by omega)
        simp at o0
        refine still_on rfl rfl rfl rfl (hdep 12 (by kernel_rfl)) ?_
        simp [Oper.wp, execOp, Act.eval, go_sem, o0]
        exact hKc
      · subst e1
        have d13 : a'.tmps[22]?.getD undef = .pointer (some ⟨x, 0, none⟩) := by simpa using hdep 13 (by kernel_rfl)
        refine still_on rfl rfl rfl rfl (hdep 12 (by kernel_rfl)) ?_
        simp [Oper.wp, execOp, Act.eval, go_sem, d13]
        exact hKc
      · subst e1
        have d14 : a'.tmps[23]?.getD undef = .pointer (some ⟨x, 0, none⟩) := by simpa using hdep 14 (by kernel_rfl)
        refine still_on rfl rfl rfl rfl (hdep 12 (by kernel_rfl)) ?_
        simp [Oper.wp, execOp, Act.eval, go_sem, d14]
        exact hKc
      · subst e1
        have d15 : a'.tmps[24]?.getD undef = .pointer (some ⟨x, 2, none⟩) := by simpa using hdep 15 (by kernel_rfl)
        refine still_on rfl rfl rfl rfl (hdep 12 (by kernel_rfl)) ?_
        simp [Oper.wp, execOp, Act.eval, go_sem, d15, d2]
        exact hKc
      · subst e1
        have d16 : a'.tmps[25]?.getD undef = .slice a3 s.t2.length c3 := by simpa using hdep 16 (by kernel_rfl)
        refine still_on rfl rfl rfl rfl (hdep 12 (by kernel_rfl)) ?_
        simp [Oper.wp, execOp, Act.eval, go_sem, d16]
        exact hKc
      · subst e1
        have d17 : a'.tmps[26]?.getD undef = .int .i64 (s.t2.length : Nat) := by simpa using hdep 17 (by kernel_rfl)
        refine still_on rfl rfl rfl rfl (hdep 12 (by kernel_rfl)) ?_
        simp [Oper.wp, execOp, Act.eval, go_sem, d17, hz3]
        exact hKc
      · subst e1
        have d12 : a'.tmps[21]?.getD undef = .bool false := by simpa using hdep 12 (by kernel_rfl)
        have d18 : a'.tmps[27]?.getD undef = .bool true := by simpa using hdep 18 (by kernel_rfl)
        refine still_op rfl rfl ?_
        simp [Oper.wp, execOp, Act.eval, go_sem, d12, d18]
        exact hKc
    simp only [fillA, Act.put, List.setIfInBounds_toArray, List.set_cons_succ, List.set_cons_zero, List.getD_cons_zero, List.getD_cons_succ, Nat.reduceAdd, Nat.add_zero]
    have hcut := rcut_any (HE1.out.below (Below.refl _ w1).drew).r1 (by omega) k
    rw [HC.out] at hcut
    go_wp2_with (first
      | (go_at_call 67; refine Calls.mono hcut ?_; clear hcut; rintro e w5 ⟨ad5, cp5, rfl, hr5, hb5⟩; have HE5 : Hid (ReIn D L w5 x s (some ⟨g1, o1, none⟩) c1 a2 c2 a3 c3) := ((HE1.out.below (Below.refl _ w1).drew).below hb5); obtain ⟨p0, p1, p2, p3⟩ := HE5.out.cells; obtain ⟨t0, t1, t2, t3⟩ := HE5.out.thaw; have H6 : Hid (ReIn D (lab L w1.heap.size 1) (w5.setCell ⟨x, 0, none⟩ (.slice ad5 r.length cp5)) x { s with t1 := r } ad5 cp5 a2 c2 a3 c3) := ((HE1.out.below (Below.refl _ w1).drew).put1 (fun k h => HD.out k (Nat.le_trans HB1.out.size h)) (Keeps.of_below hb5) (hr5.wide (fun _ _ h => .inr h))); have HK6 : Hid (Keeps D w (w5.setCell ⟨x, 0, none⟩ (.slice ad5 r.length cp5))) := ((((Keeps.of_below HB1.out).trans (Keeps.of_below (Below.refl _ w1).drew)).trans (Keeps.of_below hb5)).setCell (p := ⟨x, 0, none⟩) HE.out.dx _); clear hr5 hb5)
      | (at_builtin; go_must (refine wpList_append_row (ks := [k]) rfl _ _ rfl rfl (H6.out.r2.below ((Below.refl _ _).alloc (Nat.le_refl _) _)) rfl (src_at k (by simp [World.setCell])) (by simp; omega) ?_); intro a7 n7 w7 hr7 hk7; obtain ⟨⟨x0, x1, x2, x3⟩, y0, y1, y2, y3⟩ := (H6.out.below ((Below.refl _ _).alloc (Nat.le_refl _) _)).still (by omega) hk7; have H7 : Hid (ReIn D _ (w7.setCell ⟨x, 1, none⟩ (.slice a7 (s.b1 ++ [k]).length n7)) x { s with t1 := r, b1 := s.b1 ++ [k] } ad5 cp5 a7 n7 a3 c3) := ((H6.out.below ((Below.refl _ _).alloc (Nat.le_refl _) _)).put2 (fun k h => HD.out k (Nat.le_trans (Nat.le_trans HK6.out.size (by simp)) h)) hk7 hr7); have HK7 : Hid (Keeps D w (w7.setCell ⟨x, 1, none⟩ (.slice a7 (s.b1 ++ [k]).length n7))) := (((HK6.out.alloc _).trans (hk7.mono (fun _ _ h => h.1))).setCell (p := ⟨x, 1, none⟩) HE.out.dx _); clear hr7 hk7))
    rw [List.length_append, List.length_cons, List.length_nil] at H7 HK7
    go_loopg [] (L2.length) (fun n wr => ∃ j : Nat, n = L2.length - j ∧ j ≤ L2.length - ko ∧ RE x { s with t1 := r, b1 := L2.drop j } D wr ∧ Keeps D w wr)
    case atStart => exact ⟨0, rfl, Nat.zero_le _, by rw [List.drop_zero, HL2.out]; exact ⟨_, _, _, _, _, _, _, H7.out⟩, HK7.out⟩
    case round =>
      obtain ⟨j, rfl, hj, hA, hK⟩ := hrel
      have HA : Hid (RE x { s with t1 := r, b1 := L2.drop j } D wr) := hA
      have HK : Hid (Keeps D w wr) := hK
      obtain ⟨M, b1, n1, b2, n2, b3, n3, hM⟩ := hA
      have HM : Hid (ReIn D M wr x { s with t1 := r, b1 := L2.drop j } b1 n1 b2 n2 b3 n3) := hM
      obtain ⟨u0, u1, u2, u3⟩ := hM.cells
      obtain ⟨v0, v1, v2, v3⟩ := hM.thaw
      simp only [List.length_drop] at u0 u1 u2 u3
      clear hM hK H7 HK7 H6 HK6 HE5 p0 p1 p2 p3 x0 x1 x2 x3 y0 y1 y2 y3 t0 t1 t2 t3 d0 d1 d2 d3 ck ck1
      by_cases hgt0 : ko < L2.length - j
      · have hgt2 : decide (max 1 ((s.c : Int) / 2) < ((L2.length - j : Nat) : Int)) = true := by rw [decide_eq_true_eq]; have := HKo.out; unfold A.kout at this; omega
        obtain ⟨y, hy⟩ : ∃ y, (L2.drop j)[0]? = some y := ⟨_, List.getElem?_eq_getElem (by rw [List.length_drop]; omega)⟩
        obtain ⟨g2, o2, rfl, -, -, -⟩ := HM.out.r2.at hy
        have hcap := HM.out.r2.1
        rw [List.length_drop] at hcap
        have HP := HM.out.popped2 (fun k h => HD.out k (Nat.le_trans HK.out.size h)) (n := L2.length - j - 1) (by rw [List.length_tail, List.length_drop])
        have e9 : (L2.drop j).tail = L2.drop (j + 1) := by rw [← List.drop_one, List.drop_drop]
        have HPop : Hid (RE x { s with t1 := r, b1 := L2.drop (j + 1) } D (wr.setCell ⟨x, 1, none⟩ (.slice (if n2 = 1 then some ⟨g2, o2, none⟩ else some ⟨g2, o2 + 1, none⟩) (L2.length - j - 1) (n2 - 1)))) := by
          rw [← e9]
          exact HP
        clear e9
        clear hy HP
        go_wp2_with fail
        refine region_same (by kernel_rfl) 11 54 rfl (fun slot => [(.pointer (some ⟨x, 0, none⟩) : Value), (.pointer (some ⟨x, 0, none⟩) : Value), (.pointer (some ⟨x, 1, none⟩) : Value), (.slice (some ⟨g2, o2, none⟩) (L2.length - j) n2 : Value), (.int .i64 ((L2.length - j : Nat) : Int) : Value), (.pointer (some ⟨x, 0, none⟩) : Value), (.pointer (some ⟨x, 0, none⟩) : Value), (.pointer (some ⟨x, 3, none⟩) : Value), (.int .i64 (s.c : Nat) : Value), (.int .i64 ((s.c : Int) / 2) : Value), (.int .i64 (max 1 ((s.c : Int) / 2)) : Value), (.bool true : Value)].getD slot undef) (lex_of (by kernel_rfl)) (wait_of (by kernel_rfl)) (by simp) ?_ ?_
        · intro i hi a' hst hdep Kc hKc
          have hcase : i = 0 ∨ i = 1 ∨ i = 2 ∨ i = 3 ∨ i = 4 ∨ i = 5 ∨ i = 6 ∨ i = 7 ∨ i = 8 ∨ i = 9 ∨ i = 10 ∨ i = 11 := by omega
          rcases hcase with e1 | e1 | e1 | e1 | e1 | e1 | e1 | e1 | e1 | e1 | e1 | e1
          · subst e1
            have o0 := hst.at 0 (by omega)
            simp at o0
            refine still_op rfl rfl ?_
            simp [Oper.wp, execOp, Act.eval, go_sem, o0]
            exact hKc
          · subst e1
            have d0 : a'.tmps[54]?.getD undef = .pointer (some ⟨x, 0, none⟩) := by simpa using hdep 0 (by kernel_rfl)
            refine still_op rfl rfl ?_
            simp [Oper.wp, execOp, Act.eval, go_sem, d0]
            exact hKc
          · subst e1
            have d1 : a'.tmps[55]?.getD undef = .pointer (some ⟨x, 0, none⟩) := by simpa using hdep 1 (by kernel_rfl)
            refine still_op rfl rfl ?_
            simp [Oper.wp, execOp, Act.eval, go_sem, d1]
            exact hKc
          · subst e1
            have d2 : a'.tmps[56]?.getD undef = .pointer (some ⟨x, 1, none⟩) := by simpa using hdep 2 (by kernel_rfl)
            refine still_op rfl rfl ?_
            simp [Oper.wp, execOp, Act.eval, go_sem, d2, u1]
            exact hKc
          · subst e1
            have d3 : a'.tmps[57]?.getD undef = .slice (some ⟨g2, o2, none⟩) (L2.length - j) n2 := by simpa using hdep 3 (by kernel_rfl)
            refine still_op rfl rfl ?_
            simp [Oper.wp, execOp, Act.eval, go_sem, d3]
            exact hKc
          · subst e1
            have o0 := hst.at 0 (by omega)
            simp at o0
            refine still_op rfl rfl ?_
            simp [Oper.wp, execOp, Act.eval, go_sem, o0]
            exact hKc
          · subst e1
            have d5 : a'.tmps[59]?.getD undef = .pointer (some ⟨x, 0, none⟩) := by simpa using hdep 5 (by kernel_rfl)
            refine still_op rfl rfl ?_
            simp [Oper.wp, execOp, Act.eval, go_sem, d5]
            exact hKc
          · subst e1
            have d6 : a'.tmps[60]?.getD undef = .pointer (some ⟨x, 0, none⟩) := by simpa using hdep 6 (by kernel_rfl)
            refine still_op rfl rfl ?_
            simp [Oper.wp, execOp, Act.eval, go_sem, d6]
            exact hKc
          · subst e1
            have d7 : a'.tmps[61]?.getD undef = .pointer (some ⟨x, 3, none⟩) := by simpa using hdep 7 (by kernel_rfl)
            refine still_op rfl rfl ?_
            simp [Oper.wp, execOp, Act.eval, go_sem, d7, u3]
            exact hKc
          · subst e1
            have d8 : a'.tmps[62]?.getD undef = .int .i64 (s.c : Nat) := by simpa using hdep 8 (by kernel_rfl)
            refine still_op rfl rfl ?_
            simp [Oper.wp, execOp, Act.eval, go_sem, d8, hw2]
            exact hKc
          · subst e1
            have d9 : a'.tmps[63]?.getD undef = .int .i64 ((s.c : Int) / 2) := by simpa using hdep 9 (by kernel_rfl)
            refine still_op rfl rfl ?_
            simp [Oper.wp, execOp, Act.eval, go_sem, d9]
            exact hKc
          · subst e1
            have d4 : a'.tmps[58]?.getD undef = .int .i64 ((L2.length - j : Nat) : Int) := by simpa using hdep 4 (by kernel_rfl)
            have d10 : a'.tmps[64]?.getD undef = .int .i64 (max 1 ((s.c : Int) / 2)) := by simpa using hdep 10 (by kernel_rfl)
            refine still_op rfl rfl ?_
            simp [Oper.wp, execOp, Act.eval, go_sem, d4, d10, hgt2]
            exact hKc
        simp only [fillA, Act.put, List.setIfInBounds_toArray, List.set_cons_succ, List.set_cons_zero, List.getD_cons_zero, List.getD_cons_succ, Nat.reduceAdd, Nat.add_zero]
        go_wp2_with fail
        all_goals
          go_roundg (L2.length - (j + 1))
          case measure => omega
          case rel =>
            refine ⟨j + 1, rfl, by omega, ?_, (HK.out.setCell (p := ⟨x, 1, none⟩) HE.out.dx _).drew⟩
            have h9 := HPop.out
            first
              | (rw [if_neg h] at h9; exact h9.below (Below.refl _ _).drew)
              | (rw [if_pos h, h] at h9; exact h9.below (Below.refl _ _).drew)
      · have hgt2 : decide (max 1 ((s.c : Int) / 2) < ((L2.length - j : Nat) : Int)) = false := by rw [decide_eq_false_iff_not]; have := HKo.out; unfold A.kout at this; omega
        go_wp2_with fail
        refine region_same (by kernel_rfl) 11 54 rfl (fun slot => [(.pointer (some ⟨x, 0, none⟩) : Value), (.pointer (some ⟨x, 0, none⟩) : Value), (.pointer (some ⟨x, 1, none⟩) : Value), (.slice b2 (L2.length - j) n2 : Value), (.int .i64 ((L2.length - j : Nat) : Int) : Value), (.pointer (some ⟨x, 0, none⟩) : Value), (.pointer (some ⟨x, 0, none⟩) : Value), (.pointer (some ⟨x, 3, none⟩) : Value), (.int .i64 (s.c : Nat) : Value), (.int .i64 ((s.c : Int) / 2) : Value), (.int .i64 (max 1 ((s.c : Int) / 2)) : Value), (.bool false : Value)].getD slot undef) (lex_of (by kernel_rfl)) (wait_of (by kernel_rfl)) (by simp) ?_ ?_
        · intro i hi a' hst hdep Kc hKc
          have hcase : i = 0 ∨ i = 1 ∨ i = 2 ∨ i = 3 ∨ i = 4 ∨ i = 5 ∨ i = 6 ∨ i = 7 ∨ i = 8 ∨ i = 9 ∨ i = 10 ∨ i = 11 := by omega
          rcases hcase with e1 | e1 | e1 | e1 | e1 | e1 | e1 | e1 | e1 | e1 | e1 | e1
          · subst e1
            have o0 := hst.at 0 (by omega)
            simp at o0
            refine still_op rfl rfl ?_
            simp [Oper.wp, execOp, Act.eval, go_sem, o0]
            exact hKc
          · subst e1
            have d0 : a'.tmps[54]?.getD undef = .pointer (some ⟨x, 0, none⟩) := by simpa using hdep 0 (by kernel_rfl)
            refine still_op rfl rfl ?_
            simp [Oper.wp, execOp, Act.eval, go_sem, d0]
            exact hKc
          · subst e1
            have d1 : a'.tmps[55]?.getD undef = .pointer (some ⟨x, 0, none⟩) := by simpa using hdep 1 (by kernel_rfl)
            refine still_op rfl rfl ?_
            simp [Oper.wp, execOp, Act.eval, go_sem, d1]
            exact hKc
          · subst e1
            have d2 : a'.tmps[56]?.getD undef = .pointer (some ⟨x, 1, none⟩) := by simpa using hdep 2 (by kernel_rfl)
            refine still_op rfl rfl ?_
            simp [Oper.wp, execOp, Act.eval, go_sem, d2, u1]
            exact hKc
          · subst e1
            have d3 : a'.tmps[57]?.getD undef = .slice b2 (L2.length - j) n2 := by simpa using hdep 3 (by kernel_rfl)
            refine still_op rfl rfl ?_
            simp [Oper.wp, execOp, Act.eval, go_sem, d3]
            exact hKc
          · subst e1
            have o0 := hst.at 0 (by omega)
            simp at o0
            refine still_op rfl rfl ?_
            simp [Oper.wp, execOp, Act.eval, go_sem, o0]
            exact hKc
          · subst e1
            have d5 : a'.tmps[59]?.getD undef = .pointer (some ⟨x, 0, none⟩) := by simpa using hdep 5 (by kernel_rfl)
            refine still_op rfl rfl ?_
            simp [Oper.wp, execOp, Act.eval, go_sem, d5]
            exact hKc
          · subst e1
            have d6 : a'.tmps[60]?.getD undef = .pointer (some ⟨x, 0, none⟩) := by simpa using hdep 6 (by kernel_rfl)
            refine still_op rfl rfl ?_
            simp [Oper.wp, execOp, Act.eval, go_sem, d6]
            exact hKc
          · subst e1
            have d7 : a'.tmps[61]?.getD undef = .pointer (some ⟨x, 3, none⟩) := by simpa using hdep 7 (by kernel_rfl)
            refine still_op rfl rfl ?_
            simp [Oper.wp, execOp, Act.eval, go_sem, d7, u3]
            exact hKc
          · subst e1
            have d8 : a'.tmps[62]?.getD undef = .int .i64 (s.c : Nat) := by simpa using hdep 8 (by kernel_rfl)
            refine still_op rfl rfl ?_
            simp [Oper.wp, execOp, Act.eval, go_sem, d8, hw2]
            exact hKc
          · subst e1
            have d9 : a'.tmps[63]?.getD undef = .int .i64 ((s.c : Int) / 2) := by simpa using hdep 9 (by kernel_rfl)
            refine still_op rfl rfl ?_
            simp [Oper.wp, execOp, Act.eval, go_sem, d9]
            exact hKc
          · subst e1
            have d4 : a'.tmps[58]?.getD undef = .int .i64 ((L2.length - j : Nat) : Int) := by simpa using hdep 4 (by kernel_rfl)
            have d10 : a'.tmps[64]?.getD undef = .int .i64 (max 1 ((s.c : Int) / 2)) := by simpa using hdep 10 (by kernel_rfl)
            refine still_op rfl rfl ?_
            simp [Oper.wp, execOp, Act.eval, go_sem, d4, d10, hgt2]
            exact hKc
        simp only [fillA, Act.put, List.setIfInBounds_toArray, List.set_cons_succ, List.set_cons_zero, List.getD_cons_zero, List.getD_cons_succ, Nat.reduceAdd, Nat.add_zero]
        go_wp2_with fail
        go_ret2
        refine ⟨rfl, ?_, HK.out.trans (Keeps.of_below (Below.refl _ _).drew)⟩
        have h9 := HA.out.below (Below.refl _ wr).drew
        rw [drop_trim hj (by omega), HL2.out, HKo.out] at h9
        exact h9
end
end Go.Proofs.Ytbbfckgooligdab
