/- The document's machine: admit, where another one goes. -/
import Derived.Test.YtcphhlfbjkeikabGreatRb9
namespace Go.Proofs.YtcphhlfbjkeikabGreat
open Go.RowKit

section
variable {D D' : Nat → Prop} {w w' : World} {x : Nat} {y : Dk} {s : Stt}
set_option maxRecDepth 100000 in
set_option maxHeartbeats 2000000 in
theorem radmit_goA (H : RE x y s D w) (hs : Small s) (hlo : 1 ≤ s.c) (hD : ∀ k, w.heap.size ≤ k → D k) {k : ByteArray} {r : List ByteArray} (ht : s.t1 = k :: r) (hcu : A.cut s.t1 k = r) (hk : k.size ≤ 1000) (hroom : ¬ s.b1.length + s.t2.length < mr s.c)
    {v : ByteArray} {r2 : List ByteArray} (hv : s.b1 = v :: r2) (hvs : v.size ≤ 1000) (hle : ¬ fq y k ≤ fq y v) :
    Calls Tryz.prog 57 #[.pointer (some ⟨x, 0, none⟩)] w (Admits x y ([v], { s with t1 := r, b1 := A.cut s.b1 v ++ [k], t2 := A.cut s.t2 v }) D w) := by
  have HD : Hid (∀ k, w.heap.size ≤ k → D k) := hD
  have hhi := hs.hc
  have hl2 := hs.l2
  have hl3 := hs.l3
  obtain ⟨f1, hf1⟩ : ∃ f1, f1 = fq y k := ⟨_, rfl⟩
  obtain ⟨f2, hf2⟩ : ∃ f2, f2 = fq y v := ⟨_, rfl⟩
  rw [← hf1, ← hf2] at hle
  obtain ⟨L, a1, c1, a2, c2, a3, c3, H⟩ := H
  obtain ⟨g1, o1, rfl, -, ck, -⟩ := H.r1.at (i := 0) (z := k) (by rw [ht]; rfl)
  rw [Nat.add_zero] at ck
  obtain ⟨g2, o2, rfl, dg2, cv, -⟩ := H.r2.at (i := 0) (z := v) (by rw [hv]; rfl)
  rw [Nat.add_zero] at cv
  have HE : Hid (ReIn D L w x y s (some ⟨g1, o1, none⟩) c1 (some ⟨g2, o2, none⟩) c2 a3 c3) := H
  obtain ⟨d0, d1, d2, d3, d4, d5⟩ := H.cells
  have hcut := rcut_any H.r1 (by have := hs.l1; omega) k
  rw [hcu] at hcut
  have hpos : 0 < s.t1.length := by rw [ht]; simp
  have hpos2 : 0 < s.b1.length := by rw [hv]; simp
  have hne : ¬ g2 = x := by rintro rfl; have := dg2.2; have := H.lx; omega
  have HOf : Hid (∀ W6, RE x y { s with t1 := r } D W6 → ∀ z f, f = fq y z → z.size ≤ 1000 → ∀ W, Below W6.heap.size W6 W → Calls Tryz.prog 79 #[.pointer (some ⟨x, 0, none⟩), .string z] W fun e w' => e = .returned (.int .i64 (f : Nat)) ∧ Below W6.heap.size W6 w') := fun W6 h6 z f hf hz W hW => by
    rw [hf]
    exact (roften_any (RE.below h6 hW) z hz).mono (by rintro e w' ⟨rfl, hb⟩; exact ⟨rfl, below_trans hW hb⟩)
  have HF1 : Hid (f1 = fq y k) := hf1
  have HF2 : Hid (f2 = fq y v) := hf2
  clear H hs hD ht hcu hv dg2 hf1 hf2
  go_enter Tryz.func57, Tryz.ntmps57
  go_wp2_with (first
    | (go_at_call 54; refine Calls.mono hcut ?_; clear hcut; rintro e w5 ⟨ad5, cp5, rfl, hr5, hb5⟩; have HE5 := (HE.out.below hb5); obtain ⟨p0, p1, p2, p3, p4, p5⟩ := HE5.cells; obtain ⟨t0, t1, t2, t3⟩ := HE5.thaw; have cv5 : (w5.setCell ⟨x, 0, none⟩ (.slice ad5 r.length cp5)).cell? ⟨g2, o2, none⟩ = some (.string v) := ((cell_setCell_far hne).trans (cell_later hb5 cv)); have H6 : Hid (ReIn D _ (w5.setCell ⟨x, 0, none⟩ (.slice ad5 r.length cp5)) x y { s with t1 := r } ad5 cp5 (some ⟨g2, o2, none⟩) c2 a3 c3) := (HE.out.put1 HD.out (Keeps.of_below hb5) (hr5.wide (fun _ _ h => .inr h))); have HK6 : Hid (Keeps D w (w5.setCell ⟨x, 0, none⟩ (.slice ad5 r.length cp5))) := ((Keeps.of_below hb5).setCell (p := ⟨x, 0, none⟩) HE.out.dx _); obtain ⟨q0, q1, q2, q3, q4, q5⟩ := H6.out.cells; have HR6 : Hid (RE x y { s with t1 := r } D (w5.setCell ⟨x, 0, none⟩ (.slice ad5 r.length cp5))) := ⟨_, _, _, _, _, _, _, H6.out⟩; have hO6 : (∀ q, Calls Tryz.prog 79 #[.pointer (some ⟨x, 0, none⟩), .string k] ((w5.setCell ⟨x, 0, none⟩ (.slice ad5 r.length cp5)).drewN q) fun e w' => e = .returned (.int .i64 (f1 : Nat)) ∧ Below (w5.setCell ⟨x, 0, none⟩ (.slice ad5 r.length cp5)).heap.size (w5.setCell ⟨x, 0, none⟩ (.slice ad5 r.length cp5)) w') := (fun q => HOf.out _ HR6.out k f1 HF1.out hk _ (below_drewN (Below.refl _ _) q)); have HMn : Hid (∀ q, _) := (fun q => rmain_any (y := y) (s := { s with t1 := r }) (D := D) (RE.drewN ⟨_, _, _, _, _, _, _, H6.out⟩ q) hlo hhi); clear hr5 hb5 HE5))
  go_quiet (first | (go_at_call 60; exact Calls.quiet_of (HMn.out _)))
  go_wp2_with fail
  go_quiet (fail)
  go_wp2_with (first
    | (go_at_call 79; refine Calls.mono (hO6 _) ?_; clear hO6; rintro e w8 ⟨rfl, hb8⟩; have HB8 : Hid _ := hb8; clear hb8)
    | (go_at_call 79; refine Calls.mono (HOf.out _ HR6.out v f2 HF2.out hvs _ HB8.out) ?_; rintro e w9 ⟨rfl, hb9⟩; have HB9 : Hid _ := hb9; have HE9 := (H6.out.below hb9); obtain ⟨s0, s1, s2, s3, s4, s5⟩ := HE9.cells; clear hb9 HE9))
  obtain ⟨w9', hw9⟩ : ∃ w9', w9' = w9 := ⟨_, rfl⟩
  have HX : Hid (ReIn D (lab L w.heap.size 1) w9 x y { s with t1 := r } ad5 cp5 (some ⟨g2, o2, none⟩) c2 a3 c3) := H6.out.below HB9.out
  have HK9 : Hid (Keeps D w w9) := HK6.out.trans (Keeps.of_below HB9.out)
  obtain ⟨e0, e1, e2, -⟩ := (HX.out.below ((Below.refl _ w9).alloc (Nat.le_refl _) (.cells #[.string k] 9))).cells
  have hcl : (A.cut s.b1 v).length ≤ 4100 := Nat.le_trans (A.length_cut_le _ _) hl2
  go_region_law (first
    | (refine step_cut (by rfl) _ _ (by rfl) (zs := s.b1) (by rfl) (by rfl) (HX.out.r2.below (by first | exact (Below.refl _ _).drew | exact ((Below.refl _ _).alloc (Nat.le_refl _) _).drew)) (by omega) ?_
       intro b1 n1 w3 hr1 hb1
       have hbw : Below w9.heap.size w9 w3 := by first | exact ((Below.refl _ w9).drew).trans hb1 | exact (((Below.refl _ w9).alloc (Nat.le_refl _) _).drew).trans (hb1.mono (by show w9.heap.size ≤ (w9.alloc _).heap.size; simp))
       have hr1' : Row (w9.heap.size ≤ ·) w3 b1 n1 (A.cut s.b1 v) := hr1.wide (fun g _ h => Nat.le_trans (by first | exact Nat.le_refl _ | (show w9.heap.size ≤ (w9.alloc _).heap.size; simp)) h)
       obtain ⟨u0, u1, u2, u3, u4, u5⟩ := (HX.out.below hbw).cells
       obtain ⟨g0, g1', g2', -⟩ := (HX.out.below (hbw.alloc hbw.size (.cells #[.string k] 9))).cells)
    | (refine step_append_row (D := fun g => w9.heap.size ≤ g) (zs := A.cut s.b1 v) (ks := [k]) (by rfl) _ _ (by rfl) (by rfl) (by first | exact hr1' | exact hr1'.below ((Below.refl _ _).alloc (Nat.le_refl _) _)) (by rfl) (by first | exact src_one _ k | exact ((row_lit (E := fun _ => True) k trivial).below hb1).src | exact (((row_lit (w := w9) (E := fun _ => True) k trivial).below ((Below.refl _ _).drew)).below hb1).src) (by simp; omega) ?_
       intro a5 n5 w4 hr5 hk5
       have hb4 : Below w9.heap.size w9 w4 := by first | exact hbw.trans (hk5.below hbw.size (fun _ h => h)) | exact (hbw.alloc hbw.size _).trans (hk5.below (Nat.le_trans hbw.size (by simp)) (fun _ h => h))
       have hr5' : Row (w9.heap.size ≤ ·) w4 a5 n5 (A.cut s.b1 v ++ [k]) := rrow_old hr5 (by first | exact hbw.size | exact Nat.le_trans hbw.size (by simp))
       obtain ⟨i0, i1, i2, i3, i4, i5⟩ := (HX.out.below hb4).cells)
    | (refine step_cut (by rfl) _ _ (by rfl) (zs := s.t2) (by rfl) (by rfl) (HX.out.r3.below hb4) (by omega) ?_
       intro b2 n2 w5' hr2 hb2
       have hbv : Below w9.heap.size w9 w5' := hb4.trans (hb2.mono hb4.size)
       obtain ⟨m0, m1, m2, m3, m4, m5⟩ := (HX.out.below hbv).cells
       obtain ⟨v0, v1, v2, v3⟩ := (HX.out.below hbv).thaw))
  all_goals
    go_wp2_with fail
    go_ret
    have H9 := HX.out.both23 (fun k h => HD.out k (Nat.le_trans HK9.out.size h)) hb4 hr5' hb2 hr2
    simp only [List.length_append, List.length_cons, List.length_nil, Nat.zero_add] at H9
    exact ⟨_, _, rfl, rfull_end v H9 (by simp [World.setCell]) HK9.out (((Keeps.of_below hbv).setCell (p := ⟨x, 1, none⟩) HX.out.dx _).setCell (p := ⟨x, 2, none⟩) HX.out.dx _) HD.out⟩
end
end Go.Proofs.YtcphhlfbjkeikabGreat
