/- The document's machine: Access. -/
import Derived.Test.YtbbfckgooligdabRfe
namespace Go.Proofs.Ytbbfckgooligdab
open Go.RowKit

section
variable {D D' : Nat → Prop} {w w' : World} {x : Nat} {s : Stt}
/-- what Access answers: whether it was a hit, and a row that is none of the machine's -/
def Tells (x : Nat) (r : Bool × List ByteArray × Stt) (D : Nat → Prop) (w : World) (e : Ending) (w' : World) : Prop :=
  ∃ ad cap, e = .returned (.tuple #[.bool r.1, .slice ad r.2.1.length cap]) ∧ Beside (RE x r.2.2) ad cap r.2.1 D w' ∧ Keeps D w w'
theorem RE.bare (H : RE x s D w) : Beside (RE x s) none 0 [] D w := ⟨_, fun _ h => h, H.narrow, Row.nil⟩
set_option maxHeartbeats 1000000 in
theorem racc_in (H : RE x s D w) (hs : Small s) (key : ByteArray) (h2 : key ∉ s.t2) (h1 : key ∈ s.t1) :
    Calls Try.prog 45 #[.pointer (some ⟨x, 0, none⟩), .string key] w fun e w' => e = .returned (.tuple #[.bool true, .slice none 0 0]) ∧ w' = w := by
  obtain ⟨L, a1, c1, a2, c2, a3, c3, H⟩ := H
  obtain ⟨d0, d1, d2, d3⟩ := H.cells
  have e3 := rhas_any H.r3 (by have := hs.l3; omega) key
  have e1 := rhas_any H.r1 (by have := hs.l1; omega) key
  rw [idx_no h2] at e3
  have hi := idx_mem h1
  generalize idx s.t1 key = j1 at *
  clear H hs
  go_enter Try.func45, Try.ntmps45
  go_wp2_with (first
    | (go_at_call 66; refine Calls.mono e3 ?_; clear e3; rintro e w1 ⟨rfl, rfl⟩)
    | (go_at_call 66; refine Calls.mono e1 ?_; clear e1; rintro e w1 ⟨rfl, rfl⟩))
  go_ret2
  exact ⟨rfl, rfl⟩
set_option maxRecDepth 100000 in
set_option maxHeartbeats 2000000 in
theorem racc_new (H : RE x s D w) (hok : A.Ok s) (hD : ∀ k, w.heap.size ≤ k → D k) (key : ByteArray) (h2 : key ∉ s.t2) (h1 : key ∉ s.t1) (h3 : key ∉ s.b1) :
    Calls Try.prog 45 #[.pointer (some ⟨x, 0, none⟩), .string key] w (Tells x (false, A.fresh s key) D w) := by
  have HE : Hid (RE x s D w) := H
  have HD : Hid (∀ k, w.heap.size ≤ k → D k) := hD
  have hrec := rreclaim_any H (Small.of hok) (Single.of hok) hD hok.lo
  have hM := A.fresh_missed (key := key) hok (by have := A.cnt_zero.2 h1; have := A.cnt_zero.2 h2; have := A.cnt_zero.2 h3; omega)
  have hs1 : (A.fresh s key).2.t1.length ≤ 1024 := by have := hM.ok.res; have := hM.ok.hi; omega
  unfold A.fresh at hs1 ⊢
  have hs := Small.of hok
  obtain ⟨l, s1, hcl⟩ : ∃ l s1, A.reclaim s = (l, s1) := ⟨_, _, rfl⟩
  rw [hcl] at hrec hs1 ⊢
  simp only [A.newest, List.length_append, List.length_cons, List.length_nil] at hs1
  obtain ⟨L, a1, c1, a2, c2, a3, c3, H⟩ := H
  obtain ⟨d0, d1, d2, d3⟩ := H.cells
  have e3 := rhas_any H.r3 (by have := hs.l3; omega) key
  have e1 := rhas_any H.r1 (by have := hs.l1; omega) key
  have e2 := rhas_any H.r2 (by have := hs.l2; omega) key
  rw [idx_no h2] at e3
  rw [idx_no h1] at e1
  rw [idx_no h3] at e2
  clear H hs hM hcl hD hok
  go_enter Try.func45, Try.ntmps45
  go_wp2_with (first
    | (go_at_call 66; refine Calls.mono e3 ?_; clear e3; rintro e w1 ⟨rfl, rfl⟩)
    | (go_at_call 66; refine Calls.mono e1 ?_; clear e1; rintro e w1 ⟨rfl, rfl⟩)
    | (go_at_call 66; refine Calls.mono e2 ?_; clear e2; rintro e w1 ⟨rfl, rfl⟩)
    | (go_at_call 68; refine Calls.mono hrec ?_; clear hrec; rintro e w2 ⟨ad, cap, rfl, ⟨D1, g1, ⟨M, b1, n1, b2, n2, b3, n3, hM⟩, gR⟩, hk2⟩; have HG1 : Hid (∀ g, D1 g → D g ∧ g < w2.heap.size) := g1; have HM : Hid (ReIn (fun g => D1 g ∨ w2.heap.size ≤ g) M w2 x s1 b1 n1 b2 n2 b3 n3) := (hM.wide (fun _ _ h => .inl h)); have HGR : Hid (Row (fun g => D g ∧ ¬ D1 g) w2 ad cap l) := gR; have HK2 : Hid (Keeps D _ w2) := hk2; obtain ⟨u0, u1, u2, u3⟩ := hM.cells; clear g1 hM gR hk2)
    | (at_builtin; go_must (refine wpList_append_row (ks := [key]) rfl _ _ rfl rfl (HM.out.r1.below ((Below.refl _ _).alloc (Nat.le_refl _) _)) rfl (src_one _ key) (by simp; omega) ?_); intro a7 n7 w7 hr7 hk7; obtain ⟨⟨x0, x1, x2, x3⟩, y0, y1, y2, y3⟩ := (HM.out.below ((Below.refl _ _).alloc (Nat.le_refl _) _)).still (by omega) hk7; have H7 := ((HM.out.below ((Below.refl _ _).alloc (Nat.le_refl _) _)).put1 (fun k h => .inr (Nat.le_trans (by simp) h)) hk7 hr7); have hk8 : Keeps (fun g => D1 g ∨ w2.heap.size ≤ g) w2 (w7.setCell ⟨x, 0, none⟩ (.slice a7 (s1.t1 ++ [key]).length n7)) := (((((Keeps.refl _ w2).alloc _).trans (hk7.mono (fun _ _ h => h.1))).setCell (p := ⟨x, 0, none⟩) HM.out.dx _)); have HB : Hid (Beside (RE x (A.newest s1 key)) ad cap l D (w7.setCell ⟨x, 0, none⟩ (.slice a7 (s1.t1 ++ [key]).length n7))) := (beside_end HG1.out (fun k h => HD.out k (Nat.le_trans HK2.out.size h)) HGR.out hk8 ⟨_, _, _, _, _, _, _, H7⟩); have HK8 : Hid (Keeps D _ (w7.setCell ⟨x, 0, none⟩ (.slice a7 (s1.t1 ++ [key]).length n7))) := (HK2.out.trans (hk8.mono (fun k _ h => by rcases h with h | h; exact (HG1.out k h).1; exact HD.out k (Nat.le_trans HK2.out.size h)))); clear H7 hk7 hr7 hk8))
  go_ret2
  rw [List.length_append, List.length_cons, List.length_nil] at HB HK8
  exact ⟨ad, cap, rfl, HB.out, HK8.out⟩
set_option maxRecDepth 100000 in
set_option maxHeartbeats 2000000 in
theorem racc_ghost (H : RE x s D w) (hok : A.Ok s) (hD : ∀ k, w.heap.size ≤ k → D k) (key : ByteArray) (h2 : key ∉ s.t2) (h1 : key ∉ s.t1) (h3 : key ∈ s.b1) :
    Calls Try.prog 45 #[.pointer (some ⟨x, 0, none⟩), .string key] w (Tells x (false, A.known s key) D w) := by
  have HD : Hid (∀ k, w.heap.size ≤ k → D k) := hD
  have HOk : Hid (A.Ok (A.noGhost s key)) := hok.noGhost key
  have hM := A.known_missed (key := key) hok (by have := A.cnt_zero.2 h1; have := A.cnt_zero.2 h2; omega)
  have hs1 : (A.known s key).2.t2.length ≤ 1024 := by have := hM.ok.res; have := hM.ok.hi; omega
  unfold A.known at hs1 ⊢
  have hs := Small.of hok
  have hl2 := hs.l2
  obtain ⟨l, s1, hcl⟩ : ∃ l s1, A.reclaim (A.noGhost s key) = (l, s1) := ⟨_, _, rfl⟩
  have HCl : Hid (A.reclaim (A.noGhost s key) = (l, s1)) := hcl
  rw [hcl] at hs1 ⊢
  simp only [A.again, List.length_append, List.length_cons, List.length_nil] at hs1
  obtain ⟨L, a1, c1, a2, c2, a3, c3, H⟩ := H
  have HE : Hid (ReIn D L w x s a1 c1 a2 c2 a3 c3) := H
  obtain ⟨d0, d1, d2, d3⟩ := H.cells
  have e3 := rhas_any H.r3 (by have := hs.l3; omega) key
  have e1 := rhas_any H.r1 (by have := hs.l1; omega) key
  have e2 := rhas_any H.r2 (by have := hs.l2; omega) key
  have hcut := rcut_any H.r2 (by omega) key
  rw [idx_no h2] at e3
  rw [idx_no h1] at e1
  have hi := idx_mem h3
  generalize idx s.b1 key = j2 at *
  clear H hs hM hcl hD hok
  go_enter Try.func45, Try.ntmps45
  go_wp2_with (first
    | (go_at_call 66; refine Calls.mono e3 ?_; clear e3; rintro e w1 ⟨rfl, rfl⟩)
    | (go_at_call 66; refine Calls.mono e1 ?_; clear e1; rintro e w1 ⟨rfl, rfl⟩)
    | (go_at_call 66; refine Calls.mono e2 ?_; clear e2; rintro e w1 ⟨rfl, rfl⟩)
    | (go_at_call 67; refine Calls.mono hcut ?_; clear hcut; rintro e w5 ⟨ad5, cp5, rfl, hr5, hb5⟩; have HE5 : Hid (ReIn D L w5 x s a1 c1 a2 c2 a3 c3) := (HE.out.below hb5); obtain ⟨p0, p1, p2, p3⟩ := HE5.out.cells; obtain ⟨t0, t1, t2, t3⟩ := HE5.out.thaw; have h6 := (HE.out.put2 HD.out (Keeps.of_below hb5) (hr5.wide (fun _ _ h => .inr h))); have HK6 : Hid (Keeps D _ (w5.setCell ⟨x, 1, none⟩ (.slice ad5 (A.cut s.b1 key).length cp5))) := ((Keeps.of_below hb5).setCell (p := ⟨x, 1, none⟩) HE.out.dx _); have hrec := rreclaim_any (s := A.noGhost s key) ⟨_, _, _, _, _, _, _, h6⟩ (Small.of HOk.out) (Single.of HOk.out) (fun k h => HD.out k (Nat.le_trans HK6.out.size h)) HOk.out.lo; rw [HCl.out] at hrec; clear hr5 hb5 h6)
    | (go_at_call 68; refine Calls.mono hrec ?_; clear hrec; rintro e w2 ⟨ad, cap, rfl, ⟨D1, g1, ⟨M, b1, n1, b2, n2, b3, n3, hM⟩, gR⟩, hk2⟩; have HG1 : Hid (∀ g, D1 g → D g ∧ g < w2.heap.size) := g1; have HM : Hid (ReIn (fun g => D1 g ∨ w2.heap.size ≤ g) M w2 x s1 b1 n1 b2 n2 b3 n3) := (hM.wide (fun _ _ h => .inl h)); have HGR : Hid (Row (fun g => D g ∧ ¬ D1 g) w2 ad cap l) := gR; have HK2 : Hid (Keeps D _ w2) := (HK6.out.trans hk2); obtain ⟨u0, u1, u2, u3⟩ := hM.cells; clear g1 hM gR hk2 p0 p1 p2 p3 t0 t1 t2 t3 d0 d1 d2 d3)
    | (at_builtin; go_must (refine wpList_append_row (ks := [key]) rfl _ _ rfl rfl (HM.out.r3.below ((Below.refl _ _).alloc (Nat.le_refl _) _)) rfl (src_one _ key) (by simp; omega) ?_); intro a7 n7 w7 hr7 hk7; obtain ⟨⟨x0, x1, x2, x3⟩, y0, y1, y2, y3⟩ := (HM.out.below ((Below.refl _ _).alloc (Nat.le_refl _) _)).still (by omega) hk7; have H7 := ((HM.out.below ((Below.refl _ _).alloc (Nat.le_refl _) _)).put3 (fun k h => .inr (Nat.le_trans (by simp) h)) hk7 hr7); have hk8 : Keeps (fun g => D1 g ∨ w2.heap.size ≤ g) w2 (w7.setCell ⟨x, 2, none⟩ (.slice a7 (s1.t2 ++ [key]).length n7)) := (((((Keeps.refl _ w2).alloc _).trans (hk7.mono (fun _ _ h => h.1))).setCell (p := ⟨x, 2, none⟩) HM.out.dx _)); have HB : Hid (Beside (RE x (A.again s1 key)) ad cap l D (w7.setCell ⟨x, 2, none⟩ (.slice a7 (s1.t2 ++ [key]).length n7))) := (beside_end HG1.out (fun k h => HD.out k (Nat.le_trans HK2.out.size h)) HGR.out hk8 ⟨_, _, _, _, _, _, _, H7⟩); have HK8 : Hid (Keeps D _ (w7.setCell ⟨x, 2, none⟩ (.slice a7 (s1.t2 ++ [key]).length n7))) := (HK2.out.trans (hk8.mono (fun k _ h => by rcases h with h | h; exact (HG1.out k h).1; exact HD.out k (Nat.le_trans HK2.out.size h)))); clear H7 hk7 hr7 hk8))
  go_ret2
  rw [List.length_append, List.length_cons, List.length_nil] at HB HK8
  exact ⟨ad, cap, rfl, HB.out, HK8.out⟩
set_option maxRecDepth 100000 in
set_option maxHeartbeats 2000000 in
theorem racc_am (H : RE x s D w) (hok : A.Ok s) (hD : ∀ k, w.heap.size ≤ k → D k) (key : ByteArray) (h2 : key ∈ s.t2) :
    Calls Try.prog 45 #[.pointer (some ⟨x, 0, none⟩), .string key] w fun e w' => e = .returned (.tuple #[.bool true, .slice none 0 0]) ∧ RE x (A.touch s key) D w' ∧ Keeps D w w' := by
  have HD : Hid (∀ k, w.heap.size ≤ k → D k) := hD
  have hs := Small.of hok
  have hl3 := hs.l3
  have hcl := A.length_cut_le s.t2 key
  obtain ⟨L, a1, c1, a2, c2, a3, c3, H⟩ := H
  have HE : Hid (ReIn D L w x s a1 c1 a2 c2 a3 c3) := H
  obtain ⟨d0, d1, d2, d3⟩ := H.cells
  have e3 := rhas_any H.r3 (by omega) key
  have hcut := rcut_any H.r3 (by omega) key
  have hi := idx_mem h2
  generalize idx s.t2 key = j3 at *
  clear H hs hD hok
  go_enter Try.func45, Try.ntmps45
  go_wp2_with (first
    | (go_at_call 66; refine Calls.mono e3 ?_; clear e3; rintro e w1 ⟨rfl, rfl⟩)
    | (go_at_call 67; refine Calls.mono hcut ?_; clear hcut; rintro e w5 ⟨ad5, cp5, rfl, hr5, hb5⟩; have HR5 : Hid (Row (w1.heap.size ≤ ·) w5 ad5 cp5 (A.cut s.t2 key)) := hr5; have HB5 : Hid (Below w1.heap.size w1 w5) := hb5; clear hr5 hb5)
    | (at_builtin; go_must (refine wpList_append_row (ks := [key]) rfl _ _ rfl rfl (HR5.out.below ((Below.refl _ _).alloc (Nat.le_refl _) _)) rfl (src_one _ key) (by simp; omega) ?_); intro a7 n7 w7 hr7 hk7; have hb7 : Below w1.heap.size w1 w7 := ((((Keeps.of_below (D := fun g => w1.heap.size ≤ g) HB5.out).alloc _).trans hk7).below (Nat.le_refl _) (fun _ h => h)); have hr8 : Row (w1.heap.size ≤ ·) w7 a7 n7 (A.cut s.t2 key ++ [key]) := (hr7.wide (fun g _ h => by rcases h with h | h; exact h; exact Nat.le_trans HB5.out.size (Nat.le_trans (by simp) h))); obtain ⟨x0, x1, x2, x3⟩ := (HE.out.below hb7).cells; obtain ⟨y0, y1, y2, y3⟩ := (HE.out.below hb7).thaw; have H8 : Hid (RE x (A.touch s key) D (w7.setCell ⟨x, 2, none⟩ (.slice a7 (A.cut s.t2 key ++ [key]).length n7))) := ⟨_, _, _, _, _, _, _, HE.out.put3 HD.out (Keeps.of_below hb7) (hr8.wide (fun _ _ h => .inr h))⟩; have HK8 : Hid (Keeps D w1 (w7.setCell ⟨x, 2, none⟩ (.slice a7 (A.cut s.t2 key ++ [key]).length n7))) := ((Keeps.of_below hb7).setCell (p := ⟨x, 2, none⟩) HE.out.dx _); clear hr7 hk7 hb7 hr8))
  go_ret2
  rw [List.length_append, List.length_cons, List.length_nil] at H8 HK8
  exact ⟨rfl, H8.out, HK8.out⟩
theorem racc_any (H : RE x s D w) (hok : A.Ok s) (hD : ∀ k, w.heap.size ≤ k → D k) (key : ByteArray) :
    Calls Try.prog 45 #[.pointer (some ⟨x, 0, none⟩), .string key] w (Tells x (A.access s key) D w) := by
  unfold A.access
  by_cases h2 : key ∈ s.t2
  · rw [if_pos h2]
    refine (racc_am H hok hD key h2).mono ?_
    rintro e w' ⟨rfl, h, hk⟩
    exact ⟨none, 0, rfl, h.bare, hk⟩
  · rw [if_neg h2]
    by_cases h1 : key ∈ s.t1
    · rw [if_pos h1]
      refine (racc_in H (Small.of hok) key h2 h1).mono ?_
      rintro e w' ⟨rfl, rfl⟩
      exact ⟨none, 0, rfl, H.bare, Keeps.refl _ _⟩
    · rw [if_neg h1]
      by_cases h3 : key ∈ s.b1
      · rw [if_pos h3]
        exact racc_ghost H hok hD key h2 h1 h3
      · rw [if_neg h3]
        exact racc_new H hok hD key h2 h1 h3
end
end Go.Proofs.Ytbbfckgooligdab
