/- Of an engine: the Door and the Sketch behind a use; how often a key was used. -/
import Derived.Test.YtcphhlfbjkeikabGreatEa
namespace Go.Proofs.YtcphhlfbjkeikabGreat
open Go.RowKit

/-- the Door and the Sketch behind a use of a key -/
def nt (z : Dk) (k : ByteArray) : Dk :=
  if Dr.has z.bs (64 * z.K) k = true then
    if Sk.adS z.ct z.N k z.sm < z.sm then { z with bs := fun _ => false, ct := Sk.adC z.ct z.N k z.sm, sm := Sk.adS z.ct z.N k z.sm }
    else { z with bs := Dr.add z.bs (64 * z.K) k 3, ct := Sk.adC z.ct z.N k z.sm, sm := Sk.adS z.ct z.N k z.sm }
  else { z with bs := Dr.add z.bs (64 * z.K) k 3 }
/-- about how often a key was used -/
def fq (z : Dk) (k : ByteArray) : Nat := Sk.lw z.ct z.N k + if Dr.has z.bs (64 * z.K) k = true then 1 else 0
section
variable {D : Nat → Prop} {w : World} {e c : Nat} {Q : Nat → List ByteArray} {m : ByteArray → Option Ix.Sp} {b : Nat} {z : Dk}
theorem EM.addD (H : EM D w e c Q m b z) (hD : ∀ k, w.heap.size ≤ k → D k) (k : ByteArray) (hk : k.size ≤ 1000) :
    Calls Tryz.prog 66 #[.pointer (some ⟨z.pd, 0, none⟩), .string k] w fun ee w' => ee = .returned (.bool (Dr.has z.bs (64 * z.K) k)) ∧ EM D w' e c Q m b { z with bs := Dr.add z.bs (64 * z.K) k 3 } ∧ Keeps D w w' := by
  obtain ⟨L, R, x, h, r⟩ := H
  refine (Dr.add_any h.door k hk).mono ?_
  rintro ee w' ⟨rfl, hd, hk⟩
  exact ⟨rfl, ⟨_, R, x, h.putD hD hk hd, r⟩, own_keeps hD hk⟩
theorem EM.clearD (H : EM D w e c Q m b z) (hD : ∀ k, w.heap.size ≤ k → D k) :
    Calls Tryz.prog 69 #[.pointer (some ⟨z.pd, 0, none⟩)] w fun ee w' => ee = .returned (.tuple #[]) ∧ EM D w' e c Q m b { z with bs := fun _ => false } ∧ Keeps D w w' := by
  obtain ⟨L, R, x, h, r⟩ := H
  refine (Dr.clear_any h.door).mono ?_
  rintro ee w' ⟨rfl, hd, hk⟩
  exact ⟨rfl, ⟨_, R, x, h.putD hD hk hd, r⟩, own_keeps hD hk⟩
theorem EM.hasD (H : EM D w e c Q m b z) (k : ByteArray) (hk : k.size ≤ 1000) :
    Calls Tryz.prog 101 #[.pointer (some ⟨z.pd, 0, none⟩), .string k] w fun ee w' => ee = .returned (.bool (Dr.has z.bs (64 * z.K) k)) ∧ Below w.heap.size w w' := by
  obtain ⟨L, R, x, h, r⟩ := H
  exact Dr.has_any h.dr k hk
theorem EM.addK (H : EM D w e c Q m b z) (hD : ∀ k, w.heap.size ≤ k → D k) (k : ByteArray) (hk : k.size ≤ 1000) :
    Calls Tryz.prog 68 #[.pointer (some ⟨z.pk, 0, none⟩), .string k] w fun ee w' => ee = .returned (.tuple #[]) ∧ EM D w' e c Q m b { z with ct := Sk.adC z.ct z.N k z.sm, sm := Sk.adS z.ct z.N k z.sm } ∧ Keeps D w w' := by
  obtain ⟨L, R, x, h, r⟩ := H
  refine (Sk.add_any h.sketch (own_new _ _ _ _) k hk).mono ?_
  rintro ee w' ⟨rfl, hd, hk⟩
  exact ⟨rfl, ⟨_, R, x, h.putK hD hk hd, r⟩, own_keeps hD hk⟩
theorem EM.countK (H : EM D w e c Q m b z) (k : ByteArray) (hk : k.size ≤ 1000) :
    Calls Tryz.prog 100 #[.pointer (some ⟨z.pk, 0, none⟩), .string k] w fun ee w' => ee = .returned (.int .i64 (Sk.lw z.ct z.N k : Nat)) ∧ Below w.heap.size w w' := by
  obtain ⟨L, R, x, h, r⟩ := H
  exact Sk.count_any h.sk k hk
theorem EM.sumK (H : EM D w e c Q m b z) :
    Calls Tryz.prog 67 #[.pointer (some ⟨z.pk, 0, none⟩)] w fun ee w' => ee = .returned (.int .i64 (z.sm : Nat)) ∧ w' = w := by
  obtain ⟨L, R, x, h, r⟩ := H
  exact Sk.sum_any h.sk
theorem EM.lowK (H : EM D w e c Q m b z) (k : ByteArray) : Sk.lw z.ct z.N k ≤ 15 := by
  obtain ⟨L, R, x, h, r⟩ := H
  obtain ⟨f, g, h⟩ := h.sk
  have := Sk.lw_le (c := z.ct) (N := z.N) (k := k) (r := 0) (by omega)
  have := f.cell (Sk.pl z.N k 0)
  omega
set_option maxHeartbeats 1000000 in
theorem note_any (H : EM D w e c Q m b z) (hD : ∀ k, w.heap.size ≤ k → D k) (k : ByteArray) (hk : k.size ≤ 1000) :
    Calls Tryz.prog 46 #[.pointer (some ⟨e, 0, none⟩), .string k] w fun ee w' => ee = .returned (.tuple #[]) ∧ EM D w' e c Q m b (nt z k) ∧ Keeps D w w' := by
  obtain ⟨c0, c1, f1, heo, ⟨x, c4⟩, c5, c6⟩ := H.cells
  have hadd := H.addD hD k hk
  have HD : Hid (∀ k, w.heap.size ≤ k → D k) := hD
  cases hh : Dr.has z.bs (64 * z.K) k with
  | false =>
    rw [hh] at hadd
    have hz : nt z k = { z with bs := Dr.add z.bs (64 * z.K) k 3 } := by unfold nt; rw [hh]; rfl
    rw [hz]
    clear H hD hh hz
    go_enter Tryz.func46, Tryz.ntmps46
    go_wp2_with (go_at_call 66; refine Calls.mono hadd ?_; clear hadd; rintro ee w1 ⟨rfl, h1, hk1⟩)
    exact bodyPost_ret (results_none rfl _ _ _) rfl ⟨rfl, h1, hk1⟩
  | true =>
    rw [hh] at hadd
    obtain ⟨z1, hz1⟩ : ∃ z1 : Dk, z1 = { z with bs := Dr.add z.bs (64 * z.K) k 3 } := ⟨_, rfl⟩
    obtain ⟨z2, hz2⟩ : ∃ z2 : Dk, z2 = { z1 with ct := Sk.adC z1.ct z1.N k z1.sm, sm := Sk.adS z1.ct z1.N k z1.sm } := ⟨_, rfl⟩
    have hsm : z1.sm = z.sm := by subst hz1; rfl
    have hnt : nt z k = if z2.sm < z.sm then { z2 with bs := fun _ => false } else z2 := by subst hz2 hz1; unfold nt; rw [hh]; rfl
    rw [← hz1] at hadd
    have HZ2 : Hid (z2 = { z1 with ct := Sk.adC z1.ct z1.N k z1.sm, sm := Sk.adS z1.ct z1.N k z1.sm }) := hz2
    rw [hnt]
    clear H hD hh hz1 hz2 hnt
    by_cases hl : z2.sm < z.sm
    · rw [if_pos hl]
      have hl' : ((z2.sm : Nat) : Int) < (z.sm : Int) := by omega
      clear hl
      go_enter Tryz.func46, Tryz.ntmps46
      go_wp2_with (first
        | (go_at_call 66; refine Calls.mono hadd ?_; clear hadd; rintro ee w1 ⟨rfl, h1, hk1⟩; have HK1 : Hid (Keeps D w w1) := hk1; obtain ⟨d0, d1, d2, d3, -, d5, d6⟩ := h1.cells; have hs1 := h1.sumK; have ha1 := h1.addK (fun k h => HD.out k (Nat.le_trans hk1.size h)) k hk; rw [hsm] at hs1; rw [← HZ2.out] at ha1; clear h1 hk1)
        | (go_at_call 67; refine Calls.mono hs1 ?_; clear hs1; rintro ee w2 ⟨rfl, rfl⟩)
        | (go_at_call 68; refine Calls.mono ha1 ?_; clear ha1; rintro ee w3 ⟨rfl, h3, hk3⟩; have HK3 : Hid (Keeps D w w3) := HK1.out.trans hk3; obtain ⟨e0, e1, e2, e3, -, e5, e6⟩ := h3.cells; have hs3 := h3.sumK; have hc3 := h3.clearD (fun k h => HD.out k (Nat.le_trans HK3.out.size h)); clear h3 hk3)
        | (go_at_call 67; refine Calls.mono hs3 ?_; clear hs3; rintro ee w4 ⟨rfl, rfl⟩)
        | (go_at_call 69; refine Calls.mono hc3 ?_; clear hc3; rintro ee w5 ⟨rfl, h5, hk5⟩))
      go_end0
      exact ⟨rfl, h5, HK3.out.trans hk5⟩
    · rw [if_neg hl]
      have hl' : ¬ ((z2.sm : Nat) : Int) < (z.sm : Int) := by omega
      clear hl
      go_enter Tryz.func46, Tryz.ntmps46
      go_wp2_with (first
        | (go_at_call 66; refine Calls.mono hadd ?_; clear hadd; rintro ee w1 ⟨rfl, h1, hk1⟩; have HK1 : Hid (Keeps D w w1) := hk1; obtain ⟨d0, d1, d2, d3, -, d5, d6⟩ := h1.cells; have hs1 := h1.sumK; have ha1 := h1.addK (fun k h => HD.out k (Nat.le_trans hk1.size h)) k hk; rw [hsm] at hs1; rw [← HZ2.out] at ha1; clear h1 hk1)
        | (go_at_call 67; refine Calls.mono hs1 ?_; clear hs1; rintro ee w2 ⟨rfl, rfl⟩)
        | (go_at_call 68; refine Calls.mono ha1 ?_; clear ha1; rintro ee w3 ⟨rfl, h3, hk3⟩; have HK3 : Hid (Keeps D w w3) := HK1.out.trans hk3; have H3 : Hid (EM D w3 e c Q m b z2) := h3; obtain ⟨e0, e1, e2, e3, -, e5, e6⟩ := h3.cells; have hs3 := h3.sumK; clear h3 hk3)
        | (go_at_call 67; refine Calls.mono hs3 ?_; clear hs3; rintro ee w4 ⟨rfl, rfl⟩))
      go_end0
      exact ⟨rfl, H3.out, HK3.out⟩
end
end Go.Proofs.YtcphhlfbjkeikabGreat
