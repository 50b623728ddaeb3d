/- The program's sketch: a cell, one more in a cell. -/
import Derived.Test.YtcphhlfbjkeikabSc
import Derived.Deep.RegionHeld3
namespace Go.Proofs.Ytcphhlfbjkeikab.Sk
open Go.RowKit

section
variable {D : Nat → Prop} {w : World} {p g N : Nat} {c : Nat → Nat} {s : Nat}
theorem half_even {i : Nat} (hi : i ≤ 1000000) (h : i % 2 = 0) (w : World) : Calls Try.prog 81 #[.int .i64 (i : Nat)] w fun e w' => e = .returned (.int .i64 0) ∧ w' = w := by
  have := half_any i hi w
  rw [h] at this
  exact this
theorem half_odd {i : Nat} (hi : i ≤ 1000000) (h : i % 2 = 1) (w : World) : Calls Try.prog 81 #[.int .i64 (i : Nat)] w fun e w' => e = .returned (.int .i64 4) ∧ w' = w := by
  have := half_any i hi w
  rw [h] at this
  exact this
set_option maxHeartbeats 1000000 in
theorem cell_any (H : SkIn D w p g N c s) (f : Fit N c s) {i : Nat} (hi : i < 4 * N) :
    Calls Try.prog 67 #[.pointer (some ⟨p, 0, none⟩), .int .i64 (i : Nat)] w fun e w' => e = .returned (.int .i64 (c i : Nat)) ∧ ∃ q, w' = w.drewN q := by
  obtain ⟨c0, c1, c2, -⟩ := H.top
  obtain ⟨b0, -⟩ := H.at (k := i / 2) (by omega)
  have hbl := byt_lt f.cell (i / 2)
  have hv := byt_half c f.cell i
  have hN := f.hi
  have hk : i / 2 < 2 * N := by omega
  have ek : (i : Int) / 2 = ((i / 2 : Nat) : Int) := by omega
  have hi6 : i ≤ 1000000 := by omega
  have hk6 : i / 2 ≤ 1000000 := by omega
  have hkI : ((i / 2 : Nat) : Int) < 2 * (N : Int) := by omega
  generalize byt c (i / 2) = b at b0 hbl hv
  generalize c i = v at hv ⊢
  generalize i / 2 = K at *
  clear H f
  rcases Nat.mod_two_eq_zero_or_one i with e | e
  · have hh := half_even hi6 e
    rw [e] at hv
    have ea : bits .and .u8 (b : Int) 15 = (v : Int) := by rw [show (15 : Int) = ((15 : Nat) : Int) from rfl, u8_and_nat _ _ hbl (by omega), Nat.and_two_pow_sub_one_eq_mod b 4, ← hv]; simp
    have hv15 : v ≤ 15 := by omega
    clear hv e
    go_enter Try.func67, Try.ntmps67
    go_wp2_with fail
    go_quiet ((go_at_call 81; refine Calls.quiet_of_same (hh _)))
    go_wp2_with fail
    go_ret
    exact ⟨rfl, _, rfl⟩
  · have hh := half_odd hi6 e
    rw [e] at hv
    obtain ⟨X, hX⟩ : ∃ X, b / 16 = X := ⟨_, rfl⟩
    have ed : (b : Int) / 16 = (X : Int) := by omega
    have ea : bits .and .u8 (X : Int) 15 = (v : Int) := by
      rw [show (15 : Int) = ((15 : Nat) : Int) from rfl, u8_and_nat _ _ (by omega) (by omega), Nat.and_two_pow_sub_one_eq_mod X 4, ← hv, ← hX]
    have hv15 : v ≤ 15 := by omega
    have hX15 : X ≤ 15 := by omega
    clear hv e hX
    go_enter Try.func67, Try.ntmps67
    go_wp2_with fail
    go_quiet ((go_at_call 81; refine Calls.quiet_of_same (hh _)))
    go_wp2_with fail
    go_ret
    exact ⟨rfl, _, rfl⟩
theorem raise_end {q b' : Nat} {i : Nat} (H : SkIn D w p g N c s) (e : byt (upd c i (c i + 1)) (i / 2) = b') :
    SkIn D ((w.drewN q).setCell ⟨g, i / 2, none⟩ (.int .u8 (b' : Nat))) p g N (upd c i (c i + 1)) s ∧ Keeps D w ((w.drewN q).setCell ⟨g, i / 2, none⟩ (.int .u8 (b' : Nat))) := by
  have h := (H.below (below_drewN (Below.refl _ _) q)).set (u8s_set c (2 * N) i (c i + 1))
  rw [e] at h
  exact ⟨h, ((Keeps.refl D w).drewN q).setCell H.2.1 _⟩
set_option maxHeartbeats 1000000 in
theorem raise_any (H : SkIn D w p g N c s) (f : Fit N c s) {i : Nat} (hi : i < 4 * N) (hc : c i < 15) :
    Calls Try.prog 68 #[.pointer (some ⟨p, 0, none⟩), .int .i64 (i : Nat)] w fun e w' => e = .returned (.tuple #[]) ∧ SkIn D w' p g N (upd c i (c i + 1)) s ∧ Keeps D w w' := by
  obtain ⟨c0, c1, c2, -⟩ := H.top
  obtain ⟨b0, f0⟩ := H.at (k := i / 2) (by omega)
  have hb1 : byt c (i / 2) + 2 ^ (i % 2 * 4) < 256 := by
    rw [← byt_raise]
    apply byt_lt
    intro j
    unfold upd
    have := f.cell j
    split <;> omega
  have hN := f.hi
  have hk : i / 2 < 2 * N := by omega
  have ek : (i : Int) / 2 = ((i / 2 : Nat) : Int) := by omega
  have hi6 : i ≤ 1000000 := by omega
  have hk6 : i / 2 ≤ 1000000 := by omega
  have HE : Hid (∀ q b' : Nat, b' = byt c (i / 2) + 2 ^ (i % 2 * 4) → SkIn D ((w.drewN q).setCell ⟨g, i / 2, none⟩ (.int .u8 (b' : Nat))) p g N (upd c i (c i + 1)) s ∧ Keeps D w ((w.drewN q).setCell ⟨g, i / 2, none⟩ (.int .u8 (b' : Nat)))) :=
    fun q b' e => raise_end H (by rw [byt_raise, e])
  generalize byt c (i / 2) = b at b0 hb1 HE
  generalize i / 2 = K at *
  generalize hLL : 2 * N = L at c1 hk
  have hkJ : (K : Int) < (L : Int) := by omega
  have hk0 : (0 : Int) ≤ (K : Int) := by omega
  have hwr : IntKind.i64.wrap (K : Int) = (K : Int) := by rw [IntKind.wrap_i64]; omega
  clear H f hLL
  rcases Nat.mod_two_eq_zero_or_one i with e | e
  · have hh := half_even hi6 e
    rw [e] at hb1 HE
    have HE' := HE.out 1 (b + 1) rfl
    have HX : Hid _ := HE'
    have hu1 : IntKind.u8.wrap 1 = 1 := rfl
    have hu2 : IntKind.u8.wrap ((b : Int) + 1) = ((b + 1 : Nat) : Int) := by rw [IntKind.wrap_u8]; omega
    generalize b + 1 = b' at hu2 HX
    clear HE HE' hb1 e
    go_enter Try.func68, Try.ntmps68
    go_wp2_with fail
    go_region_with (go_at_call 81; refine (hh _).mono ?_; rintro e w1 ⟨rfl, rfl⟩)
    all_goals
      go_wp2_with fail
      go_end0
      exact ⟨rfl, HX.out⟩
  · have hh := half_odd hi6 e
    rw [e] at hb1 HE
    have HE' := HE.out 1 (b + 16) rfl
    have HX : Hid _ := HE'
    have hu1 : IntKind.u8.wrap 16 = 16 := rfl
    have hu2 : IntKind.u8.wrap ((b : Int) + 16) = ((b + 16 : Nat) : Int) := by rw [IntKind.wrap_u8]; omega
    generalize b + 16 = b' at hu2 HX
    clear HE HE' hb1 e
    go_enter Try.func68, Try.ntmps68
    go_wp2_with fail
    go_region_with (go_at_call 81; refine (hh _).mono ?_; rintro e w1 ⟨rfl, rfl⟩)
    all_goals
      go_wp2_with fail
      go_end0
      exact ⟨rfl, HX.out⟩
end
end Go.Proofs.Ytcphhlfbjkeikab.Sk
