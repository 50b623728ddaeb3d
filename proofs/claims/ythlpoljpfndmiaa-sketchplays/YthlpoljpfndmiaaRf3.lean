/- The document's sketch: Add. -/
import Derived.Test.YthlpoljpfndmiaaRf2
namespace Go.Proofs.Ythlpoljpfndmiaa
open Go.RowKit

theorem plAll_at (N : Nat) (k : ByteArray) {j : Nat} (hj : j < 4) : (plAll N k)[j]? = some (.int .i64 (pl N k j : Nat)) := by
  have : j = 0 ∨ j = 1 ∨ j = 2 ∨ j = 3 := by omega
  rcases this with rfl | rfl | rfl | rfl <;> rfl
section
variable {D : Nat → Prop} {w : World} {p g N : Nat} {c : Nat → Nat} {s : Nat}
/-- in the loop of Add: the cells, and the places beside them -/
def AdIn (D : Nat → Prop) (w wr : World) (p g N : Nat) (c : Nat → Nat) (s q : Nat) (k : ByteArray) : Prop :=
  RfIn D wr p g N c s ∧ Keeps D w wr ∧ wr.heap[q]? = some (.cells (plAll N k) 46 (0, 0)) ∧ g ≠ q
theorem AdIn.drewN {wr : World} {q : Nat} {k : ByteArray} (h : AdIn D w wr p g N c s q k) (n : Nat) : AdIn D w (wr.drewN n) p g N c s q k :=
  ⟨h.1.below (below_drewN (Below.refl _ _) n), h.2.1.drewN n, h.2.2.1, h.2.2.2⟩
theorem AdIn.set {wr : World} {q i v : Nat} {k : ByteArray} (h : AdIn D w wr p g N c s q k) (n : Nat) : AdIn D w ((wr.drewN n).setCell ⟨g, i, none⟩ (.int .i64 (v : Nat))) p g N (upd c i v) s q k := by
  obtain ⟨h1, h2, h3, h4⟩ := h.drewN n
  refine ⟨h1.set (i64s_set c (4 * N) i v), h2.setCell h1.2.1 _, ?_, h4⟩
  rw [Below.heap_setCell _ _ _ _ (by exact Ne.symm h4)]
  exact h3
theorem radd_end {c' : Nat → Nat} (h : RfIn D w p g N c' s) (f : Fit N c' s) (h1 : s + 1 < 10 * N) : RF p N c' (s + 1) D (w.setCell ⟨p, 2, none⟩ (.int .i64 ((s : Int) + 1))) :=
  ⟨⟨f.lo, f.hi, f.cell, h1⟩, g, by have := h.setSum (s + 1); rwa [show ((s + 1 : Nat) : Int) = (s : Int) + 1 by omega] at this⟩
set_option maxHeartbeats 4000000 in
theorem radd_any (H : RF p N c s D w) (k : ByteArray) (hk : k.size ≤ 1000) :
    Calls Try.prog 14 #[.pointer (some ⟨p, 0, none⟩), .string k] w fun e w' => e = .returned (.tuple #[]) ∧ RF p N (adC c N k s) (adS c N k s) D w' ∧ Keeps D w w' := by
  have HRF : Hid (RF p N c s D w) := H
  obtain ⟨f, g, H⟩ := H
  have hpl := rcells_any H f.lo f.hi k hk
  have HH : Hid (RfIn D w p g N c s) := H
  have HF : Hid (Fit N c s) := f
  have hcn := fun {w' : World} (hb : Below w.heap.size w w') => rcount_any (HRF.out.below hb) k hk
  have HLO : Hid (lw c N k ≤ 15) := Nat.le_trans (lw_le (r := 0) (by omega)) (f.cell _)
  have hN := f.hi
  have hsum := f.sum
  have hgl := lt_of_block H.2.2.2.2
  clear H f
  unfold plAll at hpl
  rcases Nat.lt_or_ge (lw c N k) 15 with hl | hl
  · have HA : Hid (∀ j, Fit N (adds c N k (lw c N k) j) s) := fun j => HF.out.adds k hl j
    have HC : Hid (¬ s + 1 = 10 * N → adC c N k s = adds c N k (lw c N k) 4 ∧ adS c N k s = s + 1) := fun h => ⟨by unfold adC; rw [if_neg (by omega), if_neg h], by unfold adS; rw [if_neg (by omega), if_neg h]⟩
    have HC2 : Hid (s + 1 = 10 * N → adC c N k s = hv (adds c N k (lw c N k) 4) ∧ adS c N k s = (s + 1) / 2) := fun h => ⟨by unfold adC; rw [if_neg (by omega), if_pos h], by unfold adS; rw [if_neg (by omega), if_pos h]⟩
    generalize lw c N k = low at *
    have hlI : ((low : Int) < 15) := by omega
    go_enter Try.func14, Try.ntmps14
    go_wp2_with (first
      | (go_at_call 28; refine hpl.mono ?_; rintro e w2 ⟨rfl, hb2⟩; have hs2 := hb2.size; have hb3 := hb2.alloc hs2 (.cells (plAll N k) 46); have hcn3 := hcn hb3; clear hpl)
      | (go_at_call 16; refine hcn3.mono ?_; rintro e w4 ⟨rfl, hb4⟩; clear hcn3))
    have h4 : AdIn D w w4 p g N c s w2.heap.size k := by
      have hb5 : Below w.heap.size w w4 := hb3.trans (hb4.mono (by have := hb3.size; omega))
      exact ⟨HH.out.below hb5, .of_below hb5, (hb4.block w2.heap.size (by simp)).trans (heap_alloc_new w2 _), by omega⟩
    clear hb2 hb3 hb4 hcn
    generalize w2.heap.size = q at *
    go_loopw [6] (fun i wr => ∃ j : Nat, j ≤ 4 ∧ i = .int .i64 j ∧ AdIn D w wr p g N (adds c N k low j) s q k) (fun i _ => 4 - (intOf i).toNat)
    case atStart => exact ⟨0, by omega, rfl, h4⟩
    case round =>
      clear h4
      obtain ⟨j, hj, rfl, HJ⟩ := hrel
      have HR : Hid (AdIn D w wr p g N (adds c N k low j) s q k) := HJ
      obtain ⟨c0, c1, c2, f0, f1, f2⟩ := HJ.1.top
      rcases Nat.lt_or_ge j 4 with hlt | hge
      · have hp4 := pl_lt HF.out.lo k hlt
        obtain ⟨d0, e0⟩ := HJ.1.at hp4
        have l0 : wr.cell? ⟨q, j, none⟩ = some (.int .i64 (pl N k j : Nat)) := by rw [cell_of_block HJ.2.2.1, plAll_at N k hlt]
        have hv15 := (HA.out j).cell (pl N k j)
        have jI : (j : Int) < 4 := by omega
        have j0 : (0 : Int) ≤ (j : Int) := by omega
        have hlw : IntKind.i64.wrap ((low : Int) + 1) = ((low + 1 : Nat) : Int) := by rw [IntKind.wrap_i64]; omega
        by_cases hv : adds c N k low j (pl N k j) = low
        · have HX : Hid (∀ n, AdIn D w ((wr.drewN n).setCell ⟨g, pl N k j, none⟩ (.int .i64 ((low + 1 : Nat) : Int))) p g N (adds c N k low (j + 1)) s q k) := by
            intro n
            have : adds c N k low (j + 1) = upd (adds c N k low j) (pl N k j) (low + 1) := by
              show one low _ _ = _
              unfold one
              rw [if_pos hv]
            rw [this]
            exact HR.out.set n
          rw [hv] at d0
          generalize pl N k j = P at d0 e0 l0 hp4 HX
          generalize hLL : 4 * N = L at c0 hp4
          have PI : (P : Int) < (L : Int) := by omega
          have P0 : (0 : Int) ≤ (P : Int) := by omega
          generalize low + 1 = low1 at hlw HX
          clear HJ hv hv15 hLL
          go_wp2_with fail
          go_quiet (fail)
          go_wp2_with fail
          go_region
          all_goals
            go_wp2_with fail
            go_roundw
            case rel => exact ⟨j + 1, hlt, by go_num, HX.out (nq + 1)⟩
            case measure => simp [intOf]; omega
        · have HE : Hid (adds c N k low (j + 1) = adds c N k low j) := by
            show Hid (one low _ _ = _)
            unfold one
            rw [if_neg hv]
            exact rfl
          have hvB : ((adds c N k low j (pl N k j) : Int) == (low : Int)) = false := by simp; omega
          generalize adds c N k low j (pl N k j) = v at d0 hv15 hvB
          generalize pl N k j = P at d0 e0 l0 hp4
          generalize hLL : 4 * N = L at c0 hp4
          have PI : (P : Int) < (L : Int) := by omega
          have P0 : (0 : Int) ≤ (P : Int) := by omega
          clear HJ hv hLL
          go_wp2_with fail
          go_quiet (fail)
          go_wp2_with fail
          go_roundw
          case rel => exact ⟨j + 1, hlt, by go_num, by rw [HE.out]; exact HR.out.drewN _⟩
          case measure => simp [intOf]; omega
      · have hj4 : j = 4 := by omega
        subst hj4
        have hsI : IntKind.i64.wrap ((s : Int) + 1) = (s : Int) + 1 := by rw [IntKind.wrap_i64]; omega
        have hNI : IntKind.i64.wrap (10 * (N : Int)) = 10 * (N : Int) := by rw [IntKind.wrap_i64]; omega
        clear HJ hge
        by_cases h10 : s + 1 = 10 * N
        · have HX : Hid (RfIn D (wr.setCell ⟨p, 2, none⟩ (.int .i64 ((s : Int) + 1))) p g N (adds c N k low 4) (s + 1)) := by have := HR.out.1.setSum (s + 1); rwa [show ((s + 1 : Nat) : Int) = (s : Int) + 1 by omega] at this
          have hhv := fun q => rhalve_in (w := (wr.setCell ⟨p, 2, none⟩ (.int .i64 ((s : Int) + 1))).drewN q) (HX.out.below (below_drewN (Below.refl _ _) q)) HF.out.lo HF.out.hi (HA.out 4).cell (by omega)
          have hB : 10 * (N : Int) ≤ (s : Int) + 1 := by omega
          go_wp2_with fail
          go_quiet (fail)
          go_wp2_with (go_at_call 12; refine (hhv _).mono ?_; rintro e w6 ⟨rfl, H6, hk6⟩; clear hhv)
          go_end0
          rw [(HC2.out h10).1, (HC2.out h10).2]
          exact ⟨rfl, H6, ((HR.out.2.1.setCell HR.out.1.1 _).drewN _).trans hk6⟩
        · have HX : Hid (RF p N (adds c N k low 4) (s + 1) D (wr.setCell ⟨p, 2, none⟩ (.int .i64 ((s : Int) + 1)))) := radd_end HR.out.1 (HA.out 4) (by omega)
          have hB : ¬ (10 * (N : Int) ≤ (s : Int) + 1) := by omega
          go_wp2_with fail
          go_quiet (fail)
          go_wp2_with fail
          go_end0
          rw [(HC.out h10).1, (HC.out h10).2]
          exact ⟨rfl, HX.out.below (below_drewN (Below.refl _ _) _), (HR.out.2.1.setCell HR.out.1.1 _).drewN _⟩
  · rw [show adC c N k s = c by unfold adC; rw [if_pos hl], show adS c N k s = s by unfold adS; rw [if_pos hl]]
    have hlo := HLO.out
    generalize lw c N k = low at *
    have hlI : ¬ ((low : Int) < 15) := by omega
    go_enter Try.func14, Try.ntmps14
    go_wp2_with (first
      | (go_at_call 28; refine hpl.mono ?_; rintro e w2 ⟨rfl, hb2⟩; have hs2 := hb2.size; have hb3 := hb2.alloc hs2 (.cells (plAll N k) 46); have hcn3 := hcn hb3; clear hpl)
      | (go_at_call 16; refine hcn3.mono ?_; rintro e w4 ⟨rfl, hb4⟩; clear hcn3))
    have h4 : AdIn D w w4 p g N c s w2.heap.size k := by
      have hb5 : Below w.heap.size w w4 := hb3.trans (hb4.mono (by have := hb3.size; omega))
      exact ⟨HH.out.below hb5, .of_below hb5, (hb4.block w2.heap.size (by simp)).trans (heap_alloc_new w2 _), by omega⟩
    clear hb2 hb3 hb4 hcn
    generalize w2.heap.size = q at *
    go_loopw [6] (fun i wr => ∃ j : Nat, j ≤ 4 ∧ i = .int .i64 j ∧ AdIn D w wr p g N c s q k) (fun i _ => 4 - (intOf i).toNat)
    case atStart => exact ⟨0, by omega, rfl, h4⟩
    case round =>
      clear h4
      obtain ⟨j, hj, rfl, HJ⟩ := hrel
      have HR : Hid (AdIn D w wr p g N c s q k) := HJ
      obtain ⟨c0, c1, c2, f0, f1, f2⟩ := HJ.1.top
      rcases Nat.lt_or_ge j 4 with hlt | hge
      · have hp4 := pl_lt HF.out.lo k hlt
        obtain ⟨d0, e0⟩ := HJ.1.at hp4
        have l0 : wr.cell? ⟨q, j, none⟩ = some (.int .i64 (pl N k j : Nat)) := by rw [cell_of_block HJ.2.2.1, plAll_at N k hlt]
        have hv15 := HF.out.cell (pl N k j)
        have jI : (j : Int) < 4 := by omega
        have j0 : (0 : Int) ≤ (j : Int) := by omega
        generalize c (pl N k j) = v at d0 hv15
        generalize pl N k j = P at d0 e0 l0 hp4
        generalize hLL : 4 * N = L at c0 hp4
        have PI : (P : Int) < (L : Int) := by omega
        have P0 : (0 : Int) ≤ (P : Int) := by omega
        clear HJ hLL
        by_cases hv : v = low
        · rw [hv] at d0
          clear hv hv15
          go_wp2_with fail
          go_quiet (fail)
          go_wp2_with fail
          go_roundw
          case rel => exact ⟨j + 1, hlt, by go_num, HR.out.drewN _⟩
          case measure => simp [intOf]; omega
        · have hvB : ((v : Int) == (low : Int)) = false := by simp; omega
          clear hv
          go_wp2_with fail
          go_quiet (fail)
          go_wp2_with fail
          go_roundw
          case rel => exact ⟨j + 1, hlt, by go_num, HR.out.drewN _⟩
          case measure => simp [intOf]; omega
      · have hj4 : j = 4 := by omega
        subst hj4
        have hNI : IntKind.i64.wrap (10 * (N : Int)) = 10 * (N : Int) := by rw [IntKind.wrap_i64]; omega
        have hB : ¬ (10 * (N : Int) ≤ (s : Int)) := by omega
        clear HJ hge
        go_wp2_with fail
        go_quiet (fail)
        go_wp2_with fail
        go_end0
        exact ⟨rfl, ⟨HF.out, g, HR.out.1.below (below_drewN (Below.refl _ _) _)⟩, HR.out.2.1.drewN _⟩
end
end Go.Proofs.Ythlpoljpfndmiaa
