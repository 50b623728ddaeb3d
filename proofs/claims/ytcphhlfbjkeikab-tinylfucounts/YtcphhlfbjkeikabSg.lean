/- The program's sketch: Add; a nil one. -/
import Derived.Test.YtcphhlfbjkeikabSf
namespace Go.Proofs.Ytcphhlfbjkeikab.Sk
open Go.RowKit

/-- what an Add makes of the cells, and of the sum -/
def adC (c : Nat → Nat) (N : Nat) (k : ByteArray) (s : Nat) : Nat → Nat :=
  if 15 ≤ lw c N k then c else if s + 1 = 10 * N then hv (adds c N k (lw c N k) 4) else adds c N k (lw c N k) 4
def adS (c : Nat → Nat) (N : Nat) (k : ByteArray) (s : Nat) : Nat :=
  if 15 ≤ lw c N k then s else if s + 1 = 10 * N then (s + 1) / 2 else s + 1
section
variable {D : Nat → Prop} {w : World} {p g N : Nat} {c : Nat → Nat} {s : Nat}
theorem Fit.adds (f : Fit N c s) (k : ByteArray) (hl : lw c N k < 15) (j : Nat) : Fit N (adds c N k (lw c N k) j) s :=
  ⟨f.lo, f.hi, fun i => adds_le f.cell hl j i, f.sum⟩
theorem box_later {w2 w4 : World} {N : Nat} {k : ByteArray} (hb : Below (w2.alloc (.cells (plAll N k) 99)).heap.size (w2.alloc (.cells (plAll N k) 99)) w4) :
    w4.cell? ⟨w2.heap.size, 0, none⟩ = some (.int .i64 (pl N k 0 : Nat)) ∧ w4.cell? ⟨w2.heap.size, 1, none⟩ = some (.int .i64 (pl N k 1 : Nat)) ∧ w4.cell? ⟨w2.heap.size, 2, none⟩ = some (.int .i64 (pl N k 2 : Nat)) ∧ w4.cell? ⟨w2.heap.size, 3, none⟩ = some (.int .i64 (pl N k 3 : Nat)) := by
  have h := (hb.block w2.heap.size (by simp)).trans (heap_alloc_new w2 _)
  obtain ⟨d0, d1, d2, d3, -⟩ := cells_of_four (w := w4) h
  exact ⟨d0, d1, d2, d3⟩
/-- behind the loop: one more in the sum; halved, or not -/
theorem add_end {c' : Nat → Nat} (h : SkIn D w p g N c' s) (f : Fit N c' s) (h1 : s + 1 < 10 * N) : SK p N c' (s + 1) D (w.setCell ⟨p, 2, none⟩ (.int .i64 ((s : Int) + 1))) :=
  ⟨⟨f.lo, f.hi, f.cell, h1⟩, g, by have := h.setSum (s + 1); rwa [show ((s + 1 : Nat) : Int) = (s : Int) + 1 by omega] at this⟩
set_option maxHeartbeats 2000000 in
theorem add_any (H : SK p N c s D w) (hD : ∀ k, w.heap.size ≤ k → D k) (k : ByteArray) (hk : k.size ≤ 1000) :
    Calls Try.prog 44 #[.pointer (some ⟨p, 0, none⟩), .string k] w fun e w' => e = .returned (.tuple #[]) ∧ SK p N (adC c N k s) (adS c N k s) D w' ∧ Keeps D w w' := by
  obtain ⟨f, g, H⟩ := H
  have hbl := blank_any H f.lo
  have hpl := places_any H f.lo f.hi k hk
  have HH : Hid (SkIn D w p g N c s) := H
  have HF : Hid (Fit N c s) := f
  have HI : Hid (∀ {j : Nat} (_ : j < 4) (W : World), (Instr.index 99 (.agg #[.int .i64 (pl N k 0 : Nat), .int .i64 (pl N k 1 : Nat), .int .i64 (pl N k 2 : Nat), .int .i64 (pl N k 3 : Nat)]) (.int .i64 (j : Nat))).run Try.prog W = .ok (.int .i64 (pl N k j : Nat)) W) := fun hj W => index_pl N k hj W
  have HLO : Hid (lw c N k ≤ 15) := Nat.le_trans (lw_le (r := 0) (by omega)) (f.cell _)
  have hN := f.hi
  have hsum := f.sum
  have hle := fun {w' : World} (hb : Below w.heap.size w w') => least_any (H.below hb) f k
  clear H f
  rcases Nat.lt_or_ge (lw c N k) 15 with hl | hl
  · have HA : Hid (∀ j, Fit N (adds c N k (lw c N k) j) s) := fun j => HF.out.adds k hl j
    have HC : Hid (¬ s + 1 = 10 * N → adC c N k s = adds c N k (lw c N k) 4 ∧ adS c N k s = s + 1) := fun h => ⟨by unfold adC; rw [if_neg (by omega), if_neg h], by unfold adS; rw [if_neg (by omega), if_neg h]⟩
    have HC2 : Hid (s + 1 = 10 * N → adC c N k s = hv (adds c N k (lw c N k) 4) ∧ adS c N k s = (s + 1) / 2) := fun h => ⟨by unfold adC; rw [if_neg (by omega), if_pos h], by unfold adS; rw [if_neg (by omega), if_pos h]⟩
    generalize lw c N k = low at *
    have hlI : ¬ ((15 : Int) ≤ (low : Int)) := by omega
    go_enter Try.func44, Try.ntmps44
    go_wp2_with (first
      | (go_at_call 64; refine hbl.mono ?_; rintro e w1 ⟨rfl, rfl⟩; clear hbl)
      | (go_at_call 65; refine hpl.mono ?_; unfold plAll; rintro e w2 ⟨rfl, hb2⟩; have hs2 := hb2.size; have hb3 := hb2.alloc hs2 (.cells (plAll N k) 99); have hls := hle hb3; clear hpl)
      | (go_at_call 66; refine hls.mono ?_; rintro e w4 ⟨rfl, hb4⟩; obtain ⟨d0, d1, d2, d3⟩ := box_later hb4; clear hls))
    have hb5 : Below w1.heap.size w1 w4 := hb3.trans (hb4.mono (by have := hb3.size; omega))
    have h4 := HH.out.below hb5
    clear hb2 hb3 hb4 d0 d1 d2 d3 hle hs2
    go_loopw [19] (fun i wr => ∃ j : Nat, j ≤ 4 ∧ i = .int .i64 j ∧ SkIn D wr p g N (adds c N k low j) s ∧ Keeps D w1 wr) (fun i _ => 4 - (intOf i).toNat)
    case atStart => exact ⟨0, by omega, rfl, h4, .of_below hb5⟩
    case round =>
      clear h4 hb5
      obtain ⟨j, hj, rfl, HJ, hk5⟩ := hrel
      have HR : Hid (SkIn D wr p g N (adds c N k low j) s) := HJ
      have HK : Hid (Keeps D w1 wr) := hk5
      rcases Nat.lt_or_ge j 4 with hlt | hge
      · have hidx := fun W => HI.out hlt W
        have hp4 := pl_lt HF.out.lo k hlt
        have hcl := cell_any HJ (HA.out j) hp4
        by_cases hv : adds c N k low j (pl N k j) = low
        · have hrs := fun q => raise_any (w := wr.drewN q) (HJ.below (below_drewN (Below.refl _ _) q)) (HA.out j) hp4 (by omega)
          have HE : Hid (adds c N k low (j + 1) = upd (adds c N k low j) (pl N k j) (adds c N k low j (pl N k j) + 1)) := by
            show Hid (one low _ _ = _)
            unfold one
            rw [if_pos hv, hv]
            exact rfl
          rw [hv] at hcl
          clear HJ hk5 hv
          go_wp2_with (first
            | (go_at_call 67; refine hcl.mono ?_; rintro e w5 ⟨rfl, q, rfl⟩; clear hcl)
            | (go_at_call 68; refine (hrs q).mono ?_; rintro e w6 ⟨rfl, H6, hk6⟩; clear hrs))
          go_roundw
          case rel => exact ⟨j + 1, hlt, by go_num, by rw [HE.out]; exact H6, (HK.out.drewN q).trans hk6⟩
          case measure => simp [intOf]; omega
        · have HE : Hid (adds c N k low (j + 1) = adds c N k low j) := by
            show Hid (one low _ _ = _)
            unfold one
            rw [if_neg hv]
            exact rfl
          have hvI : ¬ ((adds c N k low j (pl N k j) : Int) = (low : Int)) := by omega
          have hvB : ((adds c N k low j (pl N k j) : Int) == (low : Int)) = false := by simp; omega
          have hvl := (HA.out j).cell (pl N k j)
          clear HJ hk5 hv
          generalize adds c N k low j (pl N k j) = v at *
          go_wp2_with (go_at_call 67; refine hcl.mono ?_; rintro e w5 ⟨rfl, q, rfl⟩; clear hcl)
          go_roundw
          case rel => exact ⟨j + 1, hlt, by go_num, by rw [HE.out]; exact HR.out.below (below_drewN (Below.refl _ _) q), HK.out.drewN q⟩
          case measure => simp [intOf]; omega
      · have hj4 : j = 4 := by omega
        subst hj4
        obtain ⟨c0, c1, c2, f0, f1, f2⟩ := HJ.top
        have hsI : IntKind.i64.wrap ((s : Int) + 1) = (s : Int) + 1 := by rw [IntKind.wrap_i64]; omega
        have hNI : IntKind.i64.wrap (10 * (N : Int)) = 10 * (N : Int) := by rw [IntKind.wrap_i64]; omega
        clear HJ hk5 hge
        by_cases h10 : s + 1 = 10 * N
        · have HX : Hid (SkIn D (wr.setCell ⟨p, 2, none⟩ (.int .i64 ((s : Int) + 1))) p g N (adds c N k low 4) (s + 1)) := by have := HR.out.setSum (s + 1); rwa [show ((s + 1 : Nat) : Int) = (s : Int) + 1 by omega] at this
          have hhv := fun q => halve_in (w := (wr.setCell ⟨p, 2, none⟩ (.int .i64 ((s : Int) + 1))).drewN q) (HX.out.below (below_drewN (Below.refl _ _) q)) HF.out.lo HF.out.hi (HA.out 4).cell (by omega)
          have hB : (((s : Int) + 1) == 10 * (N : Int)) = true := by simp; omega
          go_wp2_with fail
          go_quiet (fail)
          go_wp2_with (go_at_call 69; refine (hhv _).mono ?_; rintro e w6 ⟨rfl, H6, hk6⟩; clear hhv)
          go_end0
          rw [(HC2.out h10).1, (HC2.out h10).2]
          exact ⟨rfl, H6, ((HK.out.setCell HR.out.1 _).drewN _).trans hk6⟩
        · have HX : Hid (SK p N (adds c N k low 4) (s + 1) D (wr.setCell ⟨p, 2, none⟩ (.int .i64 ((s : Int) + 1)))) := add_end HR.out (HA.out 4) (by omega)
          have hB : (((s : Int) + 1) == 10 * (N : Int)) = false := by simp; omega
          go_wp2_with fail
          go_quiet (fail)
          go_wp2_with fail
          go_end0
          rw [(HC.out h10).1, (HC.out h10).2]
          exact ⟨rfl, HX.out.below (below_drewN (Below.refl _ _) _), (HK.out.setCell HR.out.1 _).drewN _⟩
  · rw [show adC c N k s = c by unfold adC; rw [if_pos hl], show adS c N k s = s by unfold adS; rw [if_pos hl]]
    generalize lw c N k = low at *
    have hlI : (15 : Int) ≤ (low : Int) := by omega
    go_enter Try.func44, Try.ntmps44
    go_wp2_with (first
      | (go_at_call 64; refine hbl.mono ?_; rintro e w1 ⟨rfl, rfl⟩; clear hbl)
      | (go_at_call 65; refine hpl.mono ?_; unfold plAll; rintro e w2 ⟨rfl, hb2⟩; have hs2 := hb2.size; have hb3 := hb2.alloc hs2 (.cells (plAll N k) 99); have hls := hle hb3; clear hpl)
      | (go_at_call 66; refine hls.mono ?_; rintro e w4 ⟨rfl, hb4⟩; clear hls))
    have hs4 := hb4.size
    have hb5 : Below w1.heap.size w1 w4 := hb3.trans (hb4.mono (by have := hb3.size; omega))
    refine bodyPost_ret (results_none rfl _ _ _) rfl ⟨rfl, ⟨HF.out, g, HH.out.below hb5⟩, .of_below hb5⟩
theorem lw_ad {k : ByteArray} (h : lw c N k < 15) (h1 : s + 1 < 10 * N) : lw (adC c N k s) N k = lw c N k + 1 ∧ adS c N k s = s + 1 := by
  refine ⟨?_, ?_⟩
  · unfold adC
    rw [if_neg (by omega), if_neg (by omega)]
    exact lw_adds c N k
  · unfold adS
    rw [if_neg (by omega), if_neg (by omega)]
theorem lw_zero (N : Nat) (k : ByteArray) : lw (fun _ => 0) N k = 0 := by simp [lw]
end
end Go.Proofs.Ytcphhlfbjkeikab.Sk
