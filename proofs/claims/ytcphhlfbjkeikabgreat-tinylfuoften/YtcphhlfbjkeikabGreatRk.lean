/- The document's sketch and door, whole. -/
import Derived.Test.YtcphhlfbjkeikabGreatSk
import Derived.Test.YtcphhlfbjkeikabGreatDr
/- The document's sketch: Power, New, where a key's cells lie, Count. -/
namespace Go.Proofs.YtcphhlfbjkeikabGreat.Sk
open Go.RowKit

theorem power_any (r : Int) (w : World) (h0 : -9223372036854775808 ≤ r) (h1 : r ≤ 9223372036854775807) :
    Calls Tryz.prog 45 #[.int .i64 r, .int .i64 8] w fun e w' => e = .returned (.int .i64 (wd r : Nat)) ∧ w' = w := by
  go_enter Tryz.func45, Tryz.ntmps45
  go_wp2
  go_loop [5] (fun i => ∃ n : Nat, i = .int .i64 n ∧ ((n = 1 ∨ n = 2 ∨ n = 4) ∨ Wd r n)) (fun i => 1024 - (intOf i).toNat)
  case atStart => exact ⟨1, rfl, .inl (.inl rfl)⟩
  case round =>
    obtain ⟨n, rfl, hW⟩ := hrel
    have HW : Hid ((n = 1 ∨ n = 2 ∨ n = 4) ∨ Wd r n) := hW
    have hn : 1 ≤ n ∧ n ≤ 1024 := by rcases hW with h | h; omega; have := h.le; omega
    clear hW
    obtain ⟨n0, n1⟩ := hn
    by_cases hr1 : r < 1
    · have hr1' : r ≤ 1024 := by omega
      have m1 : ¬ ((n : Int) < 1) := by omega
      by_cases hn8 : (n : Int) < 8
      · go_wp2
        go_round
        case rel =>
          refine ⟨2 * n, by go_num, ?_⟩
          rcases HW.out with h | h
          · rcases h with h | h | h
            · exact .inl (by omega)
            · exact .inl (by omega)
            · exact .inr (.inl (by omega))
          · have := h.le; omega
        case measure => simp [intOf]; omega
      · go_wp2
        go_ret
        refine ⟨ret_int ?_, rfl⟩
        rcases HW.out with h | h
        · omega
        · rw [← h.end (.inl (by omega))]
    · by_cases hr : r ≤ 1024
      · have hr2 : ¬ ((1024 : Int) < r) := by omega
        by_cases hn : (n : Int) < r
        · go_wp2
          go_round
          case rel =>
            refine ⟨2 * n, by go_num, ?_⟩
            rcases HW.out with h | h
            · rcases h with h | h | h
              · exact .inl (by omega)
              · exact .inl (by omega)
              · exact .inr (.inl (by omega))
            · exact .inr (h.next hn (by omega))
          case measure => simp [intOf]; omega
        · by_cases hn8 : (n : Int) < 8
          · go_wp2
            go_round
            case rel =>
              refine ⟨2 * n, by go_num, ?_⟩
              rcases HW.out with h | h
              · rcases h with h | h | h
                · exact .inl (by omega)
                · exact .inl (by omega)
                · exact .inr (.inl (by omega))
              · have := h.le; omega
            case measure => simp [intOf]; omega
          · go_wp2
            go_ret
            refine ⟨ret_int ?_, rfl⟩
            rcases HW.out with h | h
            · omega
            · rw [← h.end (.inl (by omega))]
      · have hr2 : (1024 : Int) < r := by omega
        have hr3 : ¬ (r < (1024 : Int)) := by omega
        by_cases hn : (n : Int) < 1024
        · go_wp2
          go_round
          case rel =>
            refine ⟨2 * n, by go_num, ?_⟩
            rcases HW.out with h | h
            · rcases h with h | h | h
              · exact .inl (by omega)
              · exact .inl (by omega)
              · exact .inr (.inl (by omega))
            · exact .inr (h.next (by omega) (by omega))
          case measure => simp [intOf]; omega
        · have hn8 : ¬ ((n : Int) < 8) := by omega
          go_wp2
          go_ret
          refine ⟨ret_int ?_, rfl⟩
          rcases HW.out with h | h
          · omega
          · rw [← h.end (.inr (by omega))]
section
variable {D : Nat → Prop} {w : World} {p g N : Nat} {c : Nat → Nat} {s : Nat}
theorem rf_made (hD : ∀ k, w.heap.size ≤ k → D k) :
    RfIn D ((w.alloc (.cells (i64s (fun _ => 0) (4 * N)).toArray 3)).alloc (.cells #[.slice (some ⟨w.heap.size, 0, none⟩) (4 * N) (4 * N), .int .i64 (N : Nat), .int .i64 0] 97)) (w.heap.size + 1) w.heap.size N (fun _ => 0) 0 := by
  have h := heap_alloc_new (w.alloc (.cells (i64s (fun _ => 0) (4 * N)).toArray 3)) (.cells #[.slice (some ⟨w.heap.size, 0, none⟩) (4 * N) (4 * N), .int .i64 (N : Nat), .int .i64 0] 97)
  rw [World.size_alloc] at h
  refine ⟨hD _ (by omega), hD _ (Nat.le_refl _), by omega, h, ?_⟩
  rw [Below.heap_alloc _ _ _ (by simp)]
  exact heap_alloc_new _ _
theorem rnew_any (r : Int) (h0 : -9223372036854775808 ≤ r) (h1 : r ≤ 9223372036854775807) (hD : ∀ k, w.heap.size ≤ k → D k) :
    Calls Tryz.prog 24 #[.int .i64 r] w fun e w' => ∃ p, e = .returned (.pointer (some ⟨p, 0, none⟩)) ∧ RF p (wd r) (fun _ => 0) 0 D w' ∧ Keeps D w w' := by
  obtain ⟨w0, w1⟩ := wd_le r
  have hw := power_any r w h0 h1
  generalize wd r = N at w0 w1 hw ⊢
  have hmk := run_make_row' (P := Tryz.prog) 95 3 (.int .i64 0) 8 Tryz.underlying95 info3 rfl .i64 .i64 (4 * N) (by omega) (by omega)
  rw [show ((4 * N : Nat) : Int) = 4 * (N : Int) by omega, i64s_made] at hmk
  go_enter Tryz.func24, Tryz.ntmps24
  go_wp2_with (go_at_call 45; refine hw.mono ?_; rintro e w1 ⟨rfl, rfl⟩)
  go_ret
  exact ⟨_, rfl, ⟨⟨w0, by assumption, fun _ => Nat.zero_le _, by omega⟩, _, rf_made hD⟩, ((Keeps.refl D _).alloc _).alloc _⟩
set_option maxHeartbeats 4000000 in
theorem rcells_any (H : RfIn D w p g N c s) (hN : 8 ≤ N) (hN2 : N ≤ 1024) (k : ByteArray) (hk : k.size ≤ 1000) :
    Calls Tryz.prog 104 #[.pointer (some ⟨p, 0, none⟩), .string k] w fun e w' => e = .returned (.agg (plAll N k)) ∧ Below w.heap.size w w' := by
  have HH : Hid (RfIn D w p g N c s) := H
  clear H
  go_enter Tryz.func104, Tryz.ntmps104
  go_wp2_with fail
  have h0 := plIn_start w N k
  have hsz : (w.alloc (.cells #[.int .i64 0, .int .i64 0, .int .i64 0, .int .i64 0] 127)).heap.size = w.heap.size + 1 := World.size_alloc _ _
  go_loopw [6] (fun i wr => ∃ j : Nat, j ≤ 4 ∧ i = .int .i64 j ∧ PlIn w wr N k j) (fun i _ => 4 - (intOf i).toNat)
  case atStart => exact ⟨0, by omega, rfl, h0⟩
  case round =>
    clear h0
    obtain ⟨j, hj, rfl, hP⟩ := hrel
    have hpw := lt_of_block HH.out.2.2.2.1
    rcases Nat.lt_or_ge j 4 with hlt | hge
    · obtain ⟨-, c0, -⟩ := (HH.out.below hP.1).top
      have HX : Hid (PlIn w ((wr.drewN 1).setCell ⟨w.heap.size + 1, j, none⟩ (.int .i64 (pl N k j : Nat))) N k (j + 1)) := hP.next hlt 1
      have hpl : pl N k j = j * N + hp N k j := rfl
      have hx := hp_lt hN k j
      have hp4 := pl_lt hN k hlt
      obtain ⟨A, hA⟩ : ∃ A, j * N = A := ⟨_, rfl⟩
      have hA4 : A ≤ 4096 := by omega
      have w1 := wrap_mul hA (by omega)
      have hash := fun W => hashr_row k j hlt W hk
      have place := fun W => placer_row hN hN2 k j W
      rw [hA] at hpl
      generalize pl N k j = P at HX hpl hp4
      generalize hp N k j = X at hpl hx place
      have w2 : IntKind.i64.wrap ((A : Int) + (X : Int)) = (P : Int) := by rw [IntKind.wrap_i64]; omega
      have w4 : IntKind.u64.wrap ((j : Int) + 1) = (j : Int) + 1 := by rw [IntKind.wrap_u64]; omega
      have w3 : IntKind.i64.wrap ((j : Int) + 1) = (j : Int) + 1 := by rw [IntKind.wrap_i64]; omega
      have jI : (j : Int) < 4 := by omega
      have j0 : (0 : Int) ≤ (j : Int) := by omega
      have f0 : wr.frozen? ⟨w.heap.size + 1, j, none⟩ = false := frozen_of_block hP.2.2
      have b0 : wr.cell? ⟨w.heap.size + 1, j, none⟩ = some (plv N k j j) := by rw [cell_of_block hP.2.2, plArr_at N k hlt]
      have cS : (wr.setCell ⟨w.heap.size + 1, j, none⟩ (.int .i64 (P : Nat))).drew.cell? ⟨p, 1, none⟩ = some (.int .i64 (N : Nat)) := (cell_setCell_far (w := wr) (by show p ≠ w.heap.size + 1; omega)).trans c0
      clear hpl hA hP
      go_wp2_with fail
      go_region_held3 (fun W => W.cell? ⟨p, 1, none⟩ = some (.int .i64 (N : Nat))) (first | go_keep | exact cS)
       (first
        | (go_at_call 116; refine (hash _).mono ?_; rintro e w1 ⟨rfl, rfl⟩)
        | (go_at_call 115; refine (place _).mono ?_; rintro e w1 ⟨rfl, rfl⟩))
      go_wp2_with fail
      go_roundw
      case rel => exact ⟨j + 1, hlt, by go_num, HX.out⟩
      case measure => simp [intOf]; omega
    · have hj4 : j = 4 := by omega
      subst hj4
      obtain ⟨hb, hp0, hp1⟩ := hP
      rw [plArr_all] at hp1
      obtain ⟨d0, d1, d2, d3, -⟩ := cells_of_four hp1
      obtain ⟨c0, c1, c2, c3, f0, f1, f2, f3⟩ := cells_of_four hp0
      clear hp1
      go_wp2_with fail
      refine bodyPost_ret (v := .agg (plAll N k)) (by simp [results, Tryz.results104, go_sem, plAll, c0, c1, c2, c3]) rfl ⟨rfl, (((hb.setCell (Nat.le_refl _) _).setCell (Nat.le_refl _) _).setCell (Nat.le_refl _) _).setCell (Nat.le_refl _) _⟩
end
end Go.Proofs.YtcphhlfbjkeikabGreat.Sk
/- The document's sketch: Count, Halve. -/
namespace Go.Proofs.YtcphhlfbjkeikabGreat.Sk
open Go.RowKit

/-- the least of four -/
theorem run_min_four {P : Program} (ts : Array TypeId) (t : TypeId) (a b c d : Nat) (W : World) : (Builtin.min_ ts t #[.int .i64 (a : Nat), .int .i64 (b : Nat), .int .i64 (c : Nat), .int .i64 (d : Nat)]).run P W = .ok (.int .i64 ((min (min (min a b) c) d : Nat) : Int)) W := by
  have e : ((min (min (min a b) c) d : Nat) : Int) = if (d : Int) < (if (c : Int) < (if (b : Int) < (a : Int) then (b : Int) else a) then (c : Int) else (if (b : Int) < (a : Int) then (b : Int) else a)) then (d : Int) else (if (c : Int) < (if (b : Int) < (a : Int) then (b : Int) else a) then (c : Int) else (if (b : Int) < (a : Int) then (b : Int) else a)) := by
    repeat' split
    all_goals omega
  rw [e]
  simp [Builtin.min_, Builtin.min2]
section
variable {D : Nat → Prop} {w : World} {p g N : Nat} {c : Nat → Nat} {s : Nat}
set_option maxHeartbeats 4000000 in
theorem rcount_any (H : RF p N c s D w) (k : ByteArray) (hk : k.size ≤ 1000) :
    Calls Tryz.prog 105 #[.pointer (some ⟨p, 0, none⟩), .string k] w fun e w' => e = .returned (.int .i64 (lw c N k : Nat)) ∧ Below w.heap.size w w' := by
  obtain ⟨f, g, H⟩ := H
  have hpl := rcells_any H f.lo f.hi k hk
  have HH : Hid (RfIn D w p g N c s) := H
  have hN := f.hi
  have p0 := pl_lt f.lo k (r := 0) (by omega)
  have p1 := pl_lt f.lo k (r := 1) (by omega)
  have p2 := pl_lt f.lo k (r := 2) (by omega)
  have p3 := pl_lt f.lo k (r := 3) (by omega)
  have v0 := f.cell (pl N k 0)
  have v1 := f.cell (pl N k 1)
  have v2 := f.cell (pl N k 2)
  have v3 := f.cell (pl N k 3)
  have HL : Hid (lw c N k = min (min (min (c (pl N k 0)) (c (pl N k 1))) (c (pl N k 2))) (c (pl N k 3))) := rfl
  generalize lw c N k = low at HL ⊢
  clear H f
  unfold plAll at hpl
  go_enter Tryz.func105, Tryz.ntmps105
  go_wp2_with (go_at_call 104; refine hpl.mono ?_; rintro e w2 ⟨rfl, hb2⟩; have hs2 := hb2.size; have hb3 := hb2.alloc hs2 (.cells (plAll N k) 127); have H3 := HH.out.below hb3; obtain ⟨c0, -⟩ := H3.top; obtain ⟨d0, -⟩ := H3.at p0; obtain ⟨d1, -⟩ := H3.at p1; obtain ⟨d2, -⟩ := H3.at p2; obtain ⟨d3, -⟩ := H3.at p3; obtain ⟨e0, e1, e2, e3⟩ := box_later (Below.refl _ (w2.alloc (.cells (plAll N k) 127))); unfold plAll at c0 d0 d1 d2 d3 e0 e1 e2 e3 hb3; clear hpl H3 hb2)
  generalize c (pl N k 0) = x0 at v0 d0 HL
  generalize c (pl N k 1) = x1 at v1 d1 HL
  generalize c (pl N k 2) = x2 at v2 d2 HL
  generalize c (pl N k 3) = x3 at v3 d3 HL
  generalize w2.alloc _ = w3 at *
  generalize pl N k 0 = q0 at *
  generalize pl N k 1 = q1 at *
  generalize pl N k 2 = q2 at *
  generalize pl N k 3 = q3 at *
  generalize hLL : 4 * N = L at c0
  have q0I : (q0 : Int) < (L : Int) := by omega
  have q1I : (q1 : Int) < (L : Int) := by omega
  have q2I : (q2 : Int) < (L : Int) := by omega
  have q3I : (q3 : Int) < (L : Int) := by omega
  have hmin : ∀ (ts : Array TypeId) (t : TypeId) (W : World), (Builtin.min_ ts t #[.int .i64 (x0 : Nat), .int .i64 (x1 : Nat), .int .i64 (x2 : Nat), .int .i64 (x3 : Nat)]).run Tryz.prog W = .ok (.int .i64 (low : Nat)) W := fun ts t W => by rw [run_min_four, HL.out]
  clear hLL
  go_quiet (fail)
  go_wp2_with fail
  go_ret
  exact ⟨rfl, below_drewN hb3 _⟩
theorem RfIn.halved (H : RfIn D w p g N (hvj c (4 * N)) s) : RfIn D w p g N (hv c) s := H.ext (fun i hi => by unfold hvj hv; rw [if_pos hi])
set_option maxHeartbeats 1000000 in
theorem rhalve_in (H : RfIn D w p g N c s) (h0 : 8 ≤ N) (h1 : N ≤ 1024) (hc : ∀ i, c i ≤ 15) (hsum : s ≤ 10 * N) :
    Calls Tryz.prog 106 #[.pointer (some ⟨p, 0, none⟩)] w fun e w' => e = .returned (.tuple #[]) ∧ RF p N (hv c) (s / 2) D w' ∧ Keeps D w w' := by
  have HH : Hid (RfIn D w p g N c s) := H
  have HF : Hid (Fit N (hv c) (s / 2)) := fit_halve h0 h1 hc hsum
  have HCL : Hid (∀ i, c i ≤ 15) := hc
  clear H hc
  go_enter Tryz.func106, Tryz.ntmps106
  go_wp2_with fail
  go_loopw [2] (fun i wr => ∃ j : Nat, j ≤ 4 * N ∧ i = .int .i64 j ∧ RfIn D wr p g N (hvj c j) s ∧ Keeps D w wr) (fun i _ => 4 * N - (intOf i).toNat)
  case atStart => exact ⟨0, Nat.zero_le _, rfl, by rw [hvj_zero]; exact HH.out, Keeps.refl _ _⟩
  case round =>
    obtain ⟨j, hj, rfl, HJ, hk⟩ := hrel
    obtain ⟨c0, c1, c2, f0, f1, f2⟩ := HJ.top
    have HR : Hid (RfIn D wr p g N (hvj c j) s) := HJ
    rcases Nat.lt_or_ge j (4 * N) with hlt | hge
    · obtain ⟨b0, e0⟩ := HJ.at hlt
      rw [show hvj c j j = c j by unfold hvj; rw [if_neg (by omega)]] at b0
      have hcl := HCL.out j
      have HX : Hid (∀ y : Nat, y = c j / 2 → RfIn D ((wr.drewN 1).setCell ⟨g, j, none⟩ (.int .i64 (y : Nat))) p g N (hvj c (j + 1)) s) := by
        rintro y rfl
        exact (HR.out.below (below_drewN (Below.refl _ _) 1)).set (i64s_halve c (4 * N) j)
      have HK : Hid (∀ u, Keeps D w ((wr.drewN 1).setCell ⟨g, j, none⟩ u)) := fun u => (hk.drewN 1).setCell HR.out.2.1 u
      obtain ⟨x, hx⟩ : ∃ x, x = c j / 2 := ⟨_, rfl⟩
      have HXX : Hid (x = c j / 2) := hx
      have hxI : (c j : Int) / 2 = (x : Int) := by omega
      have hxw : IntKind.i64.wrap (x : Int) = (x : Int) := by rw [IntKind.wrap_i64]; omega
      generalize c j = b at b0 hcl hxI
      generalize hLL : 4 * N = L at c0 hlt
      have jI : (j : Int) < (L : Int) := by omega
      have j0 : (0 : Int) ≤ (j : Int) := by omega
      clear HJ hx hk
      go_wp2_with fail
      go_region
      all_goals
        go_wp2_with fail
        go_roundw
        case rel => exact ⟨j + 1, hlt, by go_num, HX.out x HXX.out, HK.out _⟩
        case measure => simp [intOf]; omega
    · have hj' : j = 4 * N := by omega
      subst hj'
      have HX : Hid (∀ t : Nat, s / 2 = t → RF p N (hv c) (s / 2) D (wr.setCell ⟨p, 2, none⟩ (.int .i64 (t : Nat)))) := by
        rintro t rfl
        exact ⟨HF.out, g, HJ.halved.setSum (s / 2)⟩
      have HK : Hid (∀ u, Keeps D w (wr.setCell ⟨p, 2, none⟩ u)) := fun u => hk.setCell HR.out.1 u
      obtain ⟨t, ht⟩ : ∃ t, s / 2 = t := ⟨_, rfl⟩
      have htI : (s : Int) / 2 = (t : Int) := by omega
      have HT : Hid (s / 2 = t) := ht
      clear HJ hk ht hge
      go_wp2_with fail
      go_end0
      exact ⟨rfl, HX.out t HT.out, HK.out _⟩
end
end Go.Proofs.YtcphhlfbjkeikabGreat.Sk
/- The document's sketch: Add. -/
namespace Go.Proofs.YtcphhlfbjkeikabGreat.Sk
open Go.RowKit

theorem plAll_at (N : Nat) (k : ByteArray) {j : Nat} (hj : j < 4) : (plAll N k)[j]? = some (.int .i64 (pl N k j : Nat)) := by
  have : j = 0 ∨ j = 1 ∨ j = 2 ∨ j = 3 := by omega
  rcases this with rfl | rfl | rfl | rfl <;> rfl
section
variable {D : Nat → Prop} {w : World} {p g N : Nat} {c : Nat → Nat} {s : Nat}
/-- in the loop of Add: the cells, and the places beside them -/
def AdIn (D : Nat → Prop) (w wr : World) (p g N : Nat) (c : Nat → Nat) (s q : Nat) (k : ByteArray) : Prop :=
  RfIn D wr p g N c s ∧ Keeps D w wr ∧ wr.heap[q]? = some (.cells (plAll N k) 127 (0, 0)) ∧ g ≠ q
theorem AdIn.drewN {wr : World} {q : Nat} {k : ByteArray} (h : AdIn D w wr p g N c s q k) (n : Nat) : AdIn D w (wr.drewN n) p g N c s q k :=
  ⟨h.1.below (below_drewN (Below.refl _ _) n), h.2.1.drewN n, h.2.2.1, h.2.2.2⟩
theorem AdIn.set {wr : World} {q i v : Nat} {k : ByteArray} (h : AdIn D w wr p g N c s q k) (n : Nat) : AdIn D w ((wr.drewN n).setCell ⟨g, i, none⟩ (.int .i64 (v : Nat))) p g N (upd c i v) s q k := by
  obtain ⟨h1, h2, h3, h4⟩ := h.drewN n
  refine ⟨h1.set (i64s_set c (4 * N) i v), h2.setCell h1.2.1 _, ?_, h4⟩
  rw [Below.heap_setCell _ _ _ _ (by exact Ne.symm h4)]
  exact h3
theorem radd_end {c' : Nat → Nat} (h : RfIn D w p g N c' s) (f : Fit N c' s) (h1 : s + 1 < 10 * N) : RF p N c' (s + 1) D (w.setCell ⟨p, 2, none⟩ (.int .i64 ((s : Int) + 1))) :=
  ⟨⟨f.lo, f.hi, f.cell, h1⟩, g, by have := h.setSum (s + 1); rwa [show ((s + 1 : Nat) : Int) = (s : Int) + 1 by omega] at this⟩
set_option maxHeartbeats 4000000 in
theorem radd_any (H : RF p N c s D w) (k : ByteArray) (hk : k.size ≤ 1000) :
    Calls Tryz.prog 77 #[.pointer (some ⟨p, 0, none⟩), .string k] w fun e w' => e = .returned (.tuple #[]) ∧ RF p N (adC c N k s) (adS c N k s) D w' ∧ Keeps D w w' := by
  have HRF : Hid (RF p N c s D w) := H
  obtain ⟨f, g, H⟩ := H
  have hpl := rcells_any H f.lo f.hi k hk
  have HH : Hid (RfIn D w p g N c s) := H
  have HF : Hid (Fit N c s) := f
  have hcn := fun {w' : World} (hb : Below w.heap.size w w') => rcount_any (HRF.out.below hb) k hk
  have HLO : Hid (lw c N k ≤ 15) := Nat.le_trans (lw_le (r := 0) (by omega)) (f.cell _)
  have hN := f.hi
  have hsum := f.sum
  have hgl := lt_of_block H.2.2.2.2
  clear H f
  unfold plAll at hpl
  rcases Nat.lt_or_ge (lw c N k) 15 with hl | hl
  · have HA : Hid (∀ j, Fit N (adds c N k (lw c N k) j) s) := fun j => HF.out.adds k hl j
    have HC : Hid (¬ s + 1 = 10 * N → adC c N k s = adds c N k (lw c N k) 4 ∧ adS c N k s = s + 1) := fun h => ⟨by unfold adC; rw [if_neg (by omega), if_neg h], by unfold adS; rw [if_neg (by omega), if_neg h]⟩
    have HC2 : Hid (s + 1 = 10 * N → adC c N k s = hv (adds c N k (lw c N k) 4) ∧ adS c N k s = (s + 1) / 2) := fun h => ⟨by unfold adC; rw [if_neg (by omega), if_pos h], by unfold adS; rw [if_neg (by omega), if_pos h]⟩
    generalize lw c N k = low at *
    have hlI : ((low : Int) < 15) := by omega
    go_enter Tryz.func77, Tryz.ntmps77
    go_wp2_with (first
      | (go_at_call 104; refine hpl.mono ?_; rintro e w2 ⟨rfl, hb2⟩; have hs2 := hb2.size; have hb3 := hb2.alloc hs2 (.cells (plAll N k) 127); have hcn3 := hcn hb3; clear hpl)
      | (go_at_call 105; refine hcn3.mono ?_; rintro e w4 ⟨rfl, hb4⟩; clear hcn3))
    have h4 : AdIn D w w4 p g N c s w2.heap.size k := by
      have hb5 : Below w.heap.size w w4 := hb3.trans (hb4.mono (by have := hb3.size; omega))
      exact ⟨HH.out.below hb5, .of_below hb5, (hb4.block w2.heap.size (by simp)).trans (heap_alloc_new w2 _), by omega⟩
    clear hb2 hb3 hb4 hcn
    generalize w2.heap.size = q at *
    go_loopw [6] (fun i wr => ∃ j : Nat, j ≤ 4 ∧ i = .int .i64 j ∧ AdIn D w wr p g N (adds c N k low j) s q k) (fun i _ => 4 - (intOf i).toNat)
    case atStart => exact ⟨0, by omega, rfl, h4⟩
    case round =>
      clear h4
      obtain ⟨j, hj, rfl, HJ⟩ := hrel
      have HR : Hid (AdIn D w wr p g N (adds c N k low j) s q k) := HJ
      obtain ⟨c0, c1, c2, f0, f1, f2⟩ := HJ.1.top
      rcases Nat.lt_or_ge j 4 with hlt | hge
      · have hp4 := pl_lt HF.out.lo k hlt
        obtain ⟨d0, e0⟩ := HJ.1.at hp4
        have l0 : wr.cell? ⟨q, j, none⟩ = some (.int .i64 (pl N k j : Nat)) := by rw [cell_of_block HJ.2.2.1, plAll_at N k hlt]
        have hv15 := (HA.out j).cell (pl N k j)
        have jI : (j : Int) < 4 := by omega
        have j0 : (0 : Int) ≤ (j : Int) := by omega
        have hlw : IntKind.i64.wrap ((low : Int) + 1) = ((low + 1 : Nat) : Int) := by rw [IntKind.wrap_i64]; omega
        by_cases hv : adds c N k low j (pl N k j) = low
        · have HX : Hid (∀ n, AdIn D w ((wr.drewN n).setCell ⟨g, pl N k j, none⟩ (.int .i64 ((low + 1 : Nat) : Int))) p g N (adds c N k low (j + 1)) s q k) := by
            intro n
            have : adds c N k low (j + 1) = upd (adds c N k low j) (pl N k j) (low + 1) := by
              show one low _ _ = _
              unfold one
              rw [if_pos hv]
            rw [this]
            exact HR.out.set n
          rw [hv] at d0
          generalize pl N k j = P at d0 e0 l0 hp4 HX
          generalize hLL : 4 * N = L at c0 hp4
          have PI : (P : Int) < (L : Int) := by omega
          have P0 : (0 : Int) ≤ (P : Int) := by omega
          generalize low + 1 = low1 at hlw HX
          clear HJ hv hv15 hLL
          go_wp2_with fail
          go_quiet (fail)
          go_wp2_with fail
          go_region
          all_goals
            go_wp2_with fail
            go_roundw
            case rel => exact ⟨j + 1, hlt, by go_num, HX.out (nq + 1)⟩
            case measure => simp [intOf]; omega
        · have HE : Hid (adds c N k low (j + 1) = adds c N k low j) := by
            show Hid (one low _ _ = _)
            unfold one
            rw [if_neg hv]
            exact rfl
          have hvB : ((adds c N k low j (pl N k j) : Int) == (low : Int)) = false := by simp; omega
          generalize adds c N k low j (pl N k j) = v at d0 hv15 hvB
          generalize pl N k j = P at d0 e0 l0 hp4
          generalize hLL : 4 * N = L at c0 hp4
          have PI : (P : Int) < (L : Int) := by omega
          have P0 : (0 : Int) ≤ (P : Int) := by omega
          clear HJ hv hLL
          go_wp2_with fail
          go_quiet (fail)
          go_wp2_with fail
          go_roundw
          case rel => exact ⟨j + 1, hlt, by go_num, by rw [HE.out]; exact HR.out.drewN _⟩
          case measure => simp [intOf]; omega
      · have hj4 : j = 4 := by omega
        subst hj4
        have hsI : IntKind.i64.wrap ((s : Int) + 1) = (s : Int) + 1 := by rw [IntKind.wrap_i64]; omega
        have hNI : IntKind.i64.wrap (10 * (N : Int)) = 10 * (N : Int) := by rw [IntKind.wrap_i64]; omega
        clear HJ hge
        by_cases h10 : s + 1 = 10 * N
        · have HX : Hid (RfIn D (wr.setCell ⟨p, 2, none⟩ (.int .i64 ((s : Int) + 1))) p g N (adds c N k low 4) (s + 1)) := by have := HR.out.1.setSum (s + 1); rwa [show ((s + 1 : Nat) : Int) = (s : Int) + 1 by omega] at this
          have hhv := fun q => rhalve_in (w := (wr.setCell ⟨p, 2, none⟩ (.int .i64 ((s : Int) + 1))).drewN q) (HX.out.below (below_drewN (Below.refl _ _) q)) HF.out.lo HF.out.hi (HA.out 4).cell (by omega)
          have hB : 10 * (N : Int) ≤ (s : Int) + 1 := by omega
          go_wp2_with fail
          go_quiet (fail)
          go_wp2_with (go_at_call 106; refine (hhv _).mono ?_; rintro e w6 ⟨rfl, H6, hk6⟩; clear hhv)
          go_end0
          rw [(HC2.out h10).1, (HC2.out h10).2]
          exact ⟨rfl, H6, ((HR.out.2.1.setCell HR.out.1.1 _).drewN _).trans hk6⟩
        · have HX : Hid (RF p N (adds c N k low 4) (s + 1) D (wr.setCell ⟨p, 2, none⟩ (.int .i64 ((s : Int) + 1)))) := radd_end HR.out.1 (HA.out 4) (by omega)
          have hB : ¬ (10 * (N : Int) ≤ (s : Int) + 1) := by omega
          go_wp2_with fail
          go_quiet (fail)
          go_wp2_with fail
          go_end0
          rw [(HC.out h10).1, (HC.out h10).2]
          exact ⟨rfl, HX.out.below (below_drewN (Below.refl _ _) _), (HR.out.2.1.setCell HR.out.1.1 _).drewN _⟩
  · rw [show adC c N k s = c by unfold adC; rw [if_pos hl], show adS c N k s = s by unfold adS; rw [if_pos hl]]
    have hlo := HLO.out
    generalize lw c N k = low at *
    have hlI : ¬ ((low : Int) < 15) := by omega
    go_enter Tryz.func77, Tryz.ntmps77
    go_wp2_with (first
      | (go_at_call 104; refine hpl.mono ?_; rintro e w2 ⟨rfl, hb2⟩; have hs2 := hb2.size; have hb3 := hb2.alloc hs2 (.cells (plAll N k) 127); have hcn3 := hcn hb3; clear hpl)
      | (go_at_call 105; refine hcn3.mono ?_; rintro e w4 ⟨rfl, hb4⟩; clear hcn3))
    have h4 : AdIn D w w4 p g N c s w2.heap.size k := by
      have hb5 : Below w.heap.size w w4 := hb3.trans (hb4.mono (by have := hb3.size; omega))
      exact ⟨HH.out.below hb5, .of_below hb5, (hb4.block w2.heap.size (by simp)).trans (heap_alloc_new w2 _), by omega⟩
    clear hb2 hb3 hb4 hcn
    generalize w2.heap.size = q at *
    go_loopw [6] (fun i wr => ∃ j : Nat, j ≤ 4 ∧ i = .int .i64 j ∧ AdIn D w wr p g N c s q k) (fun i _ => 4 - (intOf i).toNat)
    case atStart => exact ⟨0, by omega, rfl, h4⟩
    case round =>
      clear h4
      obtain ⟨j, hj, rfl, HJ⟩ := hrel
      have HR : Hid (AdIn D w wr p g N c s q k) := HJ
      obtain ⟨c0, c1, c2, f0, f1, f2⟩ := HJ.1.top
      rcases Nat.lt_or_ge j 4 with hlt | hge
      · have hp4 := pl_lt HF.out.lo k hlt
        obtain ⟨d0, e0⟩ := HJ.1.at hp4
        have l0 : wr.cell? ⟨q, j, none⟩ = some (.int .i64 (pl N k j : Nat)) := by rw [cell_of_block HJ.2.2.1, plAll_at N k hlt]
        have hv15 := HF.out.cell (pl N k j)
        have jI : (j : Int) < 4 := by omega
        have j0 : (0 : Int) ≤ (j : Int) := by omega
        generalize c (pl N k j) = v at d0 hv15
        generalize pl N k j = P at d0 e0 l0 hp4
        generalize hLL : 4 * N = L at c0 hp4
        have PI : (P : Int) < (L : Int) := by omega
        have P0 : (0 : Int) ≤ (P : Int) := by omega
        clear HJ hLL
        by_cases hv : v = low
        · rw [hv] at d0
          clear hv hv15
          go_wp2_with fail
          go_quiet (fail)
          go_wp2_with fail
          go_roundw
          case rel => exact ⟨j + 1, hlt, by go_num, HR.out.drewN _⟩
          case measure => simp [intOf]; omega
        · have hvB : ((v : Int) == (low : Int)) = false := by simp; omega
          clear hv
          go_wp2_with fail
          go_quiet (fail)
          go_wp2_with fail
          go_roundw
          case rel => exact ⟨j + 1, hlt, by go_num, HR.out.drewN _⟩
          case measure => simp [intOf]; omega
      · have hj4 : j = 4 := by omega
        subst hj4
        have hNI : IntKind.i64.wrap (10 * (N : Int)) = 10 * (N : Int) := by rw [IntKind.wrap_i64]; omega
        have hB : ¬ (10 * (N : Int) ≤ (s : Int)) := by omega
        clear HJ hge
        go_wp2_with fail
        go_quiet (fail)
        go_wp2_with fail
        go_end0
        exact ⟨rfl, ⟨HF.out, g, HR.out.1.below (below_drewN (Below.refl _ _) _)⟩, HR.out.2.1.drewN _⟩
end
end Go.Proofs.YtcphhlfbjkeikabGreat.Sk
/- The document's door: Power, New, where a bit lies. -/
namespace Go.Proofs.YtcphhlfbjkeikabGreat.Dr
open Go.RowKit

def Wp (r : Int) (n : Nat) : Prop := n = 1 ∨ (n = 2 ∧ 1 < r) ∨ (n = 4 ∧ 2 < r) ∨ (n = 8 ∧ 4 < r) ∨ (n = 16 ∧ 8 < r) ∨ (n = 32 ∧ 16 < r) ∨ (n = 64 ∧ 32 < r) ∨ (n = 128 ∧ 64 < r) ∨ (n = 256 ∧ 128 < r) ∨ (n = 512 ∧ 256 < r) ∨ (n = 1024 ∧ 512 < r)
theorem Wp.le {r : Int} {n : Nat} (h : Wp r n) : 1 ≤ n ∧ n ≤ 1024 := by unfold Wp at h; omega
theorem Wp.next {r : Int} {n : Nat} (h : Wp r n) (h1 : (n : Int) < r) (h2 : n < 1024) : Wp r (2 * n) := by
  unfold Wp at *
  rcases h with h | h | h | h | h | h | h | h | h | h | h <;> omega
theorem Wp.end {r : Int} {n : Nat} (h : Wp r n) (h1 : r ≤ n ∨ 1024 ≤ n) : (n ≤ 8 ∧ nw r = 1) ∨ (8 < n ∧ n = 8 * nw r) := by
  unfold Wp at h
  unfold nw
  rcases h with h | h | h | h | h | h | h | h | h | h | h <;> (split <;> try omega) <;> (split <;> try omega) <;> (split <;> try omega) <;> (split <;> try omega) <;> (split <;> try omega) <;> (split <;> try omega) <;> (split <;> try omega)
theorem power_any (r : Int) (w : World) (h0 : -9223372036854775808 ≤ r) (h1 : r ≤ 9223372036854775807) :
    Calls Tryz.prog 45 #[.int .i64 r, .int .i64 1] w fun e w' => ∃ n : Nat, e = .returned (.int .i64 (n : Nat)) ∧ (1 ≤ n ∧ n ≤ 1024) ∧ ((n ≤ 8 ∧ nw r = 1) ∨ (8 < n ∧ n = 8 * nw r)) ∧ w' = w := by
  go_enter Tryz.func45, Tryz.ntmps45
  go_wp2
  go_loop [5] (fun i => ∃ n : Nat, i = .int .i64 n ∧ Wp r n) (fun i => 1024 - (intOf i).toNat)
  case atStart => exact ⟨1, rfl, .inl rfl⟩
  case round =>
    obtain ⟨n, rfl, hW⟩ := hrel
    have HW : Hid (Wp r n) := hW
    obtain ⟨n0, n1⟩ := hW.le
    clear hW
    have m1 : ¬ ((n : Int) < 1) := by omega
    by_cases hr1 : r < 1
    · have hr1' : r ≤ 1024 := by omega
      go_wp2
      go_ret
      exact ⟨n, rfl, ⟨n0, n1⟩, HW.out.end (.inl (by omega)), rfl⟩
    · by_cases hr : r ≤ 1024
      · have hr2 : ¬ ((1024 : Int) < r) := by omega
        by_cases hn : (n : Int) < r
        · go_wp2
          go_round
          case rel => exact ⟨2 * n, by go_num, HW.out.next hn (by omega)⟩
          case measure => simp [intOf]; omega
        · go_wp2
          go_ret
          exact ⟨n, rfl, ⟨n0, n1⟩, HW.out.end (.inl (by omega)), rfl⟩
      · have hr2 : (1024 : Int) < r := by omega
        have hr3 : ¬ (r < (1024 : Int)) := by omega
        by_cases hn : (n : Int) < 1024
        · go_wp2
          go_round
          case rel => exact ⟨2 * n, by go_num, HW.out.next (by omega) (by omega)⟩
          case measure => simp [intOf]; omega
        · go_wp2
          go_ret
          exact ⟨n, rfl, ⟨n0, n1⟩, HW.out.end (.inr (by omega)), rfl⟩
section
variable {D : Nat → Prop} {w : World} {p g K M : Nat} {b : Nat → Bool}
theorem rf_made (hD : ∀ k, w.heap.size ≤ k → D k) :
    RfIn D ((w.alloc (.cells (bls (fun _ => false) M).toArray 4)).alloc (.cells #[.slice (some ⟨w.heap.size, 0, none⟩) M M] 100)) (w.heap.size + 1) w.heap.size M (fun _ => false) := by
  have h := heap_alloc_new (w.alloc (.cells (bls (fun _ => false) M).toArray 4)) (.cells #[.slice (some ⟨w.heap.size, 0, none⟩) M M] 100)
  rw [World.size_alloc] at h
  refine ⟨hD _ (by omega), hD _ (Nat.le_refl _), by omega, h, ?_⟩
  rw [Below.heap_alloc _ _ _ (by simp)]
  exact heap_alloc_new _ _
theorem rnew_any (r : Int) (h0 : -9223372036854775808 ≤ r) (h1 : r ≤ 9223372036854775807) (hD : ∀ k, w.heap.size ≤ k → D k) :
    Calls Tryz.prog 25 #[.int .i64 r] w fun e w' => ∃ p, e = .returned (.pointer (some ⟨p, 0, none⟩)) ∧ RF p (nw r) (fun _ => false) D w' ∧ Keeps D w w' := by
  obtain ⟨w0, w1⟩ := nw_le r
  have hw := power_any r w h0 h1
  generalize nw r = K at w0 w1 hw ⊢
  have HMK : Hid (∀ m : Nat, m ≤ 8192 → ∀ (W : World), (Instr.makeSlice 98 (.int .i64 (m : Nat)) (.int .i64 (m : Nat))).run Tryz.prog W = .ok (.slice (some ⟨W.heap.size, 0, none⟩) m m) (W.alloc (.cells (bls (fun _ => false) m).toArray 4))) := by
    intro m hm
    have hmk := run_make_row' (P := Tryz.prog) 98 4 (.bool false) 1 Tryz.underlying98 info4 rfl .i64 .i64 m (by omega) (by omega)
    rw [bls_made] at hmk
    exact hmk
  go_enter Tryz.func25, Tryz.ntmps25
  go_wp2_with (go_at_call 45; refine hw.mono ?_; rintro e w1 ⟨n, rfl, ⟨n1, n2⟩, hn, rfl⟩; clear hw; rcases hn with ⟨n8, rfl⟩ | ⟨n8, hn⟩; (have hmk := HMK.out 64 (by omega)); rw [show ((64 : Nat) : Int) = 64 from rfl] at hmk; (have hle : 8 * (n : Int) ≤ 64 := by omega); rotate_left; (have hmk := HMK.out (64 * K) (by omega)); rw [show ((64 * K : Nat) : Int) = 8 * (n : Int) by omega] at hmk; (have hle : ¬ (8 * (n : Int) ≤ 64) := by omega); clear hn; rotate_left)
  all_goals
    go_ret
    exact ⟨_, rfl, ⟨⟨w0, by assumption⟩, _, rf_made hD⟩, ((Keeps.refl D _).alloc _).alloc _⟩
theorem bit_any (H : RfIn D w p g M b) (hM1 : 64 ≤ M) (hM2 : M ≤ 8192) (k : ByteArray) (hk : k.size ≤ 1000) {r : Nat} (hr : r < 3) :
    Calls Tryz.prog 103 #[.pointer (some ⟨p, 0, none⟩), .int .i64 (r : Nat), .string k] w fun e w' => e = .returned (.int .i64 (hp M k r : Nat)) ∧ ∃ q, w' = w.drewN q := by
  obtain ⟨c0, -⟩ := H.top
  have hash := fun W => hashr_row k r hr W hk
  have place := fun W => placer_row hM1 hM2 k r W
  have w4 : IntKind.u64.wrap (11 + (r : Int)) = 11 + (r : Int) := by rw [IntKind.wrap_u64]; omega
  have w3 : IntKind.i64.wrap (11 + (r : Int)) = 11 + (r : Int) := by rw [IntKind.wrap_i64]; omega
  clear H
  go_enter Tryz.func103, Tryz.ntmps103
  go_wp2_with fail
  go_quiet (first
    | (go_at_call 116; refine Calls.quiet_of_same (hash _))
    | (go_at_call 115; refine Calls.quiet_of_same (place _)))
  go_wp2_with fail
  go_ret
  exact ⟨rfl, _, rfl⟩
end
end Go.Proofs.YtcphhlfbjkeikabGreat.Dr

/- The document's door: Has, Ones, Clear. -/
namespace Go.Proofs.YtcphhlfbjkeikabGreat.Dr
open Go.RowKit

section
variable {D : Nat → Prop} {w : World} {p g K M : Nat} {b : Nat → Bool}
theorem bit_i (H : RfIn D w p g M b) (hM1 : 64 ≤ M) (hM2 : M ≤ 8192) (k : ByteArray) (hk : k.size ≤ 1000) (i : Int) (h0 : 0 ≤ i) (h1 : i < 3) :
    Calls Tryz.prog 103 #[.pointer (some ⟨p, 0, none⟩), .int .i64 i, .string k] w fun e w' => e = .returned (.int .i64 (hp M k i.toNat : Nat)) ∧ ∃ q, w' = w.drewN q := by
  obtain ⟨r, rfl⟩ : ∃ r : Nat, i = (r : Int) := ⟨i.toNat, by omega⟩
  exact bit_any H hM1 hM2 k hk (by omega)
set_option maxHeartbeats 1000000 in
theorem rhas_any (H : RF p K b D w) (k : ByteArray) (hk : k.size ≤ 1000) :
    Calls Tryz.prog 102 #[.pointer (some ⟨p, 0, none⟩), .string k] w fun e w' => e = .returned (.bool (has b (64 * K) k)) ∧ ∃ q, w' = w.drewN q := by
  obtain ⟨⟨f0, f1⟩, g, H⟩ := H
  obtain ⟨M, hM⟩ : ∃ M, 64 * K = M := ⟨_, rfl⟩
  rw [hM] at H ⊢
  have hM1 : 64 ≤ M := by omega
  have hM2 : M ≤ 8192 := by omega
  obtain ⟨x, hx⟩ : ∃ x : Int → Nat, ∀ i, x i = hp M k i.toNat := ⟨_, fun _ => rfl⟩
  have B0 : ∀ q i, 0 ≤ i → i < 3 → Calls Tryz.prog 103 #[.pointer (some ⟨p, 0, none⟩), .int .i64 i, .string k] (w.drewN q) fun e w' => e = .returned (.int .i64 (x i : Nat)) ∧ ∃ m, w' = (w.drewN q).drewN m := fun q i h0 h1 => by
    have := bit_i (H.below (below_drewN (Below.refl _ w) q)) hM1 hM2 k hk i h0 h1
    rw [← hx] at this
    exact this
  obtain ⟨c0, -⟩ := H.top
  have p0 := hp_lt hM1 k 0
  have p1 := hp_lt hM1 k 1
  have p2 := hp_lt hM1 k 2
  obtain ⟨d0, -⟩ := H.at p0
  obtain ⟨d1, -⟩ := H.at p1
  obtain ⟨d2, -⟩ := H.at p2
  have e0 : x 0 = hp M k 0 := hx 0
  have e1 : x 1 = hp M k 1 := hx 1
  have e2 : x 2 = hp M k 2 := hx 2
  have HE : Hid (has b M k = (b (hp M k 0) && b (hp M k 1) && b (hp M k 2))) := rfl
  generalize has b M k = t at HE ⊢
  generalize b (hp M k 0) = t0 at d0 HE
  generalize b (hp M k 1) = t1 at d1 HE
  generalize b (hp M k 2) = t2 at d2 HE
  clear hx
  generalize hp M k 0 = x0 at *
  generalize hp M k 1 = x1 at *
  generalize hp M k 2 = x2 at *
  have x0I : (x0 : Int) < (M : Int) := by omega
  have x1I : (x1 : Int) < (M : Int) := by omega
  have x2I : (x2 : Int) < (M : Int) := by omega
  clear H hM
  cases t0
  · go_enter Tryz.func102, Tryz.ntmps102
    go_wp2_with fail
    go_quiet (first | (go_at_call 103; exact Calls.quiet_of (B0 _ _ (by decide) (by decide))))
    go_wp2_with fail
    go_ret
    exact ⟨ret_bool (by rw [HE.out]; rfl), _, rfl⟩
  · cases t1
    · go_enter Tryz.func102, Tryz.ntmps102
      go_wp2_with fail
      go_quiet (first | (go_at_call 103; exact Calls.quiet_of (B0 _ _ (by decide) (by decide))))
      go_wp2_with fail
      go_ret
      exact ⟨ret_bool (by rw [HE.out]; rfl), _, rfl⟩
    · go_enter Tryz.func102, Tryz.ntmps102
      go_wp2_with fail
      go_quiet (first | (go_at_call 103; exact Calls.quiet_of (B0 _ _ (by decide) (by decide))))
      go_wp2_with fail
      go_ret
      exact ⟨ret_bool (by rw [HE.out]; rfl), _, rfl⟩
theorem rclear_end (H : RfIn D w p g M b) (hD : ∀ k, w.heap.size ≤ k → D k) :
    RfIn D ((w.alloc (.cells (bls (fun _ => false) M).toArray 4)).setCell ⟨p, 0, none⟩ (.slice (some ⟨w.heap.size, 0, none⟩) M M)) p w.heap.size M (fun _ => false) := by
  have hp := lt_of_block H.2.2.2.1
  refine ⟨H.1, hD _ (Nat.le_refl _), by omega, ?_, ?_⟩
  · rw [block_setCell ((Below.heap_alloc _ _ _ hp).trans H.2.2.2.1)]
    rfl
  · rw [Below.heap_setCell _ _ _ _ (by show w.heap.size ≠ p; omega)]
    exact heap_alloc_new _ _
set_option maxHeartbeats 1000000 in
theorem rclear_any (H : RF p K b D w) (hD : ∀ k, w.heap.size ≤ k → D k) :
    Calls Tryz.prog 78 #[.pointer (some ⟨p, 0, none⟩)] w fun e w' => e = .returned (.tuple #[]) ∧ RF p K (fun _ => false) D w' ∧ Keeps D w w' := by
  obtain ⟨⟨f0, f1⟩, g, H⟩ := H
  have HF : Hid (1 ≤ K ∧ K ≤ 128) := ⟨f0, f1⟩
  have hmk := run_make_row' (P := Tryz.prog) 98 4 (.bool false) 1 Tryz.underlying98 info4 rfl .i64 .i64 (64 * K) (by omega) (by omega)
  rw [bls_made] at hmk
  obtain ⟨M, hM⟩ : ∃ M, 64 * K = M := ⟨_, rfl⟩
  have HM : Hid (64 * K = M) := hM
  rw [hM] at H hmk
  have hM2 : M ≤ 8192 := by omega
  obtain ⟨c0, e0⟩ := H.top
  have HH : Hid (RfIn D w p g M b) := H
  clear H hM
  obtain ⟨c1, e1⟩ := (HH.out.below ((Below.refl _ w).alloc (Nat.le_refl _) (.cells (bls (fun _ => false) M).toArray 4))).top
  have HX := rclear_end HH.out hD
  have HXX : Hid _ := HX
  have HK : Hid (∀ u, Keeps D w ((w.alloc (.cells (bls (fun _ => false) M).toArray 4)).setCell ⟨p, 0, none⟩ u)) := fun u => ((Keeps.refl D w).alloc _).setCell HH.out.1 u
  clear HX
  go_enter Tryz.func78, Tryz.ntmps78
  go_wp2_with fail
  go_end0
  exact ⟨rfl, ⟨HF.out, _, by rw [HM.out]; exact HXX.out⟩, HK.out _⟩
end
end Go.Proofs.YtcphhlfbjkeikabGreat.Dr

/- The document's door: Add; both doors side by side. -/
namespace Go.Proofs.YtcphhlfbjkeikabGreat.Dr
open Go.RowKit

section
variable {D : Nat → Prop} {w : World} {p g K M : Nat} {b : Nat → Bool}
set_option maxHeartbeats 2000000 in
theorem radd_any (H : RF p K b D w) (k : ByteArray) (hk : k.size ≤ 1000) :
    Calls Tryz.prog 76 #[.pointer (some ⟨p, 0, none⟩), .string k] w fun e w' => e = .returned (.bool (has b (64 * K) k)) ∧ RF p K (add b (64 * K) k 3) D w' ∧ Keeps D w w' := by
  have hhas := rhas_any H k hk
  obtain ⟨⟨f0, f1⟩, g, H⟩ := H
  have HF : Hid (1 ≤ K ∧ K ≤ 128) := ⟨f0, f1⟩
  obtain ⟨M, hM⟩ : ∃ M, 64 * K = M := ⟨_, rfl⟩
  have HM : Hid (64 * K = M) := hM
  rw [hM] at H hhas ⊢
  have hM1 : 64 ≤ M := by omega
  have hM2 : M ≤ 8192 := by omega
  have HH : Hid (RfIn D w p g M b) := H
  clear H hM
  generalize has b M k = was at hhas ⊢
  go_enter Tryz.func76, Tryz.ntmps76
  go_wp2_with (go_at_call 102; refine hhas.mono ?_; rintro e w1 ⟨rfl, q0, rfl⟩)
  clear hhas
  go_loopw [6] (fun i wr => ∃ j : Nat, j ≤ 3 ∧ i = .int .i64 j ∧ RfIn D wr p g M (add b M k j) ∧ Keeps D w wr) (fun i _ => 3 - (intOf i).toNat)
  case atStart => exact ⟨0, by omega, rfl, HH.out.below (below_drewN (Below.refl _ _) q0), (Keeps.refl D w).drewN q0⟩
  case round =>
    obtain ⟨j, hj, rfl, HJ, hk5⟩ := hrel
    have HR : Hid (RfIn D wr p g M (add b M k j)) := HJ
    have HK : Hid (Keeps D w wr) := hk5
    rcases Nat.lt_or_ge j 3 with hlt | hge
    · obtain ⟨c0, -⟩ := HJ.top
      have hx := hp_lt hM1 k j
      obtain ⟨d0, e0⟩ := HJ.at hx
      have hbit := bit_any (w := wr.drew) HJ hM1 hM2 k hk hlt
      have HX : Hid (∀ q, RfIn D ((wr.drewN q).setCell ⟨g, hp M k j, none⟩ (.bool true)) p g M (add b M k (j + 1))) := fun q => (HR.out.below (below_drewN (Below.refl _ wr) q)).set (hp M k j)
      have HKX : Hid (∀ q x, Keeps D w ((wr.drewN q).setCell ⟨g, hp M k j, none⟩ x)) := fun q x => (HK.out.drewN q).setCell HR.out.2.1 x
      generalize add b M k j (hp M k j) = t at d0
      generalize hp M k j = P at *
      have PI : (P : Int) < (M : Int) := by omega
      have P0 : (0 : Int) ≤ (P : Int) := by omega
      have jI : (j : Int) < 3 := by omega
      clear HJ hk5
      go_wp2_with fail
      go_region_with (go_at_call 103; refine hbit.mono ?_; rintro e w5 ⟨rfl, q5, rfl⟩)
      all_goals
        go_wp2_with fail
        go_roundw
        case rel => exact ⟨j + 1, hlt, by go_num, HX.out _, HKX.out _ _⟩
        case measure => simp [intOf]; omega
    · have hj3 : j = 3 := by omega
      subst hj3
      clear HJ hk5
      go_wp2_with fail
      go_ret
      exact ⟨rfl, ⟨HF.out, g, by rw [HM.out]; exact HR.out⟩, HK.out⟩
end
section
variable {O : Nat → Prop} {w : World} {p x K : Nat} {b : Nat → Bool}
end
end Go.Proofs.YtcphhlfbjkeikabGreat.Dr
