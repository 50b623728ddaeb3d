/- The document's sketch: Power, New, where a key's cells lie, Count. -/
import Derived.Test.YthlpoljpfndmiaaArgs
namespace Go.Proofs.Ythlpoljpfndmiaa
open Go.RowKit

theorem power_any (r : Int) (w : World) (h0 : -9223372036854775808 ≤ r) (h1 : r ≤ 9223372036854775807) :
    Calls Try.prog 22 #[.int .i64 r, .int .i64 8] w fun e w' => e = .returned (.int .i64 (wd r : Nat)) ∧ w' = w := by
  go_enter Try.func22, Try.ntmps22
  go_wp2
  go_loop [5] (fun i => ∃ n : Nat, i = .int .i64 n ∧ ((n = 1 ∨ n = 2 ∨ n = 4) ∨ Wd r n)) (fun i => 1024 - (intOf i).toNat)
  case atStart => exact ⟨1, rfl, .inl (.inl rfl)⟩
  case round =>
    obtain ⟨n, rfl, hW⟩ := hrel
    have HW : Hid ((n = 1 ∨ n = 2 ∨ n = 4) ∨ Wd r n) := hW
    have hn : 1 ≤ n ∧ n ≤ 1024 := by rcases hW with h | h; omega; have := h.le; omega
    clear hW
    obtain ⟨n0, n1⟩ := hn
    by_cases hr1 : r < 1
    · have hr1' : r ≤ 1024 := by omega
      have m1 : ¬ ((n : Int) < 1) := by omega
      by_cases hn8 : (n : Int) < 8
      · go_wp2
        go_round
        case rel =>
          refine ⟨2 * n, by go_num, ?_⟩
          rcases HW.out with h | h
          · rcases h with h | h | h
            · exact .inl (by omega)
            · exact .inl (by omega)
            · exact .inr (.inl (by omega))
          · have := h.le; omega
        case measure => simp [intOf]; omega
      · go_wp2
        go_ret
        refine ⟨ret_int ?_, rfl⟩
        rcases HW.out with h | h
        · omega
        · rw [← h.end (.inl (by omega))]
    · by_cases hr : r ≤ 1024
      · have hr2 : ¬ ((1024 : Int) < r) := by omega
        by_cases hn : (n : Int) < r
        · go_wp2
          go_round
          case rel =>
            refine ⟨2 * n, by go_num, ?_⟩
            rcases HW.out with h | h
            · rcases h with h | h | h
              · exact .inl (by omega)
              · exact .inl (by omega)
              · exact .inr (.inl (by omega))
            · exact .inr (h.next hn (by omega))
          case measure => simp [intOf]; omega
        · by_cases hn8 : (n : Int) < 8
          · go_wp2
            go_round
            case rel =>
              refine ⟨2 * n, by go_num, ?_⟩
              rcases HW.out with h | h
              · rcases h with h | h | h
                · exact .inl (by omega)
                · exact .inl (by omega)
                · exact .inr (.inl (by omega))
              · have := h.le; omega
            case measure => simp [intOf]; omega
          · go_wp2
            go_ret
            refine ⟨ret_int ?_, rfl⟩
            rcases HW.out with h | h
            · omega
            · rw [← h.end (.inl (by omega))]
      · have hr2 : (1024 : Int) < r := by omega
        have hr3 : ¬ (r < (1024 : Int)) := by omega
        by_cases hn : (n : Int) < 1024
        · go_wp2
          go_round
          case rel =>
            refine ⟨2 * n, by go_num, ?_⟩
            rcases HW.out with h | h
            · rcases h with h | h | h
              · exact .inl (by omega)
              · exact .inl (by omega)
              · exact .inr (.inl (by omega))
            · exact .inr (h.next (by omega) (by omega))
          case measure => simp [intOf]; omega
        · have hn8 : ¬ ((n : Int) < 8) := by omega
          go_wp2
          go_ret
          refine ⟨ret_int ?_, rfl⟩
          rcases HW.out with h | h
          · omega
          · rw [← h.end (.inr (by omega))]
section
variable {D : Nat → Prop} {w : World} {p g N : Nat} {c : Nat → Nat} {s : Nat}
theorem rf_made (hD : ∀ k, w.heap.size ≤ k → D k) :
    RfIn D ((w.alloc (.cells (i64s (fun _ => 0) (4 * N)).toArray 3)).alloc (.cells #[.slice (some ⟨w.heap.size, 0, none⟩) (4 * N) (4 * N), .int .i64 (N : Nat), .int .i64 0] 33)) (w.heap.size + 1) w.heap.size N (fun _ => 0) 0 := by
  have h := heap_alloc_new (w.alloc (.cells (i64s (fun _ => 0) (4 * N)).toArray 3)) (.cells #[.slice (some ⟨w.heap.size, 0, none⟩) (4 * N) (4 * N), .int .i64 (N : Nat), .int .i64 0] 33)
  rw [World.size_alloc] at h
  refine ⟨hD _ (by omega), hD _ (Nat.le_refl _), by omega, h, ?_⟩
  rw [Below.heap_alloc _ _ _ (by simp)]
  exact heap_alloc_new _ _
theorem rnew_any (r : Int) (h0 : -9223372036854775808 ≤ r) (h1 : r ≤ 9223372036854775807) (hD : ∀ k, w.heap.size ≤ k → D k) :
    Calls Try.prog 10 #[.int .i64 r] w fun e w' => ∃ p, e = .returned (.pointer (some ⟨p, 0, none⟩)) ∧ RF p (wd r) (fun _ => 0) 0 D w' ∧ Keeps D w w' := by
  obtain ⟨w0, w1⟩ := wd_le r
  have hw := power_any r w h0 h1
  generalize wd r = N at w0 w1 hw ⊢
  have hmk := run_make_row' (P := Try.prog) 31 3 (.int .i64 0) 8 Try.underlying31 info3 rfl .i64 .i64 (4 * N) (by omega) (by omega)
  rw [show ((4 * N : Nat) : Int) = 4 * (N : Int) by omega, i64s_made] at hmk
  go_enter Try.func10, Try.ntmps10
  go_wp2_with (go_at_call 22; refine hw.mono ?_; rintro e w1 ⟨rfl, rfl⟩)
  go_ret
  exact ⟨_, rfl, ⟨⟨w0, by assumption, fun _ => Nat.zero_le _, by omega⟩, _, rf_made hD⟩, ((Keeps.refl D _).alloc _).alloc _⟩
set_option maxHeartbeats 4000000 in
theorem rcells_any (H : RfIn D w p g N c s) (hN : 8 ≤ N) (hN2 : N ≤ 1024) (k : ByteArray) (hk : k.size ≤ 1000) :
    Calls Try.prog 28 #[.pointer (some ⟨p, 0, none⟩), .string k] w fun e w' => e = .returned (.agg (plAll N k)) ∧ Below w.heap.size w w' := by
  have HH : Hid (RfIn D w p g N c s) := H
  clear H
  go_enter Try.func28, Try.ntmps28
  go_wp2_with fail
  have h0 := plIn_start w N k
  have hsz : (w.alloc (.cells #[.int .i64 0, .int .i64 0, .int .i64 0, .int .i64 0] 46)).heap.size = w.heap.size + 1 := World.size_alloc _ _
  go_loopw [6] (fun i wr => ∃ j : Nat, j ≤ 4 ∧ i = .int .i64 j ∧ PlIn w wr N k j) (fun i _ => 4 - (intOf i).toNat)
  case atStart => exact ⟨0, by omega, rfl, h0⟩
  case round =>
    clear h0
    obtain ⟨j, hj, rfl, hP⟩ := hrel
    have hpw := lt_of_block HH.out.2.2.2.1
    rcases Nat.lt_or_ge j 4 with hlt | hge
    · obtain ⟨-, c0, -⟩ := (HH.out.below hP.1).top
      have HX : Hid (PlIn w ((wr.drewN 1).setCell ⟨w.heap.size + 1, j, none⟩ (.int .i64 (pl N k j : Nat))) N k (j + 1)) := hP.next hlt 1
      have hpl : pl N k j = j * N + hp N k j := rfl
      have hx := hp_lt hN k j
      have hp4 := pl_lt hN k hlt
      obtain ⟨A, hA⟩ : ∃ A, j * N = A := ⟨_, rfl⟩
      have hA4 : A ≤ 4096 := by omega
      have w1 := wrap_mul hA (by omega)
      have hash := fun W => hashr_row k j hlt W hk
      have place := fun W => placer_row hN hN2 k j W
      rw [hA] at hpl
      generalize pl N k j = P at HX hpl hp4
      generalize hp N k j = X at hpl hx place
      have w2 : IntKind.i64.wrap ((A : Int) + (X : Int)) = (P : Int) := by rw [IntKind.wrap_i64]; omega
      have w4 : IntKind.u64.wrap ((j : Int) + 1) = (j : Int) + 1 := by rw [IntKind.wrap_u64]; omega
      have w3 : IntKind.i64.wrap ((j : Int) + 1) = (j : Int) + 1 := by rw [IntKind.wrap_i64]; omega
      have jI : (j : Int) < 4 := by omega
      have j0 : (0 : Int) ≤ (j : Int) := by omega
      have f0 : wr.frozen? ⟨w.heap.size + 1, j, none⟩ = false := frozen_of_block hP.2.2
      have b0 : wr.cell? ⟨w.heap.size + 1, j, none⟩ = some (plv N k j j) := by rw [cell_of_block hP.2.2, plArr_at N k hlt]
      have cS : (wr.setCell ⟨w.heap.size + 1, j, none⟩ (.int .i64 (P : Nat))).drew.cell? ⟨p, 1, none⟩ = some (.int .i64 (N : Nat)) := (cell_setCell_far (w := wr) (by show p ≠ w.heap.size + 1; omega)).trans c0
      clear hpl hA hP
      go_wp2_with fail
      go_region_held3 (fun W => W.cell? ⟨p, 1, none⟩ = some (.int .i64 (N : Nat))) (first | go_keep | exact cS)
       (first
        | (go_at_call 33; refine (hash _).mono ?_; rintro e w1 ⟨rfl, rfl⟩)
        | (go_at_call 32; refine (place _).mono ?_; rintro e w1 ⟨rfl, rfl⟩))
      go_wp2_with fail
      go_roundw
      case rel => exact ⟨j + 1, hlt, by go_num, HX.out⟩
      case measure => simp [intOf]; omega
    · have hj4 : j = 4 := by omega
      subst hj4
      obtain ⟨hb, hp0, hp1⟩ := hP
      rw [plArr_all] at hp1
      obtain ⟨d0, d1, d2, d3, -⟩ := cells_of_four hp1
      obtain ⟨c0, c1, c2, c3, f0, f1, f2, f3⟩ := cells_of_four hp0
      clear hp1
      go_wp2_with fail
      refine bodyPost_ret (v := .agg (plAll N k)) (by simp [results, Try.results28, go_sem, plAll, c0, c1, c2, c3]) rfl ⟨rfl, (((hb.setCell (Nat.le_refl _) _).setCell (Nat.le_refl _) _).setCell (Nat.le_refl _) _).setCell (Nat.le_refl _) _⟩
end
end Go.Proofs.Ythlpoljpfndmiaa
