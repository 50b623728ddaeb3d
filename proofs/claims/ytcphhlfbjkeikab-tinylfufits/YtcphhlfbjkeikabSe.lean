/- The program's sketch: where a key's cells lie; the least of them; Count. -/
import Derived.Test.YtcphhlfbjkeikabSd
namespace Go.Proofs.Ytcphhlfbjkeikab.Sk
open Go.RowKit

/-- the first j places of a key's cells -/
def plv (N : Nat) (k : ByteArray) (j r : Nat) : Value := .int .i64 ((if r < j then pl N k r else 0 : Nat) : Int)
def plArr (N : Nat) (k : ByteArray) (j : Nat) : Array Value := #[plv N k j 0, plv N k j 1, plv N k j 2, plv N k j 3]
def plAll (N : Nat) (k : ByteArray) : Array Value := #[.int .i64 (pl N k 0 : Nat), .int .i64 (pl N k 1 : Nat), .int .i64 (pl N k 2 : Nat), .int .i64 (pl N k 3 : Nat)]
theorem plArr_all (N : Nat) (k : ByteArray) : plArr N k 4 = plAll N k := by simp [plArr, plAll, plv]
theorem plArr_zero (N : Nat) (k : ByteArray) : plArr N k 0 = #[.int .i64 0, .int .i64 0, .int .i64 0, .int .i64 0] := by simp [plArr, plv]
theorem plArr_set (N : Nat) (k : ByteArray) {j : Nat} (hj : j < 4) : (plArr N k j).set! j (.int .i64 (pl N k j : Nat)) = plArr N k (j + 1) := by
  have : j = 0 ∨ j = 1 ∨ j = 2 ∨ j = 3 := by omega
  rcases this with rfl | rfl | rfl | rfl <;> simp [plArr, plv]
theorem plArr_at (N : Nat) (k : ByteArray) {j : Nat} (hj : j < 4) : (plArr N k j)[j]? = some (plv N k j j) := by
  have : j = 0 ∨ j = 1 ∨ j = 2 ∨ j = 3 := by omega
  rcases this with rfl | rfl | rfl | rfl <;> rfl
theorem wrap_mul {j N A : Nat} (h : j * N = A) (hA : A ≤ 1000000) : IntKind.i64.wrap ((j : Int) * (N : Int)) = (A : Int) := by
  have e : (j : Int) * (N : Int) = (A : Int) := by rw [← h]; simp
  rw [e, IntKind.wrap_i64]
  omega
/-- places of a key in memory that was made -/
def PlIn (w wr : World) (N : Nat) (k : ByteArray) (j : Nat) : Prop :=
  Below w.heap.size w wr ∧ wr.heap[w.heap.size]? = some (.cells (plArr N k 0) 99 (0, 0)) ∧ wr.heap[w.heap.size + 1]? = some (.cells (plArr N k j) 99 (0, 0))
theorem plIn_start (w : World) (N : Nat) (k : ByteArray) : PlIn w ((w.alloc (.cells #[.int .i64 0, .int .i64 0, .int .i64 0, .int .i64 0] 99)).alloc (.cells #[.int .i64 0, .int .i64 0, .int .i64 0, .int .i64 0] 99)) N k 0 := by
  have h := heap_alloc_new (w.alloc (.cells #[.int .i64 0, .int .i64 0, .int .i64 0, .int .i64 0] 99)) (.cells #[.int .i64 0, .int .i64 0, .int .i64 0, .int .i64 0] 99)
  rw [World.size_alloc] at h
  refine ⟨((Below.refl _ w).alloc (Nat.le_refl _) _).alloc (by simp) _, ?_, ?_⟩
  · rw [Below.heap_alloc _ _ _ (by simp), plArr_zero]
    exact heap_alloc_new _ _
  · rw [plArr_zero]; exact h
theorem PlIn.next {w wr : World} {N : Nat} {k : ByteArray} {j : Nat} (h : PlIn w wr N k j) (hj : j < 4) (q : Nat) : PlIn w ((wr.drewN q).setCell ⟨w.heap.size + 1, j, none⟩ (.int .i64 (pl N k j : Nat))) N k (j + 1) := by
  obtain ⟨h1, h2, h3⟩ := h
  refine ⟨(below_drewN h1 q).setCell (by simp) _, ?_, ?_⟩
  · rw [Below.heap_setCell _ _ _ _ (by simp)]; exact h2
  · rw [block_setCell (w := wr.drewN q) h3, plArr_set N k hj]
section
variable {D : Nat → Prop} {w : World} {p g N : Nat} {c : Nat → Nat} {s : Nat}
set_option maxHeartbeats 4000000 in
theorem places_any (H : SkIn D w p g N c s) (hN : 8 ≤ N) (hN2 : N ≤ 1024) (k : ByteArray) (hk : k.size ≤ 1000) :
    Calls Try.prog 65 #[.pointer (some ⟨p, 0, none⟩), .string k] w fun e w' => e = .returned (.agg (plAll N k)) ∧ Below w.heap.size w w' := by
  have HH : Hid (SkIn D w p g N c s) := H
  clear H
  go_enter Try.func65, Try.ntmps65
  go_wp2_with fail
  have h0 := plIn_start w N k
  have hsz : (w.alloc (.cells #[.int .i64 0, .int .i64 0, .int .i64 0, .int .i64 0] 99)).heap.size = w.heap.size + 1 := World.size_alloc _ _
  go_loopw [7] (fun i wr => ∃ j : Nat, j ≤ 4 ∧ i = .int .i64 j ∧ PlIn w wr N k j) (fun i _ => 4 - (intOf i).toNat)
  case atStart => exact ⟨0, by omega, rfl, h0⟩
  case round =>
    clear h0
    obtain ⟨j, hj, rfl, hP⟩ := hrel
    have hpw := lt_of_block HH.out.2.2.2.1
    rcases Nat.lt_or_ge j 4 with hlt | hge
    · obtain ⟨c0, -⟩ := (HH.out.below hP.1).top
      have HX : Hid (PlIn w ((wr.drewN 1).setCell ⟨w.heap.size + 1, j, none⟩ (.int .i64 (pl N k j : Nat))) N k (j + 1)) := hP.next hlt 1
      have hpl : pl N k j = j * N + hp N k j := rfl
      have hx := hp_lt hN k j
      have hp4 := pl_lt hN k hlt
      obtain ⟨A, hA⟩ : ∃ A, j * N = A := ⟨_, rfl⟩
      have hA4 : A ≤ 4096 := by omega
      have w1 := wrap_mul hA (by omega)
      have hash := fun W => hash_row k j hlt W hk
      have place := fun W => place_row hN hN2 k j W
      rw [hA] at hpl
      generalize pl N k j = P at HX hpl hp4
      generalize hp N k j = X at hpl hx place
      have w2 : IntKind.i64.wrap ((A : Int) + (X : Int)) = (P : Int) := by rw [IntKind.wrap_i64]; omega
      have w4 : IntKind.u64.wrap ((j : Int) + 1) = (j : Int) + 1 := by rw [IntKind.wrap_u64]; omega
      have w3 : IntKind.u64.wrap (j : Int) = (j : Int) := by rw [IntKind.wrap_u64]; omega
      have jI : (j : Int) < 4 := by omega
      have j0 : (0 : Int) ≤ (j : Int) := by omega
      have f0 : wr.frozen? ⟨w.heap.size + 1, j, none⟩ = false := frozen_of_block hP.2.2
      have b0 : wr.cell? ⟨w.heap.size + 1, j, none⟩ = some (plv N k j j) := by rw [cell_of_block hP.2.2, plArr_at N k hlt]
      have cS : (wr.setCell ⟨w.heap.size + 1, j, none⟩ (.int .i64 (P : Nat))).drew.cell? ⟨p, 0, none⟩ = some (.int .i64 (N : Nat)) := (cell_setCell_far (w := wr) (by show p ≠ w.heap.size + 1; omega)).trans c0
      clear hpl hA hP
      go_wp2_with fail
      go_region_held3 (fun W => W.cell? ⟨p, 0, none⟩ = some (.int .i64 (N : Nat))) (first | go_keep | exact cS)
       (first
        | (go_at_call 71; refine (hash _).mono ?_; rintro e w1 ⟨rfl, rfl⟩)
        | (go_at_call 70; refine (place _).mono ?_; rintro e w1 ⟨rfl, rfl⟩))
      go_wp2_with fail
      go_roundw
      case rel => exact ⟨j + 1, hlt, by go_num, HX.out⟩
      case measure => simp [intOf]; omega
    · have hj4 : j = 4 := by omega
      subst hj4
      obtain ⟨hb, hp0, hp1⟩ := hP
      rw [plArr_all] at hp1
      obtain ⟨d0, d1, d2, d3, -⟩ := cells_of_four hp1
      obtain ⟨c0, c1, c2, c3, f0, f1, f2, f3⟩ := cells_of_four hp0
      clear hp1
      go_wp2_with fail
      refine bodyPost_ret (v := .agg (plAll N k)) (by simp [results, Try.results65, go_sem, plAll, c0, c1, c2, c3]) rfl ⟨rfl, (((hb.setCell (Nat.le_refl _) _).setCell (Nat.le_refl _) _).setCell (Nat.le_refl _) _).setCell (Nat.le_refl _) _⟩
/-- the least of the first j cells -/
def lwj (c : Nat → Nat) (N : Nat) (k : ByteArray) : Nat → Nat
  | 0 => 15
  | j + 1 => min (lwj c N k j) (c (pl N k j))
theorem lwj_le (c : Nat → Nat) (N : Nat) (k : ByteArray) : ∀ j, lwj c N k j ≤ 15
  | 0 => Nat.le_refl _
  | j + 1 => Nat.le_trans (Nat.min_le_left _ _) (lwj_le c N k j)
theorem lwj_all {c : Nat → Nat} (h : ∀ i, c i ≤ 15) (N : Nat) (k : ByteArray) : lwj c N k 4 = lw c N k := by
  have h0 := h (pl N k 0)
  have h1 := h (pl N k 1)
  have h2 := h (pl N k 2)
  have h3 := h (pl N k 3)
  unfold lw
  simp only [lwj]
  omega
theorem index_0 (a0 a1 a2 a3 : Int) (W : World) : (Instr.index 99 (.agg #[.int .i64 a0, .int .i64 a1, .int .i64 a2, .int .i64 a3]) (.int .i64 0)).run Try.prog W = .ok (.int .i64 a0) W := by kernel_rfl
theorem index_1 (a0 a1 a2 a3 : Int) (W : World) : (Instr.index 99 (.agg #[.int .i64 a0, .int .i64 a1, .int .i64 a2, .int .i64 a3]) (.int .i64 1)).run Try.prog W = .ok (.int .i64 a1) W := by kernel_rfl
theorem index_2 (a0 a1 a2 a3 : Int) (W : World) : (Instr.index 99 (.agg #[.int .i64 a0, .int .i64 a1, .int .i64 a2, .int .i64 a3]) (.int .i64 2)).run Try.prog W = .ok (.int .i64 a2) W := by kernel_rfl
theorem index_3 (a0 a1 a2 a3 : Int) (W : World) : (Instr.index 99 (.agg #[.int .i64 a0, .int .i64 a1, .int .i64 a2, .int .i64 a3]) (.int .i64 3)).run Try.prog W = .ok (.int .i64 a3) W := by kernel_rfl
theorem index_pl (N : Nat) (k : ByteArray) {j : Nat} (hj : j < 4) (W : World) : (Instr.index 99 (.agg #[.int .i64 (pl N k 0 : Nat), .int .i64 (pl N k 1 : Nat), .int .i64 (pl N k 2 : Nat), .int .i64 (pl N k 3 : Nat)]) (.int .i64 (j : Nat))).run Try.prog W = .ok (.int .i64 (pl N k j : Nat)) W := by
  have : j = 0 ∨ j = 1 ∨ j = 2 ∨ j = 3 := by omega
  rcases this with rfl | rfl | rfl | rfl
  · exact index_0 _ _ _ _ W
  · exact index_1 _ _ _ _ W
  · exact index_2 _ _ _ _ W
  · exact index_3 _ _ _ _ W
set_option maxHeartbeats 1000000 in
theorem least_any (H : SkIn D w p g N c s) (f : Fit N c s) (k : ByteArray) :
    Calls Try.prog 66 #[.pointer (some ⟨p, 0, none⟩), .agg (plAll N k)] w fun e w' => e = .returned (.int .i64 (lw c N k : Nat)) ∧ Below w.heap.size w w' := by
  have HH : Hid (SkIn D w p g N c s) := H
  have HF : Hid (Fit N c s) := f
  have HI : Hid (∀ {j : Nat} (_ : j < 4) (W : World), (Instr.index 99 (.agg #[.int .i64 (pl N k 0 : Nat), .int .i64 (pl N k 1 : Nat), .int .i64 (pl N k 2 : Nat), .int .i64 (pl N k 3 : Nat)]) (.int .i64 (j : Nat))).run Try.prog W = .ok (.int .i64 (pl N k j : Nat)) W) := fun hj W => index_pl N k hj W
  clear H f
  unfold plAll
  go_enter Try.func66, Try.ntmps66
  go_wp2_with fail
  go_loopw [5, 9] (fun m i wr => ∃ j : Nat, j ≤ 4 ∧ i = .int .i64 j ∧ m = .int .i64 (lwj c N k j : Nat) ∧ Below w.heap.size w wr) (fun _ i _ => 4 - (intOf i).toNat)
  case atStart => exact ⟨0, by omega, rfl, rfl, (Below.refl _ w).alloc (Nat.le_refl _) _⟩
  case round =>
    obtain ⟨j, hj, rfl, rfl, hb⟩ := hrel
    have hm15 := lwj_le c N k j
    have hs := hb.size
    rcases Nat.lt_or_ge j 4 with hlt | hge
    · have hidx := fun W => HI.out hlt W
      have hcl := cell_any (w := wr) (HH.out.below hb) HF.out (pl_lt HF.out.lo k hlt)
      have hv15 := HF.out.cell (pl N k j)
      have hp4 := pl_lt HF.out.lo k hlt
      have hNhi := HF.out.hi
      have HE : Hid (lwj c N k (j + 1) = min (lwj c N k j) (c (pl N k j))) := rfl
      generalize lwj c N k j = m at hm15 HE ⊢
      generalize c (pl N k j) = v at hcl hv15 HE
      generalize pl N k j = P at hidx hcl hp4
      by_cases hvm : v < m
      · have hmin : min m v = v := by omega
        rw [hmin] at HE
        have hvmI : (v : Int) < (m : Int) := by omega
        clear hmin
        go_wp2_with (go_at_call 67; refine hcl.mono ?_; rintro e w1 ⟨rfl, q, rfl⟩)
        go_roundw
        case rel => exact ⟨j + 1, hlt, by go_num, by rw [HE.out], below_drewN hb _⟩
        case measure => simp [intOf]; omega
      · have hmin : min m v = m := by omega
        rw [hmin] at HE
        have hvmI : ¬ ((v : Int) < (m : Int)) := by omega
        clear hmin
        go_wp2_with (go_at_call 67; refine hcl.mono ?_; rintro e w1 ⟨rfl, q, rfl⟩)
        go_roundw
        case rel => exact ⟨j + 1, hlt, by go_num, by rw [HE.out], below_drewN hb _⟩
        case measure => simp [intOf]; omega
    · have hj4 : j = 4 := by omega
      subst hj4
      rw [lwj_all HF.out.cell]
      go_wp2_with fail
      go_ret
      exact ⟨rfl, hb⟩
theorem count_any (H : SK p N c s D w) (k : ByteArray) (hk : k.size ≤ 1000) :
    Calls Try.prog 76 #[.pointer (some ⟨p, 0, none⟩), .string k] w fun e w' => e = .returned (.int .i64 (lw c N k : Nat)) ∧ Below w.heap.size w w' := by
  obtain ⟨f, g, H⟩ := H
  have hbl := blank_any H f.lo
  have hpl := places_any H f.lo f.hi k hk
  have HH : Hid (SkIn D w p g N c s) := H
  have HF : Hid (Fit N c s) := f
  clear H f
  go_enter Try.func76, Try.ntmps76
  go_wp2_with (first
    | (go_at_call 64; refine hbl.mono ?_; rintro e w1 ⟨rfl, rfl⟩; clear hbl)
    | (go_at_call 65; refine hpl.mono ?_; rintro e w2 ⟨rfl, hb2⟩; have hls := least_any (HH.out.below hb2) HF.out k; have hs2 := hb2.size; clear hpl)
    | (go_at_call 66; refine hls.mono ?_; rintro e w3 ⟨rfl, hb3⟩))
  go_ret
  exact ⟨rfl, hb2.trans (hb3.mono hs2)⟩
end
end Go.Proofs.Ytcphhlfbjkeikab.Sk
