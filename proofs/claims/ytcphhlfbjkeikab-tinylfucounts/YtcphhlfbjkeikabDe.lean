/- The program's door: where a key's bits lie; whether they are all set; Has. -/
import Derived.Test.YtcphhlfbjkeikabDd
import Derived.Deep.RegionHeld3
namespace Go.Proofs.Ytcphhlfbjkeikab.Dr
open Go.RowKit

/-- the first j places of a key's bits -/
def plv (M : Nat) (k : ByteArray) (j r : Nat) : Value := .int .i64 ((if r < j then hp M k r else 0 : Nat) : Int)
def plArr (M : Nat) (k : ByteArray) (j : Nat) : Array Value := #[plv M k j 0, plv M k j 1, plv M k j 2]
def plAll (M : Nat) (k : ByteArray) : Array Value := #[.int .i64 (hp M k 0 : Nat), .int .i64 (hp M k 1 : Nat), .int .i64 (hp M k 2 : Nat)]
theorem plArr_all (M : Nat) (k : ByteArray) : plArr M k 3 = plAll M k := by simp [plArr, plAll, plv]
theorem plArr_zero (M : Nat) (k : ByteArray) : plArr M k 0 = #[.int .i64 0, .int .i64 0, .int .i64 0] := by simp [plArr, plv]
theorem plArr_set (M : Nat) (k : ByteArray) {j : Nat} (hj : j < 3) : (plArr M k j).set! j (.int .i64 (hp M k j : Nat)) = plArr M k (j + 1) := by
  have : j = 0 ∨ j = 1 ∨ j = 2 := by omega
  rcases this with rfl | rfl | rfl <;> simp [plArr, plv]
theorem plArr_at (M : Nat) (k : ByteArray) {j : Nat} (hj : j < 3) : (plArr M k j)[j]? = some (plv M k j j) := by
  have : j = 0 ∨ j = 1 ∨ j = 2 := by omega
  rcases this with rfl | rfl | rfl <;> rfl
/-- places of a key in memory that was made -/
def PlIn (w wr : World) (M : Nat) (k : ByteArray) (j : Nat) : Prop :=
  Below w.heap.size w wr ∧ wr.heap[w.heap.size]? = some (.cells (plArr M k 0) 95 (0, 0)) ∧ wr.heap[w.heap.size + 1]? = some (.cells (plArr M k j) 95 (0, 0))
theorem plIn_start (w : World) (M : Nat) (k : ByteArray) : PlIn w ((w.alloc (.cells #[.int .i64 0, .int .i64 0, .int .i64 0] 95)).alloc (.cells #[.int .i64 0, .int .i64 0, .int .i64 0] 95)) M k 0 := by
  have h := heap_alloc_new (w.alloc (.cells #[.int .i64 0, .int .i64 0, .int .i64 0] 95)) (.cells #[.int .i64 0, .int .i64 0, .int .i64 0] 95)
  rw [World.size_alloc] at h
  refine ⟨((Below.refl _ w).alloc (Nat.le_refl _) _).alloc (by simp) _, ?_, ?_⟩
  · rw [Below.heap_alloc _ _ _ (by simp), plArr_zero]
    exact heap_alloc_new _ _
  · rw [plArr_zero]; exact h
theorem PlIn.next {w wr : World} {M : Nat} {k : ByteArray} {j : Nat} (h : PlIn w wr M k j) (hj : j < 3) (q : Nat) : PlIn w ((wr.drewN q).setCell ⟨w.heap.size + 1, j, none⟩ (.int .i64 (hp M k j : Nat))) M k (j + 1) := by
  obtain ⟨h1, h2, h3⟩ := h
  refine ⟨(below_drewN h1 q).setCell (by simp) _, ?_, ?_⟩
  · rw [Below.heap_setCell _ _ _ _ (by simp)]; exact h2
  · rw [block_setCell (w := wr.drewN q) h3, plArr_set M k hj]
section
variable {D : Nat → Prop} {w : World} {p g K : Nat} {v : Nat → Nat}
set_option maxHeartbeats 4000000 in
theorem places_any (H : DrIn D w p g K v) (hK : 1 ≤ K) (hK2 : K ≤ 128) (k : ByteArray) (hk : k.size ≤ 1000) :
    Calls Try.prog 61 #[.pointer (some ⟨p, 0, none⟩), .string k] w fun e w' => e = .returned (.agg (plAll (64 * K) k)) ∧ Below w.heap.size w w' := by
  have HH : Hid (DrIn D w p g K v) := H
  clear H
  obtain ⟨M, hM⟩ : ∃ M, 64 * K = M := ⟨_, rfl⟩
  rw [hM]
  have hM1 : 64 ≤ M := by omega
  have hM2 : M ≤ 8192 := by omega
  have w5 : IntKind.i64.wrap (64 * (K : Int)) = (M : Int) := by rw [IntKind.wrap_i64]; omega
  clear hM
  go_enter Try.func61, Try.ntmps61
  go_wp2_with fail
  have h0 := plIn_start w M k
  have hsz : (w.alloc (.cells #[.int .i64 0, .int .i64 0, .int .i64 0] 95)).heap.size = w.heap.size + 1 := World.size_alloc _ _
  go_loopw [7] (fun i wr => ∃ j : Nat, j ≤ 3 ∧ i = .int .i64 j ∧ PlIn w wr M k j) (fun i _ => 3 - (intOf i).toNat)
  case atStart => exact ⟨0, by omega, rfl, h0⟩
  case round =>
    clear h0
    obtain ⟨j, hj, rfl, hP⟩ := hrel
    have hpw := lt_of_block HH.out.2.2.2.1
    rcases Nat.lt_or_ge j 3 with hlt | hge
    · obtain ⟨c0, -⟩ := (HH.out.below hP.1).top
      have HX : Hid (PlIn w ((wr.drewN 1).setCell ⟨w.heap.size + 1, j, none⟩ (.int .i64 (hp M k j : Nat))) M k (j + 1)) := hP.next hlt 1
      have hx := hp_lt hM1 k j
      have hash := fun W => hash_row k j hlt W hk
      have place := fun W => place_row hM1 hM2 k j W
      generalize hp M k j = X at HX hx place
      have w4 : IntKind.u64.wrap (11 + (j : Int)) = 11 + (j : Int) := by rw [IntKind.wrap_u64]; omega
      have w3 : IntKind.u64.wrap (j : Int) = (j : Int) := by rw [IntKind.wrap_u64]; omega
      have jI : (j : Int) < 3 := by omega
      have j0 : (0 : Int) ≤ (j : Int) := by omega
      have f0 : wr.frozen? ⟨w.heap.size + 1, j, none⟩ = false := frozen_of_block hP.2.2
      have b0 : wr.cell? ⟨w.heap.size + 1, j, none⟩ = some (plv M k j j) := by rw [cell_of_block hP.2.2, plArr_at M k hlt]
      have cS : (wr.setCell ⟨w.heap.size + 1, j, none⟩ (.int .i64 (X : Nat))).drew.cell? ⟨p, 0, none⟩ = some (.slice (some ⟨g, 0, none⟩) K K) := (cell_setCell_far (w := wr) (by show p ≠ w.heap.size + 1; omega)).trans c0
      clear hP
      go_wp2_with fail
      go_region_held3 (fun W => W.cell? ⟨p, 0, none⟩ = some (.slice (some ⟨g, 0, none⟩) K K)) (first | go_keep | exact cS)
       (first
        | (go_at_call 71; refine (hash _).mono ?_; rintro e w1 ⟨rfl, rfl⟩)
        | (go_at_call 70; refine (place _).mono ?_; rintro e w1 ⟨rfl, rfl⟩))
      go_wp2_with fail
      go_roundw
      case rel => exact ⟨j + 1, hlt, by go_num, HX.out⟩
      case measure => simp [intOf]; omega
    · have hj3 : j = 3 := by omega
      subst hj3
      obtain ⟨hb, hp0, hp1⟩ := hP
      rw [plArr_all] at hp1
      obtain ⟨d0, d1, d2, -⟩ := cells_of_three hp1
      obtain ⟨c0, c1, c2, f0, f1, f2⟩ := cells_of_three hp0
      clear hp1
      go_wp2_with fail
      refine bodyPost_ret (v := .agg (plAll M k)) (by simp [results, Try.results61, go_sem, plAll, c0, c1, c2]) rfl ⟨rfl, ((hb.setCell (Nat.le_refl _) _).setCell (Nat.le_refl _) _).setCell (Nat.le_refl _) _⟩
end
end Go.Proofs.Ytcphhlfbjkeikab.Dr
