/- Of an engine: what is told of a spot; a key's spot; ToBack and Remove where there is no handle. -/
import Derived.Test.YtcbaalodhgkgmaaEn
import Derived.Test.YtcbaalodhgkgmaaLc
import Derived.Test.YtcbaalodhgkgmaaBs
import Derived.BigRegion
import Derived.Deep.RegionWith
namespace Go.Proofs.Ytcbaalodhgkgmaa.Ls
open Go.RowKit

section
variable {B : Nat → Prop} {w : World} {p : Nat} {row free : List Nat} {va : Nat → ByteArray} {n : Nat}
theorem toBack_no (H : LA Value.string 94 89 B w p row free va n) (hn : n ≤ 1000000) :
    Calls Try.prog 94 #[.pointer (some ⟨p, 0, none⟩), .int .i64 0] w fun e w' => e = .returned (.bool false) ∧ w' = w := by
  obtain ⟨s, H, R, rfl, rfl⟩ := H
  have hh := has_any H 0 hn
  have h0 : s.has 0 = false := by simp [St.has]
  rw [h0] at hh
  clear H R h0
  go_enter Try.func94, Try.ntmps94
  go_wp2_with (go_at_call 98; refine hh.mono ?_; rintro e w1 ⟨rfl, rfl⟩)
  go_ret
  exact ⟨rfl, rfl⟩
theorem remove_no (H : LA Value.string 94 89 B w p row free va n) (hn : n ≤ 1000000) :
    Calls Try.prog 88 #[.pointer (some ⟨p, 0, none⟩), .int .i64 0] w fun e w' => e = .returned (.tuple #[.string ⟨#[]⟩, .bool false]) ∧ w' = w := by
  obtain ⟨s, H, R, rfl, rfl⟩ := H
  have hh := has_any H 0 hn
  have h0 : s.has 0 = false := by simp [St.has]
  rw [h0] at hh
  clear H R h0
  go_enter Try.func88, Try.ntmps88
  go_wp2_with (go_at_call 98; refine hh.mono ?_; rintro e w1 ⟨rfl, rfl⟩)
  go_ret2
  exact ⟨rfl, rfl⟩
end
end Go.Proofs.Ytcbaalodhgkgmaa.Ls
namespace Go.Proofs.Ytcbaalodhgkgmaa
open Go.RowKit

theorem below_trans {a b c : World} (h : Below a.heap.size a b) (k : Below b.heap.size b c) : Below a.heap.size a c :=
  ((Keeps.of_below (D := fun _ => False) h).trans (Keeps.of_below k)).below (Nat.le_refl _) (fun _ e => e.elim)
theorem undrew {w w' : World} (h : Below w.drew.heap.size w.drew w') : Below w.heap.size w w' := ⟨h.os, h.tape, h.output, h.size, h.block⟩
theorem Keeps.undrew {D : Nat → Prop} {w w' : World} (h : Keeps D w.drew w') : Keeps D w w' := ⟨h.os, h.tape, h.output, h.size, h.block⟩
theorem cut_none (l : List ByteArray) (k : ByteArray) : k ∉ A.cut l k := by
  unfold A.cut
  simp
theorem split_mem {l : List Nat} {h : Nat} (hm : h ∈ l) : ∃ a r, l = a ++ h :: r := by
  obtain ⟨a, r, e⟩ := List.append_of_mem hm
  exact ⟨a, r, e⟩
section
variable {D : Nat → Prop} {w : World} {e c : Nat} {Q : Nat → List ByteArray} {b : Nat}
theorem ghost_any (v : Ix.Sp) : Calls Try.prog 59 #[Ix.V v] w fun ee w' => ee = .returned (.bool (!decide (v.2.2 = 0))) ∧ Below w.heap.size w w' := by
  go_enter Try.func59, Try.ntmps59
  go_wp2
  go_ret
  refine ⟨?_, (Below.refl _ w).alloc (Nat.le_refl _) _⟩
  by_cases h1 : v.2.2 = 0
  · simp [h1]
  · have e2 : ((v.2.2 : Nat) : Int) ≠ 0 := by omega
    simp [h1]
theorem cold_any (v : Ix.Sp) : Calls Try.prog 78 #[Ix.V v] w fun ee w' => ee = .returned (.bool (!decide (v.2.1 = 0))) ∧ Below w.heap.size w w' := by
  go_enter Try.func78, Try.ntmps78
  go_wp2
  go_ret
  refine ⟨?_, (Below.refl _ w).alloc (Nat.le_refl _) _⟩
  by_cases h1 : v.2.1 = 0
  · simp [h1]
  · have e2 : ((v.2.1 : Nat) : Int) ≠ 0 := by omega
    simp [h1]
theorem spotAt_new (w : World) (v : Ix.Sp) : Ix.SpotAt (w.alloc (.cells #[.int .i64 (v.1 : Nat), .int .i64 (v.2.1 : Nat), .int .i64 (v.2.2 : Nat)] 53)) w.heap.size v := heap_alloc_new w _
theorem hot_any (v : Ix.Sp) : Calls Try.prog 51 #[Ix.V v] w fun ee w' => ee = .returned (.bool (decide (v.2.1 = 0) && decide (v.2.2 = 0))) ∧ Below w.heap.size w w' := by
  have HS := spotAt_new w v
  have hb0 : Hid (Below w.heap.size w (w.alloc (.cells #[.int .i64 (v.1 : Nat), .int .i64 (v.2.1 : Nat), .int .i64 (v.2.2 : Nat)] 53))) := (Below.refl _ w).alloc (Nat.le_refl _) _
  have HSq : Hid (Ix.SpotAt (w.alloc (.cells #[.int .i64 (v.1 : Nat), .int .i64 (v.2.1 : Nat), .int .i64 (v.2.2 : Nat)] 53)) w.heap.size v) := HS
  obtain ⟨y0, y1, y2, -⟩ := HS.cells
  clear HS
  by_cases h1 : v.2.1 = 0
  · by_cases h2 : v.2.2 = 0
    · have hc : ∀ W : World, Calls Try.prog 78 #[Ix.V v] W fun ee w' => ee = .returned (.bool false) ∧ Below W.heap.size W w' := fun W => by have := cold_any (w := W) v; rwa [show (!decide (v.2.1 = 0)) = false by simp [h1]] at this
      have hg : ∀ W : World, Calls Try.prog 59 #[Ix.V v] W fun ee w' => ee = .returned (.bool false) ∧ Below W.heap.size W w' := fun W => by have := ghost_any (w := W) v; rwa [show (!decide (v.2.2 = 0)) = false by simp [h2]] at this
      rw [show (decide (v.2.1 = 0) && decide (v.2.2 = 0)) = true by simp [h1, h2]]
      clear h1 h2
      go_enter Try.func51, Try.ntmps51
      go_wp2_with (first
        | (go_at_call 78; refine Calls.mono (hc _) ?_; rintro ee w1 ⟨rfl, hb1⟩; have HS1 : Hid (Ix.SpotAt w1 w.heap.size v) := HSq.out.below hb1; obtain ⟨z0, z1, z2, -⟩ := HS1.out.cells; clear y0 y1 y2)
        | (go_at_call 59; refine Calls.mono (hg _) ?_; rintro ee w2 ⟨rfl, hb2⟩))
      go_ret
      exact ⟨rfl, below_trans hb0.out (below_trans hb1 hb2)⟩
    · have hc : ∀ W : World, Calls Try.prog 78 #[Ix.V v] W fun ee w' => ee = .returned (.bool false) ∧ Below W.heap.size W w' := fun W => by have := cold_any (w := W) v; rwa [show (!decide (v.2.1 = 0)) = false by simp [h1]] at this
      have hg : ∀ W : World, Calls Try.prog 59 #[Ix.V v] W fun ee w' => ee = .returned (.bool true) ∧ Below W.heap.size W w' := fun W => by have := ghost_any (w := W) v; rwa [show (!decide (v.2.2 = 0)) = true by simp [h2]] at this
      rw [show (decide (v.2.1 = 0) && decide (v.2.2 = 0)) = false by simp [h2]]
      clear h1 h2
      go_enter Try.func51, Try.ntmps51
      go_wp2_with (first
        | (go_at_call 78; refine Calls.mono (hc _) ?_; rintro ee w1 ⟨rfl, hb1⟩; have HS1 : Hid (Ix.SpotAt w1 w.heap.size v) := HSq.out.below hb1; obtain ⟨z0, z1, z2, -⟩ := HS1.out.cells; clear y0 y1 y2)
        | (go_at_call 59; refine Calls.mono (hg _) ?_; rintro ee w2 ⟨rfl, hb2⟩))
      go_ret
      exact ⟨rfl, below_trans hb0.out (below_trans hb1 hb2)⟩
  · have hc : ∀ W : World, Calls Try.prog 78 #[Ix.V v] W fun ee w' => ee = .returned (.bool true) ∧ Below W.heap.size W w' := fun W => by have := cold_any (w := W) v; rwa [show (!decide (v.2.1 = 0)) = true by simp [h1]] at this
    rw [show (decide (v.2.1 = 0) && decide (v.2.2 = 0)) = false by simp [h1]]
    clear h1
    go_enter Try.func51, Try.ntmps51
    go_wp2_with (go_at_call 78; refine Calls.mono (hc _) ?_; rintro ee w1 ⟨rfl, hb1⟩)
    go_ret
    exact ⟨rfl, below_trans hb0.out hb1⟩
theorem zero_cells {w w1 : World} (hb1 : Below (w.alloc (.cells #[.int .i64 0, .int .i64 0, .int .i64 0] 53)).heap.size (w.alloc (.cells #[.int .i64 0, .int .i64 0, .int .i64 0] 53)) w1) :
    (w1.cell? ⟨w.heap.size, 0, none⟩ = some (.int .i64 0) ∧ w1.cell? ⟨w.heap.size, 1, none⟩ = some (.int .i64 0) ∧ w1.cell? ⟨w.heap.size, 2, none⟩ = some (.int .i64 0)) ∧
    (w1.frozen? ⟨w.heap.size, 0, none⟩ = false ∧ w1.frozen? ⟨w.heap.size, 1, none⟩ = false ∧ w1.frozen? ⟨w.heap.size, 2, none⟩ = false) ∧ w.heap.size < w1.heap.size := by
  have h := (hb1.block w.heap.size (by rw [World.size_alloc]; omega)).trans (Ix.zero_new w)
  refine ⟨⟨?_, ?_, ?_⟩, ⟨frozen_of_block h, frozen_of_block h, frozen_of_block h⟩, lt_of_block h⟩ <;> (rw [cell_of_block h]; rfl)
theorem spot_raw {L : Nat → Nat} {R : Nat → Li} {x : Nat} {m : ByteArray → Option Ix.Sp} {sp : ByteArray → Nat → Nat} (H : EnIn D L w e c R x m b) (r : Rel R m sp Q b) (hb : b ≤ 900000) (k : ByteArray) (hk : k.size ≤ 1000) :
    Calls Try.prog 44 #[.pointer (some ⟨e, 0, none⟩), .string k] w fun ee w' => ee = .returned (Ix.V (trip sp k)) ∧ Below w.heap.size w w' := by
  have hg := Ix.get_any (H.alloc' (.cells #[.int .i64 0, .int .i64 0, .int .i64 0] 53)).index (by omega) k (by unfold maxLen; omega)
  rw [r.spot k, spOf_get] at hg
  have hb0 : Hid (Below w.heap.size w (w.alloc (.cells #[.int .i64 0, .int .i64 0, .int .i64 0] 53))) := (Below.refl _ w).alloc (Nat.le_refl _) _
  obtain ⟨c0, c1, c6, f1, heo⟩ := H.cells
  clear H r
  generalize trip sp k = v at *
  generalize (spOf sp k).isSome = bo at *
  go_enter Try.func44, Try.ntmps44
  go_wp2_with (go_at_call 58; refine hg.mono ?_; rintro ee w1 ⟨rfl, hb1⟩; obtain ⟨⟨z0, z1, z2⟩, ⟨y0, y1, y2⟩, zl⟩ := zero_cells hb1)
  exact bodyPost_ret (v := Ix.V v) (by simp [results, Try.results44, go_sem, z0, z1, z2, zl]) rfl ⟨rfl, ((((((Keeps.of_below (D := fun k => w.heap.size ≤ k) (below_trans hb0.out hb1)).setCell (Nat.le_refl _) _).setCell (Nat.le_refl _) _).setCell (Nat.le_refl _) _)).alloc _).below (Nat.le_refl _) (fun _ h => h)⟩
/-- where a key stands -/
theorem spot_any (H : EN D w e c Q b) (hb : b ≤ 900000) (k : ByteArray) (hk : k.size ≤ 1000) :
    ∃ v : Ix.Sp, ((v.1 = 0 ↔ k ∉ Q 0) ∧ (v.2.1 = 0 ↔ k ∉ Q 1) ∧ (v.2.2 = 0 ↔ k ∉ Q 2)) ∧ Calls Try.prog 44 #[.pointer (some ⟨e, 0, none⟩), .string k] w fun ee w' => ee = .returned (Ix.V v) ∧ Below w.heap.size w w' := by
  obtain ⟨L, R, x, m, sp, h, r⟩ := H
  exact ⟨trip sp k, ⟨r.zero (by omega), r.zero (by omega), r.zero (by omega)⟩, spot_raw h r hb k hk⟩
end
end Go.Proofs.Ytcbaalodhgkgmaa
