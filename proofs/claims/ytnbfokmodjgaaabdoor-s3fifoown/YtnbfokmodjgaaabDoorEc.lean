/- Of an engine: oldest, blank, resident, count. -/
import Derived.Test.YtnbfokmodjgaaabDoorEb
import Derived.Deep.RegionHeld3
namespace Go.Proofs.YtnbfokmodjgaaabDoor
open Go.RowKit

theorem cell_store2 {w : World} {e j n : Nat} {u v x : Value} (h : w.cell? ⟨e, j, none⟩ = some x) (hne : e ≠ n) : ((w.setCell ⟨n, 0, none⟩ u).setCell ⟨n, 1, none⟩ v).cell? ⟨e, j, none⟩ = some x :=
  (World.cell?_of_block ((Below.heap_setCell _ _ _ _ hne).trans (Below.heap_setCell _ _ _ _ hne))).trans h
theorem below_tr {a x y : World} (h : Below a.heap.size a x) (k : Below x.heap.size x y) : Below a.heap.size a y :=
  ((Keeps.of_below (D := fun _ => False) h).trans (Keeps.of_below k)).below (Nat.le_refl _) (fun _ e => e.elim)
section
variable {D : Nat → Prop} {w : World} {e c : Nat} {Q : Nat → List Ls.It} {b : Nat}
theorem EN.front (H : EN D w e c Q b) {i : Nat} (hi : i < 3) {k : Ls.It} {r : List Ls.It} (hq : Q i = k :: r) :
    ∃ l : Li, LiAt (own D (fun _ => 0) 0 0) w l ∧ w.cell? ⟨e, 1 + i, none⟩ = some (.pointer (some ⟨l.pr, 0, none⟩)) ∧ Ls.hdOf l.row ∈ l.row ∧ l.va (Ls.hdOf l.row) = k ∧ l.n ≤ b := by
  obtain ⟨L, R, x, m, H, r1⟩ := H
  refine ⟨R i, Ls.LA.wide (H.li i hi) (fun _ _ => .inr (Nat.zero_le _)), H.row hi, ?_, ?_, r1.few i hi⟩
  · have h := r1.keys i hi
    rw [hq] at h
    cases hrow : (R i).row with
    | nil => rw [hrow] at h; cases h
    | cons a t => simp [Ls.hdOf]
  · have h := r1.keys i hi
    rw [hq] at h
    cases hrow : (R i).row with
    | nil => rw [hrow] at h; cases h
    | cons a t => rw [hrow] at h; simp [Ls.hdOf]; simp at h; exact h.1
set_option maxRecDepth 20000 in
set_option maxHeartbeats 4000000 in
theorem oldest_any (H : EN D w e c Q b) (hb : b ≤ 900000) {i : Nat} (hi : i < 3) {k : Ls.It} {r : List Ls.It} (hq : Q i = k :: r) :
    Calls Tryd.prog 83 #[.pointer (some ⟨e, 0, none⟩), .int .i64 (i : Nat)] w fun ee w' => ee = .returned (.agg #[.string k.key, .int .i64 (k.n : Nat)]) ∧ Below w.heap.size w w' := by
  obtain ⟨W0, hW0⟩ : ∃ W0, W0 = w.alloc (.cells #[.string ⟨#[]⟩, .int .i64 0] 71) := ⟨_, rfl⟩
  have hbw : Below w.heap.size w W0 := by rw [hW0]; exact (Below.refl _ w).alloc (Nat.le_refl _) _
  have hres : W0.heap[w.heap.size]? = some (Obj.cells #[.string ⟨#[]⟩, .int .i64 0] 71 (0, 0)) := by rw [hW0]; exact heap_alloc_new w _
  have hnw : w.heap.size < W0.heap.size := lt_of_block hres
  obtain ⟨l, hl, hr, h1, h2, h3⟩ := (EN.below H hbw).front hi hq
  have HL : Hid (LiAt (own D (fun _ => 0) 0 0) W0 l) := hl
  have heo := (EN.cells (EN.below H hbw)).2.2.2.1
  have HR : Hid (∀ W : World, Below W0.heap.size W0 W → W.cell? ⟨e, 1 + i, none⟩ = some (.pointer (some ⟨l.pr, 0, none⟩)) ∧ W.heap[w.heap.size]? = some (Obj.cells #[.string ⟨#[]⟩, .int .i64 0] 71 (0, 0))) := fun W hW => ⟨(World.cell?_of_block (hW.block e heo)).trans hr, (hW.block _ hnw).trans hres⟩
  have HB1 : Hid (Below W0.heap.size W0 W0.drew) := (Below.refl _ W0).drew
  have HB2 : Hid (Below W0.heap.size W0 (W0.alloc (.cells #[.string ⟨#[]⟩, .int .i64 0] 71)).drew) := ((Below.refl _ W0).alloc (Nat.le_refl _) _).drew
  have HB3 : Hid (Below W0.heap.size W0 (W0.drew.alloc (.cells #[.string ⟨#[]⟩, .int .i64 0] 71))) := ((Below.refl _ W0).drew).alloc (Nat.le_refl _) _
  have hiI : (i : Int) < 3 := by omega
  subst h2
  have HBw : Hid (Below w.heap.size w W0) := hbw
  clear H hl hq hbw
  go_enter Tryd.func83, Tryd.ntmps83
  go_wp2_with fail
  rw [← hW0]
  clear hW0
  go_region_held3 (fun w' => w'.cell? ⟨e, 1 + i, none⟩ = some (.pointer (some ⟨l.pr, 0, none⟩))) (first | exact q3 | exact cell_store2 q3 (by omega) | exact hr | exact (HR.out _ HB2.out).1 | exact (HR.out _ HB3.out).1 | go_keep)
    (first
    | (go_at_call 91; refine (Ls.front_any (Ls.LA.below HL.out (by first | exact HB1.out | exact HB2.out | exact HB3.out))).mono ?_; rintro ee w1 ⟨rfl, rfl⟩)
    | (go_at_call 54; refine (Ls.get_in (Ls.LA.below HL.out HB1.out) _ h1 (by omega)).mono ?_; rintro ee w2 ⟨rfl, hb2⟩; obtain ⟨q3, q4⟩ := HR.out _ (below_tr HB1.out hb2))
    | (go_at_call 54; refine (Ls.get_in (Ls.LA.below HL.out HB2.out) _ h1 (by omega)).mono ?_; rintro ee w2 ⟨rfl, hb2⟩; obtain ⟨q3, q4⟩ := HR.out _ (below_tr HB2.out hb2); have q5 := (hb2.block W0.heap.size (by show _ < (W0.alloc _).heap.size; simp)).trans (heap_alloc_new W0 _); have y0 := cell_of_block (j := 0) q5; have y1 := cell_of_block (j := 1) q5; have z0 := frozen_of_block (j := 0) q5; have z1 := frozen_of_block (j := 1) q5; simp at y0 y1)
    | (go_at_call 54; refine (Ls.get_in (Ls.LA.below HL.out HB3.out) _ h1 (by omega)).mono ?_; rintro ee w2 ⟨rfl, hb2⟩; obtain ⟨q3, q4⟩ := HR.out _ (below_tr HB3.out hb2); have q5 := (hb2.block W0.heap.size (by show _ < (W0.drew.alloc _).heap.size; simp [World.drew])).trans (heap_alloc_new W0.drew _); have y0 := cell_of_block (j := 0) q5; have y1 := cell_of_block (j := 1) q5; have z0 := frozen_of_block (j := 0) q5; have z1 := frozen_of_block (j := 1) q5; simp at y0 y1))
  all_goals
    have r0 := cell_of_block (j := 0) q4
    have r1 := cell_of_block (j := 1) q4
    have x0 := frozen_of_block (j := 0) q4
    have x1 := frozen_of_block (j := 1) q4
    simp at r0 r1
    have hnw2 := lt_of_block q4
    have hne1 : W0.heap.size ≠ w.heap.size := by omega
    have HB4 : Hid (Below w.heap.size w w2) := by first | exact below_tr HBw.out (below_tr HB1.out hb2) | exact below_tr HBw.out (below_tr HB2.out hb2) | exact below_tr HBw.out (below_tr HB3.out hb2)
    have HW0 : Hid (w.heap.size ≤ W0.heap.size) := Nat.le_of_lt hnw
    clear hb2
    go_wp2_with fail
    first
      | exact bodyPost_ret (v := .agg #[.string (l.va (Ls.hdOf l.row)).key, .int .i64 ((l.va (Ls.hdOf l.row)).n : Nat)]) (by simp [results, Tryd.results83, go_sem, r0, r1, hnw2]) rfl ⟨rfl, ((((Keeps.of_below (D := fun k => w.heap.size ≤ k) HB4.out).setCell (p := ⟨w.heap.size, 0, none⟩) (Nat.le_refl _) (Value.string (l.va (Ls.hdOf l.row)).key)).setCell (p := ⟨w.heap.size, 1, none⟩) (Nat.le_refl _) (Value.int IntKind.i64 ((l.va (Ls.hdOf l.row)).n : Nat))).alloc _).below (Nat.le_refl _) (fun _ h => h)⟩
      | exact bodyPost_ret (v := .agg #[.string (l.va (Ls.hdOf l.row)).key, .int .i64 ((l.va (Ls.hdOf l.row)).n : Nat)]) (by simp [results, Tryd.results83, go_sem, r0, r1]) rfl ⟨rfl, (((((Keeps.of_below (D := fun k => w.heap.size ≤ k) HB4.out).setCell (p := ⟨W0.heap.size, 0, none⟩) HW0.out (Value.string (l.va (Ls.hdOf l.row)).key)).setCell (p := ⟨W0.heap.size, 1, none⟩) HW0.out (Value.int IntKind.i64 ((l.va (Ls.hdOf l.row)).n : Nat))).setCell (p := ⟨w.heap.size, 0, none⟩) (Nat.le_refl _) (Value.string (l.va (Ls.hdOf l.row)).key)).setCell (p := ⟨w.heap.size, 1, none⟩) (Nat.le_refl _) (Value.int IntKind.i64 ((l.va (Ls.hdOf l.row)).n : Nat))).below (Nat.le_refl _) (fun _ h => h)⟩
      | exact bodyPost_ret (v := .agg #[.string (l.va (Ls.hdOf l.row)).key, .int .i64 ((l.va (Ls.hdOf l.row)).n : Nat)]) (by simp [results, Tryd.results83, go_sem, r0, r1, hne1]) rfl ⟨rfl, (((((Keeps.of_below (D := fun k => w.heap.size ≤ k) HB4.out).setCell (p := ⟨W0.heap.size, 0, none⟩) HW0.out (Value.string (l.va (Ls.hdOf l.row)).key)).setCell (p := ⟨W0.heap.size, 1, none⟩) HW0.out (Value.int IntKind.i64 ((l.va (Ls.hdOf l.row)).n : Nat))).setCell (p := ⟨w.heap.size, 0, none⟩) (Nat.le_refl _) (Value.string (l.va (Ls.hdOf l.row)).key)).setCell (p := ⟨w.heap.size, 1, none⟩) (Nat.le_refl _) (Value.int IntKind.i64 ((l.va (Ls.hdOf l.row)).n : Nat))).below (Nat.le_refl _) (fun _ h => h)⟩
      | exact bodyPost_ret (v := .agg #[.string (l.va (Ls.hdOf l.row)).key, .int .i64 ((l.va (Ls.hdOf l.row)).n : Nat)]) (by simp [results, Tryd.results83, go_sem, r0, r1, hne1, Ne.symm hne1]) rfl ⟨rfl, (((((Keeps.of_below (D := fun k => w.heap.size ≤ k) HB4.out).setCell (p := ⟨W0.heap.size, 0, none⟩) HW0.out (Value.string (l.va (Ls.hdOf l.row)).key)).setCell (p := ⟨W0.heap.size, 1, none⟩) HW0.out (Value.int IntKind.i64 ((l.va (Ls.hdOf l.row)).n : Nat))).setCell (p := ⟨w.heap.size, 0, none⟩) (Nat.le_refl _) (Value.string (l.va (Ls.hdOf l.row)).key)).setCell (p := ⟨w.heap.size, 1, none⟩) (Nat.le_refl _) (Value.int IntKind.i64 ((l.va (Ls.hdOf l.row)).n : Nat))).below (Nat.le_refl _) (fun _ h => h)⟩
theorem blank_any (H : EN D w e c Q b) : Calls Tryd.prog 29 #[.pointer (some ⟨e, 0, none⟩)] w fun ee w' => ee = .returned (.bool false) ∧ w' = w := by
  obtain ⟨c0, c1, f1, heo, x, c6⟩ := H.cells
  clear H
  go_enter Tryd.func29, Tryd.ntmps29
  go_wp2
  go_ret
  exact ⟨rfl, rfl⟩
theorem resident_any (v : Ix.Sp) : Calls Tryd.prog 31 #[Ix.V v] w fun ee w' => ee = .returned (.bool (decide (v.1 ≠ 2))) ∧ Below w.heap.size w w' := by
  go_enter Tryd.func31, Tryd.ntmps31
  go_wp2
  go_ret
  refine ⟨?_, (Below.refl _ w).alloc (Nat.le_refl _) _⟩
  by_cases h1 : v.1 = 2
  · simp [h1]
  · have e2 : ((v.1 : Nat) : Int) ≠ 2 := by omega
    simp [h1, e2]
theorem EN.len (H : EN D w e c Q b) {i : Nat} (hi : i < 3) : ∃ l : Li, (∀ q, LiAt (own D (fun _ => 0) 0 0) (w.drewN q) l) ∧ w.cell? ⟨e, 1 + i, none⟩ = some (.pointer (some ⟨l.pr, 0, none⟩)) ∧ l.row.length = (Q i).length ∧ l.n ≤ b := by
  obtain ⟨L, R, x, m, H, r1⟩ := H
  refine ⟨R i, fun q => Ls.LA.below (Ls.LA.wide (H.li i hi) (fun _ _ => .inr (Nat.zero_le _))) (below_drewN (Below.refl _ w) q), H.row hi, ?_, r1.few i hi⟩
  rw [← r1.keys i hi, List.length_map]
theorem EN.lens (H : EN D w e c Q b) {i : Nat} (hi : i < 3) : (Q i).length ≤ b := by
  obtain ⟨L, R, x, m, H, r1⟩ := H
  rw [← r1.keys i hi, List.length_map]
  obtain ⟨s, _, R', _, hn⟩ := H.li i hi
  have := R'.len
  have := r1.few i hi
  omega
set_option maxHeartbeats 1000000 in
theorem count_any (H : EN D w e c Q b) {i : Nat} (hi : i < 3) :
    Calls Tryd.prog 43 #[.pointer (some ⟨e, 0, none⟩), .int .i64 (i : Nat)] w fun ee w' => ee = .returned (.int .i64 ((Q i).length : Nat)) ∧ w' = w := by
  obtain ⟨l, HL, c2, hlen, hln⟩ := H.len hi
  have HLq : Hid (LiAt (own D (fun _ => 0) 0 0) w l) := HL 0
  clear H HL
  go_enter Tryd.func43, Tryd.ntmps43
  go_wp2_with (go_at_call 67; refine (Ls.len_any HLq.out).mono ?_; rintro ee w1 ⟨rfl, rfl⟩; rw [hlen])
  go_ret
  exact ⟨rfl, rfl⟩
end
end Go.Proofs.YtnbfokmodjgaaabDoor
