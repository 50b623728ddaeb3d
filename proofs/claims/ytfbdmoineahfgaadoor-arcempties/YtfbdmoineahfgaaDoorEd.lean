/- Of an engine: Len, Has, evict, replace. -/
import Derived.Test.YtfbdmoineahfgaaDoorEc
namespace Go.Proofs.YtfbdmoineahfgaaDoor
open Go.RowKit

theorem EN.alloc {D : Nat → Prop} {w : World} {e c p : Nat} {Q : Nat → List ByteArray} {b : Nat} (H : EN D w e c p Q b) (o : Obj) : EN D (w.alloc o) e c p Q b := H.below ((Below.refl _ w).alloc (Nat.le_refl _) o)
theorem EN.drew {D : Nat → Prop} {w : World} {e c p : Nat} {Q : Nat → List ByteArray} {b : Nat} (H : EN D w e c p Q b) : EN D w.drew e c p Q b := H.kept (D' := fun _ => False) (Keeps.refl _ w).drew (fun _ _ _ e => e)
theorem EN.drewN {D : Nat → Prop} {w : World} {e c p : Nat} {Q : Nat → List ByteArray} {b : Nat} (H : EN D w e c p Q b) (q : Nat) : EN D (w.drewN q) e c p Q b := H.kept (D' := fun _ => False) ((Keeps.refl _ w).drewN q) (fun _ _ _ e => e)
section
variable {D : Nat → Prop} {w : World} {e c p : Nat} {Q : Nat → List ByteArray} {b : Nat}
theorem ints0 (w : World) : IntsAt (w.alloc (.cells #[.int .i64 0] 3)) w.heap.size [0] := heap_alloc_new w _
theorem ints1 (w : World) : IntsAt (w.alloc (.cells #[.int .i64 1] 3)) w.heap.size [1] := heap_alloc_new w _
theorem ints01 (w : World) : IntsAt (w.alloc (.cells #[.int .i64 0, .int .i64 1] 3)) w.heap.size [0, 1] := heap_alloc_new w _
theorem ints_at {w : World} {n : Nat} (h : w.heap.size = n) (is : List Nat) (cs : Array Value) (hc : cs = (is.map (fun i : Nat => Value.int .i64 (i : Nat))).toArray) : IntsAt (w.alloc (.cells cs 3)) n is := by
  subst h hc
  exact heap_alloc_new w _
theorem tot1 (Q : Nat → List ByteArray) (i : Nat) : total Q [i] = (Q i).length := by simp [total]
theorem tot2 (Q : Nat → List ByteArray) (i j : Nat) : total Q [i, j] = (Q i).length + (Q j).length := by simp [total]
theorem len_any (H : EN D w e c p Q b) (hb : b ≤ 900000) : Calls Tryd.prog 15 #[.pointer (some ⟨e, 0, none⟩)] w fun ee w' => ee = .returned (.int .i64 ((Q 0).length + (Q 1).length : Nat)) ∧ Below w.heap.size w w' := by
  have HE : Hid (EN D w e c p Q b) := H
  clear H
  go_enter Tryd.func15, Tryd.ntmps15
  go_wp2_with (first
    | (go_at_call 41; refine (blank_any HE.out).mono ?_; rintro ee w1 ⟨rfl, rfl⟩)
    | (go_at_call 48; refine (count_any (HE.out.alloc _) hb (ints01 _) (by simp) (by simp)).mono ?_; rintro ee w1 ⟨rfl, rfl⟩))
  go_ret
  exact ⟨by rw [tot2]; rfl, (Below.refl _ _).alloc (Nat.le_refl _) _⟩
theorem EN.of (H : EN D w e c p Q b) {w' : World} (hk : Below w.heap.size w w') : Hid (EN D w' e c p Q b) := H.below hk
set_option maxRecDepth 100000 in
set_option maxHeartbeats 1000000 in
theorem evict_t1 (H : EN D w e c p Q b) (hD : ∀ k, w.heap.size ≤ k → D k) (hb : b ≤ 700000) (f : Bool) {k : ByteArray} {r : List ByteArray} (hq : Q 0 = k :: r) (hf : f = true ∨ Q 1 = []) :
    Calls Tryd.prog 56 #[.pointer (some ⟨e, 0, none⟩), .bool f] w fun ee w' => ee = .returned (.string k) ∧ EN D w' e c p (laid Q k 2) (b + 1) ∧ Keeps D w w' := by
  have HE : Hid (EN D w e c p Q b) := H
  have HD : Hid (∀ k, w.heap.size ≤ k → D k) := hD
  have hs : k.size ≤ 1000 := H.size (i := 0) (by omega) (by rw [hq]; simp)
  have hp : 0 < (Q 0).length := by rw [hq]; simp
  have hbl := H.lens (i := 0) (by omega)
  clear H hD
  cases f with
  | true =>
    go_enter Tryd.func56, Tryd.ntmps56
    go_wp2_with (first
      | (go_at_call 48; refine (count_any (HE.out.alloc _) (by omega) (ints0 _) (by simp) (by simp)).mono ?_; rintro ee w1 ⟨rfl, rfl⟩; rw [tot1])
      | (go_at_call 71; refine (oldest_any (i := 0) (HE.out.alloc _) (by omega) (by omega) hq).mono ?_; rintro ee w2 ⟨rfl, hb2⟩)
      | (go_at_call 52; refine (lay_any ((HE.out.alloc _).below hb2) (fun k h => HD.out k (Nat.le_trans (Nat.le_trans (Nat.le_succ _) (by simpa using hb2.size)) h)) (by omega) k hs 2 (by omega)).mono ?_; rintro ee w3 ⟨rfl, h3, hk3⟩))
    go_ret
    exact ⟨rfl, h3, (((Keeps.refl D w).alloc _).trans (.of_below hb2)).trans hk3⟩
  | false =>
    have hq1 : Q 1 = [] := by rcases hf with h | h; cases h; exact h
    have hl1 : (Q 1).length = 0 := by rw [hq1]; rfl
    go_enter Tryd.func56, Tryd.ntmps56
    have hc0 := count_any (HE.out.alloc (.cells #[.int .i64 0] 3)) (by omega) (ints0 w) (by simp) (by simp)
    go_wp2_with (go_at_call 48; refine hc0.mono ?_; clear hc0; rintro ee w1 ⟨rfl, rfl⟩; rw [tot1])
    have hc1 := count_any (g := w.heap.size + 1) ((HE.out.alloc (.cells #[.int .i64 0] 3)).alloc (.cells #[.int .i64 1] 3)) (by omega) (ints_at (by simp) [1] _ rfl) (by simp) (by simp)
    go_wp2_with (first
      | (go_at_call 48; refine hc1.mono ?_; clear hc1; rintro ee w1 ⟨rfl, rfl⟩; rw [tot1, hl1])
      | (go_at_call 71; refine (oldest_any (i := 0) ((HE.out.alloc _).alloc _) (by omega) (by omega) hq).mono ?_; rintro ee w2 ⟨rfl, hb2⟩)
      | (go_at_call 52; refine (lay_any (((HE.out.alloc _).alloc _).below hb2) (fun k h => HD.out k (Nat.le_trans (Nat.le_trans (Nat.le_add_right _ 2) (by simpa using hb2.size)) h)) (by omega) k hs 2 (by omega)).mono ?_; rintro ee w3 ⟨rfl, h3, hk3⟩))
    go_ret
    exact ⟨rfl, h3, ((((Keeps.refl D w).alloc _).alloc _).trans (.of_below hb2)).trans hk3⟩
set_option maxRecDepth 100000 in
set_option maxHeartbeats 1000000 in
theorem evict_t2 (H : EN D w e c p Q b) (hD : ∀ k, w.heap.size ≤ k → D k) (hb : b ≤ 700000) (f : Bool) {k : ByteArray} {r : List ByteArray} (hq : Q 1 = k :: r) (hf : f = false ∨ Q 0 = []) :
    Calls Tryd.prog 56 #[.pointer (some ⟨e, 0, none⟩), .bool f] w fun ee w' => ee = .returned (.string k) ∧ EN D w' e c p (laid Q k 3) (b + 1) ∧ Keeps D w w' := by
  have HE : Hid (EN D w e c p Q b) := H
  have HD : Hid (∀ k, w.heap.size ≤ k → D k) := hD
  have hs : k.size ≤ 1000 := H.size (i := 1) (by omega) (by rw [hq]; simp)
  have hp : 0 < (Q 1).length := by rw [hq]; simp
  have hbl := H.lens (i := 1) (by omega)
  have hbl0 := H.lens (i := 0) (by omega)
  clear H hD
  have hcase : (0 < (Q 0).length ∧ f = false) ∨ (Q 0).length = 0 := by
    rcases Nat.eq_zero_or_pos (Q 0).length with h | h
    · exact .inr h
    · refine .inl ⟨h, ?_⟩
      rcases hf with h2 | h2
      · exact h2
      · rw [h2] at h; simp at h
  rcases hcase with ⟨h0, rfl⟩ | h0
  · go_enter Tryd.func56, Tryd.ntmps56
    have hc0 := count_any (HE.out.alloc (.cells #[.int .i64 0] 3)) (by omega) (ints0 w) (by simp) (by simp)
    go_wp2_with (go_at_call 48; refine hc0.mono ?_; clear hc0; rintro ee w1 ⟨rfl, rfl⟩; rw [tot1])
    have hc1 := count_any (g := w.heap.size + 1) ((HE.out.alloc (.cells #[.int .i64 0] 3)).alloc (.cells #[.int .i64 1] 3)) (by omega) (ints_at (by simp) [1] _ rfl) (by simp) (by simp)
    go_wp2_with (first
      | (go_at_call 48; refine hc1.mono ?_; clear hc1; rintro ee w1 ⟨rfl, rfl⟩; rw [tot1])
      | (go_at_call 71; refine (oldest_any (i := 1) ((HE.out.alloc _).alloc _) (by omega) (by omega) hq).mono ?_; rintro ee w2 ⟨rfl, hb2⟩)
      | (go_at_call 52; refine (lay_any (((HE.out.alloc _).alloc _).below hb2) (fun k h => HD.out k (Nat.le_trans (Nat.le_trans (Nat.le_add_right _ 2) (by simpa using hb2.size)) h)) (by omega) k hs 3 (by omega)).mono ?_; rintro ee w3 ⟨rfl, h3, hk3⟩))
    go_ret
    exact ⟨rfl, h3, ((((Keeps.refl D w).alloc _).alloc _).trans (.of_below hb2)).trans hk3⟩
  · go_enter Tryd.func56, Tryd.ntmps56
    have hc0 := count_any (HE.out.alloc (.cells #[.int .i64 0] 3)) (by omega) (ints0 w) (by simp) (by simp)
    go_wp2_with (go_at_call 48; refine hc0.mono ?_; clear hc0; rintro ee w1 ⟨rfl, rfl⟩; rw [tot1, h0])
    have hc1 := count_any (g := w.heap.size + 1) ((HE.out.alloc (.cells #[.int .i64 0] 3)).alloc (.cells #[.int .i64 1] 3)) (by omega) (ints_at (by simp) [1] _ rfl) (by simp) (by simp)
    go_wp2_with (first
      | (go_at_call 48; refine hc1.mono ?_; clear hc1; rintro ee w1 ⟨rfl, rfl⟩; rw [tot1])
      | (go_at_call 71; refine (oldest_any (i := 1) ((HE.out.alloc _).alloc _) (by omega) (by omega) hq).mono ?_; rintro ee w2 ⟨rfl, hb2⟩)
      | (go_at_call 52; refine (lay_any (((HE.out.alloc _).alloc _).below hb2) (fun k h => HD.out k (Nat.le_trans (Nat.le_trans (Nat.le_add_right _ 2) (by simpa using hb2.size)) h)) (by omega) k hs 3 (by omega)).mono ?_; rintro ee w3 ⟨rfl, h3, hk3⟩))
    go_ret
    exact ⟨rfl, h3, ((((Keeps.refl D w).alloc _).alloc _).trans (.of_below hb2)).trans hk3⟩
end
end Go.Proofs.YtfbdmoineahfgaaDoor
