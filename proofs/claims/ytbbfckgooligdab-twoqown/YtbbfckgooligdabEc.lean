/- Of an engine: oldest, drop, blank, resident, count. -/
import Derived.Test.YtbbfckgooligdabEb
namespace Go.Proofs.Ytbbfckgooligdab
open Go.RowKit

section
variable {D : Nat → Prop} {w : World} {e c : Nat} {Q : Nat → List ByteArray} {b : Nat}
theorem EN.front (H : EN D w e c Q b) {i : Nat} (hi : i < 3) {k : ByteArray} {r : List ByteArray} (hq : Q i = k :: r) :
    ∃ l : Li, LiAt (own D (fun _ => 0) 0 0) w l ∧ w.cell? ⟨e, 1 + i, none⟩ = some (.pointer (some ⟨l.pr, 0, none⟩)) ∧ Ls.hdOf l.row ∈ l.row ∧ l.va (Ls.hdOf l.row) = k ∧ l.n ≤ b := by
  obtain ⟨L, R, x, m, H, r1⟩ := H
  refine ⟨R i, Ls.LA.wide (H.li i hi) (fun _ _ => .inr (Nat.zero_le _)), H.row hi, ?_, ?_, r1.few i hi⟩
  · have h := r1.keys i hi
    rw [hq] at h
    cases hrow : (R i).row with
    | nil => rw [hrow] at h; cases h
    | cons a t => simp [Ls.hdOf]
  · have h := r1.keys i hi
    rw [hq] at h
    cases hrow : (R i).row with
    | nil => rw [hrow] at h; cases h
    | cons a t => rw [hrow] at h; simp [Ls.hdOf]; simp at h; exact h.1
theorem oldest_any (H : EN D w e c Q b) (hb : b ≤ 900000) {i : Nat} (hi : i < 3) {k : ByteArray} {r : List ByteArray} (hq : Q i = k :: r) :
    Calls Try.prog 62 #[.pointer (some ⟨e, 0, none⟩), .int .i64 (i : Nat)] w fun ee w' => ee = .returned (.string k) ∧ Below w.heap.size w w' := by
  obtain ⟨l, hl, hr, h1, h2, h3⟩ := H.front hi hq
  have HL : Hid _ := hl
  subst h2
  clear H hl hq
  go_enter Try.func62, Try.ntmps62
  go_wp2_with fail
  have hq : ∀ q : Nat, LiAt (own D (fun _ => 0) 0 0) (w.drewN q) l := fun q => Ls.LA.below HL.out (below_drewN (Below.refl _ w) q)
  go_quiet (first | (go_at_call 78; exact Calls.quiet_of_same (Ls.front_any (hq _))) | (go_at_call 77; exact Calls.quiet_of_same (Ls.get_in (hq _) _ h1 (by omega))))
  go_wp2
  go_ret
  exact ⟨rfl, below_drewN (Below.refl _ w) _⟩
theorem drop_any (H : EN D w e c Q b) (hD : ∀ k, w.heap.size ≤ k → D k) (hb : b ≤ 900000) {i : Nat} (hi : i < 3) {k : ByteArray} {r : List ByteArray} (hq : Q i = k :: r) :
    Calls Try.prog 61 #[.pointer (some ⟨e, 0, none⟩), .int .i64 (i : Nat)] w fun ee w' => ee = .returned (.string k) ∧ EN D w' e c (fun i => A.cut (Q i) k) b ∧ Keeps D w w' := by
  have HE : Hid (EN D w e c Q b) := H
  have HD : Hid (∀ k, w.heap.size ≤ k → D k) := hD
  have hs : k.size ≤ 1000 := H.size hi (by rw [hq]; simp)
  clear H hD
  go_enter Try.func61, Try.ntmps61
  go_wp2_with (first
    | (go_at_call 62; refine (oldest_any HE.out hb hi hq).mono ?_; rintro ee w1 ⟨rfl, hb1⟩)
    | (go_at_call 33; refine (take_any (HE.out.below hb1) (fun k h => HD.out k (Nat.le_trans hb1.size h)) hb k hs).mono ?_; rintro ee w2 ⟨rfl, h2, hk2⟩))
  go_ret
  exact ⟨rfl, h2, (Keeps.of_below hb1).trans hk2⟩
theorem blank_any (H : EN D w e c Q b) : Calls Try.prog 29 #[.pointer (some ⟨e, 0, none⟩)] w fun ee w' => ee = .returned (.bool false) ∧ w' = w := by
  obtain ⟨c0, c1, f1, heo, x, c6⟩ := H.cells
  clear H
  go_enter Try.func29, Try.ntmps29
  go_wp2
  go_ret
  exact ⟨rfl, rfl⟩
theorem resident_any (v : Ix.Sp) : Calls Try.prog 31 #[Ix.V v] w fun ee w' => ee = .returned (.bool (decide (v.1 ≠ 1))) ∧ Below w.heap.size w w' := by
  go_enter Try.func31, Try.ntmps31
  go_wp2
  go_ret
  refine ⟨?_, (Below.refl _ w).alloc (Nat.le_refl _) _⟩
  by_cases h1 : v.1 = 1
  · simp [h1]
  · have e2 : ((v.1 : Nat) : Int) ≠ 1 := by omega
    simp [h1, e2]
theorem EN.len (H : EN D w e c Q b) {i : Nat} (hi : i < 3) : ∃ l : Li, (∀ q, LiAt (own D (fun _ => 0) 0 0) (w.drewN q) l) ∧ w.cell? ⟨e, 1 + i, none⟩ = some (.pointer (some ⟨l.pr, 0, none⟩)) ∧ l.row.length = (Q i).length ∧ l.n ≤ b := by
  obtain ⟨L, R, x, m, H, r1⟩ := H
  refine ⟨R i, fun q => Ls.LA.below (Ls.LA.wide (H.li i hi) (fun _ _ => .inr (Nat.zero_le _))) (below_drewN (Below.refl _ w) q), H.row hi, ?_, r1.few i hi⟩
  rw [← r1.keys i hi, List.length_map]
theorem EN.lens (H : EN D w e c Q b) {i : Nat} (hi : i < 3) : (Q i).length ≤ b := by
  obtain ⟨L, R, x, m, H, r1⟩ := H
  rw [← r1.keys i hi, List.length_map]
  obtain ⟨s, _, R', _, hn⟩ := H.li i hi
  have := R'.len
  have := r1.few i hi
  omega
set_option maxHeartbeats 1000000 in
theorem count_any (H : EN D w e c Q b) {i : Nat} (hi : i < 3) :
    Calls Try.prog 42 #[.pointer (some ⟨e, 0, none⟩), .int .i64 (i : Nat)] w fun ee w' => ee = .returned (.int .i64 ((Q i).length : Nat)) ∧ w' = w := by
  obtain ⟨l, HL, c2, hlen, hln⟩ := H.len hi
  have HLq : Hid (LiAt (own D (fun _ => 0) 0 0) w l) := HL 0
  clear H HL
  go_enter Try.func42, Try.ntmps42
  go_wp2_with (go_at_call 65; refine (Ls.len_any HLq.out).mono ?_; rintro ee w1 ⟨rfl, rfl⟩; rw [hlen])
  go_ret
  exact ⟨rfl, rfl⟩
end
end Go.Proofs.Ytbbfckgooligdab
