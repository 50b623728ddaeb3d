/- Of an engine: oldest, drop, blank, resident, count. -/
import Derived.Test.YtfbdmoineahfgaaDoorEb
namespace Go.Proofs.YtfbdmoineahfgaaDoor
open Go.RowKit

section
variable {D : Nat → Prop} {w : World} {e c p : Nat} {Q : Nat → List ByteArray} {b : Nat}
theorem EN.front (H : EN D w e c p Q b) {i : Nat} (hi : i < 4) {k : ByteArray} {r : List ByteArray} (hq : Q i = k :: r) :
    ∃ l : Li, LiAt (own D (fun _ => 0) 0 0) w l ∧ w.cell? ⟨e, 2 + i, none⟩ = some (.pointer (some ⟨l.pr, 0, none⟩)) ∧ Ls.hdOf l.row ∈ l.row ∧ l.va (Ls.hdOf l.row) = k ∧ l.n ≤ b := by
  obtain ⟨L, R, x, m, H, r1⟩ := H
  refine ⟨R i, Ls.LA.wide (H.li i hi) (fun _ _ => .inr (Nat.zero_le _)), H.row hi, ?_, ?_, r1.few i hi⟩
  · have h := r1.keys i hi
    rw [hq] at h
    cases hrow : (R i).row with
    | nil => rw [hrow] at h; cases h
    | cons a t => simp [Ls.hdOf]
  · have h := r1.keys i hi
    rw [hq] at h
    cases hrow : (R i).row with
    | nil => rw [hrow] at h; cases h
    | cons a t => rw [hrow] at h; simp [Ls.hdOf]; simp at h; exact h.1
theorem oldest_any (H : EN D w e c p Q b) (hb : b ≤ 900000) {i : Nat} (hi : i < 4) {k : ByteArray} {r : List ByteArray} (hq : Q i = k :: r) :
    Calls Tryd.prog 71 #[.pointer (some ⟨e, 0, none⟩), .int .i64 (i : Nat)] w fun ee w' => ee = .returned (.string k) ∧ Below w.heap.size w w' := by
  obtain ⟨l, hl, hr, h1, h2, h3⟩ := H.front hi hq
  have HL : Hid _ := hl
  subst h2
  clear H hl hq
  go_enter Tryd.func71, Tryd.ntmps71
  go_wp2_with fail
  have hq : ∀ q : Nat, LiAt (own D (fun _ => 0) 0 0) (w.drewN q) l := fun q => Ls.LA.below HL.out (below_drewN (Below.refl _ w) q)
  go_quiet (first | (go_at_call 85; exact Calls.quiet_of_same (Ls.front_any (hq _))) | (go_at_call 84; exact Calls.quiet_of_same (Ls.get_in (hq _) _ h1 (by omega))))
  go_wp2
  go_ret
  exact ⟨rfl, below_drewN (Below.refl _ w) _⟩
theorem drop_any (H : EN D w e c p Q b) (hD : ∀ k, w.heap.size ≤ k → D k) (hb : b ≤ 900000) {i : Nat} (hi : i < 4) {k : ByteArray} {r : List ByteArray} (hq : Q i = k :: r) :
    Calls Tryd.prog 57 #[.pointer (some ⟨e, 0, none⟩), .int .i64 (i : Nat)] w fun ee w' => ee = .returned (.string k) ∧ EN D w' e c p (fun i => A.cut (Q i) k) b ∧ Keeps D w w' := by
  have HE : Hid (EN D w e c p Q b) := H
  have HD : Hid (∀ k, w.heap.size ≤ k → D k) := hD
  have hs : k.size ≤ 1000 := H.size hi (by rw [hq]; simp)
  clear H hD
  go_enter Tryd.func57, Tryd.ntmps57
  go_wp2_with (first
    | (go_at_call 71; refine (oldest_any HE.out hb hi hq).mono ?_; rintro ee w1 ⟨rfl, hb1⟩)
    | (go_at_call 58; refine (take_any (HE.out.below hb1) (fun k h => HD.out k (Nat.le_trans hb1.size h)) hb k hs).mono ?_; rintro ee w2 ⟨rfl, h2, hk2⟩))
  go_ret
  exact ⟨rfl, h2, (Keeps.of_below hb1).trans hk2⟩
theorem blank_any (H : EN D w e c p Q b) : Calls Tryd.prog 41 #[.pointer (some ⟨e, 0, none⟩)] w fun ee w' => ee = .returned (.bool false) ∧ w' = w := by
  obtain ⟨c0, c1, f1, heo, x, c6⟩ := H.cells
  clear H
  go_enter Tryd.func41, Tryd.ntmps41
  go_wp2
  go_ret
  exact ⟨rfl, rfl⟩
theorem resident_any (v : Ix.Sp) : Calls Tryd.prog 53 #[Ix.V v] w fun ee w' => ee = .returned (.bool (decide (v.1 < 2))) ∧ Below w.heap.size w w' := by
  go_enter Tryd.func53, Tryd.ntmps53
  by_cases h0 : v.1 = 0
  · have h0' : ((v.1 : Nat) : Int) = 0 := by omega
    rw [Ix.V, h0']
    go_wp2
    go_ret
    exact ⟨by simp [h0], (Below.refl _ w).alloc (Nat.le_refl _) _⟩
  · go_wp2
    go_ret
    refine ⟨?_, (Below.refl _ w).alloc (Nat.le_refl _) _⟩
    by_cases h1 : v.1 = 1
    · simp [h1]
    · have e2 : ((v.1 : Nat) : Int) ≠ 1 := by omega
      have e3 : ¬ v.1 < 2 := by omega
      simp [h0, e2, e3]
/-- a row of numbers in a block -/
def IntsAt (w : World) (g : Nat) (is : List Nat) : Prop := w.heap[g]? = some (.cells (is.map (fun i : Nat => Value.int .i64 (i : Nat))).toArray 3 (0, 0))
def total (Q : Nat → List ByteArray) (is : List Nat) : Nat := (is.map (fun i => (Q i).length)).sum
theorem IntsAt.at {w : World} {g : Nat} {is : List Nat} (h : IntsAt w g is) {j i : Nat} (hj : is[j]? = some i) : w.cell? ⟨g, j, none⟩ = some (.int .i64 (i : Nat)) := by
  rw [cell_of_block h, List.getElem?_toArray, List.getElem?_map, hj]
  rfl
theorem total_more {Q : Nat → List ByteArray} {is : List Nat} {j i : Nat} (hj : is[j]? = some i) : total Q (is.take (j + 1)) = total Q (is.take j) + (Q i).length := by
  unfold total
  rw [List.take_add_one, hj, List.map_append, List.sum_append]
  simp
theorem EN.len (H : EN D w e c p Q b) {i : Nat} (hi : i < 4) : ∃ l : Li, (∀ q, LiAt (own D (fun _ => 0) 0 0) (w.drewN q) l) ∧ w.cell? ⟨e, 2 + i, none⟩ = some (.pointer (some ⟨l.pr, 0, none⟩)) ∧ l.row.length = (Q i).length ∧ l.n ≤ b := by
  obtain ⟨L, R, x, m, H, r1⟩ := H
  refine ⟨R i, fun q => Ls.LA.below (Ls.LA.wide (H.li i hi) (fun _ _ => .inr (Nat.zero_le _))) (below_drewN (Below.refl _ w) q), H.row hi, ?_, r1.few i hi⟩
  rw [← r1.keys i hi, List.length_map]
theorem EN.lens (H : EN D w e c p Q b) {i : Nat} (hi : i < 4) : (Q i).length ≤ b := by
  obtain ⟨L, R, x, m, H, r1⟩ := H
  rw [← r1.keys i hi, List.length_map]
  obtain ⟨s, _, R', _, hn⟩ := H.li i hi
  have := R'.len
  have := r1.few i hi
  omega
theorem total_le (H : EN D w e c p Q b) {is : List Nat} (his : ∀ i ∈ is, i < 4) : total Q is ≤ is.length * b := by
  unfold total
  induction is with
  | nil => simp
  | cons i is ih =>
    have h1 := H.lens (his i (by simp))
    have h2 := ih (fun j hj => his j (by simp [hj]))
    simp only [List.map_cons, List.sum_cons, List.length_cons, Nat.add_mul]
    omega
set_option maxHeartbeats 1000000 in
theorem count_any (H : EN D w e c p Q b) (hb : b ≤ 900000) {g : Nat} {is : List Nat} (hg : IntsAt w g is) (his : ∀ i ∈ is, i < 4) (hl : is.length ≤ 4) :
    Calls Tryd.prog 48 #[.pointer (some ⟨e, 0, none⟩), .slice (some ⟨g, 0, none⟩) is.length is.length] w fun ee w' => ee = .returned (.int .i64 (total Q is : Nat)) ∧ w' = w := by
  have HE : Hid (EN D w e c p Q b) := H
  have HG : Hid (IntsAt w g is) := hg
  have HI : Hid (∀ i ∈ is, i < 4) := his
  clear H hg his
  go_enter Tryd.func48, Tryd.ntmps48
  go_wp2_with fail
  go_loopw [5, 10] (fun n i wr => ∃ k : Nat, k ≤ is.length ∧ i = .int .i64 k ∧ n = .int .i64 (total Q (is.take k) : Nat) ∧ wr = w) (fun _ i _ => is.length - (intOf i).toNat)
  case atStart => exact ⟨0, Nat.zero_le _, rfl, by simp [total], rfl⟩
  case round =>
    obtain ⟨k, hk, rfl, rfl, rfl⟩ := hrel
    have ht : total Q (is.take k) ≤ 4 * 900000 := by
      have := total_le HE.out (is := is.take k) (fun i hi => HI.out i (List.mem_of_mem_take hi))
      have h2 : (is.take k).length * b ≤ 4 * 900000 := Nat.mul_le_mul (by simp; omega) hb
      omega
    rcases Nat.lt_or_ge k is.length with hlt | hge
    · obtain ⟨i, hi⟩ : ∃ i, is[k]? = some i := ⟨_, List.getElem?_eq_getElem hlt⟩
      have hi4 := HI.out i (List.mem_of_getElem? hi)
      have c1 := HG.out.at hi
      obtain ⟨l, HL, c2, hlen, hln⟩ := HE.out.len hi4
      have hlb := HE.out.lens hi4
      have HT : Hid (total Q (is.take (k + 1)) = total Q (is.take k) + (Q i).length) := total_more hi
      have HLq : Hid (LiAt (own D (fun _ => 0) 0 0) wr l) := HL 0
      generalize total Q (is.take k) = T at *
      clear hi HL
      go_wp2_with (go_at_call 66; refine (Ls.len_any HLq.out).mono ?_; rintro ee w1 ⟨rfl, rfl⟩; rw [hlen])
      go_roundw
      case rel => exact ⟨k + 1, hlt, by go_num, by rw [HT.out]; go_num, trivial⟩
      case measure => simp [intOf]; omega
    · have hk' : k = is.length := by omega
      subst hk'
      rw [List.take_length] at ht ⊢
      go_wp2
      go_ret
      exact ⟨rfl, rfl⟩
end
end Go.Proofs.YtfbdmoineahfgaaDoor
