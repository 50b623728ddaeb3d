/- An engine as the machine of chapter 11: Get; ToBack; Access. -/
import Derived.Test.YtbbfckgooligdabEf
import Derived.Test.YtbbfckgooligdabLc
namespace Go.Proofs.Ytbbfckgooligdab
open Go.RowKit

section
variable {R : Nat → Li} {m : ByteArray → Option Ix.Sp} {Q : Nat → List ByteArray} {b : Nat}
/-- a key becomes the newest of its own list -/
theorem Rel.touch (H : Rel R m Q b) {k : ByteArray} {i h : Nat} (hm : m k = .some (i, h)) {l r : List Nat} (hr : (R i).row = l ++ h :: r) :
    Rel (fun j => if j = i then { R i with row := l ++ r ++ [h] } else R j) m (fun j => if j = i then A.cut (Q j) k ++ [k] else Q j) b := by
  obtain ⟨hi, hin, hv⟩ := (H.spot k i h).1 hm
  have hnd := H.nodup i hi
  rw [hr] at hnd
  have hnd2 := (List.perm_middle.nodup_iff.1 hnd)
  rw [List.nodup_cons] at hnd2
  have hkey : ∀ a ∈ l ++ r, (R i).va a ≠ k := fun a ha e => by
    have ha' : a ∈ (R i).row := by rw [hr]; simp at ha ⊢; rcases ha with h | h <;> simp [h]
    have := (H.spot k i a).2 ⟨hi, ha', e⟩
    rw [hm] at this
    cases this
    exact hnd2.1 ha
  have hmem : ∀ a, a ∈ l ++ r ++ [h] ↔ a ∈ (R i).row := fun a => by rw [hr]; simp; constructor <;> (rintro (h | h | h) <;> simp [h])
  constructor
  · intro j hj
    by_cases e : j = i
    · subst e
      simp only [if_true]
      rw [← H.keys j hj, hr]
      unfold A.cut
      simp only [List.map_append, List.map_cons, List.map_nil, hv]
      rw [List.filter_append, List.filter_cons, if_neg (by simp), List.filter_eq_self.2, List.filter_eq_self.2]
      · intro y hy
        obtain ⟨a, ha, rfl⟩ := List.mem_map.1 hy
        simpa using hkey a (by simp [ha])
      · intro y hy
        obtain ⟨a, ha, rfl⟩ := List.mem_map.1 hy
        simpa using hkey a (by simp [ha])
    · simp only [if_neg e]
      exact H.keys j hj
  · intro k' j a
    rw [H.spot]
    by_cases e : j = i
    · subst e
      simp only [if_true]
      rw [hmem]
    · simp only [if_neg e]
  · intro j hj
    by_cases e : j = i
    · subst e
      simp only [if_true]
      exact H.few j hj
    · simp only [if_neg e]
      exact H.few j hj
  · intro j hj k' hk'
    by_cases e : j = i
    · subst e
      simp only [if_true, List.mem_append, List.mem_singleton] at hk'
      rcases hk' with h1 | h1
      · exact H.size j hj k' (List.mem_filter.1 h1).1
      · subst h1
        exact H.size j hj k' (H.some hm).2.1
    · simp only [if_neg e] at hk'
      exact H.size j hj k' hk'
  · intro j hj
    by_cases e : j = i
    · subst e
      simp only [if_true]
      rw [List.perm_append_comm.nodup_iff]
      exact List.nodup_cons.2 hnd2
    · simp only [if_neg e]
      exact H.nodup j hj
end
section
variable {D : Nat → Prop} {w w' : World} {e b : Nat} {s : Stt}
/-- where a key stands, as the index tells it in whatever world that is as w was -/
def Finds (x : Nat) (key : ByteArray) (v : Ix.Sp) (known : Bool) (w : World) : Prop :=
  ∀ W : World, Below w.heap.size w W → Calls Try.prog 30 #[.pointer (some ⟨x, 0, none⟩), .string key] W fun ee w' => ee = .returned (.tuple #[Ix.V v, .bool known]) ∧ Below W.heap.size W w'
theorem EN.get {c : Nat} {Q : Nat → List ByteArray} (H : EN D w e c Q b) (hb : b ≤ 900000) (key : ByteArray) (hk : key.size ≤ 1000) :
    ∃ x, w.cell? ⟨e, 4, none⟩ = some (.pointer (some ⟨x, 0, none⟩)) ∧ (((∀ i, i < 3 → key ∉ Q i) ∧ Finds x key (0, 0) false w) ∨ ∃ i h, i < 3 ∧ key ∈ Q i ∧ (∀ j, j < 3 → j ≠ i → key ∉ Q j) ∧ Finds x key (i, h) true w) := by
  obtain ⟨L, R, x, m, H, r⟩ := H
  refine ⟨x, H.cells.2.2.1, ?_⟩
  cases hm : m key with
  | none => exact .inl ⟨r.none.1 hm, fun W hW => Ix.get_miss (H.below hW).index (by omega) key (by unfold maxLen; omega) hm⟩
  | some v =>
    obtain ⟨i, h⟩ := v
    obtain ⟨h1, h2, h3⟩ := r.some hm
    exact .inr ⟨i, h, h1, h2, h3, fun W hW => Ix.get_hit (H.below hW).index (by omega) key (by unfold maxLen; omega) hm⟩
theorem EN.back {c : Nat} {Q : Nat → List ByteArray} (H : EN D w e c Q b) (hD : ∀ k, w.heap.size ≤ k → D k) (hb : b ≤ 900000) (key : ByteArray) (hk : key.size ≤ 1000) (hin : key ∈ Q 2) :
    ∃ x pr h, w.cell? ⟨e, 4, none⟩ = some (.pointer (some ⟨x, 0, none⟩)) ∧ Finds x key (2, h) true w ∧ ∀ W : World, Below w.heap.size w W → W.cell? ⟨e, 3, none⟩ = some (.pointer (some ⟨pr, 0, none⟩)) ∧
      Calls Try.prog 32 #[.pointer (some ⟨pr, 0, none⟩), .int .i64 (h : Nat)] W fun ee w' => ee = .returned (.bool true) ∧ EN D w' e c (fun j => if j = 2 then A.cut (Q j) key ++ [key] else Q j) b ∧ Keeps D W w' := by
  obtain ⟨L, R, x, m, H, r⟩ := H
  cases hm : m key with
  | none => exact absurd hin (r.none.1 hm 2 (by omega))
  | some v =>
    obtain ⟨i, h⟩ := v
    obtain ⟨h1, h2, h3⟩ := r.some hm
    have hi : i = 2 := by
      by_cases e : (2 : Nat) = i
      · exact e.symm
      · exact absurd hin (h3 2 (by omega) e)
    subst hi
    refine ⟨x, (R 2).pr, h, H.cells.2.2.1, fun W hW => Ix.get_hit (H.below hW).index (by omega) key (by unfold maxLen; omega) hm, fun W hW => ⟨(H.below hW).row (i := 2) (by omega), ?_⟩⟩
    obtain ⟨-, hin2, hv⟩ := (r.spot key 2 h).1 hm
    obtain ⟨l, rr, hr⟩ := split_mem hin2
    have HW := H.below hW
    have hl := HW.list (i := 2) (by omega)
    rw [LiAt, hr] at hl
    refine (Ls.toBack_in h hl (by have := r.few 2 (by omega); omega)).mono ?_
    rintro ee w' ⟨rfl, hl2, hk2⟩
    have hDW : ∀ k, W.heap.size ≤ k → D k := fun k h => hD k (Nat.le_trans hW.size h)
    exact ⟨rfl, ⟨_, _, _, _, HW.putL (l := { R 2 with row := l ++ rr ++ [h] }) hDW (by omega) hk2 hl2 rfl, r.touch hm hr⟩, own_keeps hDW hk2⟩
theorem below_trans {a b c : World} (h : Below a.heap.size a b) (k : Below b.heap.size b c) : Below a.heap.size a c :=
  ((Keeps.of_below (D := fun _ => False) h).trans (Keeps.of_below k)).below (Nat.le_refl _) (fun _ e => e.elim)
set_option maxHeartbeats 2000000 in
theorem acc_am (H : AE e b s D w) (hD : ∀ k, w.heap.size ≤ k → D k) (hb : b ≤ 700000) (key : ByteArray) (hk : key.size ≤ 1000) (hin : key ∈ s.t2) :
    Calls Try.prog 9 #[.pointer (some ⟨e, 0, none⟩), .string key] w fun ee w' => ee = .returned (.tuple #[.bool true, .slice none 0 0]) ∧ AE e b (A.touch s key) D w' ∧ Keeps D w w' := by
  have HE : Hid (AE e b s D w) := H
  obtain ⟨x, pr, h, c6, hf, hback⟩ := EN.back H hD (by omega) key hk hin
  have HF : Hid (Finds x key (2, h) true w) := hf
  have HBk : Hid _ := hback
  have heo := (EN.cells H).2.2.2.1
  clear H hD hf hin hback
  go_enter Try.func9, Try.ntmps9
  go_wp2_with (first
    | (go_at_call 29; refine (blank_any HE.out).mono ?_; rintro ee w1 ⟨rfl, rfl⟩)
    | (go_at_call 30; refine (HF.out _ (Below.refl _ _)).mono ?_; rintro ee w2 ⟨rfl, hb2⟩; have hb2' : Below w1.heap.size w1 (w2.alloc (.cells #[.int .i64 2, .int .i64 (h : Nat)] 47)) := hb2.alloc hb2.size _; have HS2 : Hid (Ix.SpotAt (w2.alloc (.cells #[.int .i64 2, .int .i64 (h : Nat)] 47)) w2.heap.size (2, h)) := heap_alloc_new w2 _)
    | (go_at_call 31; refine (resident_any (2, h)).mono ?_; rintro ee w3 ⟨rfl, hb3⟩; have hb3' := below_trans hb2' hb3; have hd : decide (((2, h) : Ix.Sp).1 ≠ 1) = true := rfl; rw [hd]; have HS3 : Hid (Ix.SpotAt w3 w2.heap.size (2, h)) := HS2.out.below hb3; obtain ⟨y0, y1, yl⟩ := HS3.out.cells; have cr := (HBk.out w3 hb3').1)
    | fail)
  go_region_with (go_at_call 32; refine Calls.mono (HBk.out w3.drew (below_trans hb3' (Below.refl _ _).drew)).2 ?_; rintro ee w4 ⟨rfl, h4, hk4⟩)
  all_goals
    go_wp2
    go_ret2
    refine ⟨rfl, EN.congr h4 (three ?_ ?_ ?_), (Keeps.of_below (below_trans hb3' (Below.refl _ _).drew)).trans hk4⟩
    · simp [qs, A.touch]
    · simp [qs, A.touch]
    · simp [qs, A.touch]
end
end Go.Proofs.Ytbbfckgooligdab
