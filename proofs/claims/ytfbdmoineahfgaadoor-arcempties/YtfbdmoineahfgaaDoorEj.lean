/- An engine as the machine of chapter 10: admit as a whole; what becomes of a key that comes in. -/
import Derived.Test.YtfbdmoineahfgaaDoorEh
import Derived.Test.YtfbdmoineahfgaaDoorEi
namespace Go.Proofs.YtfbdmoineahfgaaDoor
open Go.RowKit

section
variable {D : Nat → Prop} {w w' : World} {e b : Nat} {s : Stt}
theorem Single.of {s : Stt} (h : A.Ok s) : Single s := h.one
theorem rep_replace {s : Stt} {key : ByteArray} {f : Bool} (h : (key ∈ s.b2 ↔ f = true)) : A.replace s key = rep s f := by
  unfold A.replace rep
  congr 3
  cases f with
  | true => simpa using h.2 rfl
  | false => simpa using fun e => Bool.noConfusion (h.1 e)
theorem admit_any (H : AE e b s D w) (hok : A.Ok s) (hD : ∀ k, w.heap.size ≤ k → D k) (hb : b ≤ 700000) (key : ByteArray) (hn : key ∉ s.b2) :
    Calls Tryd.prog 51 #[.pointer (some ⟨e, 0, none⟩)] w fun ee w' => ∃ ad cap, ee = .returned (.slice ad (A.clears s key).1.length cap) ∧ Beside (AE e (b + 1) (A.clears s key).2) ad cap (A.clears s key).1 D w' ∧ Keeps D w w' := by
  have ho := Single.of hok
  have hlo := hok.lo
  have hhi := hok.hi
  have hres := hok.res
  have hlow := hok.low
  by_cases h1 : s.t1.length = s.c
  · cases ht : s.t1 with
    | nil => rw [ht] at h1; simp at h1; omega
    | cons k r =>
      have e1 : A.clears s key = ([k], { s with t1 := r }) := by
        unfold A.clears
        rw [if_pos (by omega), if_neg (by omega), ht]
        rfl
      rw [e1]
      refine (admit_t1 H ho hD hb ht h1).mono ?_
      rintro ee w' ⟨ad, cap, rfl, h2, hk⟩
      exact ⟨ad, cap, rfl, h2.more (Nat.le_succ b), hk⟩
  · by_cases h2 : s.t1.length + s.b1.length = s.c
    · cases ht : s.b1 with
      | nil => rw [ht] at h2; simp at h2; omega
      | cons k r =>
        have e1 : A.clears s key = rep { s with b1 := r } false := by
          unfold A.clears
          rw [if_pos (by omega), if_pos (by omega), ht]
          exact rep_replace (by simpa using hn)
        rw [e1]
        exact admit_b1 H ho hD hb hlo ht (by omega) h2
    · by_cases h3 : 2 * s.c ≤ s.t1.length + s.t2.length + s.b1.length + s.b2.length
      · cases ht : s.b2 with
        | nil => rw [ht] at h3; simp at h3; omega
        | cons k r =>
          have e1 : A.clears s key = rep { s with b2 := r } false := by
            unfold A.clears
            rw [if_neg (by omega), if_pos (by omega), if_pos h3, ht]
            refine rep_replace ?_
            rw [ht] at hn
            simp at hn
            simpa using hn.2
          rw [e1]
          exact admit_b2 H ho hD hb hlo hhi ht (by omega) h3
      · have e1 : A.clears s key = rep s false := by
          unfold A.clears
          rw [if_neg (by omega)]
          by_cases h4 : s.c ≤ s.t1.length + s.t2.length + s.b1.length + s.b2.length
          · rw [if_pos h4, if_neg h3]
            exact rep_replace (by simpa using hn)
          · rw [if_neg h4]
            unfold rep
            rw [if_pos (by omega)]
        rw [e1]
        exact admit_no H ho hD hb hlo hhi (by omega) (by omega)
theorem none_of {k : ByteArray} {l : List ByteArray} (h : A.cnt k l = 0) : k ∉ l := A.cnt_zero.1 h
theorem laid_newest {key : ByteArray} (ho : Single (A.newest s key)) : ∀ i, i < 4 → qs (A.newest s key) i = laid (qs s) key 0 i := by
  have h := ho key
  simp only [A.newest, A.cnt_snoc, A.one_self] at h
  refine four ?_ ?_ ?_ ?_
  · simp [qs, laid, A.newest, A.cut_same (none_of (k := key) (l := s.t1) (by omega))]
  · simp [qs, laid, A.newest, A.cut_same (none_of (k := key) (l := s.t2) (by omega))]
  · simp [qs, laid, A.newest, A.cut_same (none_of (k := key) (l := s.b1) (by omega))]
  · simp [qs, laid, A.newest, A.cut_same (none_of (k := key) (l := s.b2) (by omega))]
theorem laid_b1 {key : ByteArray} (ho : Single (A.fromB1 s key)) : ∀ i, i < 4 → qs (A.fromB1 s key) i = laid (qs s) key 1 i := by
  have h := ho key
  simp only [A.fromB1, A.cnt_snoc, A.one_self] at h
  refine four ?_ ?_ ?_ ?_
  · simp [qs, laid, A.fromB1, A.cut_same (none_of (k := key) (l := s.t1) (by omega))]
  · simp [qs, laid, A.fromB1, A.cut_same (none_of (k := key) (l := s.t2) (by omega))]
  · simp [qs, laid, A.fromB1]
  · simp [qs, laid, A.fromB1, A.cut_same (none_of (k := key) (l := s.b2) (by omega))]
theorem laid_b2 {key : ByteArray} (ho : Single (A.fromB2 s key)) : ∀ i, i < 4 → qs (A.fromB2 s key) i = laid (qs s) key 1 i := by
  have h := ho key
  simp only [A.fromB2, A.cnt_snoc, A.one_self] at h
  refine four ?_ ?_ ?_ ?_
  · simp [qs, laid, A.fromB2, A.cut_same (none_of (k := key) (l := s.t1) (by omega))]
  · simp [qs, laid, A.fromB2, A.cut_same (none_of (k := key) (l := s.t2) (by omega))]
  · simp [qs, laid, A.fromB2, A.cut_same (none_of (k := key) (l := s.b1) (by omega))]
  · simp [qs, laid, A.fromB2]
theorem lay_to {s' : Stt} (H : AE e b s D w) (hD : ∀ k, w.heap.size ≤ k → D k) (hb : b ≤ 800000) (k : ByteArray) (hk : k.size ≤ 1000) (i : Nat) (hi : i < 4) (hs : ∀ j, j < 4 → qs s' j = laid (qs s) k i j) (hc : s'.c = s.c) (hp : s'.p = s.p) :
    Calls Tryd.prog 52 #[.pointer (some ⟨e, 0, none⟩), .string k, .int .i64 (i : Nat)] w fun ee w' => ee = .returned (.tuple #[]) ∧ AE e (b + 1) s' D w' ∧ Keeps D w w' := by
  refine (lay_any H hD hb k hk i hi).mono ?_
  rintro ee w' ⟨rfl, h, hk⟩
  refine ⟨rfl, ?_, hk⟩
  unfold AE
  rw [hc, hp]
  exact EN.congr h hs
end
end Go.Proofs.YtfbdmoineahfgaaDoor
