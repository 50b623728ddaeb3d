/- An engine as the machine of chapter 10: Access as a whole. -/
import Derived.Test.YtfbdmoineahfgaaDoorEq
import Derived.Test.YtfbdmoineahfgaaDoorEg
import Derived.Test.YtfbdmoineahfgaaDoorEl
namespace Go.Proofs.YtfbdmoineahfgaaDoor
open Go.RowKit

section
variable {D : Nat → Prop} {w w' : World} {e b : Nat} {s : Stt}
theorem acc_any (H : AE e b s D w) (hok : A.Ok s) (hD : ∀ k, w.heap.size ≤ k → D k) (hb : b ≤ 600000) (key : ByteArray) (hk : key.size ≤ 1000) :
    Calls Tryd.prog 28 #[.pointer (some ⟨e, 0, none⟩), .string key] w (Says e (b + 2) (A.access s key) D w) := by
  by_cases hg : key ∈ A.ghosts s
  · obtain ⟨x, c6, hx⟩ := EN.get H (by omega) key hk
    have ho := Single.of hok
    have hout := ho.out (k := key)
    have hkn : key ∉ A.keys s := by
      unfold A.ghosts at hg
      unfold A.keys
      rw [List.mem_append] at hg ⊢
      rcases hg with h | h
      · exact fun h2 => h2.elim (hout.2.2.1 h).1 (hout.2.2.1 h).2.1
      · exact fun h2 => h2.elim (hout.2.2.2 h).1 (hout.2.2.2 h).2.1
    have e0 : A.access s key = (false, A.known s key) := by
      unfold A.access
      rw [if_neg hkn, if_pos hg]
    have hM := A.known_missed hok hg
    rw [e0]
    rcases hx with ⟨hn, _⟩ | ⟨i, h, hi, hin, hot, hf⟩
    · exfalso
      unfold A.ghosts at hg
      rw [List.mem_append] at hg
      rcases hg with h | h
      · exact hn 2 (by omega) h
      · exact hn 3 (by omega) h
    · have hi2 : i = 2 ∨ i = 3 := by
        have : i = 0 ∨ i = 1 ∨ i = 2 ∨ i = 3 := by omega
        rcases this with e1 | e1 | e1 | e1
        · subst e1; exact absurd (by unfold A.keys; rw [List.mem_append]; exact .inl hin) hkn
        · subst e1; exact absurd (by unfold A.keys; rw [List.mem_append]; exact .inr hin) hkn
        · exact .inl e1
        · exact .inr e1
      rcases hi2 with e1 | e1
      · subst e1
        have hin1 : key ∈ s.b1 := hin
        have hb2 : key ∉ s.b2 := (hout.2.2.1 hin1).2.2
        have hr : rep (A.more s) (decide ((2 : Nat) = 3)) = A.replace (A.more s) key := (rep_replace (f := false) (by simpa [A.more] using hb2)).symm
        have ek : A.known s key = ((A.replace (A.more s) key).1, A.fromB1 (A.replace (A.more s) key).2 key) := by
          unfold A.known
          rw [if_pos hin1]
        rw [ek] at hM ⊢
        exact acc_ghost (s2 := A.more s) (s3 := (A.replace (A.more s) key).2) (l := (A.replace (A.more s) key).1) H hD hb key hk c6 hf (.inl rfl)
          (fun D' W HA _ => adapt1 HA (by omega) (List.length_pos_of_mem hin1) (by have := hok.pc; have := hok.hi; omega)) hok.more.one hok.lo hr _ (laid_b1 hM.ok.one) rfl rfl
      · subst e1
        have hin2 : key ∈ s.b2 := hin
        have hb1 : key ∉ s.b1 := (hout.2.2.2 hin2).2.2
        have hr : rep (A.less s) (decide ((3 : Nat) = 3)) = A.replace (A.less s) key := (rep_replace (f := true) (by simpa [A.less] using hin2)).symm
        have ek : A.known s key = ((A.replace (A.less s) key).1, A.fromB2 (A.replace (A.less s) key).2 key) := by
          unfold A.known
          rw [if_neg hb1]
        rw [ek] at hM ⊢
        exact acc_ghost (s2 := A.less s) (s3 := (A.replace (A.less s) key).2) (l := (A.replace (A.less s) key).1) H hD hb key hk c6 hf (.inr rfl)
          (fun D' W HA _ => adapt2 HA (by omega) (List.length_pos_of_mem hin2) (by have := hok.pc; have := hok.hi; omega)) hok.less.one hok.lo hr _ (laid_b2 hM.ok.one) rfl rfl
  · exact acc_free H hok hD hb key hk hg
end
end Go.Proofs.YtfbdmoineahfgaaDoor
