/- An engine as the machine of chapter 14: Evict; what the laws read of it. -/
import Derived.Test.YtcphhlfbjkeikaaEj
namespace Go.Proofs.Ytcphhlfbjkeikaa
open Go.RowKit

section
variable {D : Nat → Prop} {w : World} {e : Nat} {s : Stt} {m : ByteArray → Option Ix.Sp} {z : Dk}
theorem rows_cut {x : ByteArray} {i : Nat} {r : List ByteArray} {s' : Stt} (ho : Single s) (hi : i < 3) (hq : qs s i = x :: r) (h : ∀ j, j < 3 → qs s' j = if j = i then r else qs s j) : ∀ j, j < 3 → qs s' j = A.cut (qs s j) x := by
  intro j hj
  rw [h j hj]
  have h0 := ho x
  have hcnt : ∀ j, j < 3 → j ≠ i → x ∉ qs s j := by
    have hx : x ∈ qs s i := by rw [hq]; simp
    have hp := (ho.out (k := x))
    intro j hj hne hxj
    have e1 : i = 0 ∨ i = 1 ∨ i = 2 := by omega
    have e2 : j = 0 ∨ j = 1 ∨ j = 2 := by omega
    rcases e1 with e1 | e1 | e1 <;> subst e1 <;> rcases e2 with e2 | e2 | e2 <;> subst e2
    · omega
    · exact (hp.1 hx).2 hxj
    · exact (hp.1 hx).1 hxj
    · exact (hp.2.2 hx).1 hxj
    · omega
    · exact (hp.2.2 hx).2 hxj
    · exact (hp.2.1 hx).1 hxj
    · exact (hp.2.1 hx).2 hxj
    · omega
  by_cases e : j = i
  · subst e
    rw [if_pos rfl, hq]
    refine (A.cut_head (fun k => ?_)).symm
    have h1 := ho k
    have e1 : j = 0 ∨ j = 1 ∨ j = 2 := by omega
    rcases e1 with e1 | e1 | e1 <;> subst e1
    · have hq' : s.t1 = x :: r := hq
      rw [hq'] at h1; omega
    · have hq' : s.b1 = x :: r := hq
      rw [hq'] at h1; omega
    · have hq' : s.t2 = x :: r := hq
      rw [hq'] at h1; omega
  · rw [if_neg e, A.cut_same (hcnt j hj e)]
end
end Go.Proofs.Ytcphhlfbjkeikaa
