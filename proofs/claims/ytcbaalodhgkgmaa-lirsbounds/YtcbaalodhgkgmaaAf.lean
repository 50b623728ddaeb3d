/- What the laws over a row of acts share: both made, the engine alone behind the acts, calls beside a row of the law's own. -/
import Derived.Test.YtcbaalodhgkgmaaAd
import Derived.Test.YtcbaalodhgkgmaaAe
import Derived.Test.YtcbaalodhgkgmaaAi
import Derived.Test.YtcbaalodhgkgmaaCa
namespace Go.Proofs.Ytcbaalodhgkgmaa
open Go.RowKit

section
variable {O D : Nat → Prop} {w w' : World} {e x b : Nat} {s : Stt} {ad : Option Addr} {cap : Nat} {zs : List ByteArray}
theorem key_size (H : AE e b s D w) {z : ByteArray} (h : z ∈ A.keys s) : z.size ≤ 1000 := H.sizes h
theorem key1 (h : A.Ok s) (k : ByteArray) : A.cnt k (A.keys s) + A.cnt k (A.ghosts s) ≤ 1 := by
  have h1 := h.once k
  have h2 := h.og k
  by_cases hg : k ∈ s.t2
  · have := A.cnt_zero.2 (h.ghost hg)
    show A.cnt k (A.keys s) + A.cnt k s.t2 ≤ 1
    omega
  · have := A.cnt_zero.2 hg
    show A.cnt k (A.keys s) + A.cnt k s.t2 ≤ 1
    omega
theorem keys_few (h : A.Ok s) : (A.keys s).length ≤ 1024 := Nat.le_trans h.res h.hi
theorem Two.leftO {A B : (Nat → Prop) → World → Prop} (la : Lies A) (h : Two A B O w) : A (fun k => ¬ O k) w := by
  obtain ⟨Da, Db, ha, hb, h1, h2, h3⟩ := h
  exact la.wide ha (fun k e => (h1 k e).2.1)
theorem Both.eng {n : Nat} (h : Both e x b s (fun k => k < n) w) : AE e b s (fun k => n ≤ k) w := AE.wide (Two.leftO (AE_lies e b s) h) (fun k _ hk => by omega)
theorem Both.below (h : Both e x b s O w) (hb : Below w.heap.size w w') : Both e x b s O w' := Two.below (AE_lies e b s) (RE_lies x s) h hb
theorem both_start {w1 w2 : World} {c : Nat} (H : AE e 0 (A.start c) (w.heap.size ≤ ·) w1) (h1 : w.heap.size ≤ w1.heap.size) (HX : RE x (A.start c) (w1.heap.size ≤ ·) w2) (hk : Keeps (w1.heap.size ≤ ·) w1 w2) :
    Both e x 0 (A.start c) (fun k => k < w.heap.size) w2 := two_start (AE_lies _ _ _) (RE_lies _ _) H h1 HX hk
/-- a call on the engine leaves the row beside it alone -/
theorem Beside.on {b' : Nat} {s' : Stt} {f : FuncId} {args : Array Value} {Q : Ending → Prop} (h : Beside (AE e b s) ad cap zs D w) (hD : ∀ k, w.heap.size ≤ k → D k)
    (hc : ∀ D1, AE e b s D1 w → (∀ k, w.heap.size ≤ k → D1 k) → Calls Try.prog f args w fun ee w' => Q ee ∧ AE e b' s' D1 w' ∧ Keeps D1 w w') :
    Calls Try.prog f args w fun ee w' => Q ee ∧ Beside (AE e b' s') ad cap zs D w' ∧ Keeps D w w' := by
  obtain ⟨D1, h1, hA, hR⟩ := h
  refine (hc (fun k => D1 k ∨ w.heap.size ≤ k) (hA.wide (fun _ _ h => .inl h)) (fun _ h => .inr h)).mono ?_
  rintro ee w' ⟨hq, hA2, hk2⟩
  refine ⟨hq, ⟨fun k => (D1 k ∨ w.heap.size ≤ k) ∧ k < w'.heap.size, fun g hg => ?_, hA2.narrow, ?_⟩, hk2.mono ?_⟩
  · obtain ⟨h5, h6⟩ := hg
    rcases h5 with h5 | h5
    · exact ⟨(h1 g h5).1, h6⟩
    · exact ⟨hD g h5, h6⟩
  · refine (hR.narrow.kept hk2 ?_).wide ?_
    · rintro g ⟨⟨_, h3⟩, h4⟩ (h5 | h5)
      · exact h3 h5
      · omega
    · rintro g _ ⟨⟨h2, h3⟩, h4⟩
      refine ⟨h2, fun h5 => ?_⟩
      rcases h5.1 with h6 | h6
      · exact h3 h6
      · omega
  · rintro k h3 (h | h)
    · exact (h1 k h).1
    · exact hD k h
theorem Beside.has (h : Beside (AE e b s) ad cap zs D w) (hb : b ≤ 800000) (key : ByteArray) (hk : key.size ≤ 1000) :
    Calls Try.prog 30 #[.pointer (some ⟨e, 0, none⟩), .string key] w fun ee w' => ee = .returned (.bool (inb key (A.keys s))) ∧ Beside (AE e b s) ad cap zs D w' ∧ Below w.heap.size w w' := by
  refine (has_any h.eng (by omega) key hk).mono ?_
  rintro ee w' ⟨rfl, hb1⟩
  exact ⟨rfl, h.below hb1, hb1⟩
end
end Go.Proofs.Ytcbaalodhgkgmaa
