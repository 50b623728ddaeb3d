/- An engine as the machine of chapter 10: replace as a whole, adapt, admit. -/
import Derived.Test.YtfbdmoineahfgaaDoorEe
namespace Go.Proofs.YtfbdmoineahfgaaDoor
open Go.RowKit

section
variable {D : Nat → Prop} {w w' : World} {e b : Nat} {s : Stt}
theorem AE.bare {s : Stt} (H : AE e b s D w) : Beside (AE e b s) none 0 [] D w := ⟨_, fun _ h => h, H.narrow, Row.nil⟩
theorem Beside.more {b' : Nat} {ad : Option Addr} {cap : Nat} {zs : List ByteArray} (h : Beside (AE e b s) ad cap zs D w) (hb : b ≤ b') : Beside (AE e b' s) ad cap zs D w := by
  obtain ⟨D1, h1, h2, h3⟩ := h
  exact ⟨D1, h1, h2.more hb, h3⟩
/-- what is done with the engine leaves the row beside it alone -/
theorem Beside.step {b' : Nat} {s' : Stt} {ad : Option Addr} {cap : Nat} {zs : List ByteArray} {f : FuncId} {args : Array Value} {Qe : Ending → Prop} (h : Beside (AE e b s) ad cap zs D w) (hD : ∀ k, w.heap.size ≤ k → D k)
    (hc : ∀ D1, AE e b s D1 w → (∀ k, w.heap.size ≤ k → D1 k) → Calls Tryd.prog f args w fun ee w' => Qe ee ∧ AE e b' s' D1 w' ∧ Keeps D1 w w') :
    Calls Tryd.prog f args w fun ee w' => Qe ee ∧ Beside (AE e b' s') ad cap zs D w' ∧ Keeps D w w' := by
  obtain ⟨D1, h1, hA, hR⟩ := h
  refine (hc (fun k => D1 k ∨ w.heap.size ≤ k) (hA.wide (fun _ _ h => .inl h)) (fun _ h => .inr h)).mono ?_
  rintro ee w' ⟨hq, hA', hk⟩
  refine ⟨hq, ⟨fun k => (D1 k ∨ w.heap.size ≤ k) ∧ k < w'.heap.size, ?_, hA'.narrow, ?_⟩, hk.mono ?_⟩
  · rintro g ⟨h | h, h2⟩
    · exact ⟨(h1 g h).1, h2⟩
    · exact ⟨hD g h, h2⟩
  · refine (hR.narrow.kept hk ?_).wide ?_
    · rintro g ⟨⟨_, h3⟩, h4⟩ (h5 | h5)
      · exact h3 h5
      · omega
    · rintro g _ ⟨⟨h2, h3⟩, h4⟩
      refine ⟨h2, ?_⟩
      rintro ⟨h5 | h5, _⟩
      · exact h3 h5
      · omega
  · rintro k h3 (h | h)
    · exact (h1 k h).1
    · exact hD k h
theorem replace_any (H : AE e b s D w) (ho : Single s) (hD : ∀ k, w.heap.size ≤ k → D k) (hb : b ≤ 700000) (hlo : 1 ≤ s.c) (f : Bool) :
    Calls Tryd.prog 55 #[.pointer (some ⟨e, 0, none⟩), .bool f] w fun ee w' => ∃ ad cap, ee = .returned (.slice ad (rep s f).1.length cap) ∧ Beside (AE e (b + 1) (rep s f).2) ad cap (rep s f).1 D w' ∧ Keeps D w w' := by
  by_cases hl : s.t1.length + s.t2.length < s.c
  · have e1 : rep s f = ([], s) := by simp [rep, hl]
    rw [e1]
    refine (replace_room H hb f hl).mono ?_
    rintro ee w' ⟨rfl, hb1⟩
    exact ⟨_, _, rfl, ((H.below hb1).more (Nat.le_succ b)).bare, .of_below hb1⟩
  · refine (replace_full H ho hD hb hlo f (by omega)).mono ?_
    rintro ee w' ⟨g, s', ad, cap, hg, rfl, h1, h2⟩
    have e1 : rep s f = ([g], s') := by simp [rep, hl, hg]
    rw [e1]
    exact ⟨_, _, rfl, h1, h2⟩
end
end Go.Proofs.YtfbdmoineahfgaaDoor
