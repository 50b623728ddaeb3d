/- What the laws over a row of acts share: both made, the engine alone behind the acts, calls beside a row of the law's own. -/
import Derived.Test.YtcphhlfbjkeikabGreatAd9
import Derived.Test.YtcphhlfbjkeikabGreatAe
import Derived.Test.YtcphhlfbjkeikabGreatAi
import Derived.Test.YtcphhlfbjkeikabGreatCa
namespace Go.Proofs.YtcphhlfbjkeikabGreat
open Go.RowKit

section
variable {O D : Nat → Prop} {w w' : World} {e x b : Nat} {s : Stt} {ad : Option Addr} {cap : Nat} {zs : List ByteArray}
theorem key_size (H : AE e b s D w) {z : ByteArray} (h : z ∈ A.keys s) : z.size ≤ 1000 := H.sizes h
theorem keys_few (h : A.Ok s) : (A.keys s).length ≤ 1024 := Nat.le_trans h.res h.hi
theorem Two.leftO {A B : (Nat → Prop) → World → Prop} (la : Lies A) (h : Two A B O w) : A (fun k => ¬ O k) w := by
  obtain ⟨Da, Db, ha, hb, h1, h2, h3⟩ := h
  exact la.wide ha (fun k e => (h1 k e).2.1)
theorem Both.eng {n : Nat} (h : Both e x b s (fun k => k < n) w) : AE e b s (fun k => n ≤ k) w := by
  obtain ⟨z, y, hv, h⟩ := h
  exact ⟨z, AZ.wide (Two.leftO (AZ_lies e z s) h) (fun k _ hk => by omega)⟩
theorem Both.below (h : Both e x b s O w) (hb : Below w.heap.size w w') : Both e x b s O w' := by
  obtain ⟨z, y, hv, h⟩ := h
  exact ⟨z, y, hv, Two.below (AZ_lies e z s) (RE_lies x y s) h hb⟩
/-- new ones -/
def NE (e c : Nat) (D : Nat → Prop) (w : World) : Prop := ∃ pd pk, AZ e (zst pd pk c) (A.start c) D w
def RN (x c : Nat) (D : Nat → Prop) (w : World) : Prop := ∃ pd pk, RE x (zst pd pk c) (A.start c) D w
theorem newN_any (w : World) (D : Nat → Prop) (hD : ∀ k, w.heap.size ≤ k → D k) (n : Int) :
    Calls Tryz.prog 6 #[.int .i64 n] w fun ee w' => ∃ e, ee = .returned (.pointer (some ⟨e, 0, none⟩)) ∧ NE e (heldC n) D w' ∧ Keeps D w w' := by
  refine (newZ w D hD n).mono ?_
  rintro ee w' ⟨e, pd, pk, rfl, h, hk1⟩
  exact ⟨e, rfl, ⟨_, _, h⟩, hk1⟩
theorem rnewN_any (r : Int) (hD : ∀ k, w.heap.size ≤ k → D k) :
    Calls Tryz.prog 7 #[.int .i64 r] w fun ee w' => ∃ x, ee = .returned (.pointer (some ⟨x, 0, none⟩)) ∧ RN x (heldC r) D w' ∧ Keeps D w w' := by
  refine (rnew_eng r hD).mono ?_
  rintro ee w' ⟨x, pd, pk, rfl, h, hk1⟩
  exact ⟨x, rfl, ⟨_, _, h⟩, hk1⟩
theorem both_start {w1 w2 : World} {c : Nat} (H : NE e c (w.heap.size ≤ ·) w1) (h1 : w.heap.size ≤ w1.heap.size) (HX : RN x c (w1.heap.size ≤ ·) w2) (hk : Keeps (w1.heap.size ≤ ·) w1 w2) :
    Both e x 0 (A.start c) (fun k => k < w.heap.size) w2 := by
  obtain ⟨pd, pk, H⟩ := H
  obtain ⟨pd', pk', HX⟩ := HX
  exact ⟨zst pd pk c, zst pd' pk' c, ⟨rfl, rfl, rfl, rfl, rfl⟩, two_start (AZ_lies _ _ _) (RE_lies _ _ _) H h1 HX hk⟩
/-- a call on the engine leaves the row beside it alone -/
theorem Beside.on {b' : Nat} {s' : Stt} {f : FuncId} {args : Array Value} {Q : Ending → Prop} (h : Beside (AE e b s) ad cap zs D w) (hD : ∀ k, w.heap.size ≤ k → D k)
    (hc : ∀ D1, AE e b s D1 w → (∀ k, w.heap.size ≤ k → D1 k) → Calls Tryz.prog f args w fun ee w' => Q ee ∧ AE e b' s' D1 w' ∧ Keeps D1 w w') :
    Calls Tryz.prog f args w fun ee w' => Q ee ∧ Beside (AE e b' s') ad cap zs D w' ∧ Keeps D w w' := by
  obtain ⟨D1, h1, hA, hR⟩ := h
  refine (hc (fun k => D1 k ∨ w.heap.size ≤ k) (hA.wide (fun _ _ h => .inl h)) (fun _ h => .inr h)).mono ?_
  rintro ee w' ⟨hq, hA2, hk2⟩
  refine ⟨hq, ⟨fun k => (D1 k ∨ w.heap.size ≤ k) ∧ k < w'.heap.size, fun g hg => ?_, hA2.narrow, ?_⟩, hk2.mono ?_⟩
  · obtain ⟨h5, h6⟩ := hg
    rcases h5 with h5 | h5
    · exact ⟨(h1 g h5).1, h6⟩
    · exact ⟨hD g h5, h6⟩
  · refine (hR.narrow.kept hk2 ?_).wide ?_
    · rintro g ⟨⟨_, h3⟩, h4⟩ (h5 | h5)
      · exact h3 h5
      · omega
    · rintro g _ ⟨⟨h2, h3⟩, h4⟩
      refine ⟨h2, fun h5 => ?_⟩
      rcases h5.1 with h6 | h6
      · exact h3 h6
      · omega
  · rintro k h3 (h | h)
    · exact (h1 k h).1
    · exact hD k h
theorem Beside.has (h : Beside (AE e b s) ad cap zs D w) (hb : b ≤ 800000) (key : ByteArray) (hk : key.size ≤ 1000) :
    Calls Tryz.prog 11 #[.pointer (some ⟨e, 0, none⟩), .string key] w fun ee w' => ee = .returned (.bool (inb key (A.keys s))) ∧ Beside (AE e b s) ad cap zs D w' ∧ Below w.heap.size w w' := by
  refine (has_any h.eng (by omega) key hk).mono ?_
  rintro ee w' ⟨rfl, hb1⟩
  exact ⟨rfl, h.below hb1, hb1⟩
end
end Go.Proofs.YtcphhlfbjkeikabGreat
