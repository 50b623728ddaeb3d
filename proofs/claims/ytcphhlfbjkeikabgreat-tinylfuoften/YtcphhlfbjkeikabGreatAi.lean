/- An engine beside a row of the law's own: Access, Len, append onto the row, the row without a key. -/
import Derived.Test.YtcphhlfbjkeikabGreatAh
namespace Go.Proofs.YtcphhlfbjkeikabGreat
open Go.RowKit

theorem Row.rowIn {D : Nat → Prop} {w : World} {ad : Option Addr} {cap : Nat} {zs : List ByteArray} (h : Row D w ad cap zs) : RowIn Value.string w ad zs := by
  cases zs with
  | nil => exact .inl rfl
  | cons z zs =>
    obtain ⟨g, off, e, _, _, _⟩ := h.at (i := 0) (z := z) rfl
    refine .inr ⟨g, off, e, fun i y hy => ?_⟩
    obtain ⟨g2, off2, e2, _, hc, _⟩ := h.at hy
    rw [e] at e2
    cases e2
    exact hc
section
variable {D : Nat → Prop} {w w' : World} {e b : Nat} {s : Stt} {ad : Option Addr} {cap : Nat} {zs : List ByteArray}
theorem Beside.row {A : (Nat → Prop) → World → Prop} (h : Beside A ad cap zs D w) : RowIn Value.string w ad zs := by
  obtain ⟨_, _, _, h3⟩ := h
  exact h3.rowIn
theorem Beside.caps {A : (Nat → Prop) → World → Prop} (h : Beside A ad cap zs D w) : zs.length ≤ cap ∧ cap ≤ maxLen := by
  obtain ⟨_, _, _, h3⟩ := h
  exact ⟨h3.1, h3.2.1⟩
theorem Beside.eng (h : Beside (AE e b s) ad cap zs D w) : AE e b s D w := by
  obtain ⟨D1, h1, h2, _⟩ := h
  exact h2.wide (fun k _ hk => (h1 k hk).1)
theorem Beside.below (h : Beside (AE e b s) ad cap zs D w) (hb : Below w.heap.size w w') : Beside (AE e b s) ad cap zs D w' := by
  obtain ⟨D1, h1, h2, h3⟩ := h
  exact ⟨D1, fun g hg => ⟨(h1 g hg).1, Nat.lt_of_lt_of_le (h1 g hg).2 hb.size⟩, h2.below hb, h3.below hb⟩
/-- the row is another one, of new memory -/
theorem Beside.set {ad' : Option Addr} {cap' : Nat} {zs' : List ByteArray} (h : Beside (AE e b s) ad cap zs D w) (hD : ∀ k, w.heap.size ≤ k → D k) (hr : Row (w.heap.size ≤ ·) w' ad' cap' zs') (hb : Below w.heap.size w w') : Beside (AE e b s) ad' cap' zs' D w' := by
  obtain ⟨D1, h1, h2, _⟩ := h
  refine ⟨D1, fun g hg => ⟨(h1 g hg).1, Nat.lt_of_lt_of_le (h1 g hg).2 hb.size⟩, h2.below hb, hr.wide (fun k _ hk => ⟨hD k hk, fun h => ?_⟩)⟩
  have := (h1 k h).2
  omega
/-- the row has grown, in its own block or in a new one -/
theorem Beside.grow {ad' : Option Addr} {cap' : Nat} {zs' : List ByteArray} {D1 : Nat → Prop} (h1 : ∀ g, D1 g → D g ∧ g < w.heap.size) (hA : AE e b s D1 w) (hD : ∀ k, w.heap.size ≤ k → D k)
    (hr : Row (fun g => (D g ∧ ¬ D1 g) ∨ w.heap.size ≤ g) w' ad' cap' zs') (hk : Keeps (fun g => D g ∧ ¬ D1 g) w w') : Beside (AE e b s) ad' cap' zs' D w' ∧ Keeps D w w' := by
  refine ⟨⟨D1, fun g hg => ⟨(h1 g hg).1, Nat.lt_of_lt_of_le (h1 g hg).2 hk.size⟩, AE.kept hA hk (fun k _ h hn => hn.2 h), hr.wide (fun k _ h => ?_)⟩, hk.mono (fun _ _ h => h.1)⟩
  rcases h with h | h
  · exact h
  · refine ⟨hD k h, fun h2 => ?_⟩
    have := (h1 k h2).2
    omega
theorem Beside.acc (h : Beside (AE e b s) ad cap zs D w) (hok : A.Ok s) (hD : ∀ k, w.heap.size ≤ k → D k) (hb : b ≤ 600000) (key : ByteArray) (hk : key.size ≤ 1000) :
    ∃ f : ByteArray → Nat, Calls Tryz.prog 26 #[.pointer (some ⟨e, 0, none⟩), .string key] w fun ee w' => ∃ ad3 cap3, ee = .returned (.tuple #[.bool (A.access f s key).1, .slice ad3 (A.access f s key).2.1.length cap3]) ∧
      RowIn Value.string w' ad3 (A.access f s key).2.1 ∧ Beside (AE e (b + 2) (A.access f s key).2.2) ad cap zs D w' ∧ Keeps D w w' := by
  obtain ⟨D1, h1, hA, hR⟩ := h
  obtain ⟨f, hacc⟩ := accE_any (D := fun k => D1 k ∨ w.heap.size ≤ k) (hA.wide (fun _ _ h => .inl h)) hok (fun _ h => .inr h) hb key hk
  refine ⟨f, hacc.mono ?_⟩
  rintro ee w' ⟨ad3, cap3, rfl, ⟨D2, h21, hA2, hR3⟩, hk2⟩
  refine ⟨ad3, cap3, rfl, hR3.rowIn, ⟨D2, fun g hg => ?_, hA2, ?_⟩, hk2.mono ?_⟩
  · obtain ⟨h5, h6⟩ := h21 g hg
    rcases h5 with h5 | h5
    · exact ⟨(h1 g h5).1, h6⟩
    · exact ⟨hD g h5, h6⟩
  · refine (hR.narrow.kept hk2 ?_).wide ?_
    · rintro g ⟨⟨_, h3⟩, h4⟩ (h5 | h5)
      · exact h3 h5
      · omega
    · rintro g _ ⟨⟨h2, h3⟩, h4⟩
      refine ⟨h2, fun h5 => ?_⟩
      rcases (h21 g h5).1 with h6 | h6
      · exact h3 h6
      · omega
  · rintro k h3 (h | h)
    · exact (h1 k h).1
    · exact hD k h
/-- the row has grown, in its own block or in a new one -/
theorem Beside.growZ {ad' : Option Addr} {cap' : Nat} {zs' : List ByteArray} {D1 : Nat → Prop} {z : Dk} (h1 : ∀ g, D1 g → D g ∧ g < w.heap.size) (hA : AZ e z s D1 w) (hD : ∀ k, w.heap.size ≤ k → D k)
    (hr : Row (fun g => (D g ∧ ¬ D1 g) ∨ w.heap.size ≤ g) w' ad' cap' zs') (hk : Keeps (fun g => D g ∧ ¬ D1 g) w w') : Beside (AZ e z s) ad' cap' zs' D w' ∧ Keeps D w w' := by
  refine ⟨⟨D1, fun g hg => ⟨(h1 g hg).1, Nat.lt_of_lt_of_le (h1 g hg).2 hk.size⟩, AZ.kept hA hk (fun k _ h hn => hn.2 h), hr.wide (fun k _ h => ?_)⟩, hk.mono (fun _ _ h => h.1)⟩
  rcases h with h | h
  · exact h
  · refine ⟨hD k h, fun h2 => ?_⟩
    have := (h1 k h2).2
    omega
theorem Beside.accZ {z : Dk} (h : Beside (AZ e z s) ad cap zs D w) (hok : A.Ok s) (hD : ∀ k, w.heap.size ≤ k → D k) (key : ByteArray) (hk : key.size ≤ 1000) :
    Calls Tryz.prog 26 #[.pointer (some ⟨e, 0, none⟩), .string key] w fun ee w' => ∃ ad3 cap3, ee = .returned (.tuple #[.bool (A.access (fq (nt z key)) s key).1, .slice ad3 (A.access (fq (nt z key)) s key).2.1.length cap3]) ∧
      RowIn Value.string w' ad3 (A.access (fq (nt z key)) s key).2.1 ∧ Beside (AE e (b + 2) (A.access (fq (nt z key)) s key).2.2) ad cap zs D w' ∧ Keeps D w w' := by
  obtain ⟨D1, h1, hA, hR⟩ := h
  refine (_root_.Go.Proofs.YtcphhlfbjkeikabGreat.accZ (D := fun k => D1 k ∨ w.heap.size ≤ k) (hA.wide (fun _ _ h => .inl h)) hok (fun _ h => .inr h) key hk).mono ?_
  rintro ee w' ⟨ad3, cap3, rfl, ⟨D2, h21, hA2, hR3⟩, hk2⟩
  refine ⟨ad3, cap3, rfl, hR3.rowIn, ⟨D2, fun g hg => ?_, ⟨_, hA2⟩, ?_⟩, hk2.mono ?_⟩
  · obtain ⟨h5, h6⟩ := h21 g hg
    rcases h5 with h5 | h5
    · exact ⟨(h1 g h5).1, h6⟩
    · exact ⟨hD g h5, h6⟩
  · refine (hR.narrow.kept hk2 ?_).wide ?_
    · rintro g ⟨⟨_, h3⟩, h4⟩ (h5 | h5)
      · exact h3 h5
      · omega
    · rintro g _ ⟨⟨h2, h3⟩, h4⟩
      refine ⟨h2, fun h5 => ?_⟩
      rcases (h21 g h5).1 with h6 | h6
      · exact h3 h6
      · omega
  · rintro k h3 (h | h)
    · exact (h1 k h).1
    · exact hD k h
theorem Beside.len (h : Beside (AE e b s) ad cap zs D w) (hb : b ≤ 900000) : Calls Tryz.prog 37 #[.pointer (some ⟨e, 0, none⟩)] w fun ee w' => ee = .returned (.int .i64 ((A.keys s).length : Nat)) ∧ Beside (AE e b s) ad cap zs D w' ∧ Below w.heap.size w w' := by
  have hl := keys_any h.eng hb
  refine Calls.mono hl ?_
  rintro ee w' ⟨rfl, hb1⟩
  exact ⟨rfl, h.below hb1, hb1⟩
/-- the engine alone, an empty row beside it -/
theorem AE.beside (H : AE e b s D w) : Beside (AE e b s) none 0 [] D w := AE.bare H
end
end Go.Proofs.YtcphhlfbjkeikabGreat
