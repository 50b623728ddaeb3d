/- An engine of chapter 14, whatever is done with it: what the laws read of it. -/
import Derived.Test.YtcphhlfbjkeikabGreatEn1
namespace Go.Proofs.YtcphhlfbjkeikabGreat
open Go.RowKit

/-- an engine in memory, its Door and its Sketch told -/
def AZ (e : Nat) (z : Dk) (s : Stt) (D : Nat → Prop) (w : World) : Prop := MB e z s D w ∧ Single s
/-- an engine in memory, whatever its Door and its Sketch hold (b: of no account) -/
def AE (e : Nat) (_b : Nat) (s : Stt) (D : Nat → Prop) (w : World) : Prop := ∃ z, AZ e z s D w
section
variable {D D' : Nat → Prop} {w w' : World} {e b : Nat} {s : Stt} {z : Dk}
theorem AZ.below (H : AZ e z s D w) (hb : Below w.heap.size w w') : AZ e z s D w' := ⟨H.1.below hb, H.2⟩
theorem AZ.kept (H : AZ e z s D w) (hk : Keeps D' w w') (hd : ∀ k, k < w.heap.size → D k → ¬ D' k) : AZ e z s D w' := by
  obtain ⟨⟨m, h⟩, h2⟩ := H
  exact ⟨⟨m, h.kept hk hd⟩, h2⟩
theorem AZ.wide (H : AZ e z s D w) (hD : ∀ k, k < w.heap.size → D k → D' k) : AZ e z s D' w := ⟨H.1.wide hD, H.2⟩
theorem AZ.narrow (H : AZ e z s D w) : AZ e z s (fun k => D k ∧ k < w.heap.size) w := H.wide (fun _ a h => ⟨h, a⟩)
theorem AZ.sizes (H : AZ e z s D w) {k : ByteArray} (h : k ∈ A.keys s) : k.size ≤ 1000 := by
  obtain ⟨⟨m, h1⟩, -⟩ := H
  obtain ⟨i, hi, hk⟩ := keys_in.1 h
  exact h1.size hi hk
theorem AE.below (H : AE e b s D w) (hb : Below w.heap.size w w') : AE e b s D w' := by obtain ⟨z, h⟩ := H; exact ⟨z, h.below hb⟩
theorem AE.kept (H : AE e b s D w) (hk : Keeps D' w w') (hd : ∀ k, k < w.heap.size → D k → ¬ D' k) : AE e b s D w' := by obtain ⟨z, h⟩ := H; exact ⟨z, h.kept hk hd⟩
theorem AE.wide (H : AE e b s D w) (hD : ∀ k, k < w.heap.size → D k → D' k) : AE e b s D' w := by obtain ⟨z, h⟩ := H; exact ⟨z, h.wide hD⟩
theorem AE.narrow (H : AE e b s D w) : AE e b s (fun k => D k ∧ k < w.heap.size) w := H.wide (fun _ a h => ⟨h, a⟩)
theorem AE.more {b' : Nat} (H : AE e b s D w) (_ : b ≤ b') : AE e b' s D w := H
theorem AE.sizes (H : AE e b s D w) {k : ByteArray} (h : k ∈ A.keys s) : k.size ≤ 1000 := by obtain ⟨z, h1⟩ := H; exact h1.sizes h
theorem AE.bare {s : Stt} (H : AE e b s D w) : Beside (AE e b s) none 0 [] D w := ⟨_, fun _ h => h, H.narrow, Row.nil⟩
theorem Beside.more {b' : Nat} {ad : Option Addr} {cap : Nat} {zs : List ByteArray} (h : Beside (AE e b s) ad cap zs D w) (hb : b ≤ b') : Beside (AE e b' s) ad cap zs D w := by
  obtain ⟨D1, h1, h2, h3⟩ := h
  exact ⟨D1, h1, h2.more hb, h3⟩
/-- what is done with the engine leaves the row beside it alone -/
theorem Beside.step {b' : Nat} {s' : Stt} {ad : Option Addr} {cap : Nat} {zs : List ByteArray} {f : FuncId} {args : Array Value} {Qe : Ending → Prop} (h : Beside (AE e b s) ad cap zs D w) (hD : ∀ k, w.heap.size ≤ k → D k)
    (hc : ∀ D1, AE e b s D1 w → (∀ k, w.heap.size ≤ k → D1 k) → Calls Tryz.prog f args w fun ee w' => Qe ee ∧ AE e b' s' D1 w' ∧ Keeps D1 w w') :
    Calls Tryz.prog f args w fun ee w' => Qe ee ∧ Beside (AE e b' s') ad cap zs D w' ∧ Keeps D w w' := by
  obtain ⟨D1, h1, hA, hR⟩ := h
  refine (hc (fun k => D1 k ∨ w.heap.size ≤ k) (hA.wide (fun _ _ h => .inl h)) (fun _ h => .inr h)).mono ?_
  rintro ee w' ⟨hq, hA', hk⟩
  refine ⟨hq, ⟨fun k => (D1 k ∨ w.heap.size ≤ k) ∧ k < w'.heap.size, ?_, hA'.narrow, ?_⟩, hk.mono ?_⟩
  · rintro g ⟨h | h, h2⟩
    · exact ⟨(h1 g h).1, h2⟩
    · exact ⟨hD g h, h2⟩
  · refine (hR.narrow.kept hk ?_).wide ?_
    · rintro g ⟨⟨_, h3⟩, h4⟩ (h5 | h5)
      · exact h3 h5
      · omega
    · rintro g _ ⟨⟨h2, h3⟩, h4⟩
      refine ⟨h2, ?_⟩
      rintro ⟨h5 | h5, _⟩
      · exact h3 h5
      · omega
  · rintro k h3 (h | h)
    · exact (h1 k h).1
    · exact hD k h
/-- what Access answers: whether it was a hit, and a row that is none of the engine's -/
def SaysZ (e : Nat) (z : Dk) (r : Bool × List ByteArray × Stt) (D : Nat → Prop) (w : World) (ee : Ending) (w' : World) : Prop :=
  ∃ ad cap, ee = .returned (.tuple #[.bool r.1, .slice ad r.2.1.length cap]) ∧ Beside (AZ e z r.2.2) ad cap r.2.1 D w' ∧ Keeps D w w'
def SaysE (e b : Nat) (r : Bool × List ByteArray × Stt) (D : Nat → Prop) (w : World) (ee : Ending) (w' : World) : Prop :=
  ∃ ad cap, ee = .returned (.tuple #[.bool r.1, .slice ad r.2.1.length cap]) ∧ Beside (AE e b r.2.2) ad cap r.2.1 D w' ∧ Keeps D w w'
theorem accZ (H : AZ e z s D w) (hok : A.Ok s) (hD : ∀ k, w.heap.size ≤ k → D k) (key : ByteArray) (hk : key.size ≤ 1000) :
    Calls Tryz.prog 26 #[.pointer (some ⟨e, 0, none⟩), .string key] w (SaysZ e (nt z key) (A.access (fq (nt z key)) s key) D w) := by
  refine (acc_any H.1 hok hD key hk).mono ?_
  rintro ee w' ⟨ad, cap, rfl, ⟨D1, h1, h2, h3⟩, hk1⟩
  exact ⟨ad, cap, rfl, ⟨D1, h1, ⟨h2, Single.of (A.acc_any hok key).1⟩, h3⟩, hk1⟩
theorem accE_any (H : AE e b s D w) (hok : A.Ok s) (hD : ∀ k, w.heap.size ≤ k → D k) (_ : b ≤ 600000) (key : ByteArray) (hk : key.size ≤ 1000) :
    ∃ f : ByteArray → Nat, Calls Tryz.prog 26 #[.pointer (some ⟨e, 0, none⟩), .string key] w (SaysE e (b + 2) (A.access f s key) D w) := by
  obtain ⟨z, H⟩ := H
  refine ⟨fq (nt z key), (accZ H hok hD key hk).mono ?_⟩
  rintro ee w' ⟨ad, cap, rfl, ⟨D1, h1, h2, h3⟩, hk1⟩
  exact ⟨ad, cap, rfl, ⟨D1, h1, ⟨_, h2⟩, h3⟩, hk1⟩
theorem loadZ (H : AZ e z s D w) (hok : A.Ok s) (hD : ∀ k, w.heap.size ≤ k → D k) (key : ByteArray) (hk : key.size ≤ 1000) :
    Calls Tryz.prog 28 #[.pointer (some ⟨e, 0, none⟩), .string key] w fun ee w' => ee = .returned (.bool (A.load s key).1) ∧ AZ e z (A.load s key).2 D w' ∧ Keeps D w w' := by
  obtain ⟨⟨m, h⟩, -⟩ := H
  refine (loadM h hok hD key hk).mono ?_
  rintro ee w' ⟨rfl, h, hk1⟩
  exact ⟨rfl, ⟨h, Single.of (A.load_any hok key).1⟩, hk1⟩
theorem load_any (H : AE e b s D w) (hok : A.Ok s) (hD : ∀ k, w.heap.size ≤ k → D k) (_ : b ≤ 600000) (key : ByteArray) (hk : key.size ≤ 1000) :
    Calls Tryz.prog 28 #[.pointer (some ⟨e, 0, none⟩), .string key] w fun ee w' => ee = .returned (.bool (A.load s key).1) ∧ AE e (b + 1) (A.load s key).2 D w' ∧ Keeps D w w' := by
  obtain ⟨z, h⟩ := H
  exact (loadZ h hok hD key hk).mono (by rintro ee w' ⟨rfl, h, hk1⟩; exact ⟨rfl, ⟨z, h⟩, hk1⟩)
theorem removeZ (H : AZ e z s D w) (hok : A.Ok s) (hD : ∀ k, w.heap.size ≤ k → D k) (key : ByteArray) (hk : key.size ≤ 1000) :
    Calls Tryz.prog 30 #[.pointer (some ⟨e, 0, none⟩), .string key] w fun ee w' => ee = .returned (.bool (A.remove s key).1) ∧ AZ e z (A.remove s key).2 D w' ∧ Keeps D w w' := by
  obtain ⟨⟨m, h⟩, -⟩ := H
  refine (removeM h hok hD key hk).mono ?_
  rintro ee w' ⟨rfl, h, hk1⟩
  exact ⟨rfl, ⟨h, Single.of (A.rem_any hok key).1⟩, hk1⟩
theorem remove_any (H : AE e b s D w) (hok : A.Ok s) (hD : ∀ k, w.heap.size ≤ k → D k) (_ : b ≤ 600000) (key : ByteArray) (hk : key.size ≤ 1000) :
    Calls Tryz.prog 30 #[.pointer (some ⟨e, 0, none⟩), .string key] w fun ee w' => ee = .returned (.bool (A.remove s key).1) ∧ AE e b (A.remove s key).2 D w' ∧ Keeps D w w' := by
  obtain ⟨z, h⟩ := H
  exact (removeZ h hok hD key hk).mono (by rintro ee w' ⟨rfl, h, hk1⟩; exact ⟨rfl, ⟨z, h⟩, hk1⟩)
theorem evictZ (H : AZ e z s D w) (hok : A.Ok s) (hD : ∀ k, w.heap.size ≤ k → D k) :
    Calls Tryz.prog 32 #[.pointer (some ⟨e, 0, none⟩)] w fun ee w' => ee = .returned (wentV (A.evict s).1) ∧ AZ e z (A.evict s).2 D w' ∧ Keeps D w w' := by
  obtain ⟨⟨m, h⟩, -⟩ := H
  refine (evictM h hok hD).mono ?_
  rintro ee w' ⟨rfl, h, hk1⟩
  exact ⟨rfl, ⟨h, Single.of (A.evi_any hok).1⟩, hk1⟩
theorem evictE_any (H : AE e b s D w) (hok : A.Ok s) (hD : ∀ k, w.heap.size ≤ k → D k) (_ : b ≤ 600000) :
    Calls Tryz.prog 32 #[.pointer (some ⟨e, 0, none⟩)] w fun ee w' => ee = .returned (wentV (A.evict s).1) ∧ AE e (b + 1) (A.evict s).2 D w' ∧ Keeps D w w' := by
  obtain ⟨z, h⟩ := H
  exact (evictZ h hok hD).mono (by rintro ee w' ⟨rfl, h, hk1⟩; exact ⟨rfl, ⟨z, h⟩, hk1⟩)
theorem hasZ (H : AZ e z s D w) (key : ByteArray) (hk : key.size ≤ 1000) :
    Calls Tryz.prog 11 #[.pointer (some ⟨e, 0, none⟩), .string key] w fun ee w' => ee = .returned (.bool (inb key (A.keys s))) ∧ Below w.heap.size w w' := by obtain ⟨⟨m, h⟩, -⟩ := H; exact hasM h key hk
theorem has_any (H : AE e b s D w) (_ : b ≤ 900000) (key : ByteArray) (hk : key.size ≤ 1000) :
    Calls Tryz.prog 11 #[.pointer (some ⟨e, 0, none⟩), .string key] w fun ee w' => ee = .returned (.bool (inb key (A.keys s))) ∧ Below w.heap.size w w' := by obtain ⟨z, h⟩ := H; exact hasZ h key hk
theorem lenZ (H : AZ e z s D w) : Calls Tryz.prog 37 #[.pointer (some ⟨e, 0, none⟩)] w fun ee w' => ee = .returned (.int .i64 ((A.keys s).length : Nat)) ∧ Below w.heap.size w w' := by
  obtain ⟨⟨m, h⟩, ho⟩ := H
  refine (lenM h ho).mono ?_
  rintro ee w' ⟨rfl, rfl⟩
  exact ⟨rfl, Below.refl _ _⟩
theorem keys_any (H : AE e b s D w) (_ : b ≤ 900000) : Calls Tryz.prog 37 #[.pointer (some ⟨e, 0, none⟩)] w fun ee w' => ee = .returned (.int .i64 ((A.keys s).length : Nat)) ∧ Below w.heap.size w w' := by obtain ⟨z, h⟩ := H; exact lenZ h
theorem keysZ (H : AZ e z s D w) :
    Calls Tryz.prog 14 #[.pointer (some ⟨e, 0, none⟩)] w fun ee w' => ∃ ad cap, ee = .returned (.slice ad (A.keys s).length cap) ∧ Row (w.heap.size ≤ ·) w' ad cap (A.keys s) ∧ Below w.heap.size w w' := by
  obtain ⟨⟨m, h⟩, ho⟩ := H
  exact keysEM h ho (by have := keysN_len h 3 (by omega); rw [keysN_all] at this; omega)
theorem keysE_any (H : AE e b s D w) (_ : b ≤ 100000) :
    Calls Tryz.prog 14 #[.pointer (some ⟨e, 0, none⟩)] w fun ee w' => ∃ ad cap, ee = .returned (.slice ad (A.keys s).length cap) ∧ Row (w.heap.size ≤ ·) w' ad cap (A.keys s) ∧ Below w.heap.size w w' := by obtain ⟨z, h⟩ := H; exact keysZ h
theorem ghostsZ (H : AZ e z s D w) : Calls Tryz.prog 15 #[.pointer (some ⟨e, 0, none⟩)] w fun ee w' => ee = .returned (.slice none 0 0) ∧ w' = w := by obtain ⟨⟨m, h⟩, -⟩ := H; exact ghostsEM h
theorem ghosts_any (H : AE e b s D w) : Calls Tryz.prog 15 #[.pointer (some ⟨e, 0, none⟩)] w fun ee w' => ee = .returned (.slice none 0 0) ∧ w' = w := by obtain ⟨z, h⟩ := H; exact ghostsZ h
theorem stateZ (H : AZ e z s D w) : Calls Tryz.prog 16 #[.pointer (some ⟨e, 0, none⟩)] w fun ee w' => ee = .returned (.string ⟨(stB (qs s) 3).toArray⟩) ∧ Below w.heap.size w w' := by obtain ⟨⟨m, h⟩, -⟩ := H; exact state_any h (by omega)
theorem stateE_any (H : AE e b s D w) : Calls Tryz.prog 16 #[.pointer (some ⟨e, 0, none⟩)] w fun ee w' => ee = .returned (.string ⟨(stB (qs s) 3).toArray⟩) ∧ Below w.heap.size w w' := by obtain ⟨z, h⟩ := H; exact stateZ h
end
theorem newZ (w : World) (D : Nat → Prop) (hD : ∀ k, w.heap.size ≤ k → D k) (n : Int) :
    Calls Tryz.prog 6 #[.int .i64 n] w fun ee w' => ∃ e pd pk, ee = .returned (.pointer (some ⟨e, 0, none⟩)) ∧ AZ e (zst pd pk (heldC n)) (A.start (heldC n)) D w' ∧ Keeps D w w' := by
  refine (newM w D hD n).mono ?_
  rintro ee w' ⟨e, pd, pk, rfl, h, hk1⟩
  exact ⟨e, pd, pk, rfl, ⟨h, Single.of (A.start_ok (heldC_in n).1 (heldC_in n).2)⟩, hk1⟩
theorem new_any (w : World) (D : Nat → Prop) (hD : ∀ k, w.heap.size ≤ k → D k) (n : Int) :
    Calls Tryz.prog 6 #[.int .i64 n] w fun ee w' => ∃ e, ee = .returned (.pointer (some ⟨e, 0, none⟩)) ∧ AE e 0 (A.start (heldC n)) D w' ∧ Keeps D w w' := by
  refine (newZ w D hD n).mono ?_
  rintro ee w' ⟨e, pd, pk, rfl, h, hk1⟩
  exact ⟨e, rfl, ⟨_, h⟩, hk1⟩
end Go.Proofs.YtcphhlfbjkeikabGreat
