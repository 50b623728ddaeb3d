/- An engine of chapter 13, whatever is done with it: what the laws read of it. -/
import Derived.Test.YtcbaalodhgkgmaaEn1
import Derived.Test.YtcbaalodhgkgmaaCa
namespace Go.Proofs.Ytcbaalodhgkgmaa
open Go.RowKit

/-- an engine in memory, its rows as they always are -/
def AE (e b : Nat) (s : Stt) (D : Nat → Prop) (w : World) : Prop := AM e b s D w ∧ A.Base s
section
variable {D D' : Nat → Prop} {w w' : World} {e b : Nat} {s : Stt}
theorem AE.below (H : AE e b s D w) (hb : Below w.heap.size w w') : AE e b s D w' := ⟨H.1.below hb, H.2⟩
theorem AE.kept (H : AE e b s D w) (hk : Keeps D' w w') (hd : ∀ k, k < w.heap.size → D k → ¬ D' k) : AE e b s D w' := ⟨EN.kept H.1 hk hd, H.2⟩
theorem AE.wide (H : AE e b s D w) (hD : ∀ k, k < w.heap.size → D k → D' k) : AE e b s D' w := ⟨H.1.wide hD, H.2⟩
theorem AE.narrow (H : AE e b s D w) : AE e b s (fun k => D k ∧ k < w.heap.size) w := H.wide (fun _ a h => ⟨h, a⟩)
theorem AE.more {b' : Nat} (H : AE e b s D w) (_ : b ≤ b') : AE e b' s D w := H
theorem AE.sizes (H : AE e b s D w) {k : ByteArray} (h : k ∈ A.keys s) : k.size ≤ 1000 := by
  rw [A.mem_keys, A.mem_hots] at h
  exact H.1.size (by rcases h with h | h; exact .inr (.inl h); exact .inl h.1)
theorem AE.gsizes (H : AE e b s D w) {k : ByteArray} (h : k ∈ A.ghosts s) : k.size ≤ 1000 := H.1.size (.inr (.inr h))
theorem AE.bare {s : Stt} (H : AE e b s D w) : Beside (AE e b s) none 0 [] D w := ⟨_, fun _ h => h, H.narrow, Row.nil⟩
theorem Beside.more {b' : Nat} {ad : Option Addr} {cap : Nat} {zs : List ByteArray} (h : Beside (AE e b s) ad cap zs D w) (hb : b ≤ b') : Beside (AE e b' s) ad cap zs D w := by
  obtain ⟨D1, h1, h2, h3⟩ := h
  exact ⟨D1, h1, h2.more hb, h3⟩
/-- what is done with the engine leaves the row beside it alone -/
theorem Beside.step {b' : Nat} {s' : Stt} {ad : Option Addr} {cap : Nat} {zs : List ByteArray} {f : FuncId} {args : Array Value} {Qe : Ending → Prop} (h : Beside (AE e b s) ad cap zs D w) (hD : ∀ k, w.heap.size ≤ k → D k)
    (hc : ∀ D1, AE e b s D1 w → (∀ k, w.heap.size ≤ k → D1 k) → Calls Try.prog f args w fun ee w' => Qe ee ∧ AE e b' s' D1 w' ∧ Keeps D1 w w') :
    Calls Try.prog f args w fun ee w' => Qe ee ∧ Beside (AE e b' s') ad cap zs D w' ∧ Keeps D w w' := by
  obtain ⟨D1, h1, hA, hR⟩ := h
  refine (hc (fun k => D1 k ∨ w.heap.size ≤ k) (hA.wide (fun _ _ h => .inl h)) (fun _ h => .inr h)).mono ?_
  rintro ee w' ⟨hq, hA', hk⟩
  refine ⟨hq, ⟨fun k => (D1 k ∨ w.heap.size ≤ k) ∧ k < w'.heap.size, ?_, hA'.narrow, ?_⟩, hk.mono ?_⟩
  · rintro g ⟨h | h, h2⟩
    · exact ⟨(h1 g h).1, h2⟩
    · exact ⟨hD g h, h2⟩
  · refine (hR.narrow.kept hk ?_).wide ?_
    · rintro g ⟨⟨_, h3⟩, h4⟩ (h5 | h5)
      · exact h3 h5
      · omega
    · rintro g _ ⟨⟨h2, h3⟩, h4⟩
      refine ⟨h2, ?_⟩
      rintro ⟨h5 | h5, _⟩
      · exact h3 h5
      · omega
  · rintro k h3 (h | h)
    · exact (h1 k h).1
    · exact hD k h
/-- what Access answers: whether it was a hit, and a row that is none of the engine's -/
def Says (e b : Nat) (r : Bool × List ByteArray × Stt) (D : Nat → Prop) (w : World) (ee : Ending) (w' : World) : Prop :=
  ∃ ad cap, ee = .returned (.tuple #[.bool r.1, .slice ad r.2.1.length cap]) ∧ Beside (AE e b r.2.2) ad cap r.2.1 D w' ∧ Keeps D w w'
theorem acc_any (H : AE e b s D w) (hok : A.Ok s) (hD : ∀ k, w.heap.size ≤ k → D k) (hb : b ≤ 600000) (key : ByteArray) (hk : key.size ≤ 1000) :
    Calls Try.prog 28 #[.pointer (some ⟨e, 0, none⟩), .string key] w (Says e (b + 2) (A.access s key) D w) := by
  refine (accM H.1 hok hD hb key hk).mono ?_
  rintro ee w' ⟨ad, cap, rfl, ⟨D1, h1, h2, h3⟩, hk1⟩
  exact ⟨ad, cap, rfl, ⟨D1, h1, ⟨h2, (A.acc_any hok key).1.toBase⟩, h3⟩, hk1⟩
theorem room_any (H : AE e b s D w) : Calls Try.prog 22 #[.pointer (some ⟨e, 0, none⟩)] w fun ee w' => ee = .returned (.int .i64 (s.c : Nat)) ∧ w' = w := roomM H.1
theorem load_any (H : AE e b s D w) (hok : A.Ok s) (hD : ∀ k, w.heap.size ≤ k → D k) (hb : b ≤ 600000) (key : ByteArray) (hk : key.size ≤ 1000) :
    Calls Try.prog 32 #[.pointer (some ⟨e, 0, none⟩), .string key] w fun ee w' => ee = .returned (.bool (A.load s key).1) ∧ AE e (b + 1) (A.load s key).2 D w' ∧ Keeps D w w' := by
  refine (loadM H.1 hok hD hb key hk).mono ?_
  rintro ee w' ⟨rfl, h, hk1⟩
  exact ⟨rfl, ⟨h, (A.load_any hok key).1.toBase⟩, hk1⟩
theorem remove_any (H : AE e b s D w) (hok : A.Ok s) (hD : ∀ k, w.heap.size ≤ k → D k) (hb : b ≤ 600000) (key : ByteArray) (hk : key.size ≤ 1000) :
    Calls Try.prog 33 #[.pointer (some ⟨e, 0, none⟩), .string key] w fun ee w' => ee = .returned (.bool (A.remove s key).1) ∧ AE e b (A.remove s key).2 D w' ∧ Keeps D w w' := by
  refine (removeM H.1 hok hD hb key hk).mono ?_
  rintro ee w' ⟨rfl, h, hk1⟩
  exact ⟨rfl, ⟨h, (A.rem_any hok key).1.toBase⟩, hk1⟩
theorem evictE_any (H : AE e b s D w) (hok : A.Ok s) (hD : ∀ k, w.heap.size ≤ k → D k) (hb : b ≤ 600000) :
    Calls Try.prog 31 #[.pointer (some ⟨e, 0, none⟩)] w fun ee w' => ee = .returned (wentV (A.evict s).1) ∧ AE e (b + 1) (A.evict s).2 D w' ∧ Keeps D w w' := by
  refine (evictM H.1 hok hD hb).mono ?_
  rintro ee w' ⟨rfl, h, hk1⟩
  exact ⟨rfl, ⟨h, (A.evi_any hok).1.toBase⟩, hk1⟩
theorem has_any (H : AE e b s D w) (_ : b ≤ 900000) (key : ByteArray) (hk : key.size ≤ 1000) :
    Calls Try.prog 30 #[.pointer (some ⟨e, 0, none⟩), .string key] w fun ee w' => ee = .returned (.bool (inb key (A.keys s))) ∧ Below w.heap.size w w' := hasE H.1 H.2 key hk
theorem keys_any (H : AE e b s D w) (_ : b ≤ 900000) : Calls Try.prog 15 #[.pointer (some ⟨e, 0, none⟩)] w fun ee w' => ee = .returned (.int .i64 ((A.keys s).length : Nat)) ∧ Below w.heap.size w w' := by
  refine (lenA H.1 H.2).mono ?_
  rintro ee w' ⟨rfl, rfl⟩
  exact ⟨rfl, Below.refl _ _⟩
theorem keysE_any (H : AE e b s D w) (hb : b ≤ 100000) :
    Calls Try.prog 18 #[.pointer (some ⟨e, 0, none⟩)] w fun ee w' => ∃ ad cap, ee = .returned (.slice ad (A.keys s).length cap) ∧ Row (w.heap.size ≤ ·) w' ad cap (A.keys s) ∧ Below w.heap.size w w' := keysEM H.1 hb
theorem ghostsE_any (H : AE e b s D w) (hb : b ≤ 100000) :
    Calls Try.prog 20 #[.pointer (some ⟨e, 0, none⟩)] w fun ee w' => ∃ ad cap, ee = .returned (.slice ad (A.ghosts s).length cap) ∧ Row (w.heap.size ≤ ·) w' ad cap (A.ghosts s) ∧ Below w.heap.size w w' := ghostsEM H.1 hb
theorem stateE_any (H : AE e b s D w) : Calls Try.prog 13 #[.pointer (some ⟨e, 0, none⟩)] w fun ee w' => ee = .returned (.string ⟨(stB (qs s)).toArray⟩) ∧ Below w.heap.size w w' := state_any H.1 (by omega)
end
theorem new_any (w : World) (D : Nat → Prop) (hD : ∀ k, w.heap.size ≤ k → D k) (n : Int) :
    Calls Try.prog 10 #[.int .i64 n] w fun ee w' => ∃ e, ee = .returned (.pointer (some ⟨e, 0, none⟩)) ∧ AE e 0 (A.start (heldC n)) D w' ∧ Keeps D w w' := by
  refine (newM w D hD n).mono ?_
  rintro ee w' ⟨e, rfl, h, hk1⟩
  exact ⟨e, rfl, ⟨h, (A.start_ok (heldC_in n).1 (heldC_in n).2).toBase⟩, hk1⟩
end Go.Proofs.Ytcbaalodhgkgmaa
