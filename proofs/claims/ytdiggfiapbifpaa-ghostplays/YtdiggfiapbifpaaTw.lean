/- Two things in memory side by side: whoever writes into one leaves the other alone. -/
import Derived.Test.YtdiggfiapbifpaaRg
namespace Go.Proofs.Ytdiggfiapbifpaa
open Go.RowKit

/-- what can be said of blocks D alone -/
structure Lies (A : (Nat → Prop) → World → Prop) : Prop where
  kept : ∀ {D D' : Nat → Prop} {w w' : World}, A D w → Keeps D' w w' → (∀ k, D k → ¬ D' k) → A D w'
  wide : ∀ {D D' : Nat → Prop} {w : World}, A D w → (∀ k, D k → D' k) → A D' w
  narrow : ∀ {D : Nat → Prop} {w : World}, A D w → A (fun k => D k ∧ k < w.heap.size) w
/-- both in memory, apart from each other and from the blocks O -/
def Two (A B : (Nat → Prop) → World → Prop) (O : Nat → Prop) (w : World) : Prop :=
  ∃ Da Db : Nat → Prop, A Da w ∧ B Db w ∧ (∀ k, Da k → ¬ Db k ∧ ¬ O k ∧ k < w.heap.size) ∧ (∀ k, Db k → ¬ O k ∧ k < w.heap.size) ∧ ∀ k, O k → k < w.heap.size
section
variable {A A' B B' : (Nat → Prop) → World → Prop} {O : Nat → Prop} {w : World}
theorem Two.onA (la' : Lies A') (lb : Lies B) (la : Lies A) {f : FuncId} {args : Array Value} {Q : Ending → Prop} (h : Two A B O w)
    (hc : ∀ D, A D w → (∀ k, w.heap.size ≤ k → D k) → Calls Try.prog f args w fun e w' => Q e ∧ A' D w' ∧ Keeps D w w') :
    Calls Try.prog f args w fun e w' => Q e ∧ Two A' B O w' ∧ Keeps (fun k => ¬ O k) w w' := by
  obtain ⟨Dl, Dx, hl, hx, h1, h2, h3⟩ := h
  refine (hc (fun k => Dl k ∨ w.heap.size ≤ k) (la.wide hl (fun k e => .inl e)) (fun k e => .inr e)).mono ?_
  rintro e w' ⟨he, hl', hk⟩
  have hs := hk.size
  refine ⟨he, ⟨_, Dx, la'.narrow hl', lb.kept hx hk ?_, ?_, fun k e => ⟨(h2 k e).1, by have := (h2 k e).2; omega⟩, fun k e => by have := h3 k e; omega⟩, hk.mono ?_⟩
  · rintro k e (e2 | e2)
    · exact (h1 k e2).1 e
    · have := (h2 k e).2; omega
  · rintro k ⟨e | e, e2⟩
    · exact ⟨(h1 k e).1, (h1 k e).2.1, e2⟩
    · exact ⟨fun e3 => by have := (h2 k e3).2; omega, fun e3 => by have := h3 k e3; omega, e2⟩
  · rintro k _ (e | e) e2
    · exact (h1 k e).2.1 e2
    · have := h3 k e2; omega
theorem Two.onB (lb' : Lies B') (la : Lies A) (lb : Lies B) {f : FuncId} {args : Array Value} {Q : Ending → Prop} (h : Two A B O w)
    (hc : ∀ D, B D w → (∀ k, w.heap.size ≤ k → D k) → Calls Try.prog f args w fun e w' => Q e ∧ B' D w' ∧ Keeps D w w') :
    Calls Try.prog f args w fun e w' => Q e ∧ Two A B' O w' ∧ Keeps (fun k => ¬ O k) w w' := by
  obtain ⟨Dl, Dx, hl, hx, h1, h2, h3⟩ := h
  refine (hc (fun k => Dx k ∨ w.heap.size ≤ k) (lb.wide hx (fun k e => .inl e)) (fun k e => .inr e)).mono ?_
  rintro e w' ⟨he, hx', hk⟩
  have hs := hk.size
  refine ⟨he, ⟨Dl, _, la.kept hl hk ?_, lb'.narrow hx', ?_, ?_, fun k e => by have := h3 k e; omega⟩, hk.mono ?_⟩
  · rintro k e (e2 | e2)
    · exact (h1 k e).1 e2
    · have := (h1 k e).2.2; omega
  · intro k e
    refine ⟨?_, (h1 k e).2.1, by have := (h1 k e).2.2; omega⟩
    rintro ⟨e2 | e2, _⟩
    · exact (h1 k e).1 e2
    · have := (h1 k e).2.2; omega
  · rintro k ⟨e | e, e2⟩
    · exact ⟨(h2 k e).1, e2⟩
    · exact ⟨fun e3 => by have := h3 k e3; omega, e2⟩
  · rintro k _ (e | e) e2
    · exact (h2 k e).1 e2
    · have := h3 k e2; omega
theorem Two.below (la : Lies A) (lb : Lies B) {w' : World} (h : Two A B O w) (hb : Below w.heap.size w w') : Two A B O w' := by
  obtain ⟨Dl, Dx, hl, hx, h1, h2, h3⟩ := h
  have hs := hb.size
  exact ⟨Dl, Dx, la.kept (D' := fun _ => False) hl (.of_below hb) (fun _ _ e => e), lb.kept (D' := fun _ => False) hx (.of_below hb) (fun _ _ e => e), fun k e => ⟨(h1 k e).1, (h1 k e).2.1, by have := (h1 k e).2.2; omega⟩, fun k e => ⟨(h2 k e).1, by have := (h2 k e).2; omega⟩, fun k e => by have := h3 k e; omega⟩
theorem Two.left (h : Two A B O w) : ∃ D, A D w := by
  obtain ⟨Dl, Dx, hl, _⟩ := h; exact ⟨_, hl⟩
theorem Two.right (h : Two A B O w) : ∃ D, B D w := by
  obtain ⟨Dl, Dx, _, hx, _⟩ := h; exact ⟨_, hx⟩
theorem Keeps.old {w' : World} {B : Nat} (h : Keeps (fun k => ¬ k < B) w w') (hB : B ≤ w.heap.size) : Below B w w' := h.below hB (fun k e => by omega)
/-- both, at the start -/
theorem two_start (la : Lies A) (lb : Lies B) {w w1 w2 : World} (H : A (w.heap.size ≤ ·) w1) (h1 : w.heap.size ≤ w1.heap.size) (HX : B (w1.heap.size ≤ ·) w2) (hk : Keeps (w1.heap.size ≤ ·) w1 w2) :
    Two A B (fun k => k < w.heap.size) w2 := by
  have hs := hk.size
  refine ⟨_, _, la.kept (la.narrow H) hk ?_, lb.narrow HX, ?_, ?_, ?_⟩
  · rintro k ⟨_, e⟩ e2; omega
  · rintro k ⟨e1, e2⟩
    exact ⟨fun e => by omega, by omega, by omega⟩
  · rintro k ⟨e1, e2⟩
    exact ⟨by omega, e2⟩
  · intro k e; omega
end
theorem GH_lies (e c b : Nat) (Q : List ByteArray) : Lies (GH e c b Q) :=
  ⟨fun h hk hd => GH.kept h hk (fun k _ hx => hd k hx), fun h hD => GH.wide h (fun k _ hx => hD k hx), fun h => GH.wide h (fun _ hk hx => ⟨hx, hk⟩)⟩
theorem RX_lies (x c : Nat) (Q : List ByteArray) : Lies (RX x c Q) :=
  ⟨fun h hk hd => RX.kept h hk (fun k _ hx => hd k hx), fun h hD => RX.wide h (fun k _ hx => hD k hx), fun h => RX.wide h (fun _ hk hx => ⟨hx, hk⟩)⟩
/-- both side by side -/
abbrev Both (e x c b : Nat) (Q : List ByteArray) (O : Nat → Prop) (w : World) : Prop := Two (GH e c b Q) (RX x c Q) O w
section
variable {O : Nat → Prop} {w w' : World} {e x c b : Nat} {Q : List ByteArray}
theorem Both.below (h : Both e x c b Q O w) (hb : Below w.heap.size w w') : Both e x c b Q O w' := Two.below (GH_lies _ _ _ _) (RX_lies _ _ _) h hb
theorem Both.more (h : Both e x c b Q O w) : Both e x c (b + 1) Q O w := by
  obtain ⟨Da, Db, h1, h2⟩ := h
  exact ⟨Da, Db, h1.more (by omega), h2⟩
variable {Q' : List ByteArray}
theorem add_left (H : Both e x c b Q O w) (hok : G.Ok c Q) (hb : b ≤ 800000) (k : ByteArray) (hk : k.size ≤ 1000) :
    Calls Try.prog 10 #[.pointer (some ⟨e, 0, none⟩), .string k] w fun ee w' => ee = .returned (told (G.add c Q k).1) ∧ Two (GH e c (b + 1) (G.add c Q k).2) (RX x c Q) O w' ∧ Keeps (fun k => ¬ O k) w w' :=
  Two.onA (GH_lies _ _ _ _) (RX_lies _ _ _) (GH_lies _ _ _ _) H (fun _ hA hD => add_any hA hok hD hb k hk)
theorem add_right (H : Two (GH e c b Q') (RX x c Q) O w) (hl : Q.length ≤ 100000) (k : ByteArray) :
    Calls Try.prog 11 #[.pointer (some ⟨x, 0, none⟩), .string k] w fun ee w' => ee = .returned (told (G.add c Q k).1) ∧ Two (GH e c b Q') (RX x c (G.add c Q k).2) O w' ∧ Keeps (fun k => ¬ O k) w w' :=
  Two.onB (RX_lies _ _ _) (GH_lies _ _ _ _) (RX_lies _ _ _) H (fun _ hB hD => radd_any hB hD hl k)
theorem take_left (H : Two (GH e c b Q) (RX x c Q') O w) (hb : b ≤ 800000) (k : ByteArray) (hk : k.size ≤ 1000) :
    Calls Try.prog 12 #[.pointer (some ⟨e, 0, none⟩), .string k] w fun ee w' => ee = .returned (.bool (G.has Q k)) ∧ Two (GH e c b (G.cut Q k)) (RX x c Q') O w' ∧ Keeps (fun k => ¬ O k) w w' :=
  Two.onA (GH_lies _ _ _ _) (RX_lies _ _ _) (GH_lies _ _ _ _) H (fun _ hA hD => take_any hA hD (by omega) k hk)
theorem take_right (H : Two (GH e c b Q') (RX x c Q) O w) (hl : Q.length ≤ 100000) (k : ByteArray) :
    Calls Try.prog 13 #[.pointer (some ⟨x, 0, none⟩), .string k] w fun ee w' => ee = .returned (.bool (G.has Q k)) ∧ Two (GH e c b Q') (RX x c (G.cut Q k)) O w' ∧ Keeps (fun k => ¬ O k) w w' :=
  Two.onB (RX_lies _ _ _) (GH_lies _ _ _ _) (RX_lies _ _ _) H (fun _ hB hD => rtake_any hB hD hl k)
theorem has_left (H : Both e x c b Q O w) (hb : b ≤ 800000) (k : ByteArray) (hk : k.size ≤ 1000) :
    Calls Try.prog 14 #[.pointer (some ⟨e, 0, none⟩), .string k] w fun ee w' => ee = .returned (.bool (G.has Q k)) ∧ Below w.heap.size w w' := by
  obtain ⟨D, h⟩ := Two.left H
  refine (has_any h (by omega) k hk).mono ?_
  rintro ee w' ⟨rfl, q, rfl⟩
  exact ⟨rfl, below_drewN (Below.refl _ _) q⟩
theorem has_right (H : Both e x c b Q O w) (hl : Q.length ≤ 100000) (k : ByteArray) :
    Calls Try.prog 15 #[.pointer (some ⟨x, 0, none⟩), .string k] w fun ee w' => ee = .returned (.bool (G.has Q k)) ∧ Below w.heap.size w w' := by
  obtain ⟨D, h⟩ := Two.right H
  exact rhas_any h hl k
theorem len_left (H : Both e x c b Q O w) : Calls Try.prog 16 #[.pointer (some ⟨e, 0, none⟩)] w fun ee w' => ee = .returned (.int .i64 (Q.length : Nat)) ∧ w' = w := by
  obtain ⟨D, h⟩ := Two.left H
  exact len_any h
theorem keys_left (H : Both e x c b Q O w) (hok : G.Ok c Q) (hb : b ≤ 800000) :
    Calls Try.prog 18 #[.pointer (some ⟨e, 0, none⟩)] w fun ee w' => ∃ ad cap, ee = .returned (.slice ad Q.length cap) ∧ Own w.heap.size w' ad cap Q ∧ Below w.heap.size w w' := by
  obtain ⟨D, h⟩ := Two.left H
  exact keys_any h hok hb
/-- what the document's struct holds -/
theorem Both.row (H : Both e x c b Q O w) : ∃ ad cap, w.cell? ⟨x, 0, none⟩ = some (.slice ad Q.length cap) ∧ RowIn Value.string w ad Q := by
  obtain ⟨D, ad, cap, h⟩ := Two.right H
  exact ⟨ad, cap, h.cells.1, h.rowIn⟩
end
end Go.Proofs.Ytdiggfiapbifpaa
