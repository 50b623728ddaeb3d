/- hoardlaw16.known. -/
import Derived.Test.YtdiggfiapbifpaaGb
import Derived.Test.YtdiggfiapbifpaaAk
namespace Go.Proofs.Ytdiggfiapbifpaa
open Go.RowKit

theorem Own.rowIn {n : Nat} {w : World} {ad : Option Addr} {cap : Nat} {zs : List ByteArray} (h : Own n w ad cap zs) : RowIn Value.string w ad zs := by
  cases zs with
  | nil => exact .inl rfl
  | cons z r =>
    obtain ⟨g, rfl, -⟩ := h.at (j := 0) (z := z) rfl
    refine .inr ⟨g, 0, rfl, fun i y hy => ?_⟩
    obtain ⟨g2, e, -, h2, -⟩ := h.at hy
    cases e
    rw [Nat.zero_add]
    exact h2
theorem rowIn_two (w : World) (a b : ByteArray) : RowIn Value.string (w.alloc (.cells #[.string a, .string b] 9)) (some ⟨w.heap.size, 0, none⟩) [a, b] := by
  refine .inr ⟨_, 0, rfl, fun i z hz => ?_⟩
  rw [Nat.zero_add, cell_of_block (heap_alloc_new w _)]
  match i, hz with
  | 0, h => simp at h; subst h; rfl
  | 1, h => simp at h; subst h; rfl
abbrev kA : ByteArray := ⟨#[97]⟩
abbrev kB : ByteArray := ⟨#[98]⟩
abbrev kC : ByteArray := ⟨#[99]⟩
set_option maxRecDepth 100000 in
set_option maxHeartbeats 2000000 in
theorem known_any (w : World) : Calls Try.prog 19 #[] w fun ee w' => ee = .returned (.bool true) ∧ Below w.heap.size w w' := by
  have hnew := new_any w 2
  have e2 : G.heldC 2 = 2 := by decide
  rw [e2] at hnew
  have o0 : G.Ok 2 ([] : List ByteArray) := G.Ok.empty (by omega) (by omega)
  have e1 : G.add 2 [] kA = (none, [kA]) := by decide
  have e3 : G.add 2 [kA] kB = (none, [kA, kB]) := by decide
  have e4 : G.add 2 [kA, kB] kA = (none, [kB, kA]) := by decide
  have e5 : G.add 2 [kB, kA] kC = (some kB, [kA, kC]) := by decide
  have o1 : G.Ok 2 [kA] := by have := o0.add kA; rw [e1] at this; exact this
  have o2 : G.Ok 2 [kA, kB] := by have := o1.add kB; rw [e3] at this; exact this
  have o3 : G.Ok 2 [kB, kA] := by have := o2.add kA; rw [e4] at this; exact this
  have o4 : G.Ok 2 [kA, kC] := by have := o3.add kC; rw [e5] at this; exact this
  have HW : Hid (∀ (b : Nat) (Q Q' : List ByteArray) (k : ByteArray) (o : Option ByteArray) (u : ByteArray) (y : Bool) (W : World) (e : Nat), told o = .tuple #[.string u, .bool y] → GH e 2 b Q (fun j => w.heap.size ≤ j) W → G.Ok 2 Q → G.add 2 Q k = (o, Q') → b ≤ 10 → k.size ≤ 1000 → Keeps (fun j => w.heap.size ≤ j) w W → Calls Try.prog 10 #[.pointer (some ⟨e, 0, none⟩), .string k] W fun ee w' => ee = .returned (.tuple #[.string u, .bool y]) ∧ GH e 2 (b + 1) Q' (fun j => w.heap.size ≤ j) w' ∧ Keeps (fun j => w.heap.size ≤ j) w w') := by
    intro b Q Q' k o u y W e h0 h1 h2 h3 h4 h5 h6
    have := add_any h1 h2 (fun j hj => Nat.le_trans h6.size hj) (by omega) k h5
    rw [h3] at this
    rw [← h0]
    exact this.mono fun ee w' ⟨g1, g2, g3⟩ => ⟨g1, g2, h6.trans g3⟩
  have HX : Hid (G.Ok 2 ([] : List ByteArray) ∧ G.Ok 2 [kA] ∧ G.Ok 2 [kA, kB] ∧ G.Ok 2 [kB, kA] ∧ G.Ok 2 [kA, kC] ∧ G.add 2 [] kA = (none, [kA]) ∧ G.add 2 [kA] kB = (none, [kA, kB]) ∧ G.add 2 [kA, kB] kA = (none, [kB, kA]) ∧ G.add 2 [kB, kA] kC = (some kB, [kA, kC])) := ⟨o0, o1, o2, o3, o4, e1, e3, e4, e5⟩
  clear e1 e2 e3 e4 e5 o0 o1 o2 o3 o4
  go_enter Try.func19, Try.ntmps19
  go_wp2_with (first
    | (go_at_call 8; refine Calls.mono hnew ?_; clear hnew; rintro ee w1 ⟨e, rfl, h1, hk1⟩; have hadd1 := HW.out 0 [] [kA] kA none ⟨#[]⟩ false w1 e rfl h1 HX.out.1 HX.out.2.2.2.2.2.1 (by omega) (by decide) hk1; clear h1 hk1)
    | (go_at_call 10; refine Calls.mono hadd1 ?_; clear hadd1; rintro ee w2 ⟨rfl, h2, hk2⟩; have hadd2 := HW.out 1 _ [kA, kB] kB none ⟨#[]⟩ false w2 e rfl h2 HX.out.2.1 HX.out.2.2.2.2.2.2.1 (by omega) (by decide) hk2; clear h2 hk2)
    | (go_at_call 10; refine Calls.mono hadd2 ?_; clear hadd2; rintro ee w3 ⟨rfl, h3, hk3⟩; have hadd3 := HW.out 2 _ [kB, kA] kA none ⟨#[]⟩ false w3 e rfl h3 HX.out.2.2.1 HX.out.2.2.2.2.2.2.2.1 (by omega) (by decide) hk3; clear h3 hk3)
    | (go_at_call 10; refine Calls.mono hadd3 ?_; clear hadd3; rintro ee w4 ⟨rfl, h4, hk4⟩; have hadd4 := HW.out 3 _ [kA, kC] kC (some kB) kB true w4 e rfl h4 HX.out.2.2.2.1 HX.out.2.2.2.2.2.2.2.2 (by omega) (by decide) hk4; clear h4 hk4)
    | (go_at_call 10; refine Calls.mono hadd4 ?_; clear hadd4; rintro ee w5 ⟨rfl, h5, hk5⟩; have hkeys := keys_any h5 HX.out.2.2.2.2.1 (by omega); have HB5 : Hid (Below w.heap.size w w5) := hk5.below (Nat.le_refl _) (fun _ h => h); clear h5 hk5)
    | (go_at_call 18; refine Calls.mono hkeys ?_; clear hkeys; rintro ee w6 ⟨ad, cap, rfl, ho6, hb6⟩; have HR6 : Hid (RowIn Value.string w6 ad [kA, kC]) := ho6.rowIn; have HB6 : Hid (Below w.heap.size w w6) := below_trans' HB5.out hb6; clear ho6 hb6)
    | (go_at_call 17; refine Calls.mono (texts_any (xs := [kA, kC]) (ys := [kA, kC]) (c1 := cap) (HR6.out.later ((Below.refl _ _).alloc (Nat.le_refl _) _)) (rowIn_two _ _ _) (by simp) (by simp)) ?_; rintro ee w7 ⟨rfl, hb7⟩))
  go_ret
  exact ⟨rfl, below_trans' (below_trans' HB6.out ((Below.refl _ _).alloc (Nat.le_refl _) _)) hb7⟩
end Go.Proofs.Ytdiggfiapbifpaa
