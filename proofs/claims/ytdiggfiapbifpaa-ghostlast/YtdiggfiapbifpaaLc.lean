/- ToBack of a list of texts. -/
import Derived.Test.YtdiggfiapbifpaaLb
namespace Go.Proofs.Ytdiggfiapbifpaa.Ls
open Go.RowKit

section
variable {B : Nat → Prop} {w : World} {p : Nat} {row free : List Nat} {va : Nat → ByteArray} {n : Nat}
set_option maxHeartbeats 400000 in
theorem toBack_in {l r : List Nat} (hd : Nat) (H : LA Value.string 72 62 B w p (l ++ hd :: r) free va n) (hn : n ≤ 1000000) :
    Calls Try.prog 23 #[.pointer (some ⟨p, 0, none⟩), .int .i64 hd] w fun e w' => e = .returned (.bool true) ∧ LA Value.string 72 62 B w' p (l ++ r ++ [hd]) free va n ∧ Keeps B w w' := by
  obtain ⟨s, H, R, rfl, rfl⟩ := H
  have hh := has_any H hd hn
  rw [R.has_in (by simp)] at hh
  obtain ⟨b1, b2, -, hm⟩ := R.beside
  have hu := untie_any H hd hm b1 b2 hn
  obtain ⟨L, hL⟩ := ring_ahead' (l ++ r)
  obtain ⟨-, e1, -, hx⟩ := R.untied_ends
  have R2 := R.moved (l' := l ++ r) (r' := []) (by simp) (a := (s.untie hd).pv 0) (b := 0) (L := L) (Z := []) (by rw [e1]; exact hL) rfl
  obtain ⟨S, hS, en, ev⟩ : ∃ S, S = s.untie hd ∧ S.n = s.n ∧ S.va = s.va := ⟨_, rfl, rfl, rfl⟩
  rw [← hS] at hu R2 hx
  rw [← en] at hm hn hx ⊢
  rw [← ev]
  have HR : Hid _ := R2
  clear H R R2 b1 b2 hS en ev e1 hL
  go_enter Try.func23, Try.ntmps23
  go_wp2_with (first
    | (go_at_call 33; refine hh.mono ?_; rintro e w1 ⟨rfl, rfl⟩; clear hh)
    | (go_at_call 34; refine hu.mono ?_; rintro e w2 ⟨rfl, ⟨ad, cap, H1⟩, hb1⟩; clear hu; obtain ⟨c0, c1, -, -, -, -⟩ := H1.top)
    | (go_at_call 35; refine (tie_any ⟨_, _, H1⟩ hd (S.pv 0) 0 hm hx (by omega) hn).mono ?_; rintro e w3 ⟨rfl, H2, hb2⟩; clear H1))
  go_ret
  exact ⟨rfl, ⟨_, H2, HR.out, rfl, rfl⟩, hb1.trans hb2⟩
end
end Go.Proofs.Ytdiggfiapbifpaa.Ls
