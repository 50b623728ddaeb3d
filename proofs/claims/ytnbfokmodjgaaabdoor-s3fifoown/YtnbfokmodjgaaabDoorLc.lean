/- ToBack of a list of items. -/
import Derived.Test.YtnbfokmodjgaaabDoorLb
namespace Go.Proofs.YtnbfokmodjgaaabDoor.Ls
open Go.RowKit

section
variable {B : Nat → Prop} {w : World} {p : Nat} {row free : List Nat} {va : Nat → It} {n : Nat}
set_option maxHeartbeats 400000 in
theorem toBack_in {l r : List Nat} (hd : Nat) (H : LA 105 103 B w p (l ++ hd :: r) free va n) (hn : n ≤ 1000000) :
    Calls Tryd.prog 92 #[.pointer (some ⟨p, 0, none⟩), .int .i64 hd] w fun e w' => e = .returned (.bool true) ∧ LA 105 103 B w' p (l ++ r ++ [hd]) free va n ∧ Keeps B w w' := by
  obtain ⟨s, H, R, rfl, rfl⟩ := H
  have hh := has_any H hd hn
  rw [R.has_in (by simp)] at hh
  obtain ⟨b1, b2, -, hm⟩ := R.beside
  have hu := untie_any H hd hm b1 b2 hn
  obtain ⟨L, hL⟩ := ring_ahead' (l ++ r)
  obtain ⟨-, e1, -, hx⟩ := R.untied_ends
  have R2 := R.moved (l' := l ++ r) (r' := []) (by simp) (a := (s.untie hd).pv 0) (b := 0) (L := L) (Z := []) (by rw [e1]; exact hL) rfl
  obtain ⟨S, hS, en, ev⟩ : ∃ S, S = s.untie hd ∧ S.n = s.n ∧ S.va = s.va := ⟨_, rfl, rfl, rfl⟩
  rw [← hS] at hu R2 hx
  rw [← en] at hm hn hx ⊢
  rw [← ev]
  have HR : Hid _ := R2
  clear H R R2 b1 b2 hS en ev e1 hL
  go_enter Tryd.func92, Tryd.ntmps92
  go_wp2_with (first
    | (go_at_call 77; refine hh.mono ?_; rintro e w1 ⟨rfl, rfl⟩; clear hh)
    | (go_at_call 86; refine hu.mono ?_; rintro e w2 ⟨rfl, ⟨ad, cap, H1⟩, hb1⟩; clear hu; obtain ⟨c0, c1, -, -, -, -⟩ := H1.top)
    | (go_at_call 79; refine (tie_any ⟨_, _, H1⟩ hd (S.pv 0) 0 hm hx (by omega) hn).mono ?_; rintro e w3 ⟨rfl, H2, hb2⟩; clear H1))
  go_ret
  exact ⟨rfl, ⟨_, H2, HR.out, rfl, rfl⟩, hb1.trans hb2⟩
theorem Rep.setVa {s : St It} {row free : List Nat} (R : Rep s row free) (va : Nat → It) : Rep { s with va := va } row free := ⟨R.nodup, R.mem, R.links, R.there, R.gone, R.chain, R.count, R.len⟩
set_option maxRecDepth 20000 in
set_option maxHeartbeats 1000000 in
theorem set_in (H : LA 105 103 B w p row free va n) (hd : Nat) (ho : hd ∈ row) (v : It) (hn : n ≤ 1000000) :
    Calls Tryd.prog 56 #[.pointer (some ⟨p, 0, none⟩), .int .i64 hd, .agg #[.string v.key, .int .i64 (v.n : Nat)]] w fun e w' => e = .returned (.bool true) ∧ LA 105 103 B w' p row free (upd va hd v) n ∧ Keeps B w w' := by
  obtain ⟨s, ⟨ad, cap, H⟩, R, rfl, rfl⟩ := H
  have hbx : Below w.heap.size w (w.alloc (.cells #[.string v.key, .int .i64 (v.n : Nat)] 71)) := (Below.refl _ w).alloc (Nat.le_refl _) _
  have H0 := H.below hbx
  have hh := has_any ⟨_, _, H0⟩ hd hn
  rw [R.has_in ho] at hh
  have hm := (R.mem hd).1 (by simp [ho])
  obtain ⟨i, rfl⟩ : ∃ i, hd = i + 1 := ⟨hd - 1, by omega⟩
  obtain ⟨g, rfl, hg, hp⟩ := H.slots (by omega)
  have hlp := H.old (.inl rfl)
  have hlg := H.old (.inr rfl)
  obtain ⟨W, hW⟩ : ∃ W, W = w.alloc (.cells #[.string v.key, .int .i64 (v.n : Nat)] 71) := ⟨_, rfl⟩
  have hvW : W.heap[w.heap.size]? = some (Obj.cells #[Value.string v.key, Value.int IntKind.i64 (v.n : Nat)] 71 (0, 0)) := by rw [hW]; exact heap_alloc_new w _
  have hKW : Keeps B w W := by rw [hW]; exact (Keeps.refl B w).alloc _
  rw [← hW] at H0 hh
  obtain ⟨c0, c1, c2, c3, c4, f0, f1, f2, f3, f4⟩ := H0.top
  obtain ⟨d0, d1, d2, d3, d4, e0, e1, e2, e3, e4⟩ := H0.slot (i := i) (by omega)
  have v0 := cell_of_block (j := 0) hvW
  have v1 := cell_of_block (j := 1) hvW
  simp at v0 v1
  have hi : i < s.n := by omega
  have hgn : g ≠ w.heap.size := by omega
  have HR : Hid (Rep { s with va := upd s.va (i + 1) v } row free) := R.setVa _
  have HH : Hid (ListIn 105 103 B W p s (some ⟨g, 0, none⟩) cap) := H0
  clear H H0 R ho hm hbx hvW hlp hlg
  go_enter Tryd.func56, Tryd.ntmps56
  go_wp2_with (go_at_call 77; rw [← hW]; go_must (refine hh.mono ?_; rintro e w1 ⟨rfl, rfl⟩; clear hh))
  rw [← hW]
  clear hW
  go_region
  all_goals
    go_wp2_with fail
    go_ret
    exact ⟨rfl, ⟨_, ⟨_, _, (ListIn.setVa HH.out i v).drew⟩, HR.out, rfl, rfl⟩, ((hKW.setCell hg _).setCell hg _).drew⟩
end
end Go.Proofs.YtnbfokmodjgaaabDoor.Ls
