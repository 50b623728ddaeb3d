/- The list of items: give. -/
import Derived.Test.YtnbfokmodjgaaabDoorLa
import Derived.Deep.RegionLaw
namespace Go.Proofs.YtnbfokmodjgaaabDoor.Ls
open Go.RowKit
set_option maxRecDepth 100000 in
set_option maxHeartbeats 1000000 in
theorem give_any {B : Nat → Prop} {w : World} {p : Nat} {s : St It} (H : ListAt 105 103 B w p s) (hB : ∀ k, w.heap.size ≤ k → B k) (v : It) (hf : s.free ≤ s.n) (hc : s.count ≤ 1000000) (hn : s.n ≤ 1000000) :
    Calls Tryd.prog 78 #[.pointer (some ⟨p, 0, none⟩), .agg #[.string v.key, .int .i64 (v.n : Nat)]] w fun e w' => e = .returned (.int .i64 s.hand) ∧ ListAt 105 103 B w' p (s.give v) ∧ Keeps B w w' := by
  obtain ⟨ad, cap, H⟩ := H
  obtain ⟨c0, c1, c2, c3, c4, f0, f1, f2, f3, f4⟩ := H.top
  have lp := H.1
  have hlp := H.old (.inl rfl)
  have HX := H.alloc (Obj.cells #[Value.string v.key, Value.int IntKind.i64 (v.n : Nat)] 71)
  rcases Nat.eq_zero_or_pos s.free with h0 | h0
  · obtain ⟨i0, hi, hz0, hz1, hz2⟩ := info_parts infoSlot
    have HC := H.setCount (s.count + 1)
    rw [show ((s.count + 1 : Nat) : Int) = (s.count : Int) + 1 by omega] at HC
    obtain ⟨w0, hw0⟩ : ∃ w0, w0 = w.setCell ⟨p, 4, none⟩ (Value.int IntKind.i64 ((s.count : Int) + 1)) := ⟨_, rfl⟩
    have hz0' : w0.heap.size = w.heap.size := by rw [hw0]; simp [World.setCell]
    have hK0 : Keeps B w w0 := by rw [hw0]; exact (Keeps.refl B w).setCell lp _
    rw [← hw0] at HC
    obtain ⟨W, hW⟩ : ∃ W, W = w0.alloc (Obj.cells #[Value.string v.key, Value.int IntKind.i64 (v.n : Nat)] 71) := ⟨_, rfl⟩
    have H1 := HC.alloc (Obj.cells #[Value.string v.key, Value.int IntKind.i64 (v.n : Nat)] 71)
    have hbx : W.heap[w.heap.size]? = some (Obj.cells #[Value.string v.key, Value.int IntKind.i64 (v.n : Nat)] 71 (0, 0)) := by rw [hW, ← hz0']; exact heap_alloc_new w0 _
    have hKW : Keeps B w W := by rw [hW]; exact hK0.alloc _
    have hsW : W.heap.size = w.heap.size + 1 := by rw [hW, World.size_alloc, hz0']
    rw [← hW] at H1
    have q2 : W.cell? ⟨p, 2, none⟩ = some (Value.slice ad s.n cap) := H1.top.2.2.1
    have g2 : W.frozen? ⟨p, 2, none⟩ = false := H1.top.2.2.2.2.2.2.2.1
    have y0 := cell_of_block (j := 0) hbx
    have y1 := cell_of_block (j := 1) hbx
    simp at y0 y1
    rw [hw0] at hW
    have eh : s.hand = s.n + 1 := by simp [St.hand, h0]
    have eg : s.give v = { s with pv := upd s.pv (s.n + 1) 0, nx := upd s.nx (s.n + 1) 0, th := upd s.th (s.n + 1) true, va := upd s.va (s.n + 1) v, n := s.n + 1, count := s.count + 1 } := by simp [St.give, eh, h0]
    rw [eg, eh]
    have hlo : ∀ k, (Value.slice ad s.n cap).ownBlock = some k → B k ∨ w.heap.size ≤ k := fun k e => .inl (H.2.2.2.2 k e)
    clear H HX eg eh
    go_enter Tryd.func78, Tryd.ntmps78
    go_wp2_with fail
    rw [← hW]
    have HW : Hid (W.heap.size = w.heap.size + 1) := hsW
    have hpW : p < W.heap.size := by omega
    clear hW hw0 hz0' HC hK0 c0 c1 c2 c3 c4 f0 f1 f2 f3 f4 hbx hsW
    have hrowW := (H1.alloc (Obj.cells #[Value.int IntKind.i64 0, Value.int IntKind.i64 0, Value.bool true, Value.string v.key, Value.int IntKind.i64 (v.n : Nat)] 105))
    have hsrc1 := (cell_five_new W (Value.int IntKind.i64 0) (Value.int IntKind.i64 0) (Value.bool true) (Value.string v.key) (Value.int IntKind.i64 (v.n : Nat)) 105).resolve_right (by simp [Value.oneCell'])
    have hrowD : ListIn 105 103 B (W.alloc (Obj.cells #[Value.int IntKind.i64 0, Value.int IntKind.i64 0, Value.bool true, Value.string v.key, Value.int IntKind.i64 (v.n : Nat)] 105)).drew p _ ad cap := hrowW
    have hKD : Keeps B w (W.alloc (Obj.cells #[Value.int IntKind.i64 0, Value.int IntKind.i64 0, Value.bool true, Value.string v.key, Value.int IntKind.i64 (v.n : Nat)] 105)).drew := (hKW.alloc _).drew
    have hsD : (W.alloc (Obj.cells #[Value.int IntKind.i64 0, Value.int IntKind.i64 0, Value.bool true, Value.string v.key, Value.int IntKind.i64 (v.n : Nat)] 105)).drew.heap.size = w.heap.size + 2 := by show (W.alloc _).heap.size = _; rw [World.size_alloc, HW.out]
    go_region_law (go_must (refine step_append_from _ (by rfl) _ _ 101 (by rfl) 0 105 i0 _ 5 48 Tryd.underlying101 hi hz0 hz1 hz2 (by rfl) (by omega) (.slice ad s.n cap) s.n s.row (by rfl) (by first | exact hrowW.2.2.1 | exact (H1.drew.alloc _).2.2.1) _ 1 1 _ (by rfl) (by first | exact hsrc1) (by unfold maxLen; omega) (by omega) (Nat.zero_le _) ?_); intro ad' cap' w1 hc1 hown hgrow hat; have H2 := hrowD.grow (hB _ (by omega)) v hown hgrow hat; obtain ⟨t2, t3⟩ := hrowD.struct hgrow; have hK1 : Keeps B w w1 := (hKD.grown hgrow hlo); clear hrowW hrowD hsrc1)
    all_goals
      go_wp2_with fail
      go_ret
      rw [h0] at H2
      exact ⟨rfl, ⟨_, _, H2⟩, hK1.setCell lp _⟩
  · obtain ⟨f, hf'⟩ : ∃ f, s.free = f + 1 := ⟨s.free - 1, by omega⟩
    obtain ⟨g, rfl, hg, hp⟩ := H.slots (by omega)
    obtain ⟨d0, d1, d2, d3, d4, e0, e1, e2, e3, e4⟩ := H.slot (i := f) (by omega)
    have hlg := H.old (.inr rfl)
    have H1 := (((H.setCount (s.count + 1)).setFree (s.nx (f + 1))).setSlot f 0 0 true v)
    have eh : s.hand = f + 1 := by simp [St.hand, hf']
    have eg : s.give v = { s with pv := upd s.pv (f + 1) 0, nx := upd s.nx (f + 1) 0, th := upd s.th (f + 1) true, va := upd s.va (f + 1) v, free := s.nx (f + 1), count := s.count + 1 } := by simp [St.give, eh, hf']
    rw [eg, eh]
    clear H HX eg eh
    go_enter Tryd.func78, Tryd.ntmps78
    go_wp2_with fail
    go_region
    all_goals
      go_wp2_with fail
      go_ret
      have H3 := H1.alloc (Obj.cells #[Value.string v.key, Value.int IntKind.i64 (v.n : Nat)] 71)
      rw [show ((s.count + 1 : Nat) : Int) = (s.count : Int) + 1 by omega, show ((0 : Nat) : Int) = 0 from rfl] at H3
      have hd : ∀ {W : World} {s' : St It}, ListIn 105 103 B W p s' (some ⟨g, 0, none⟩) cap → ListIn 105 103 B W.drew p s' (some ⟨g, 0, none⟩) cap := fun h => h
      refine ⟨rfl, ⟨_, _, hd H3⟩, (((((((((Keeps.refl B w).setCell lp _).setCell lp _).setCell hg _).setCell hg _).setCell hg _).setCell hg _).setCell hg _).alloc _).drew⟩
end Go.Proofs.YtnbfokmodjgaaabDoor.Ls
