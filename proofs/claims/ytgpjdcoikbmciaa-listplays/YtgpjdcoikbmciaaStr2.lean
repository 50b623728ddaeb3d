/- give, Push, Get, Set, Remove, ToFront, ToBack, Front, Back, Next, Prev, Len of a list of texts, state by state. -/
import Derived.Test.YtgpjdcoikbmciaaStr
namespace Go.Proofs.Ytgpjdcoikbmciaa
open Go.RowKit

theorem Try.info60 : (Try.prog.info? 60).map (fun i => (i.zero, i.size, i.bytes)) = some (some (.agg #[.int .i64 0, .int .i64 0, .bool false, .string ByteArray.empty]), 4, 40) := by kernel_rfl

theorem new_any (w : World) (B : Nat → Prop) (hB : B w.heap.size) (va : Nat → ByteArray) (th : Nat → Bool) :
    Calls Try.prog 10 #[] w fun e w' => ∃ p, e = .returned (.pointer (some ⟨p, 0, none⟩)) ∧ ListAt Value.string 60 58 B w' p ⟨fun _ => 0, fun _ => 0, th, va, 0, 0, 0⟩ ∧ Keeps B w w' ∧ p = w.heap.size := by
  go_enter Try.func10, Try.ntmps10
  go_wp2
  go_ret
  exact ⟨_, rfl, ListAt.made _ _ _ hB va th, (Keeps.refl B w).alloc _, rfl⟩

set_option maxHeartbeats 400000 in
theorem give_any {B : Nat → Prop} {w : World} {p : Nat} {s : St ByteArray} (H : ListAt Value.string 60 58 B w p s) (hB : ∀ k, w.heap.size ≤ k → B k) (v : ByteArray) (hf : s.free ≤ s.n) (hc : s.count ≤ 1000000) (hn : s.n ≤ 1000000) :
    Calls Try.prog 54 #[.pointer (some ⟨p, 0, none⟩), .string v] w fun e w' => e = .returned (.int .i64 s.hand) ∧ ListAt Value.string 60 58 B w' p (s.give v) ∧ Keeps B w w' := by
  obtain ⟨ad, cap, H⟩ := H
  obtain ⟨c0, c1, c2, c3, c4, f0, f1, f2, f3, f4⟩ := H.top
  have lp := H.1
  rcases Nat.eq_zero_or_pos s.free with h0 | h0
  · obtain ⟨i0, hi, hz0, hz1, hz2⟩ := info_parts Try.info60
    have H1 := (H.setCount (s.count + 1)).alloc (Obj.cells #[Value.int IntKind.i64 0, Value.int IntKind.i64 0, Value.bool true, Value.string v] 60)
    have hsrc := (cell_four_new (w.setCell ⟨p, 4, none⟩ (Value.int IntKind.i64 ((s.count : Int) + 1))) (Value.int IntKind.i64 0) (Value.int IntKind.i64 0) (Value.bool true) (Value.string v) 60).resolve_right (by simp [Value.oneCell'])
    rw [show (w.setCell ⟨p, 4, none⟩ (Value.int IntKind.i64 ((s.count : Int) + 1))).heap.size = w.heap.size by simp [World.setCell]] at hsrc
    have eh : s.hand = s.n + 1 := by simp [St.hand, h0]
    have eg : s.give v = { s with pv := upd s.pv (s.n + 1) 0, nx := upd s.nx (s.n + 1) 0, th := upd s.th (s.n + 1) true, va := upd s.va (s.n + 1) v, n := s.n + 1, count := s.count + 1 } := by simp [St.give, eh, h0]
    rw [eg, eh]
    have hlo : ∀ k, (Value.slice ad s.n cap).ownBlock = some k → B k ∨ w.heap.size ≤ k := fun k e => .inl (H.2.2.2.2 k e)
    clear H eg eh
    go_enter Try.func54, Try.ntmps54
    go_wp2_with (at_builtin; go_must (refine wpList_append_from _ rfl _ _ 56 rfl 0 60 i0 _ 4 40 Try.underlying56 hi hz0 hz1 hz2 rfl (by omega) (.slice ad s.n cap) s.n (s.row Value.string) rfl H1.2.2.1 _ 1 1 _ rfl hsrc (by unfold maxLen; omega) (by omega) (Nat.zero_le _) ?_); intro ad' cap' w1 hc1 hown hgrow hat; have H2 := H1.grow (hB _ (by simp [World.setCell])) v hown hgrow hat; obtain ⟨t2, t3⟩ := H1.struct hgrow; clear hsrc hi hz0 hz1 hz2 H1)
    go_ret
    rw [h0] at H2
    exact ⟨rfl, ⟨_, _, H2⟩, (((((Keeps.refl B w).setCell lp _).alloc _).grown hgrow hlo).setCell lp _)⟩
  · obtain ⟨f, hf'⟩ : ∃ f, s.free = f + 1 := ⟨s.free - 1, by omega⟩
    obtain ⟨g, rfl, hg, hp⟩ := H.slots (by omega)
    obtain ⟨d0, d1, d2, d3, e0, e1, e2, e3⟩ := H.slot (i := f) (by omega)
    have H1 := (((H.setCount (s.count + 1)).setFree (s.nx (f + 1))).setSlot f 0 0 true v)
    have eh : s.hand = f + 1 := by simp [St.hand, hf']
    have eg : s.give v = { s with pv := upd s.pv (f + 1) 0, nx := upd s.nx (f + 1) 0, th := upd s.th (f + 1) true, va := upd s.va (f + 1) v, free := s.nx (f + 1), count := s.count + 1 } := by simp [St.give, eh, hf']
    rw [eg, eh]
    clear H eg eh
    go_enter Try.func54, Try.ntmps54
    go_wp2
    go_ret
    exact ⟨rfl, ⟨_, _, H1⟩, ((((((Keeps.refl B w).setCell lp _).setCell lp _).setCell hg _).setCell hg _).setCell hg _).setCell hg _⟩
end Go.Proofs.Ytgpjdcoikbmciaa
