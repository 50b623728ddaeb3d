/- What each function of a list of texts answers, and what becomes of the list in memory: has, links, tie, untie, New, give. -/
import Derived.Test.YtdiggfiapbifpaaLp
import Derived.BigRegion
import Derived.Deep.RegionWith
import Derived.Deep.Cut
import Derived.Deep.CutRange
namespace Go.Proofs.Ytdiggfiapbifpaa.Ls
open Go.RowKit

theorem has_any {B : Nat → Prop} {w : World} {p : Nat} {s : St ByteArray} (H : ListAt Value.string 72 62 B w p s) (h : Int) (hn : s.n ≤ 1000000) :
    Calls Try.prog 33 #[.pointer (some ⟨p, 0, none⟩), .int .i64 h] w fun e w' => e = .returned (.bool (s.has h)) ∧ w' = w := by
  obtain ⟨ad, cap, H⟩ := H
  obtain ⟨c0, c1, c2, c3, c4, f0, f1, f2, f3, f4⟩ := H.top
  by_cases h1 : 1 ≤ h
  · by_cases h2 : h ≤ s.n
    · obtain ⟨i, rfl⟩ : ∃ i : Nat, h = ((i : Nat) : Int) + 1 := ⟨(h - 1).toNat, by omega⟩
      obtain ⟨g, rfl, hg, hp⟩ := H.slots (by omega)
      obtain ⟨d0, d1, d2, d3, e0, e1, e2, e3⟩ := H.slot (i := i) (by omega)
      have hh : s.has ((i : Int) + 1) = s.th (i + 1) := by
        have e : ((i : Int) + 1).toNat = i + 1 := by omega
        simp [St.has, h1, h2, e]
      rw [hh]
      clear H hh
      go_enter Try.func33, Try.ntmps33
      go_wp2
      go_ret
      exact ⟨rfl, rfl⟩
    · have hh : s.has h = false := by simp [St.has, h2]
      rw [hh]
      clear H hh
      go_enter Try.func33, Try.ntmps33
      go_wp2
      go_ret
      exact ⟨rfl, rfl⟩
  · have hh : s.has h = false := by simp [St.has, h1]
    rw [hh]
    clear H hh
    go_enter Try.func33, Try.ntmps33
    go_wp2
    go_ret
    exact ⟨rfl, rfl⟩

theorem links_any {B : Nat → Prop} {w : World} {p : Nat} {s : St ByteArray} {ad : Option Addr} {cap : Nat} (H : ListIn Value.string 72 62 B w p s ad cap) (hd : Nat) (hh : hd ≤ s.n) (hn : s.n ≤ 1000000) :
    Calls Try.prog 43 #[.pointer (some ⟨p, 0, none⟩), .int .i64 hd] w fun e w' => ∃ b off, e = .returned (.pointer (some ⟨b, off, none⟩)) ∧ LinkAt Value.string 72 62 B w p s ad cap hd b off ∧ w' = w := by
  obtain ⟨c0, c1, c2, c3, c4, f0, f1, f2, f3, f4⟩ := H.top
  cases hd with
  | zero =>
    have L := H.link0
    clear H
    go_enter Try.func43, Try.ntmps43
    go_wp2
    go_ret
    exact ⟨_, _, rfl, L, rfl⟩
  | succ i =>
    obtain ⟨g, rfl, hg, hp⟩ := H.slots (by omega)
    have L := H.link hg (i := i) (by omega)
    clear H
    go_enter Try.func43, Try.ntmps43
    go_wp2
    all_goals go_ret
    all_goals exact ⟨_, _, rfl, L, rfl⟩

set_option maxHeartbeats 400000 in
theorem tie_any {B : Nat → Prop} {w : World} {p : Nat} {s : St ByteArray} (H : ListAt Value.string 72 62 B w p s) (hd pr ne : Nat) (hh : hd ≤ s.n) (hpr : pr ≤ s.n) (hne : ne ≤ s.n) (hn : s.n ≤ 1000000) :
    Calls Try.prog 35 #[.pointer (some ⟨p, 0, none⟩), .int .i64 hd, .int .i64 pr, .int .i64 ne] w fun e w' => e = .returned (.tuple #[]) ∧ ListAt Value.string 72 62 B w' p (s.tie hd pr ne) ∧ Keeps B w w' := by
  obtain ⟨ad, cap, H⟩ := H
  go_enter Try.func35, Try.ntmps35
  go_wp2_with (go_at_call 43; first
    | (refine (links_any H hd hh hn).mono ?_; rintro e w' ⟨b1, o1, rfl, L1, rfl⟩; have c10 := L1.c0; have c11 := L1.c1; have f10 := L1.f0; have f11 := L1.f1; clear H)
    | (refine (links_any (L1.both pr ne) pr hpr hn).mono ?_; rintro e w' ⟨b2, o2, rfl, L2, rfl⟩; have c20 := L2.c0; have c21 := L2.c1; have f20 := L2.f0; have f21 := L2.f1; have l1 := L1.lo; clear L1)
    | (refine (links_any (L2.nx hd) ne hne hn).mono ?_; rintro e w' ⟨b3, o3, rfl, L3, rfl⟩; have c30 := L3.c0; have c31 := L3.c1; have f30 := L3.f0; have f31 := L3.f1; have l2 := L2.lo; clear L2))
  go_end0
  exact ⟨rfl, ⟨_, _, L3.pv hd⟩, (((Keeps.refl B _).setCell l1 _).setCell l1 _ |>.setCell l2 _).setCell L3.lo _⟩

set_option maxHeartbeats 1000000 in
theorem untie_any {B : Nat → Prop} {w : World} {p : Nat} {s : St ByteArray} (H : ListAt Value.string 72 62 B w p s) (hd : Nat) (hh : hd ≤ s.n) (hpr : s.pv hd ≤ s.n) (hne : s.nx hd ≤ s.n) (hn : s.n ≤ 1000000) :
    Calls Try.prog 34 #[.pointer (some ⟨p, 0, none⟩), .int .i64 hd] w fun e w' => e = .returned (.tuple #[]) ∧ ListAt Value.string 72 62 B w' p (s.untie hd) ∧ Keeps B w w' := by
  obtain ⟨ad, cap, H⟩ := H
  go_enter Try.func34, Try.ntmps34
  go_wp2_with (go_at_call 43; (refine (links_any H hd hh hn).mono ?_; rintro e w' ⟨b1, o1, rfl, L1, rfl⟩; have c10 := L1.c0; have c11 := L1.c1; have f10 := L1.f0; have f11 := L1.f1))
  have H1 := H.alloc (.cells #[.int .i64 (s.pv hd), .int .i64 (s.nx hd)] 59)
  have old : ∀ {b}, (b = p ∨ ad = some ⟨b, 0, none⟩) → b < w'.heap.size := H.old
  have HB1 : Keeps B w' (w'.alloc (.cells #[.int .i64 (s.pv hd), .int .i64 (s.nx hd)] 59)) := (Keeps.refl B w').alloc _
  have a0 : (w'.alloc (.cells #[.int .i64 (s.pv hd), .int .i64 (s.nx hd)] 59)).heap[w'.heap.size]? = some (.cells #[.int .i64 (s.pv hd), .int .i64 (s.nx hd)] 59 (0, 0)) := heap_alloc_new w' _
  clear c10 c11 f10 f11 L1
  generalize hW : w'.alloc (.cells #[.int .i64 (s.pv hd), .int .i64 (s.nx hd)] 59) = W at H1 HB1 a0 ⊢
  clear hW
  generalize w'.heap.size = q at a0 old ⊢
  go_cut [] from 10 (fun wx => ListIn Value.string 72 62 B wx p { s with nx := upd s.nx (s.pv hd) (s.nx hd) } ad cap ∧ wx.heap[q]? = some (.cells #[.int .i64 (s.pv hd), .int .i64 (s.nx hd)] 59 (0, 0)) ∧ Keeps B w' wx)
  case first =>
    have y0 := cell_of_block (j := 0) a0
    have y1 := cell_of_block (j := 1) a0
    simp at y0 y1
    have HQ : Hid _ := a0
    clear a0
    go_region_with (go_at_call 43; (refine (links_any (w := W.drew) H1 (s.pv hd) hpr hn).mono ?_; rintro e w' ⟨b2, o2, rfl, L2, rfl⟩; have c10 := L2.c0; have c11 := L2.c1; have f10 := L2.f0; have f11 := L2.f1))
    all_goals (go_wp2_with fail; go_meet; case rel => exact ⟨L2.nx (s.nx hd), (Below.heap_setCell W _ _ q (Nat.ne_of_gt (old L2.at_))).trans HQ.out, (HB1.setCell L2.lo _).drew⟩)
  case rest =>
    obtain ⟨H2, a2, HB2⟩ := hcut
    have y0 := cell_of_block (j := 0) a2
    have y1 := cell_of_block (j := 1) a2
    simp at y0 y1
    clear H1 HB1 a0 a2
    go_wp2_with fail
    go_region_with (go_at_call 43; (refine (links_any (w := wc.drew) H2 (s.nx hd) hne hn).mono ?_; rintro e w' ⟨b2, o2, rfl, L2, rfl⟩; have c10 := L2.c0; have c11 := L2.c1; have f10 := L2.f0; have f11 := L2.f1))
    all_goals (go_wp2_with fail; go_end0; exact ⟨rfl, ⟨_, _, L2.pv (s.pv hd)⟩, (HB2.setCell L2.lo _).drew⟩)

theorem infoSlot : (Try.prog.info? 72).map (fun i => (i.zero, i.size, i.bytes)) = some (some (.agg #[.int .i64 0, .int .i64 0, .bool false, .string ByteArray.empty]), 4, 40) := by kernel_rfl

theorem new_any (w : World) (B : Nat → Prop) (hB : B w.heap.size) (va : Nat → ByteArray) (th : Nat → Bool) :
    Calls Try.prog 20 #[] w fun e w' => ∃ p, e = .returned (.pointer (some ⟨p, 0, none⟩)) ∧ ListAt Value.string 72 62 B w' p ⟨fun _ => 0, fun _ => 0, th, va, 0, 0, 0⟩ ∧ Keeps B w w' ∧ p = w.heap.size := by
  go_enter Try.func20, Try.ntmps20
  go_wp2
  go_ret
  exact ⟨_, rfl, ListAt.made _ _ _ hB va th, (Keeps.refl B w).alloc _, rfl⟩

set_option maxHeartbeats 400000 in
theorem give_any {B : Nat → Prop} {w : World} {p : Nat} {s : St ByteArray} (H : ListAt Value.string 72 62 B w p s) (hB : ∀ k, w.heap.size ≤ k → B k) (v : ByteArray) (hf : s.free ≤ s.n) (hc : s.count ≤ 1000000) (hn : s.n ≤ 1000000) :
    Calls Try.prog 38 #[.pointer (some ⟨p, 0, none⟩), .string v] w fun e w' => e = .returned (.int .i64 s.hand) ∧ ListAt Value.string 72 62 B w' p (s.give v) ∧ Keeps B w w' := by
  obtain ⟨ad, cap, H⟩ := H
  obtain ⟨c0, c1, c2, c3, c4, f0, f1, f2, f3, f4⟩ := H.top
  have lp := H.1
  rcases Nat.eq_zero_or_pos s.free with h0 | h0
  · obtain ⟨i0, hi, hz0, hz1, hz2⟩ := info_parts infoSlot
    have H1 := (H.setCount (s.count + 1)).alloc (Obj.cells #[Value.int IntKind.i64 0, Value.int IntKind.i64 0, Value.bool true, Value.string v] 72)
    have hsrc := (cell_four_new (w.setCell ⟨p, 4, none⟩ (Value.int IntKind.i64 ((s.count : Int) + 1))) (Value.int IntKind.i64 0) (Value.int IntKind.i64 0) (Value.bool true) (Value.string v) 72).resolve_right (by simp [Value.oneCell'])
    rw [show (w.setCell ⟨p, 4, none⟩ (Value.int IntKind.i64 ((s.count : Int) + 1))).heap.size = w.heap.size by simp [World.setCell]] at hsrc
    have eh : s.hand = s.n + 1 := by simp [St.hand, h0]
    have eg : s.give v = { s with pv := upd s.pv (s.n + 1) 0, nx := upd s.nx (s.n + 1) 0, th := upd s.th (s.n + 1) true, va := upd s.va (s.n + 1) v, n := s.n + 1, count := s.count + 1 } := by simp [St.give, eh, h0]
    rw [eg, eh]
    have hlo : ∀ k, (Value.slice ad s.n cap).ownBlock = some k → B k ∨ w.heap.size ≤ k := fun k e => .inl (H.2.2.2.2 k e)
    clear H eg eh
    go_enter Try.func38, Try.ntmps38
    go_wp2_with (at_builtin; go_must (refine wpList_append_from _ rfl _ _ 60 rfl 0 72 i0 _ 4 40 Try.underlying60 hi hz0 hz1 hz2 rfl (by omega) (.slice ad s.n cap) s.n (s.row Value.string) rfl H1.2.2.1 _ 1 1 _ rfl hsrc (by unfold maxLen; omega) (by omega) (Nat.zero_le _) ?_); intro ad' cap' w1 hc1 hown hgrow hat; have H2 := H1.grow (hB _ (by simp [World.setCell])) v hown hgrow hat; obtain ⟨t2, t3⟩ := H1.struct hgrow; clear hsrc hi hz0 hz1 hz2 H1)
    go_ret
    rw [h0] at H2
    exact ⟨rfl, ⟨_, _, H2⟩, (((((Keeps.refl B w).setCell lp _).alloc _).grown hgrow hlo).setCell lp _)⟩
  · obtain ⟨f, hf'⟩ : ∃ f, s.free = f + 1 := ⟨s.free - 1, by omega⟩
    obtain ⟨g, rfl, hg, hp⟩ := H.slots (by omega)
    obtain ⟨d0, d1, d2, d3, e0, e1, e2, e3⟩ := H.slot (i := f) (by omega)
    have H1 := (((H.setCount (s.count + 1)).setFree (s.nx (f + 1))).setSlot f 0 0 true v)
    have eh : s.hand = f + 1 := by simp [St.hand, hf']
    have eg : s.give v = { s with pv := upd s.pv (f + 1) 0, nx := upd s.nx (f + 1) 0, th := upd s.th (f + 1) true, va := upd s.va (f + 1) v, free := s.nx (f + 1), count := s.count + 1 } := by simp [St.give, eh, hf']
    rw [eg, eh]
    clear H eg eh
    go_enter Try.func38, Try.ntmps38
    go_wp2
    go_ret
    exact ⟨rfl, ⟨_, _, H1⟩, ((((((Keeps.refl B w).setCell lp _).setCell lp _).setCell hg _).setCell hg _).setCell hg _).setCell hg _⟩
end Go.Proofs.Ytdiggfiapbifpaa.Ls
