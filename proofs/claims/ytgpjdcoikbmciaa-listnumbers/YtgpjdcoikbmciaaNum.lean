/- What each function of a list of numbers answers, and what becomes of its row: as a list of texts. -/
import Derived.Test.YtgpjdcoikbmciaaStr4
namespace Go.Proofs.Ytgpjdcoikbmciaa.Num
open Go.RowKit

theorem has_any {B : Nat → Prop} {w : World} {p : Nat} {s : St Int} (H : ListAt (Value.int .i64) 68 65 B w p s) (h : Int) (hn : s.n ≤ 1000000) :
    Calls Try.prog 52 #[.pointer (some ⟨p, 0, none⟩), .int .i64 h] w fun e w' => e = .returned (.bool (s.has h)) ∧ w' = w := by
  obtain ⟨ad, cap, H⟩ := H
  obtain ⟨c0, c1, c2, c3, c4, f0, f1, f2, f3, f4⟩ := H.top
  by_cases h1 : 1 ≤ h
  · by_cases h2 : h ≤ s.n
    · obtain ⟨i, rfl⟩ : ∃ i : Nat, h = ((i : Nat) : Int) + 1 := ⟨(h - 1).toNat, by omega⟩
      obtain ⟨g, rfl, hg, hp⟩ := H.slots (by omega)
      obtain ⟨d0, d1, d2, d3, e0, e1, e2, e3⟩ := H.slot (i := i) (by omega)
      have hh : s.has ((i : Int) + 1) = s.th (i + 1) := by
        have e : ((i : Int) + 1).toNat = i + 1 := by omega
        simp [St.has, h1, h2, e]
      rw [hh]
      clear H hh
      go_enter Try.func52, Try.ntmps52
      go_wp2
      go_ret
      exact ⟨rfl, rfl⟩
    · have hh : s.has h = false := by simp [St.has, h2]
      rw [hh]
      clear H hh
      go_enter Try.func52, Try.ntmps52
      go_wp2
      go_ret
      exact ⟨rfl, rfl⟩
  · have hh : s.has h = false := by simp [St.has, h1]
    rw [hh]
    clear H hh
    go_enter Try.func52, Try.ntmps52
    go_wp2
    go_ret
    exact ⟨rfl, rfl⟩
theorem links_any {B : Nat → Prop} {w : World} {p : Nat} {s : St Int} {ad : Option Addr} {cap : Nat} (H : ListIn (Value.int .i64) 68 65 B w p s ad cap) (hd : Nat) (hh : hd ≤ s.n) (hn : s.n ≤ 1000000) :
    Calls Try.prog 60 #[.pointer (some ⟨p, 0, none⟩), .int .i64 hd] w fun e w' => ∃ b off, e = .returned (.pointer (some ⟨b, off, none⟩)) ∧ LinkAt (Value.int .i64) 68 65 B w p s ad cap hd b off ∧ w' = w := by
  obtain ⟨c0, c1, c2, c3, c4, f0, f1, f2, f3, f4⟩ := H.top
  cases hd with
  | zero =>
    have L := H.link0
    clear H
    go_enter Try.func60, Try.ntmps60
    go_wp2
    go_ret
    exact ⟨_, _, rfl, L, rfl⟩
  | succ i =>
    obtain ⟨g, rfl, hg, hp⟩ := H.slots (by omega)
    have L := H.link hg (i := i) (by omega)
    clear H
    go_enter Try.func60, Try.ntmps60
    go_wp2
    all_goals go_ret
    all_goals exact ⟨_, _, rfl, L, rfl⟩
set_option maxHeartbeats 400000 in
theorem tie_any {B : Nat → Prop} {w : World} {p : Nat} {s : St Int} (H : ListAt (Value.int .i64) 68 65 B w p s) (hd pr ne : Nat) (hh : hd ≤ s.n) (hpr : pr ≤ s.n) (hne : ne ≤ s.n) (hn : s.n ≤ 1000000) :
    Calls Try.prog 51 #[.pointer (some ⟨p, 0, none⟩), .int .i64 hd, .int .i64 pr, .int .i64 ne] w fun e w' => e = .returned (.tuple #[]) ∧ ListAt (Value.int .i64) 68 65 B w' p (s.tie hd pr ne) ∧ Keeps B w w' := by
  obtain ⟨ad, cap, H⟩ := H
  go_enter Try.func51, Try.ntmps51
  go_wp2_with (go_at_call 60; first
    | (refine (links_any H hd hh hn).mono ?_; rintro e w' ⟨b1, o1, rfl, L1, rfl⟩; have c10 := L1.c0; have c11 := L1.c1; have f10 := L1.f0; have f11 := L1.f1; clear H)
    | (refine (links_any (L1.both pr ne) pr hpr hn).mono ?_; rintro e w' ⟨b2, o2, rfl, L2, rfl⟩; have c20 := L2.c0; have c21 := L2.c1; have f20 := L2.f0; have f21 := L2.f1; have l1 := L1.lo; clear L1)
    | (refine (links_any (L2.nx hd) ne hne hn).mono ?_; rintro e w' ⟨b3, o3, rfl, L3, rfl⟩; have c30 := L3.c0; have c31 := L3.c1; have f30 := L3.f0; have f31 := L3.f1; have l2 := L2.lo; clear L2))
  go_end0
  exact ⟨rfl, ⟨_, _, L3.pv hd⟩, (((Keeps.refl B _).setCell l1 _).setCell l1 _ |>.setCell l2 _).setCell L3.lo _⟩
theorem info68 : (Try.prog.info? 68).map (fun i => (i.zero, i.size, i.bytes)) = some (some (.agg #[.int .i64 0, .int .i64 0, .bool false, .int .i64 0]), 4, 32) := by kernel_rfl
theorem new_any (w : World) (B : Nat → Prop) (hB : B w.heap.size) (va : Nat → Int) (th : Nat → Bool) :
    Calls Try.prog 21 #[] w fun e w' => ∃ p, e = .returned (.pointer (some ⟨p, 0, none⟩)) ∧ ListAt (Value.int .i64) 68 65 B w' p ⟨fun _ => 0, fun _ => 0, th, va, 0, 0, 0⟩ ∧ Keeps B w w' ∧ p = w.heap.size := by
  go_enter Try.func21, Try.ntmps21
  go_wp2
  go_ret
  exact ⟨_, rfl, ListAt.made _ _ _ hB va th, (Keeps.refl B w).alloc _, rfl⟩
set_option maxHeartbeats 400000 in
theorem give_any {B : Nat → Prop} {w : World} {p : Nat} {s : St Int} (H : ListAt (Value.int .i64) 68 65 B w p s) (hB : ∀ k, w.heap.size ≤ k → B k) (v : Int) (hf : s.free ≤ s.n) (hc : s.count ≤ 1000000) (hn : s.n ≤ 1000000) :
    Calls Try.prog 50 #[.pointer (some ⟨p, 0, none⟩), .int .i64 v] w fun e w' => e = .returned (.int .i64 s.hand) ∧ ListAt (Value.int .i64) 68 65 B w' p (s.give v) ∧ Keeps B w w' := by
  obtain ⟨ad, cap, H⟩ := H
  obtain ⟨c0, c1, c2, c3, c4, f0, f1, f2, f3, f4⟩ := H.top
  have lp := H.1
  rcases Nat.eq_zero_or_pos s.free with h0 | h0
  · obtain ⟨i0, hi, hz0, hz1, hz2⟩ := info_parts info68
    have H1 := (H.setCount (s.count + 1)).alloc (Obj.cells #[Value.int IntKind.i64 0, Value.int IntKind.i64 0, Value.bool true, Value.int .i64 v] 68)
    have hsrc := (cell_four_new (w.setCell ⟨p, 4, none⟩ (Value.int IntKind.i64 ((s.count : Int) + 1))) (Value.int IntKind.i64 0) (Value.int IntKind.i64 0) (Value.bool true) (Value.int .i64 v) 68).resolve_right (by simp [Value.oneCell'])
    rw [show (w.setCell ⟨p, 4, none⟩ (Value.int IntKind.i64 ((s.count : Int) + 1))).heap.size = w.heap.size by simp [World.setCell]] at hsrc
    have eh : s.hand = s.n + 1 := by simp [St.hand, h0]
    have eg : s.give v = { s with pv := upd s.pv (s.n + 1) 0, nx := upd s.nx (s.n + 1) 0, th := upd s.th (s.n + 1) true, va := upd s.va (s.n + 1) v, n := s.n + 1, count := s.count + 1 } := by simp [St.give, eh, h0]
    rw [eg, eh]
    have hlo : ∀ k, (Value.slice ad s.n cap).ownBlock = some k → B k ∨ w.heap.size ≤ k := fun k e => .inl (H.2.2.2.2 k e)
    clear H eg eh
    go_enter Try.func50, Try.ntmps50
    go_wp2_with (at_builtin; go_must (refine wpList_append_from _ rfl _ _ 63 rfl 0 68 i0 _ 4 32 Try.underlying63 hi hz0 hz1 hz2 rfl (by omega) (.slice ad s.n cap) s.n (s.row (Value.int .i64)) rfl H1.2.2.1 _ 1 1 _ rfl hsrc (by unfold maxLen; omega) (by omega) (Nat.zero_le _) ?_); intro ad' cap' w1 hc1 hown hgrow hat; have H2 := H1.grow (hB _ (by simp [World.setCell])) v hown hgrow hat; obtain ⟨t2, t3⟩ := H1.struct hgrow; clear hsrc hi hz0 hz1 hz2 H1)
    go_ret
    rw [h0] at H2
    exact ⟨rfl, ⟨_, _, H2⟩, (((((Keeps.refl B w).setCell lp _).alloc _).grown hgrow hlo).setCell lp _)⟩
  · obtain ⟨f, hf'⟩ : ∃ f, s.free = f + 1 := ⟨s.free - 1, by omega⟩
    obtain ⟨g, rfl, hg, hp⟩ := H.slots (by omega)
    obtain ⟨d0, d1, d2, d3, e0, e1, e2, e3⟩ := H.slot (i := f) (by omega)
    have H1 := (((H.setCount (s.count + 1)).setFree (s.nx (f + 1))).setSlot f 0 0 true v)
    have eh : s.hand = f + 1 := by simp [St.hand, hf']
    have eg : s.give v = { s with pv := upd s.pv (f + 1) 0, nx := upd s.nx (f + 1) 0, th := upd s.th (f + 1) true, va := upd s.va (f + 1) v, free := s.nx (f + 1), count := s.count + 1 } := by simp [St.give, eh, hf']
    rw [eg, eh]
    clear H eg eh
    go_enter Try.func50, Try.ntmps50
    go_wp2
    go_ret
    exact ⟨rfl, ⟨_, _, H1⟩, ((((((Keeps.refl B w).setCell lp _).setCell lp _).setCell hg _).setCell hg _).setCell hg _).setCell hg _⟩
theorem make_any (w : World) (B : Nat → Prop) (hB : B w.heap.size) :
    Calls Try.prog 21 #[] w fun e w' => ∃ p, e = .returned (.pointer (some ⟨p, 0, none⟩)) ∧ LA (Value.int .i64) 68 65 B w' p [] [] (fun _ => 0) 0 ∧ Keeps B w w' :=
  (new_any w B hB (fun _ => 0) (fun _ => false)).mono fun _ _ ⟨p, h1, h2, h3, _⟩ => ⟨p, h1, ⟨_, h2, Rep.empty _ _, rfl, rfl⟩, h3⟩
set_option maxHeartbeats 400000 in
theorem pushFront_any {B : Nat → Prop} {w : World} {p : Nat} {row free : List Nat} {va : Nat → Int} {n : Nat} (H : LA (Value.int .i64) 68 65 B w p row free va n) (hB : ∀ k, w.heap.size ≤ k → B k) (v : Int) (hn : n ≤ 900000) :
    Calls Try.prog 22 #[.pointer (some ⟨p, 0, none⟩), .int .i64 v] w fun e w' => e = .returned (.int .i64 (handOf free n)) ∧ LA (Value.int .i64) 68 65 B w' p (handOf free n :: row) free.tail (upd va (handOf free n) v) (moreOf free n) ∧ Keeps B w w' := by
  obtain ⟨s, H, R, rfl, rfl⟩ := H
  obtain ⟨L, hL⟩ := ring_behind' row
  have hf := R.hand_eq.2
  obtain ⟨h0, _, hle, _⟩ := R.hand_new
  obtain ⟨em, eh⟩ := R.more
  have hcl : s.count ≤ 1000000 := by have := R.len; have := R.count; omega
  have hnx : (s.give v).nx 0 = row.headD 0 := (upd_far _ _ (Ne.symm h0)).trans R.front
  have R2 := R.push (l := []) v (a := 0) (b := (s.give v).nx 0) (L := []) rfl (by rw [hnx]; exact hL)
  have hgn : (s.give v).n ≤ 1000000 := by show (if s.free = 0 then s.n + 1 else s.n) ≤ _; split <;> omega
  have hgh : s.hand ≤ (s.give v).n := hle
  have hgx : (s.give v).nx 0 ≤ (s.give v).n := by
    rw [hnx, ← R.front]
    show _ ≤ (if s.free = 0 then s.n + 1 else s.n)
    have := R.ends
    split <;> omega
  have hlo := H.lo
  have HR : Hid _ := R2
  have HM : Hid _ := em
  rw [← eh]
  clear R2 R hL hnx em eh h0 hle
  go_enter Try.func22, Try.ntmps22
  go_wp2_with (first
    | (go_at_call 50; refine (give_any H hB v hf hcl (by omega)).mono ?_; rintro e w1 ⟨rfl, ⟨ad, cap, H1⟩, hb1⟩; obtain ⟨c0, c1, -, -, -, -⟩ := H1.top; clear H)
    | (go_at_call 51; refine (tie_any ⟨_, _, H1⟩ s.hand 0 ((s.give v).nx 0) hgh (by omega) hgx hgn).mono ?_; rintro e w2 ⟨rfl, H2, hb2⟩; clear H1))
  go_ret
  exact ⟨rfl, ⟨_, H2, HR.out, rfl, HM.out⟩, hb1.trans hb2⟩
set_option maxHeartbeats 400000 in
theorem pushBack_any {B : Nat → Prop} {w : World} {p : Nat} {row free : List Nat} {va : Nat → Int} {n : Nat} (H : LA (Value.int .i64) 68 65 B w p row free va n) (hB : ∀ k, w.heap.size ≤ k → B k) (v : Int) (hn : n ≤ 900000) :
    Calls Try.prog 23 #[.pointer (some ⟨p, 0, none⟩), .int .i64 v] w fun e w' => e = .returned (.int .i64 (handOf free n)) ∧ LA (Value.int .i64) 68 65 B w' p (row ++ [handOf free n]) free.tail (upd va (handOf free n) v) (moreOf free n) ∧ Keeps B w w' := by
  obtain ⟨s, H, R, rfl, rfl⟩ := H
  obtain ⟨L, hL⟩ := ring_ahead' row
  have hf := R.hand_eq.2
  obtain ⟨h0, _, hle, _⟩ := R.hand_new
  obtain ⟨em, eh⟩ := R.more
  have hcl : s.count ≤ 1000000 := by have := R.len; have := R.count; omega
  have hpv : (s.give v).pv 0 = row.getLastD 0 := (upd_far _ _ (Ne.symm h0)).trans R.back
  have R2 : Rep ((s.give v).tie s.hand ((s.give v).pv 0) 0) (row ++ [s.hand]) free.tail := Rep.push (l := row) (r := []) (by simpa using R) v (a := (s.give v).pv 0) (b := 0) (L := L) (Z := []) (by rw [hpv]; exact hL) rfl
  have hgn : (s.give v).n ≤ 1000000 := by show (if s.free = 0 then s.n + 1 else s.n) ≤ _; split <;> omega
  have hgh : s.hand ≤ (s.give v).n := hle
  have hgx : (s.give v).pv 0 ≤ (s.give v).n := by
    rw [hpv, ← R.back]
    show _ ≤ (if s.free = 0 then s.n + 1 else s.n)
    have := R.ends
    split <;> omega
  have hlo := H.lo
  have HR : Hid _ := R2
  have HM : Hid _ := em
  rw [← eh]
  clear R2 R hL hpv em eh h0 hle
  go_enter Try.func23, Try.ntmps23
  go_wp2_with (first
    | (go_at_call 50; refine (give_any H hB v hf hcl (by omega)).mono ?_; rintro e w1 ⟨rfl, ⟨ad, cap, H1⟩, hb1⟩; obtain ⟨c0, c1, -, -, -, -⟩ := H1.top; clear H)
    | (go_at_call 51; refine (tie_any ⟨_, _, H1⟩ s.hand ((s.give v).pv 0) 0 hgh hgx (by omega) hgn).mono ?_; rintro e w2 ⟨rfl, H2, hb2⟩; clear H1))
  go_ret
  exact ⟨rfl, ⟨_, H2, HR.out, rfl, HM.out⟩, hb1.trans hb2⟩
section
variable {B : Nat → Prop} {w : World} {p : Nat} {row free : List Nat} {va : Nat → Int} {n : Nat}
theorem get_in (H : LA (Value.int .i64) 68 65 B w p row free va n) (hd : Nat) (ho : hd ∈ row) (hn : n ≤ 1000000) :
    Calls Try.prog 28 #[.pointer (some ⟨p, 0, none⟩), .int .i64 hd] w fun e w' => e = .returned (.tuple #[.int .i64 (va hd), .bool true]) ∧ w' = w := by
  obtain ⟨s, ⟨ad, cap, H⟩, R, rfl, rfl⟩ := H
  have hh := has_any ⟨_, _, H⟩ hd hn
  rw [R.has_in ho] at hh
  have hm := (R.mem hd).1 (by simp [ho])
  obtain ⟨i, rfl⟩ : ∃ i, hd = i + 1 := ⟨hd - 1, by omega⟩
  obtain ⟨c0, c1, c2, c3, c4, f0, f1, f2, f3, f4⟩ := H.top
  obtain ⟨g, rfl, hg, hp⟩ := H.slots (by omega)
  obtain ⟨d0, d1, d2, d3, e0, e1, e2, e3⟩ := H.slot (i := i) (by omega)
  clear H R ho
  go_enter Try.func28, Try.ntmps28
  go_wp2_with (go_at_call 52; refine hh.mono ?_; rintro e w1 ⟨rfl, rfl⟩; clear hh)
  go_ret2
  exact ⟨rfl, rfl⟩
theorem front_any (H : LA (Value.int .i64) 68 65 B w p row free va n) : Calls Try.prog 26 #[.pointer (some ⟨p, 0, none⟩)] w fun e w' => e = .returned (.int .i64 (hdOf row : Nat)) ∧ w' = w := by
  obtain ⟨s, ⟨ad, cap, H⟩, R, rfl, rfl⟩ := H
  obtain ⟨c0, c1, -, -, -, -⟩ := H.top
  rw [← R.front']
  clear H R
  go_enter Try.func26, Try.ntmps26
  go_wp2
  go_ret
  exact ⟨rfl, rfl⟩
theorem back_any (H : LA (Value.int .i64) 68 65 B w p row free va n) : Calls Try.prog 27 #[.pointer (some ⟨p, 0, none⟩)] w fun e w' => e = .returned (.int .i64 (lsOf row : Nat)) ∧ w' = w := by
  obtain ⟨s, ⟨ad, cap, H⟩, R, rfl, rfl⟩ := H
  obtain ⟨c0, c1, -, -, -, -⟩ := H.top
  rw [← R.back']
  clear H R
  go_enter Try.func27, Try.ntmps27
  go_wp2
  go_ret
  exact ⟨rfl, rfl⟩
theorem len_any (H : LA (Value.int .i64) 68 65 B w p row free va n) : Calls Try.prog 25 #[.pointer (some ⟨p, 0, none⟩)] w fun e w' => e = .returned (.int .i64 (row.length : Nat)) ∧ w' = w := by
  obtain ⟨s, ⟨ad, cap, H⟩, R, rfl, rfl⟩ := H
  obtain ⟨c0, c1, c2, c3, c4, -⟩ := H.top
  rw [← R.count]
  clear H R
  go_enter Try.func25, Try.ntmps25
  go_wp2
  go_ret
  exact ⟨rfl, rfl⟩
theorem next_in {l r : List Nat} (hd : Nat) (H : LA (Value.int .i64) 68 65 B w p (l ++ hd :: r) free va n) (hn : n ≤ 1000000) :
    Calls Try.prog 29 #[.pointer (some ⟨p, 0, none⟩), .int .i64 hd] w fun e w' => e = .returned (.int .i64 (hdOf r : Nat)) ∧ w' = w := by
  obtain ⟨s, ⟨ad, cap, H⟩, R, rfl, rfl⟩ := H
  have hh := has_any ⟨_, _, H⟩ hd hn
  rw [R.has_in (by simp)] at hh
  have hm := (R.mem hd).1 (by simp)
  have ha := R.aside'.2
  obtain ⟨i, rfl⟩ : ∃ i, hd = i + 1 := ⟨hd - 1, by omega⟩
  obtain ⟨c0, c1, c2, c3, c4, f0, f1, f2, f3, f4⟩ := H.top
  obtain ⟨g, rfl, hg, hp⟩ := H.slots (by omega)
  obtain ⟨d0, d1, d2, d3, e0, e1, e2, e3⟩ := H.slot (i := i) (by omega)
  rw [← ha]
  clear H R ha
  go_enter Try.func29, Try.ntmps29
  go_wp2_with (go_at_call 52; refine hh.mono ?_; rintro e w1 ⟨rfl, rfl⟩; clear hh)
  go_ret
  exact ⟨rfl, rfl⟩
theorem prev_in {l r : List Nat} (hd : Nat) (H : LA (Value.int .i64) 68 65 B w p (l ++ hd :: r) free va n) (hn : n ≤ 1000000) :
    Calls Try.prog 30 #[.pointer (some ⟨p, 0, none⟩), .int .i64 hd] w fun e w' => e = .returned (.int .i64 (lsOf l : Nat)) ∧ w' = w := by
  obtain ⟨s, ⟨ad, cap, H⟩, R, rfl, rfl⟩ := H
  have hh := has_any ⟨_, _, H⟩ hd hn
  rw [R.has_in (by simp)] at hh
  have hm := (R.mem hd).1 (by simp)
  have ha := R.aside'.1
  obtain ⟨i, rfl⟩ : ∃ i, hd = i + 1 := ⟨hd - 1, by omega⟩
  obtain ⟨c0, c1, c2, c3, c4, f0, f1, f2, f3, f4⟩ := H.top
  obtain ⟨g, rfl, hg, hp⟩ := H.slots (by omega)
  obtain ⟨d0, d1, d2, d3, e0, e1, e2, e3⟩ := H.slot (i := i) (by omega)
  rw [← ha]
  clear H R ha
  go_enter Try.func30, Try.ntmps30
  go_wp2_with (go_at_call 52; refine hh.mono ?_; rintro e w1 ⟨rfl, rfl⟩; clear hh)
  go_ret
  exact ⟨rfl, rfl⟩
end
theorem info3 : (Try.prog.info? 3).map (fun i => (i.zero, i.size, i.bytes)) = some (some (.int .i64 0), 1, 8) := by kernel_rfl
set_option maxHeartbeats 1000000 in
theorem all_any {B : Nat → Prop} {w : World} {p : Nat} {row free : List Nat} {va : Nat → Int} {n : Nat} (H : LA (Value.int .i64) 68 65 B w p row free va n) (hn : n ≤ 1000000) :
    Calls Try.prog 24 #[.pointer (some ⟨p, 0, none⟩)] w fun e w' => ∃ ad cap, e = .returned (.slice ad row.length cap) ∧ w'.ownsRow w.heap.size 3 1 (.slice ad row.length cap) row.length (row.map fun h => Value.int .i64 (va h)) ∧ Below w.heap.size w w' := by
  obtain ⟨i0, hi, hz0, hz1, hz2⟩ := info_parts info3
  have HL : Hid _ := H
  obtain ⟨s, ⟨ad, cap, H⟩, R, rfl, rfl⟩ := H
  have hlen : row.length ≤ 1000000 := by have := R.len; omega
  obtain ⟨c0, c1, c2, c3, c4, -⟩ := H.top
  rw [R.front'] at c1
  rw [R.count] at c4
  have HR : Hid _ := R
  have HI := H
  clear R H
  go_enter Try.func24, Try.ntmps24
  go_wp2_with (at_make; refine wpList_make_own _ rfl _ _ 28 rfl w.heap.size 3 i0 _ 1 Try.underlying28 hi hz0 hz1 .i64 .i64 _ row.length rfl rfl rfl (by rw [hz2]; omega) (by unfold maxLen; omega) (Nat.le_refl _) ?_; intro w0 hown0 hgrow0; have e1 := hgrow0.cell c1 (by simp))
  go_loopw [3, 4] (fun v h wr => ∃ k ad cap, k ≤ row.length ∧ v = .slice ad k cap ∧ h = .int .i64 (hdOf (row.drop k) : Nat) ∧ wr.ownsRow w.heap.size 3 1 (.slice ad k cap) k ((row.take k).map fun h => Value.int .i64 (s.va h)) ∧ Below w.heap.size w wr) (fun v _ _ => row.length - lenOf v)
  case atStart =>
    exact ⟨0, _, _, Nat.zero_le _, rfl, rfl, hown0, (Below.refl _ w).grown hgrow0 (Nat.le_refl _) (fun k e => by cases e)⟩
  case round =>
    obtain ⟨k, ad1, cap1, hk, rfl, rfl, hown, hb⟩ := hrel
    have hR := HR.out
    obtain ⟨x0, x1, x2, x3, x4, -⟩ := (HI.below hb).top
    rcases Nat.lt_or_ge k row.length with hlt | hge
    · obtain ⟨x, hrow, hdrop, htake⟩ := row_cut hlt
      have hx := (hR.mem x).1 (by rw [hrow]; simp)
      have hnx : s.nx x = hdOf (row.drop (k + 1)) := by rw [hrow] at hR; simpa using hR.aside'.2
      obtain ⟨i, rfl⟩ : ∃ i, x = i + 1 := ⟨x - 1, by omega⟩
      have hH := HI.below hb
      obtain ⟨g, rfl, hg, hp⟩ := HI.slots (by omega)
      obtain ⟨d0, d1, d2, d3, -⟩ := hH.slot (i := i) (by omega)
      have hW := hb.size
      have hd : hdOf (row.drop k) = i + 1 := by rw [hdrop]; rfl
      rw [hnx] at d1
      have HN : Hid _ := hnx
      have HT : Hid _ := htake
      rw [hd]
      clear hR hH hdrop hrow hnx hd htake
      go_wp2_with (at_builtin; go_must (refine wpList_append_from _ rfl _ _ 28 rfl w.heap.size 3 i0 _ 1 8 Try.underlying28 hi hz0 hz1 hz2 rfl (by omega) (.slice ad1 k cap1) k _ rfl (hown.alloc _) _ 1 1 _ rfl (one_new _ _ 3 rfl) (by unfold maxLen; omega) (by omega) (by simp; omega) ?_); intro ad2 cap2 w2 hc2 hown2 hgrow2 hat2; have hb2 : Below w.heap.size w w2 := (hb.alloc hW _).grown hgrow2 (by simp; omega) (fun k e => (hown.lt k e).1); obtain ⟨y0, y1, y2, y3, y4, -⟩ := (HI.below hb2).top; obtain ⟨z0, z1, z2, z3, -⟩ := (HI.below hb2).slot (i := i) (by omega); rw [HN.out] at z1; clear hgrow2 hat2 d0 d1 d2 d3 x0 x1 x2 x3 x4)
      go_roundw
      case rel =>
        refine ⟨k + 1, ad2, cap2, hlt, rfl, rfl, ?_, hb2⟩
        rw [HT.out, List.map_append]
        exact hown2
      case measure => simp [lenOf]; omega
    · have hd : row.drop k = [] := List.drop_eq_nil_of_le hge
      have hk' : k = row.length := by omega
      subst hk'
      rw [hd, show hdOf [] = 0 from rfl]
      rw [List.take_length] at hown
      clear hd hR
      go_wp2_with fail
      go_ret
      exact ⟨_, _, rfl, hown, hb⟩
end Go.Proofs.Ytgpjdcoikbmciaa.Num
