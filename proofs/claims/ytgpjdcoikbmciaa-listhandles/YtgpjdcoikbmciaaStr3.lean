/- What each function of a list of texts answers, and what becomes of its row: Push, Get, Set, Remove, ToFront, ToBack, Front, Back, Next, Prev, Len. -/
import Derived.Test.YtgpjdcoikbmciaaStr2
namespace Go.Proofs.Ytgpjdcoikbmciaa
open Go.RowKit

theorem make_any (w : World) (B : Nat → Prop) (hB : B w.heap.size) :
    Calls Try.prog 10 #[] w fun e w' => ∃ p, e = .returned (.pointer (some ⟨p, 0, none⟩)) ∧ LA Value.string 60 58 B w' p [] [] (fun _ => ⟨#[]⟩) 0 ∧ Keeps B w w' :=
  (new_any w B hB (fun _ => ⟨#[]⟩) (fun _ => false)).mono fun _ _ ⟨p, h1, h2, h3, _⟩ => ⟨p, h1, ⟨_, h2, Rep.empty _ _, rfl, rfl⟩, h3⟩

set_option maxHeartbeats 400000 in
theorem pushFront_any {B : Nat → Prop} {w : World} {p : Nat} {row free : List Nat} {va : Nat → ByteArray} {n : Nat} (H : LA Value.string 60 58 B w p row free va n) (hB : ∀ k, w.heap.size ≤ k → B k) (v : ByteArray) (hn : n ≤ 900000) :
    Calls Try.prog 35 #[.pointer (some ⟨p, 0, none⟩), .string v] w fun e w' => e = .returned (.int .i64 (handOf free n)) ∧ LA Value.string 60 58 B w' p (handOf free n :: row) free.tail (upd va (handOf free n) v) (moreOf free n) ∧ Keeps B w w' := by
  obtain ⟨s, H, R, rfl, rfl⟩ := H
  obtain ⟨L, hL⟩ := ring_behind' row
  have hf := R.hand_eq.2
  obtain ⟨h0, _, hle, _⟩ := R.hand_new
  obtain ⟨em, eh⟩ := R.more
  have hcl : s.count ≤ 1000000 := by have := R.len; have := R.count; omega
  have hnx : (s.give v).nx 0 = row.headD 0 := (upd_far _ _ (Ne.symm h0)).trans R.front
  have R2 := R.push (l := []) v (a := 0) (b := (s.give v).nx 0) (L := []) rfl (by rw [hnx]; exact hL)
  have hgn : (s.give v).n ≤ 1000000 := by show (if s.free = 0 then s.n + 1 else s.n) ≤ _; split <;> omega
  have hgh : s.hand ≤ (s.give v).n := hle
  have hgx : (s.give v).nx 0 ≤ (s.give v).n := by
    rw [hnx, ← R.front]
    show _ ≤ (if s.free = 0 then s.n + 1 else s.n)
    have := R.ends
    split <;> omega
  have hlo := H.lo
  have HR : Hid _ := R2
  have HM : Hid _ := em
  rw [← eh]
  clear R2 R hL hnx em eh h0 hle
  go_enter Try.func35, Try.ntmps35
  go_wp2_with (first
    | (go_at_call 54; refine (give_any H hB v hf hcl (by omega)).mono ?_; rintro e w1 ⟨rfl, ⟨ad, cap, H1⟩, hb1⟩; obtain ⟨c0, c1, -, -, -, -⟩ := H1.top; clear H)
    | (go_at_call 55; refine (tie_any ⟨_, _, H1⟩ s.hand 0 ((s.give v).nx 0) hgh (by omega) hgx hgn).mono ?_; rintro e w2 ⟨rfl, H2, hb2⟩; clear H1))
  go_ret
  exact ⟨rfl, ⟨_, H2, HR.out, rfl, HM.out⟩, hb1.trans hb2⟩
set_option maxHeartbeats 400000 in
theorem pushBack_any {B : Nat → Prop} {w : World} {p : Nat} {row free : List Nat} {va : Nat → ByteArray} {n : Nat} (H : LA Value.string 60 58 B w p row free va n) (hB : ∀ k, w.heap.size ≤ k → B k) (v : ByteArray) (hn : n ≤ 900000) :
    Calls Try.prog 32 #[.pointer (some ⟨p, 0, none⟩), .string v] w fun e w' => e = .returned (.int .i64 (handOf free n)) ∧ LA Value.string 60 58 B w' p (row ++ [handOf free n]) free.tail (upd va (handOf free n) v) (moreOf free n) ∧ Keeps B w w' := by
  obtain ⟨s, H, R, rfl, rfl⟩ := H
  obtain ⟨L, hL⟩ := ring_ahead' row
  have hf := R.hand_eq.2
  obtain ⟨h0, _, hle, _⟩ := R.hand_new
  obtain ⟨em, eh⟩ := R.more
  have hcl : s.count ≤ 1000000 := by have := R.len; have := R.count; omega
  have hpv : (s.give v).pv 0 = row.getLastD 0 := (upd_far _ _ (Ne.symm h0)).trans R.back
  have R2 : Rep ((s.give v).tie s.hand ((s.give v).pv 0) 0) (row ++ [s.hand]) free.tail := Rep.push (l := row) (r := []) (by simpa using R) v (a := (s.give v).pv 0) (b := 0) (L := L) (Z := []) (by rw [hpv]; exact hL) rfl
  have hgn : (s.give v).n ≤ 1000000 := by show (if s.free = 0 then s.n + 1 else s.n) ≤ _; split <;> omega
  have hgh : s.hand ≤ (s.give v).n := hle
  have hgx : (s.give v).pv 0 ≤ (s.give v).n := by
    rw [hpv, ← R.back]
    show _ ≤ (if s.free = 0 then s.n + 1 else s.n)
    have := R.ends
    split <;> omega
  have hlo := H.lo
  have HR : Hid _ := R2
  have HM : Hid _ := em
  rw [← eh]
  clear R2 R hL hpv em eh h0 hle
  go_enter Try.func32, Try.ntmps32
  go_wp2_with (first
    | (go_at_call 54; refine (give_any H hB v hf hcl (by omega)).mono ?_; rintro e w1 ⟨rfl, ⟨ad, cap, H1⟩, hb1⟩; obtain ⟨c0, c1, -, -, -, -⟩ := H1.top; clear H)
    | (go_at_call 55; refine (tie_any ⟨_, _, H1⟩ s.hand ((s.give v).pv 0) 0 hgh hgx (by omega) hgn).mono ?_; rintro e w2 ⟨rfl, H2, hb2⟩; clear H1))
  go_ret
  exact ⟨rfl, ⟨_, H2, HR.out, rfl, HM.out⟩, hb1.trans hb2⟩

section
variable {B : Nat → Prop} {w : World} {p : Nat} {row free : List Nat} {va : Nat → ByteArray} {n : Nat}
theorem get_out (H : LA Value.string 60 58 B w p row free va n) (hd : Int) (ho : ∀ k ∈ row, hd ≠ (k : Nat)) (hn : n ≤ 1000000) :
    Calls Try.prog 33 #[.pointer (some ⟨p, 0, none⟩), .int .i64 hd] w fun e w' => e = .returned (.tuple #[.string ⟨#[]⟩, .bool false]) ∧ w' = w := by
  obtain ⟨s, H, R, rfl, rfl⟩ := H
  have hh := has_any H hd hn
  rw [R.has_out ho] at hh
  clear H R ho
  go_enter Try.func33, Try.ntmps33
  go_wp2_with (go_at_call 53; refine hh.mono ?_; rintro e w1 ⟨rfl, rfl⟩; clear hh)
  go_ret2
  exact ⟨rfl, rfl⟩
theorem get_in (H : LA Value.string 60 58 B w p row free va n) (hd : Nat) (ho : hd ∈ row) (hn : n ≤ 1000000) :
    Calls Try.prog 33 #[.pointer (some ⟨p, 0, none⟩), .int .i64 hd] w fun e w' => e = .returned (.tuple #[.string (va hd), .bool true]) ∧ w' = w := by
  obtain ⟨s, ⟨ad, cap, H⟩, R, rfl, rfl⟩ := H
  have hh := has_any ⟨_, _, H⟩ hd hn
  rw [R.has_in ho] at hh
  have hm := (R.mem hd).1 (by simp [ho])
  obtain ⟨i, rfl⟩ : ∃ i, hd = i + 1 := ⟨hd - 1, by omega⟩
  obtain ⟨c0, c1, c2, c3, c4, f0, f1, f2, f3, f4⟩ := H.top
  obtain ⟨g, rfl, hg, hp⟩ := H.slots (by omega)
  obtain ⟨d0, d1, d2, d3, e0, e1, e2, e3⟩ := H.slot (i := i) (by omega)
  clear H R ho
  go_enter Try.func33, Try.ntmps33
  go_wp2_with (go_at_call 53; refine hh.mono ?_; rintro e w1 ⟨rfl, rfl⟩; clear hh)
  go_ret2
  exact ⟨rfl, rfl⟩
theorem set_out (H : LA Value.string 60 58 B w p row free va n) (hd : Int) (v : ByteArray) (ho : ∀ k ∈ row, hd ≠ (k : Nat)) (hn : n ≤ 1000000) :
    Calls Try.prog 36 #[.pointer (some ⟨p, 0, none⟩), .int .i64 hd, .string v] w fun e w' => e = .returned (.bool false) ∧ w' = w := by
  obtain ⟨s, H, R, rfl, rfl⟩ := H
  have hh := has_any H hd hn
  rw [R.has_out ho] at hh
  clear H R ho
  go_enter Try.func36, Try.ntmps36
  go_wp2_with (go_at_call 53; refine hh.mono ?_; rintro e w1 ⟨rfl, rfl⟩; clear hh)
  go_ret
  exact ⟨rfl, rfl⟩
theorem set_in (H : LA Value.string 60 58 B w p row free va n) (hd : Nat) (v : ByteArray) (ho : hd ∈ row) (hn : n ≤ 1000000) :
    Calls Try.prog 36 #[.pointer (some ⟨p, 0, none⟩), .int .i64 hd, .string v] w fun e w' => e = .returned (.bool true) ∧ LA Value.string 60 58 B w' p row free (upd va hd v) n ∧ Keeps B w w' := by
  obtain ⟨s, ⟨ad, cap, H⟩, R, rfl, rfl⟩ := H
  have hh := has_any ⟨_, _, H⟩ hd hn
  rw [R.has_in ho] at hh
  have hm := (R.mem hd).1 (by simp [ho])
  obtain ⟨i, rfl⟩ : ∃ i, hd = i + 1 := ⟨hd - 1, by omega⟩
  obtain ⟨c0, c1, c2, c3, c4, f0, f1, f2, f3, f4⟩ := H.top
  obtain ⟨g, rfl, hg, hp⟩ := H.slots (by omega)
  obtain ⟨d0, d1, d2, d3, e0, e1, e2, e3⟩ := H.slot (i := i) (by omega)
  have H2 := H.setVa i v
  have R2 : Rep { s with va := upd s.va (i + 1) v } row free := ⟨R.1, R.2, R.3, R.4, R.5, R.6, R.7, R.8⟩
  have HR : Hid _ := R2
  clear H R ho R2
  go_enter Try.func36, Try.ntmps36
  go_wp2_with (go_at_call 53; refine hh.mono ?_; rintro e w1 ⟨rfl, rfl⟩; clear hh)
  go_ret
  exact ⟨rfl, ⟨_, ⟨_, _, H2⟩, HR.out, rfl, rfl⟩, (Keeps.refl B _).setCell hg _⟩
theorem remove_out (H : LA Value.string 60 58 B w p row free va n) (hd : Int) (ho : ∀ k ∈ row, hd ≠ (k : Nat)) (hn : n ≤ 1000000) :
    Calls Try.prog 34 #[.pointer (some ⟨p, 0, none⟩), .int .i64 hd] w fun e w' => e = .returned (.tuple #[.string ⟨#[]⟩, .bool false]) ∧ w' = w := by
  obtain ⟨s, H, R, rfl, rfl⟩ := H
  have hh := has_any H hd hn
  rw [R.has_out ho] at hh
  clear H R ho
  go_enter Try.func34, Try.ntmps34
  go_wp2_with (go_at_call 53; refine hh.mono ?_; rintro e w1 ⟨rfl, rfl⟩; clear hh)
  go_ret2
  exact ⟨rfl, rfl⟩
set_option maxHeartbeats 1000000 in
theorem remove_in {l r : List Nat} (hd : Nat) (H : LA Value.string 60 58 B w p (l ++ hd :: r) free va n) (hn : n ≤ 1000000) :
    Calls Try.prog 34 #[.pointer (some ⟨p, 0, none⟩), .int .i64 hd] w fun e w' => e = .returned (.tuple #[.string (va hd), .bool true]) ∧ LA Value.string 60 58 B w' p (l ++ r) (hd :: free) (upd va hd ⟨#[]⟩) n ∧ Keeps B w w' := by
  obtain ⟨s, H, R, rfl, rfl⟩ := H
  have hh := has_any H hd hn
  rw [R.has_in (by simp)] at hh
  have hm := (R.mem hd).1 (by simp)
  have hc := R.count
  have hl := R.len
  obtain ⟨b1, b2, -, -⟩ := R.beside
  have hu := untie_any H hd hm.2 b1 b2 hn
  obtain ⟨i, rfl⟩ : ∃ i, hd = i + 1 := ⟨hd - 1, by omega⟩
  have R2 := R.removed (⟨#[]⟩ : ByteArray)
  have hcount : 1 ≤ s.count ∧ s.count ≤ 1000000 := by simp at hc hl; omega
  have hi : i < s.n := by omega
  obtain ⟨S, hS, en, ec, ev⟩ : ∃ S, S = s.untie (i + 1) ∧ S.n = s.n ∧ S.count = s.count ∧ S.va = s.va := ⟨_, rfl, rfl, rfl, rfl⟩
  rw [← hS] at hu R2
  rw [← en] at hi hn ⊢
  rw [← ec] at hcount
  rw [← ev]
  have HR : Hid _ := R2
  clear H R R2 hc hl b1 b2 hS en ec ev hm
  go_enter Try.func34, Try.ntmps34
  go_wp2_with (first
    | (go_at_call 53; refine hh.mono ?_; rintro e w1 ⟨rfl, rfl⟩; clear hh)
    | (go_at_call 56; refine hu.mono ?_; rintro e w2 ⟨rfl, ⟨ad, cap, H1⟩, hb1⟩; clear hu; obtain ⟨c0, c1, c2, c3, c4, f0, f1, f2, f3, f4⟩ := H1.top; obtain ⟨g, rfl, hg, hp⟩ := H1.slots (Nat.lt_of_le_of_lt (Nat.zero_le _) hi); obtain ⟨d0, d1, d2, d3, e0, e1, e2, e3⟩ := H1.slot (i := i) hi))
  have lp := H1.1
  go_region
  go_wp2_with fail
  go_ret2
  exact ⟨rfl, ⟨_, ⟨_, _, (H1.setDrop i ⟨#[]⟩ ((S.count : Int) - 1) (by omega)).drew⟩, HR.out, rfl, rfl⟩, ((((((hb1.setCell hg _).setCell hg _).setCell hg _).setCell hg _).setCell lp _).setCell lp _).drew⟩
theorem toFront_out (H : LA Value.string 60 58 B w p row free va n) (hd : Int) (ho : ∀ k ∈ row, hd ≠ (k : Nat)) (hn : n ≤ 1000000) :
    Calls Try.prog 37 #[.pointer (some ⟨p, 0, none⟩), .int .i64 hd] w fun e w' => e = .returned (.bool false) ∧ w' = w := by
  obtain ⟨s, H, R, rfl, rfl⟩ := H
  have hh := has_any H hd hn
  rw [R.has_out ho] at hh
  clear H R ho
  go_enter Try.func37, Try.ntmps37
  go_wp2_with (go_at_call 53; refine hh.mono ?_; rintro e w1 ⟨rfl, rfl⟩; clear hh)
  go_ret
  exact ⟨rfl, rfl⟩
theorem toBack_out (H : LA Value.string 60 58 B w p row free va n) (hd : Int) (ho : ∀ k ∈ row, hd ≠ (k : Nat)) (hn : n ≤ 1000000) :
    Calls Try.prog 38 #[.pointer (some ⟨p, 0, none⟩), .int .i64 hd] w fun e w' => e = .returned (.bool false) ∧ w' = w := by
  obtain ⟨s, H, R, rfl, rfl⟩ := H
  have hh := has_any H hd hn
  rw [R.has_out ho] at hh
  clear H R ho
  go_enter Try.func38, Try.ntmps38
  go_wp2_with (go_at_call 53; refine hh.mono ?_; rintro e w1 ⟨rfl, rfl⟩; clear hh)
  go_ret
  exact ⟨rfl, rfl⟩
set_option maxHeartbeats 400000 in
theorem toFront_in {l r : List Nat} (hd : Nat) (H : LA Value.string 60 58 B w p (l ++ hd :: r) free va n) (hn : n ≤ 1000000) :
    Calls Try.prog 37 #[.pointer (some ⟨p, 0, none⟩), .int .i64 hd] w fun e w' => e = .returned (.bool true) ∧ LA Value.string 60 58 B w' p (hd :: (l ++ r)) free va n ∧ Keeps B w w' := by
  obtain ⟨s, H, R, rfl, rfl⟩ := H
  have hh := has_any H hd hn
  rw [R.has_in (by simp)] at hh
  obtain ⟨b1, b2, -, hm⟩ := R.beside
  have hu := untie_any H hd hm b1 b2 hn
  obtain ⟨L, hL⟩ := ring_behind' (l ++ r)
  obtain ⟨e1, -, hx, -⟩ := R.untied_ends
  have R2 := R.moved (l' := []) (r' := l ++ r) rfl (a := 0) (b := (s.untie hd).nx 0) (L := []) rfl (by rw [e1]; exact hL)
  obtain ⟨S, hS, en, ev⟩ : ∃ S, S = s.untie hd ∧ S.n = s.n ∧ S.va = s.va := ⟨_, rfl, rfl, rfl⟩
  rw [← hS] at hu R2 hx
  rw [← en] at hm hn hx ⊢
  rw [← ev]
  have HR : Hid _ := R2
  clear H R R2 b1 b2 hS en ev e1 hL
  go_enter Try.func37, Try.ntmps37
  go_wp2_with (first
    | (go_at_call 53; refine hh.mono ?_; rintro e w1 ⟨rfl, rfl⟩; clear hh)
    | (go_at_call 56; refine hu.mono ?_; rintro e w2 ⟨rfl, ⟨ad, cap, H1⟩, hb1⟩; clear hu; obtain ⟨c0, c1, -, -, -, -⟩ := H1.top)
    | (go_at_call 55; refine (tie_any ⟨_, _, H1⟩ hd 0 (S.nx 0) hm (by omega) hx hn).mono ?_; rintro e w3 ⟨rfl, H2, hb2⟩; clear H1))
  go_ret
  exact ⟨rfl, ⟨_, H2, HR.out, rfl, rfl⟩, hb1.trans hb2⟩
set_option maxHeartbeats 400000 in
theorem toBack_in {l r : List Nat} (hd : Nat) (H : LA Value.string 60 58 B w p (l ++ hd :: r) free va n) (hn : n ≤ 1000000) :
    Calls Try.prog 38 #[.pointer (some ⟨p, 0, none⟩), .int .i64 hd] w fun e w' => e = .returned (.bool true) ∧ LA Value.string 60 58 B w' p (l ++ r ++ [hd]) free va n ∧ Keeps B w w' := by
  obtain ⟨s, H, R, rfl, rfl⟩ := H
  have hh := has_any H hd hn
  rw [R.has_in (by simp)] at hh
  obtain ⟨b1, b2, -, hm⟩ := R.beside
  have hu := untie_any H hd hm b1 b2 hn
  obtain ⟨L, hL⟩ := ring_ahead' (l ++ r)
  obtain ⟨-, e1, -, hx⟩ := R.untied_ends
  have R2 := R.moved (l' := l ++ r) (r' := []) (by simp) (a := (s.untie hd).pv 0) (b := 0) (L := L) (Z := []) (by rw [e1]; exact hL) rfl
  obtain ⟨S, hS, en, ev⟩ : ∃ S, S = s.untie hd ∧ S.n = s.n ∧ S.va = s.va := ⟨_, rfl, rfl, rfl⟩
  rw [← hS] at hu R2 hx
  rw [← en] at hm hn hx ⊢
  rw [← ev]
  have HR : Hid _ := R2
  clear H R R2 b1 b2 hS en ev e1 hL
  go_enter Try.func38, Try.ntmps38
  go_wp2_with (first
    | (go_at_call 53; refine hh.mono ?_; rintro e w1 ⟨rfl, rfl⟩; clear hh)
    | (go_at_call 56; refine hu.mono ?_; rintro e w2 ⟨rfl, ⟨ad, cap, H1⟩, hb1⟩; clear hu; obtain ⟨c0, c1, -, -, -, -⟩ := H1.top)
    | (go_at_call 55; refine (tie_any ⟨_, _, H1⟩ hd (S.pv 0) 0 hm hx (by omega) hn).mono ?_; rintro e w3 ⟨rfl, H2, hb2⟩; clear H1))
  go_ret
  exact ⟨rfl, ⟨_, H2, HR.out, rfl, rfl⟩, hb1.trans hb2⟩
theorem front_any (H : LA Value.string 60 58 B w p row free va n) : Calls Try.prog 12 #[.pointer (some ⟨p, 0, none⟩)] w fun e w' => e = .returned (.int .i64 (hdOf row : Nat)) ∧ w' = w := by
  obtain ⟨s, ⟨ad, cap, H⟩, R, rfl, rfl⟩ := H
  obtain ⟨c0, c1, -, -, -, -⟩ := H.top
  rw [← R.front']
  clear H R
  go_enter Try.func12, Try.ntmps12
  go_wp2
  go_ret
  exact ⟨rfl, rfl⟩
theorem back_any (H : LA Value.string 60 58 B w p row free va n) : Calls Try.prog 14 #[.pointer (some ⟨p, 0, none⟩)] w fun e w' => e = .returned (.int .i64 (lsOf row : Nat)) ∧ w' = w := by
  obtain ⟨s, ⟨ad, cap, H⟩, R, rfl, rfl⟩ := H
  obtain ⟨c0, c1, -, -, -, -⟩ := H.top
  rw [← R.back']
  clear H R
  go_enter Try.func14, Try.ntmps14
  go_wp2
  go_ret
  exact ⟨rfl, rfl⟩
theorem len_any (H : LA Value.string 60 58 B w p row free va n) : Calls Try.prog 19 #[.pointer (some ⟨p, 0, none⟩)] w fun e w' => e = .returned (.int .i64 (row.length : Nat)) ∧ w' = w := by
  obtain ⟨s, ⟨ad, cap, H⟩, R, rfl, rfl⟩ := H
  obtain ⟨c0, c1, c2, c3, c4, -⟩ := H.top
  rw [← R.count]
  clear H R
  go_enter Try.func19, Try.ntmps19
  go_wp2
  go_ret
  exact ⟨rfl, rfl⟩
theorem next_out (H : LA Value.string 60 58 B w p row free va n) (hd : Int) (ho : ∀ k ∈ row, hd ≠ (k : Nat)) (hn : n ≤ 1000000) :
    Calls Try.prog 31 #[.pointer (some ⟨p, 0, none⟩), .int .i64 hd] w fun e w' => e = .returned (.int .i64 0) ∧ w' = w := by
  obtain ⟨s, H, R, rfl, rfl⟩ := H
  have hh := has_any H hd hn
  rw [R.has_out ho] at hh
  clear H R ho
  go_enter Try.func31, Try.ntmps31
  go_wp2_with (go_at_call 53; refine hh.mono ?_; rintro e w1 ⟨rfl, rfl⟩; clear hh)
  go_ret
  exact ⟨rfl, rfl⟩
theorem next_in {l r : List Nat} (hd : Nat) (H : LA Value.string 60 58 B w p (l ++ hd :: r) free va n) (hn : n ≤ 1000000) :
    Calls Try.prog 31 #[.pointer (some ⟨p, 0, none⟩), .int .i64 hd] w fun e w' => e = .returned (.int .i64 (hdOf r : Nat)) ∧ w' = w := by
  obtain ⟨s, ⟨ad, cap, H⟩, R, rfl, rfl⟩ := H
  have hh := has_any ⟨_, _, H⟩ hd hn
  rw [R.has_in (by simp)] at hh
  have hm := (R.mem hd).1 (by simp)
  have ha := R.aside'.2
  obtain ⟨i, rfl⟩ : ∃ i, hd = i + 1 := ⟨hd - 1, by omega⟩
  obtain ⟨c0, c1, c2, c3, c4, f0, f1, f2, f3, f4⟩ := H.top
  obtain ⟨g, rfl, hg, hp⟩ := H.slots (by omega)
  obtain ⟨d0, d1, d2, d3, e0, e1, e2, e3⟩ := H.slot (i := i) (by omega)
  rw [← ha]
  clear H R ha
  go_enter Try.func31, Try.ntmps31
  go_wp2_with (go_at_call 53; refine hh.mono ?_; rintro e w1 ⟨rfl, rfl⟩; clear hh)
  go_ret
  exact ⟨rfl, rfl⟩
theorem prev_out (H : LA Value.string 60 58 B w p row free va n) (hd : Int) (ho : ∀ k ∈ row, hd ≠ (k : Nat)) (hn : n ≤ 1000000) :
    Calls Try.prog 39 #[.pointer (some ⟨p, 0, none⟩), .int .i64 hd] w fun e w' => e = .returned (.int .i64 0) ∧ w' = w := by
  obtain ⟨s, H, R, rfl, rfl⟩ := H
  have hh := has_any H hd hn
  rw [R.has_out ho] at hh
  clear H R ho
  go_enter Try.func39, Try.ntmps39
  go_wp2_with (go_at_call 53; refine hh.mono ?_; rintro e w1 ⟨rfl, rfl⟩; clear hh)
  go_ret
  exact ⟨rfl, rfl⟩
theorem prev_in {l r : List Nat} (hd : Nat) (H : LA Value.string 60 58 B w p (l ++ hd :: r) free va n) (hn : n ≤ 1000000) :
    Calls Try.prog 39 #[.pointer (some ⟨p, 0, none⟩), .int .i64 hd] w fun e w' => e = .returned (.int .i64 (lsOf l : Nat)) ∧ w' = w := by
  obtain ⟨s, ⟨ad, cap, H⟩, R, rfl, rfl⟩ := H
  have hh := has_any ⟨_, _, H⟩ hd hn
  rw [R.has_in (by simp)] at hh
  have hm := (R.mem hd).1 (by simp)
  have ha := R.aside'.1
  obtain ⟨i, rfl⟩ : ∃ i, hd = i + 1 := ⟨hd - 1, by omega⟩
  obtain ⟨c0, c1, c2, c3, c4, f0, f1, f2, f3, f4⟩ := H.top
  obtain ⟨g, rfl, hg, hp⟩ := H.slots (by omega)
  obtain ⟨d0, d1, d2, d3, e0, e1, e2, e3⟩ := H.slot (i := i) (by omega)
  rw [← ha]
  clear H R ha
  go_enter Try.func39, Try.ntmps39
  go_wp2_with (go_at_call 53; refine hh.mono ?_; rintro e w1 ⟨rfl, rfl⟩; clear hh)
  go_ret
  exact ⟨rfl, rfl⟩
end
end Go.Proofs.Ytgpjdcoikbmciaa
