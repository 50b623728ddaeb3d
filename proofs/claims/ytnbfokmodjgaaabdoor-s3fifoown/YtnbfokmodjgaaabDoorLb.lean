/- What each function of a list of items answers, and what becomes of its row: New, PushBack, Get, Remove, Front, Len, All. -/
import Derived.Test.YtnbfokmodjgaaabDoorLg
import Derived.BigQuiet
import Derived.WalkSmall
import Derived.WideShapes
namespace Go.Proofs.YtnbfokmodjgaaabDoor.Ls
open Go.RowKit
section
variable {te tl : TypeId} {B : Nat → Prop} {w w' : World} {p : Nat}
/-- new memory leaves a list alone -/
theorem ListIn.below {s : St It} {ad : Option Addr} {cap : Nat} (h : ListIn te tl B w p s ad cap) (hb : Below w.heap.size w w') : ListIn te tl B w' p s ad cap :=
  h.far (row := none) ⟨hb.os, hb.tape, hb.output, hb.size, fun k hk _ => hb.block k hk⟩ (fun _ e => by cases e)
theorem LA.below {row free : List Nat} {va : Nat → It} {n : Nat} (h : LA te tl B w p row free va n) (hb : Below w.heap.size w w') : LA te tl B w' p row free va n := by
  obtain ⟨s, ⟨ad, cap, H⟩, r⟩ := h
  exact ⟨s, ⟨ad, cap, H.below hb⟩, r⟩
theorem LA.boxed {row free : List Nat} {va : Nat → It} {n q : Nat} (h : LA te tl B w p row free va n) (hq : ∀ k, B k → k ≠ q) (u v : Value) : LA te tl B ((w.setCell ⟨q, 0, none⟩ u).setCell ⟨q, 1, none⟩ v).drew p row free va n :=
  h.kept (D := fun k => k = q) (((Keeps.refl (fun k => k = q) w).setCell (p := ⟨q, 0, none⟩) rfl u).setCell (p := ⟨q, 1, none⟩) rfl v).drew (fun k hk e => hq k hk e)
theorem listAt_below {s : St It} (h : ListAt te tl B w p s) (hb : Below w.heap.size w w') : ListAt te tl B w' p s := by
  obtain ⟨ad, cap, H⟩ := h
  exact ⟨ad, cap, H.below hb⟩
end

theorem make_any (w : World) (B : Nat → Prop) (hB : B w.heap.size) :
    Calls Tryd.prog 46 #[] w fun e w' => ∃ p, e = .returned (.pointer (some ⟨p, 0, none⟩)) ∧ LA 105 103 B w' p [] [] (fun _ => It.none) 0 ∧ Keeps B w w' :=
  (new_any w B hB (fun _ => It.none) (fun _ => false)).mono fun _ _ ⟨p, h1, h2, h3, _⟩ => ⟨p, h1, ⟨_, h2, Rep.empty _ _, rfl, rfl⟩, h3⟩

set_option maxHeartbeats 400000 in
theorem pushBack_any {B : Nat → Prop} {w : World} {p : Nat} {row free : List Nat} {va : Nat → It} {n : Nat} (H : LA 105 103 B w p row free va n) (hB : ∀ k, w.heap.size ≤ k → B k) (v : It) (hn : n ≤ 900000) :
    Calls Tryd.prog 57 #[.pointer (some ⟨p, 0, none⟩), .agg #[.string v.key, .int .i64 (v.n : Nat)]] w fun e w' => e = .returned (.int .i64 (handOf free n)) ∧ LA 105 103 B w' p (row ++ [handOf free n]) free.tail (upd va (handOf free n) v) (moreOf free n) ∧ Keeps B w w' := by
  obtain ⟨s, H, R, rfl, rfl⟩ := H
  obtain ⟨L, hL⟩ := ring_ahead' row
  have hf := R.hand_eq.2
  obtain ⟨h0, _, hle, _⟩ := R.hand_new
  obtain ⟨em, eh⟩ := R.more
  have hcl : s.count ≤ 1000000 := by have := R.len; have := R.count; omega
  have hpv : (s.give v).pv 0 = row.getLastD 0 := (upd_far _ _ (Ne.symm h0)).trans R.back
  have R2 : Rep ((s.give v).tie s.hand ((s.give v).pv 0) 0) (row ++ [s.hand]) free.tail := Rep.push (l := row) (r := []) (by simpa using R) v (a := (s.give v).pv 0) (b := 0) (L := L) (Z := []) (by rw [hpv]; exact hL) rfl
  have hgn : (s.give v).n ≤ 1000000 := by show (if s.free = 0 then s.n + 1 else s.n) ≤ _; split <;> omega
  have hgh : s.hand ≤ (s.give v).n := hle
  have hgx : (s.give v).pv 0 ≤ (s.give v).n := by
    rw [hpv, ← R.back]
    show _ ≤ (if s.free = 0 then s.n + 1 else s.n)
    have := R.ends
    split <;> omega
  have hlo := H.lo
  have HR : Hid _ := R2
  have HM : Hid _ := em
  rw [← eh]
  clear R2 R hL hpv em eh h0 hle
  go_enter Tryd.func57, Tryd.ntmps57
  go_wp2_with (first
    | (go_at_call 78; go_must (refine (give_any (listAt_below H ((Below.refl _ w).alloc (Nat.le_refl _) _)) (fun k hk => hB k (by have := hk; rw [World.size_alloc] at this; omega)) v hf hcl (by omega)).mono ?_; rintro e w1 ⟨rfl, ⟨ad, cap, H1⟩, hb1⟩; obtain ⟨c0, c1, -, -, -, -⟩ := H1.top; clear H))
    | (go_at_call 79; refine (tie_any ⟨_, _, H1⟩ s.hand ((s.give v).pv 0) 0 hgh hgx (by omega) hgn).mono ?_; rintro e w2 ⟨rfl, H2, hb2⟩; clear H1))
  go_ret
  exact ⟨rfl, ⟨_, H2, HR.out, rfl, HM.out⟩, (((Keeps.refl _ _).alloc _).trans hb1).trans hb2⟩
section
variable {B : Nat → Prop} {w : World} {p : Nat} {row free : List Nat} {va : Nat → It} {n : Nat}
theorem get_in (H : LA 105 103 B w p row free va n) (hd : Nat) (ho : hd ∈ row) (hn : n ≤ 1000000) :
    Calls Tryd.prog 54 #[.pointer (some ⟨p, 0, none⟩), .int .i64 hd] w fun e w' => e = .returned (.tuple #[.agg #[.string (va hd).key, .int .i64 ((va hd).n : Nat)], .bool true]) ∧ Below w.heap.size w w' := by
  obtain ⟨s, ⟨ad, cap, H⟩, R, rfl, rfl⟩ := H
  have hbx : Below w.heap.size w (w.alloc (.cells #[.string ByteArray.empty, .int .i64 0] 71)) := (Below.refl _ w).alloc (Nat.le_refl _) _
  have hh := has_any ⟨_, _, H.below hbx⟩ hd hn
  rw [R.has_in ho] at hh
  have hm := (R.mem hd).1 (by simp [ho])
  obtain ⟨i, rfl⟩ : ∃ i, hd = i + 1 := ⟨hd - 1, by omega⟩
  obtain ⟨c0, c1, c2, c3, c4, f0, f1, f2, f3, f4⟩ := H.top
  obtain ⟨g, rfl, hg, hp⟩ := H.slots (by omega)
  obtain ⟨d0, d1, d2, d3, d4, e0, e1, e2, e3, e4⟩ := H.slot (i := i) (by omega)
  have hlp := H.old (.inl rfl)
  have hlg := H.old (.inr rfl)
  clear H R ho
  go_enter Tryd.func54, Tryd.ntmps54
  go_wp2_with (go_at_call 77; go_must (refine hh.mono ?_; rintro e w1 ⟨rfl, rfl⟩; clear hh))
  exact bodyPost_ret (v := .tuple #[.agg #[.string (s.va (i + 1)).key, .int .i64 ((s.va (i + 1)).n : Nat)], .bool true]) (by simp [results, Tryd.results54, go_sem]) rfl ⟨rfl, (Below.refl _ w).alloc (Nat.le_refl _) _⟩
set_option maxHeartbeats 1000000 in
theorem remove_in0 {l r : List Nat} (hd : Nat) (hnB : ∀ k, w.heap.size ≤ k → ¬ B k) (H : LA 105 103 B w p (l ++ hd :: r) free va n) (hn : n ≤ 1000000) :
    Calls Tryd.prog 64 #[.pointer (some ⟨p, 0, none⟩), .int .i64 hd] w fun e w' => e = .returned (.tuple #[.agg #[.string (va hd).key, .int .i64 ((va hd).n : Nat)], .bool true]) ∧ LA 105 103 B w' p (l ++ r) (hd :: free) (upd va hd It.none) n ∧ Keeps B w w' := by
  obtain ⟨s, H, R, rfl, rfl⟩ := H
  have hbx : Below w.heap.size w (w.alloc (.cells #[.string ByteArray.empty, .int .i64 0] 71)) := (Below.refl _ w).alloc (Nat.le_refl _) _
  have H0 := listAt_below H hbx
  have hh := has_any H0 hd hn
  rw [R.has_in (by simp)] at hh
  have hm := (R.mem hd).1 (by simp)
  have hc := R.count
  have hl := R.len
  obtain ⟨b1, b2, -, -⟩ := R.beside
  have hu := untie_any H0 hd hm.2 b1 b2 hn
  obtain ⟨i, rfl⟩ : ∃ i, hd = i + 1 := ⟨hd - 1, by omega⟩
  have R2 := R.removed It.none
  have hcount : 1 ≤ s.count ∧ s.count ≤ 1000000 := by simp at hc hl; omega
  have hi : i < s.n := by omega
  obtain ⟨S, hS, en, ec, ev⟩ : ∃ S, S = s.untie (i + 1) ∧ S.n = s.n ∧ S.count = s.count ∧ S.va = s.va := ⟨_, rfl, rfl, rfl, rfl⟩
  rw [← hS] at hu R2
  rw [← en] at hi hn ⊢
  rw [← ec] at hcount
  rw [← ev]
  have HR : Hid _ := R2
  clear H H0 R R2 hc hl b1 b2 hS en ec ev hm
  go_enter Tryd.func64, Tryd.ntmps64
  go_wp2_with (first
    | (go_at_call 77; refine hh.mono ?_; rintro e w1 ⟨rfl, rfl⟩; clear hh)
    | (go_at_call 86; refine hu.mono ?_; rintro e w2 ⟨rfl, ⟨ad, cap, H1⟩, hb1⟩; clear hu; obtain ⟨c0, c1, c2, c3, c4, f0, f1, f2, f3, f4⟩ := H1.top; obtain ⟨g, rfl, hg, hp⟩ := H1.slots (Nat.lt_of_le_of_lt (Nat.zero_le _) hi); obtain ⟨d0, d1, d2, d3, d4, e0, e1, e2, e3, e4⟩ := H1.slot (i := i) hi; have hlp := H1.old (.inl rfl); have hlg := H1.old (.inr rfl); have hbs := hb1.size; rw [World.size_alloc] at hbs; have hbx2 : w2.heap[w.heap.size]? = some (Obj.cells #[Value.string ByteArray.empty, Value.int IntKind.i64 0] 71 (0, 0)) := ((hb1.block _ (by rw [World.size_alloc]; omega) (hnB _ (Nat.le_refl _))).trans (heap_alloc_new w _))))
  have lp := H1.1
  have H2 := H1.alloc (Obj.cells #[Value.string (S.va (i + 1)).key, Value.int IntKind.i64 ((S.va (i + 1)).n : Nat)] 71)
  obtain ⟨W, hW⟩ : ∃ W, W = w2.alloc (Obj.cells #[Value.string (S.va (i + 1)).key, Value.int IntKind.i64 ((S.va (i + 1)).n : Nat)] 71) := ⟨_, rfl⟩
  obtain ⟨nb, hnb⟩ : ∃ nb, nb = w2.heap.size := ⟨_, rfl⟩
  rw [← hW] at H2
  have hbW : W.heap[w.heap.size]? = some (Obj.cells #[Value.string ByteArray.empty, Value.int IntKind.i64 0] 71 (0, 0)) := by rw [hW]; exact (((Below.refl _ w2).alloc (Nat.le_refl _) _).block _ (by omega)).trans hbx2
  have hvW : W.heap[nb]? = some (Obj.cells #[Value.string (S.va (i + 1)).key, Value.int IntKind.i64 ((S.va (i + 1)).n : Nat)] 71 (0, 0)) := by rw [hW, hnb]; exact heap_alloc_new w2 _
  have hKW : Keeps B (w.alloc (.cells #[.string ByteArray.empty, .int .i64 0] 71)) W := by rw [hW]; exact hb1.alloc _
  rw [← hW, ← hnb]
  have hpw : p ≠ w.heap.size := fun e => hnB _ (Nat.le_refl _) (e ▸ lp)
  have hgw : g ≠ w.heap.size := fun e => hnB _ (Nat.le_refl _) (e ▸ hg)
  have hpn : p ≠ nb := by omega
  have hgn : g ≠ nb := by omega
  have hnw : nb ≠ w.heap.size := by omega
  clear c0 c1 c2 c3 c4 f0 f1 f2 f3 f4 d0 d1 d2 d3 d4 e0 e1 e2 e3 e4 hlp hlg hbs hbx2 hW hnb
  obtain ⟨c0, c1, c2, c3, c4, f0, f1, f2, f3, f4⟩ := H2.top
  obtain ⟨d0, d1, d2, d3, d4, e0, e1, e2, e3, e4⟩ := H2.slot (i := i) hi
  have y0 := cell_of_block (j := 0) hbW
  have y1 := cell_of_block (j := 1) hbW
  have z0 := frozen_of_block (j := 0) hbW
  have z1 := frozen_of_block (j := 1) hbW
  have v0 := cell_of_block (j := 0) hvW
  have v1 := cell_of_block (j := 1) hvW
  simp at y0 y1 v0 v1
  generalize hq : w.heap.size = nr at *
  have HQ : Hid (w.heap.size = nr) := hq
  have H2' : Hid (ListIn 105 103 B W p S (some ⟨g, 0, none⟩) cap) := H2
  clear hq hbW hvW H1 H2
  go_region
  go_wp2_with fail
  have h5 := ListIn.setDrop H2'.out i It.none ((S.count : Int) - 1) (by omega)
  have h6 := LA.boxed (q := nr) ⟨_, ⟨_, _, h5⟩, HR.out, rfl, rfl⟩ (fun k hk e => hnB k (by omega) hk) (Value.string (S.va (i + 1)).key) (Value.int IntKind.i64 ((S.va (i + 1)).n : Nat))
  have hKB : Keeps (fun k => B k ∨ nr ≤ k) w W := ((Keeps.refl _ w).alloc _).trans (hKW.mono (fun k _ h => .inl h))
  have h7 := ((((((((((hKB.setCell (p := ⟨g, i * 5, none⟩) (.inl hg) (Value.int IntKind.i64 0)).setCell (p := ⟨g, i * 5 + 1, none⟩) (.inl hg) (Value.int IntKind.i64 (S.free : Nat))).setCell (p := ⟨g, i * 5 + 2, none⟩) (.inl hg) (Value.bool false)).setCell (p := ⟨g, i * 5 + 3, none⟩) (.inl hg) (Value.string ⟨#[]⟩)).setCell (p := ⟨g, i * 5 + 4, none⟩) (.inl hg) (Value.int IntKind.i64 0)).setCell (p := ⟨p, 3, none⟩) (.inl lp) (Value.int IntKind.i64 ((i : Int) + 1))).setCell (p := ⟨p, 4, none⟩) (.inl lp) (Value.int IntKind.i64 ((S.count : Int) - 1))).setCell (p := ⟨nr, 0, none⟩) (.inr (Nat.le_refl _)) (Value.string (S.va (i + 1)).key)).setCell (p := ⟨nr, 1, none⟩) (.inr (Nat.le_refl _)) (Value.int IntKind.i64 ((S.va (i + 1)).n : Nat))).drew).mono (D' := B) (fun k hk h => by rcases h with h | h; exact h; rw [HQ.out] at hk; omega)
  exact bodyPost_ret (v := .tuple #[.agg #[.string (S.va (i + 1)).key, .int .i64 ((S.va (i + 1)).n : Nat)], .bool true]) (by simp [results, Tryd.results64, go_sem, y0, y1]) rfl ⟨rfl, h6, h7⟩
theorem remove_in {l r : List Nat} (hd : Nat) (H : LA 105 103 B w p (l ++ hd :: r) free va n) (hn : n ≤ 1000000) :
    Calls Tryd.prog 64 #[.pointer (some ⟨p, 0, none⟩), .int .i64 hd] w fun e w' => e = .returned (.tuple #[.agg #[.string (va hd).key, .int .i64 ((va hd).n : Nat)], .bool true]) ∧ LA 105 103 B w' p (l ++ r) (hd :: free) (upd va hd It.none) n ∧ Keeps B w w' := by
  refine (remove_in0 hd (fun k hk h => by have := h.2; omega) (LA.narrow H) hn).mono ?_
  rintro e w' ⟨h1, h2, h3⟩
  exact ⟨h1, LA.wide h2 (fun k h => h.1), h3.mono (fun k _ h => h.1)⟩
theorem front_any (H : LA 105 103 B w p row free va n) : Calls Tryd.prog 91 #[.pointer (some ⟨p, 0, none⟩)] w fun e w' => e = .returned (.int .i64 (hdOf row : Nat)) ∧ w' = w := by
  obtain ⟨s, ⟨ad, cap, H⟩, R, rfl, rfl⟩ := H
  obtain ⟨c0, c1, -, -, -, -⟩ := H.top
  rw [← R.front']
  clear H R
  go_enter Tryd.func91, Tryd.ntmps91
  go_wp2
  go_ret
  exact ⟨rfl, rfl⟩
theorem len_any (H : LA 105 103 B w p row free va n) : Calls Tryd.prog 67 #[.pointer (some ⟨p, 0, none⟩)] w fun e w' => e = .returned (.int .i64 (row.length : Nat)) ∧ w' = w := by
  obtain ⟨s, ⟨ad, cap, H⟩, R, rfl, rfl⟩ := H
  obtain ⟨c0, c1, c2, c3, c4, -⟩ := H.top
  rw [← R.count]
  clear H R
  go_enter Tryd.func67, Tryd.ntmps67
  go_wp2
  go_ret
  exact ⟨rfl, rfl⟩
end
def lenOf : Value → Nat | .slice _ n _ => n | _ => 0
theorem infoIt : (Tryd.prog.info? 71).map (fun i => (i.zero, i.size, i.bytes)) = some (some (.agg #[.string ByteArray.empty, .int .i64 0]), 2, 24) := by kernel_rfl
/-- the cells of items -/
def its (l : List It) : List Value := l.flatMap fun x => [Value.string x.key, Value.int IntKind.i64 (x.n : Nat)]
theorem its_snoc (l : List It) (x : It) : its (l ++ [x]) = its l ++ [Value.string x.key, Value.int IntKind.i64 (x.n : Nat)] := by simp [its]
theorem its_at {l : List It} {j : Nat} {x : It} (h : l[j]? = some x) : (its l)[j * 2]? = some (Value.string x.key) ∧ (its l)[j * 2 + 1]? = some (Value.int IntKind.i64 (x.n : Nat)) := by
  induction l generalizing j with
  | nil => simp at h
  | cons y l ih =>
    cases j with
    | zero => simp at h; subst h; simp [its]
    | succ j =>
      have := ih (j := j) (by simpa using h)
      simp only [its, List.flatMap_cons] at this ⊢
      rw [show (j + 1) * 2 = j * 2 + 2 by omega]
      simpa using this
theorem two_new (w : World) (a b : Value) (t : TypeId) (ha : a.oneCell' = true) (hb : b.oneCell' = true) : FromRow (w.alloc (.cells #[a, b] t)) 2 (some ⟨w.heap.size, 0, none⟩) 1 1 [a, b] := by
  refine .inr ⟨_, rfl, rfl, ?_, ?_⟩
  · intro j u hu
    have := heap_alloc_new w (.cells #[a, b] t)
    rw [show (⟨w.heap.size, 0, none⟩ : Addr).add j = ⟨w.heap.size, j, none⟩ by simp [Addr.add_lit], cell_of_block this]
    simpa using hu
  · intro u hu
    simp at hu
    rcases hu with rfl | rfl
    · exact ha
    · exact hb
theorem row_cut {row : List Nat} {k : Nat} (h : k < row.length) : ∃ x, row = row.take k ++ x :: row.drop (k + 1) ∧ row.drop k = x :: row.drop (k + 1) ∧ row.take (k + 1) = row.take k ++ [x] := by
  refine ⟨row[k], ?_, ?_, ?_⟩
  · conv => lhs; rw [← List.take_append_drop k row, List.drop_eq_getElem_cons h]
  · exact List.drop_eq_getElem_cons h
  · simp

set_option maxRecDepth 100000 in
set_option maxHeartbeats 2000000 in
theorem all_any {B : Nat → Prop} {w : World} {p : Nat} {row free : List Nat} {va : Nat → It} {n : Nat} (H : LA 105 103 B w p row free va n) (hn : n ≤ 1000000) :
    Calls Tryd.prog 40 #[.pointer (some ⟨p, 0, none⟩)] w fun e w' => ∃ ad cap, e = .returned (.slice ad row.length cap) ∧ w'.ownsRow w.heap.size 71 2 (.slice ad row.length cap) row.length (its (row.map va)) ∧ Below w.heap.size w w' := by
  obtain ⟨i0, hi, hz0, hz1, hz2⟩ := info_parts infoIt
  have HL : Hid _ := H
  obtain ⟨s, ⟨ad, cap, H⟩, R, rfl, rfl⟩ := H
  have hlen : row.length ≤ 1000000 := by have := R.len; omega
  obtain ⟨c0, c1, c2, c3, c4, -⟩ := H.top
  rw [R.front'] at c1
  rw [R.count] at c4
  have HR : Hid _ := R
  have HI := H
  clear R H
  go_enter Tryd.func40, Tryd.ntmps40
  go_wp2_with (at_make; refine wpList_make_own _ rfl _ _ 68 rfl w.heap.size 71 i0 _ 2 Tryd.underlying68 hi hz0 hz1 .i64 .i64 _ row.length rfl rfl rfl (by rw [hz2]; omega) (by unfold maxLen; omega) (Nat.le_refl _) ?_; intro w0 hown0 hgrow0; have e1 := hgrow0.cell c1 (by simp))
  go_loopw [3, 4] (fun v h wr => ∃ k ad cap, k ≤ row.length ∧ v = .slice ad k cap ∧ h = .int .i64 (hdOf (row.drop k) : Nat) ∧ wr.ownsRow w.heap.size 71 2 (.slice ad k cap) k (its ((row.take k).map s.va)) ∧ Below w.heap.size w wr) (fun v _ _ => row.length - lenOf v)
  case atStart =>
    exact ⟨0, _, _, Nat.zero_le _, rfl, rfl, hown0, (Below.refl _ w).grown hgrow0 (Nat.le_refl _) (fun k e => by cases e)⟩
  case round =>
    obtain ⟨k, ad1, cap1, hk, rfl, rfl, hown, hb⟩ := hrel
    have hR := HR.out
    obtain ⟨x0, x1, x2, x3, x4, -⟩ := (HI.below hb).top
    rcases Nat.lt_or_ge k row.length with hlt | hge
    · obtain ⟨x, hrow, hdrop, htake⟩ := row_cut hlt
      have hx := (hR.mem x).1 (by rw [hrow]; simp)
      have hnx : s.nx x = hdOf (row.drop (k + 1)) := by rw [hrow] at hR; simpa using hR.aside'.2
      obtain ⟨i, rfl⟩ : ∃ i, x = i + 1 := ⟨x - 1, by omega⟩
      have hH := HI.below hb
      obtain ⟨g, rfl, hg, hp⟩ := HI.slots (by omega)
      obtain ⟨d0, d1, d2, d3, d4, -⟩ := hH.slot (i := i) (by omega)
      have hW := hb.size
      have hd : hdOf (row.drop k) = i + 1 := by rw [hdrop]; rfl
      rw [hnx] at d1
      have HN : Hid _ := hnx
      have HT : Hid _ := htake
      rw [hd]
      clear hR hH hdrop hrow hnx hd htake
      go_wp2_with (at_builtin; go_must (refine wpList_append_from _ rfl _ _ 68 rfl w.heap.size 71 i0 _ 2 24 Tryd.underlying68 hi hz0 hz1 hz2 rfl (by omega) (.slice ad1 k cap1) k _ rfl (hown.alloc _) _ 1 1 _ rfl (two_new _ _ _ 71 rfl rfl) (by unfold maxLen; omega) (by omega) (by simp; omega) ?_); intro ad2 cap2 w2 hc2 hown2 hgrow2 hat2; have hb2 : Below w.heap.size w w2 := (hb.alloc hW _).grown hgrow2 (by simp; omega) (fun k e => (hown.lt k e).1); obtain ⟨y0, y1, y2, y3, y4, -⟩ := (HI.below hb2).top; obtain ⟨z0, z1, z2, z3, -⟩ := (HI.below hb2).slot (i := i) (by omega); rw [HN.out] at z1; clear hgrow2 hat2 d0 d1 d2 d3 x0 x1 x2 x3 x4)
      go_roundw
      case rel =>
        refine ⟨k + 1, ad2, cap2, hlt, rfl, rfl, ?_, hb2⟩
        rw [HT.out, List.map_append]
        rw [show List.map s.va [i + 1] = [s.va (i + 1)] from rfl, its_snoc]
        exact hown2
      case measure => simp [lenOf]; omega
    · have hd : row.drop k = [] := List.drop_eq_nil_of_le hge
      have hk' : k = row.length := by omega
      subst hk'
      rw [hd, show hdOf [] = 0 from rfl]
      rw [List.take_length] at hown
      clear hd hR
      go_wp2_with fail
      go_ret
      exact ⟨_, _, rfl, hown, hb⟩

end Go.Proofs.YtnbfokmodjgaaabDoor.Ls
