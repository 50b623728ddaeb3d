/- The document's answer (hoardref5), in memory: its row; what New, Push, Pop, At answer, and what becomes of it. -/
import Derived.Test.YtpjeehdgdhbhdaaArgs
namespace Go.Proofs.Ytpjeehdgdhbhdaa
open Go.RowKit
open Num (V infoE heldRoom held_le pushed atOf)

def RefIn (D : Nat → Prop) (w : World) (x : Nat) (zs : List Int) (room : Nat) (ad : Option Addr) (cap : Nat) : Prop :=
  D x ∧ w.heap[x]? = some (.cells #[.slice ad zs.length cap, .int .i64 (room : Nat)] 34 (0, 0)) ∧ w.ownsRow 0 3 1 (.slice ad zs.length cap) zs.length (zs.map V) ∧
  (Value.slice ad zs.length cap).ownBlock ≠ some x ∧ ∀ g, (Value.slice ad zs.length cap).ownBlock = some g → D g
def RX (D : Nat → Prop) (w : World) (x : Nat) (zs : List Int) (room : Nat) : Prop := ∃ ad cap, RefIn D w x zs room ad cap

section
variable {D : Nat → Prop} {w w' : World} {x : Nat} {zs : List Int} {room : Nat} {ad : Option Addr} {cap : Nat}
theorem ownsRow_same {base : Nat} {e : TypeId} {size m : Nat} {v : Value} {xs : List Value} (h : w.ownsRow base e size v m xs) (hk : ∀ g, v.ownBlock = some g → w'.heap[g]? = w.heap[g]?) : w'.ownsRow base e size v m xs := by
  refine ⟨h.1, ?_⟩
  rcases h.2 with h0 | ⟨g, c, cur, hv, hb, hg, rest⟩
  · exact .inl h0
  · exact .inr ⟨g, c, cur, hv, hb, by rw [hk g (by rw [hv]; rfl)]; exact hg, rest⟩
theorem RefIn.kept {D' : Nat → Prop} (h : RefIn D w x zs room ad cap) (hk : Keeps D' w w') (hd : ∀ k, D k → ¬ D' k) : RefIn D w' x zs room ad cap := by
  obtain ⟨h1, h2, h3, h4, h5⟩ := h
  exact ⟨h1, (hk.block x (lt_of_block h2) (hd _ h1)).trans h2, ownsRow_same h3 (fun g e => hk.block g (h3.lt g e).2 (hd _ (h5 g e))), h4, h5⟩
theorem RefIn.below (h : RefIn D w x zs room ad cap) (hb : Below w.heap.size w w') : RefIn D w' x zs room ad cap :=
  h.kept (D' := fun _ => False) (.of_below hb) (fun _ _ e => e)
theorem RefIn.top (h : RefIn D w x zs room ad cap) : w.cell? ⟨x, 0, none⟩ = some (.slice ad zs.length cap) ∧ w.cell? ⟨x, 1, none⟩ = some (.int .i64 (room : Nat)) ∧ w.frozen? ⟨x, 0, none⟩ = false ∧ w.frozen? ⟨x, 1, none⟩ = false := by
  have := h.2.1
  simp [World.cell?, World.frozen?, this]
theorem RX.narrow (h : RX D w x zs room) : RX (fun k => D k ∧ k < w.heap.size) w x zs room := by
  obtain ⟨_, _, h1, h2, h3, h4, h5⟩ := h
  exact ⟨_, _, ⟨h1, lt_of_block h2⟩, h2, h3, h4, fun g e => ⟨h5 g e, (h3.lt g e).2⟩⟩
theorem RX.wide {D' : Nat → Prop} (h : RX D w x zs room) (hD : ∀ k, D k → D' k) : RX D' w x zs room := by
  obtain ⟨_, _, h1, h2, h3, h4, h5⟩ := h
  exact ⟨_, _, hD _ h1, h2, h3, h4, fun g e => hD _ (h5 g e)⟩
theorem RX.kept {D' : Nat → Prop} (h : RX D w x zs room) (hk : Keeps D' w w') (hd : ∀ k, D k → ¬ D' k) : RX D w' x zs room := by
  obtain ⟨_, _, h⟩ := h; exact ⟨_, _, h.kept hk hd⟩
theorem RX.below (h : RX D w x zs room) (hb : Below w.heap.size w w') : RX D w' x zs room := by
  obtain ⟨_, _, h⟩ := h; exact ⟨_, _, h.below hb⟩
theorem one_new (w : World) (a : Value) (t : TypeId) (h : a.oneCell' = true) : FromRow (w.alloc (.cells #[a] t)) 1 (some ⟨w.heap.size, 0, none⟩) 1 1 [a] := by
  refine .inr ⟨_, rfl, rfl, ?_, ?_⟩
  · intro j u hu
    have := heap_alloc_new w (.cells #[a] t)
    rw [show (⟨w.heap.size, 0, none⟩ : Addr).add j = ⟨w.heap.size, j, none⟩ by simp [Addr.add_lit], cell_of_block this]
    simpa using hu
  · intro u hu
    simp at hu
    subst hu
    exact h
/-- another row -/
theorem RefIn.newL (h : RefIn D w x zs room ad cap) (hw : w'.heap[x]? = w.heap[x]?) {ys : List Int} {m : Nat} {ad' : Option Addr} {cap' : Nat} (hm : ys.length = m) (ho : w'.ownsRow 0 3 1 (.slice ad' m cap') m (ys.map V))
    (hg : ∀ g, (Value.slice ad' m cap').ownBlock = some g → D g ∧ g ≠ x) : RX D (w'.setCell ⟨x, 0, none⟩ (.slice ad' m cap')) x ys room := by
  subst hm
  obtain ⟨h1, h2, h3, h4, h5⟩ := h
  have hne : (Value.slice ad' ys.length cap').ownBlock ≠ some x := fun e => (hg x e).2 rfl
  refine ⟨ad', cap', h1, ?_, ownsRow_setCell_far ho hne, hne, fun g e => (hg g e).1⟩
  rw [block_setCell (hw.trans h2)]
  rfl
theorem rnew_any (w : World) (D : Nat → Prop) (hD : D w.heap.size) (r : Int) :
    Calls Try.prog 7 #[.int .i64 r] w fun e w' => ∃ p, e = .returned (.pointer (some ⟨p, 0, none⟩)) ∧ RX D w' p [] (heldRoom r) ∧ Keeps D w w' ∧ p = w.heap.size := by
  have made : ∀ n : Nat, RX D (w.alloc (.cells #[.slice none 0 0, .int .i64 (n : Nat)] 34)) w.heap.size [] n := fun n =>
    ⟨none, 0, hD, heap_alloc_new w _, World.ownsRow_nil _ _ _ _, by simp [Value.ownBlock], by simp [Value.ownBlock]⟩
  rcases Int.lt_or_le r 0 with h0 | h0
  · rw [show heldRoom r = 0 by simp [heldRoom, h0]]
    go_enter Try.func7, Try.ntmps7
    go_wp2
    go_ret
    exact ⟨_, rfl, made 0, (Keeps.refl D w).alloc _, rfl⟩
  · obtain ⟨n, rfl⟩ : ∃ n : Nat, r = n := ⟨r.toNat, by omega⟩
    rcases Nat.lt_or_ge 4096 n with h1 | h1
    · rw [show heldRoom (n : Int) = 4096 by unfold heldRoom; rw [if_neg (by omega), if_pos (by omega)]]
      go_enter Try.func7, Try.ntmps7
      go_wp2
      go_ret
      exact ⟨_, rfl, made 4096, (Keeps.refl D w).alloc _, rfl⟩
    · rw [show heldRoom (n : Int) = n by unfold heldRoom; rw [if_neg (by omega), if_neg (by omega)]; omega]
      have hmx : max (n : Int) 0 = n := by omega
      go_enter Try.func7, Try.ntmps7
      go_wp2
      go_ret
      exact ⟨_, rfl, made n, (Keeps.refl D w).alloc _, rfl⟩
theorem rpush_full (H : RX D w x zs room) (v : Int) (h : ¬ zs.length < room) :
    Calls Try.prog 11 #[.pointer (some ⟨x, 0, none⟩), V v] w fun e w' => e = .returned (.bool false) ∧ ∃ q, w' = w.drewN q := by
  obtain ⟨ad, cap, H⟩ := H
  obtain ⟨c0, c1, f0, f1⟩ := H.top
  clear H
  have hl : (room : Int) ≤ zs.length := by omega
  go_enter Try.func11, Try.ntmps11
  go_wp2
  go_quiet (fail)
  go_wp2
  go_ret
  exact ⟨rfl, _, rfl⟩
set_option maxHeartbeats 1000000 in
theorem rpush_room (H : RX D w x zs room) (hD : ∀ k, w.heap.size ≤ k → D k) (v : Int) (h : zs.length < room) (hr : room ≤ 4096) :
    Calls Try.prog 11 #[.pointer (some ⟨x, 0, none⟩), V v] w fun e w' => e = .returned (.bool true) ∧ RX D w' x (zs ++ [v]) room ∧ Keeps D w w' := by
  obtain ⟨i0, hi, hz0, hz1, hz2⟩ := info_parts infoE
  obtain ⟨ad, cap, H⟩ := H
  obtain ⟨c0, c1, f0, f1⟩ := H.top
  have hl : ¬ ((room : Int) ≤ zs.length) := by omega
  go_enter Try.func11, Try.ntmps11
  go_wp2
  go_quiet (fail)
  have hk0 : Keeps D w (w.drewN nq) := (Keeps.refl D w).drewN nq
  have HW : RefIn D (w.drewN nq) x zs room ad cap := H
  have HD : Hid (∀ k, (w.drewN nq).heap.size ≤ k → D k) := hD
  generalize w.drewN nq = W at hk0 HW HD ⊢
  obtain ⟨d0, d1, e0, e1⟩ := HW.top
  have HA : RefIn D (W.alloc (.cells #[V v] 3)) x zs room ad cap := HW.below ((Below.refl _ W).alloc (Nat.le_refl _) _)
  clear c0 c1 f0 f1 H hD
  go_wp2_with (at_builtin; go_must (refine wpList_append_from _ rfl _ _ 22 rfl 0 3 i0 _ 1 8 Try.underlying22 hi hz0 hz1 hz2 rfl (by omega) (.slice ad zs.length cap) zs.length _ rfl HA.2.2.1 _ 1 1 _ rfl (one_new W (V v) 3 rfl) (by unfold maxLen; omega) (by omega) (Nat.zero_le _) ?_); intro ad' cap' w2 hc2 hown2 hgrow2 hat2; have hx2 : w2.heap[x]? = (W.alloc (.cells #[V v] 3)).heap[x]? := hgrow2.block x (lt_of_block HA.2.1) (fun e => HA.2.2.2.1 e.symm); have hy2 := hx2.trans HA.2.1; have u0 := cell_of_block (j := 0) hy2; have v0 := frozen_of_block (j := 0) hy2; simp at u0)
  go_ret
  have hA1 := HA.1
  have hA5 := HA.2.2.2.2
  have hA4 := HA.2.2.2.1
  have hlx := lt_of_block HA.2.1
  refine ⟨rfl, HA.newL hx2 (by simp) (by rw [List.map_append]; exact hown2) (fun g e => ?_), (((hk0.alloc _).grown hgrow2 (fun k e => .inl (hA5 k e))).setCell hA1 _)⟩
  rcases hat2 with h | h
  · rw [h] at e
    exact ⟨hA5 g e, fun e2 => hA4 (by rw [e, e2])⟩
  · rw [h] at e
    cases e
    exact ⟨HD.out _ (by simp), by omega⟩
theorem rpush_any (H : RX D w x zs room) (hD : ∀ k, w.heap.size ≤ k → D k) (v : Int) (hr : room ≤ 4096) :
    Calls Try.prog 11 #[.pointer (some ⟨x, 0, none⟩), V v] w fun e w' => e = .returned (.bool (decide (zs.length < room))) ∧ RX D w' x (pushed zs room v) room ∧ Keeps D w w' := by
  by_cases h : zs.length < room
  · rw [show decide (zs.length < room) = true by simpa using h, show pushed zs room v = zs ++ [v] by simp [pushed, h]]
    exact rpush_room H hD v h hr
  · rw [show decide (zs.length < room) = false by simpa using h, show pushed zs room v = zs by simp [pushed, h]]
    exact (rpush_full H v h).mono fun e w' ⟨he, q, hw⟩ => ⟨he, by rw [hw]; exact H, by rw [hw]; exact (Keeps.refl D w).drewN q⟩
theorem rat_out (H : RX D w x zs room) (i : Int) (ho : i < 0 ∨ (zs.length : Int) ≤ i) :
    Calls Try.prog 13 #[.pointer (some ⟨x, 0, none⟩), .int .i64 i] w fun e w' => e = .returned (.tuple #[V 0, .bool false]) ∧ w' = w := by
  obtain ⟨ad, cap, H⟩ := H
  obtain ⟨c0, c1, f0, f1⟩ := H.top
  clear H
  rcases ho with ho | ho
  · go_enter Try.func13, Try.ntmps13
    go_wp2
    go_ret2
    exact ⟨rfl, rfl⟩
  · have h0 : ¬ i < 0 := by omega
    go_enter Try.func13, Try.ntmps13
    go_wp2
    go_ret2
    exact ⟨rfl, rfl⟩
theorem rat_in (H : RX D w x zs room) (i : Nat) {y : Int} (hy : zs[i]? = some y) :
    Calls Try.prog 13 #[.pointer (some ⟨x, 0, none⟩), .int .i64 (i : Nat)] w fun e w' => e = .returned (.tuple #[V y, .bool true]) ∧ w' = w := by
  have hlt : i < zs.length := by
    rcases Nat.lt_or_ge i zs.length with h | h
    · exact h
    · rw [List.getElem?_eq_none h] at hy; cases hy
  obtain ⟨ad, cap, H⟩ := H
  obtain ⟨c0, c1, f0, f1⟩ := H.top
  obtain ⟨g, cur, rfl, _, hg, hc⟩ := ownsRow_block H.2.2.1 (by omega)
  have d0 := hc i (V y) (by simp [hy])
  clear H hy hc hg
  go_enter Try.func13, Try.ntmps13
  go_wp2
  go_ret2
  exact ⟨rfl, rfl⟩
theorem rat_any (H : RX D w x zs room) (i : Int) :
    Calls Try.prog 13 #[.pointer (some ⟨x, 0, none⟩), .int .i64 i] w fun e w' => e = .returned (.tuple #[V (atOf 0 zs i), .bool (decide (0 ≤ i ∧ i < zs.length))]) ∧ w' = w := by
  by_cases h : 0 ≤ i ∧ i < zs.length
  · obtain ⟨n, rfl⟩ : ∃ n : Nat, i = n := ⟨i.toNat, by omega⟩
    have hn : n < zs.length := by omega
    have hx : zs[n]? = some (atOf 0 zs n) := by
      rw [atOf, if_pos h, Int.toNat_natCast, List.getElem?_eq_getElem hn]
      simp [List.getD, List.getElem?_eq_getElem hn]
    rw [show decide (0 ≤ (n : Int) ∧ (n : Int) < zs.length) = true by simpa using h]
    exact rat_in H n hx
  · rw [show decide (0 ≤ i ∧ i < (zs.length : Int)) = false by simpa using h, show atOf 0 zs i = 0 by rw [atOf, if_neg h]]
    exact rat_out H i (by omega)
theorem rpop_nil (H : RX D w x [] room) :
    Calls Try.prog 9 #[.pointer (some ⟨x, 0, none⟩)] w fun e w' => e = .returned (.tuple #[V 0, .bool false]) ∧ w' = w := by
  obtain ⟨ad, cap, H⟩ := H
  obtain ⟨c0, c1, f0, f1⟩ := H.top
  clear H
  rw [List.length_nil] at c0
  go_enter Try.func9, Try.ntmps9
  go_wp2
  go_ret2
  exact ⟨rfl, rfl⟩
theorem from_tail {g cap : Nat} {y : Int} {zs : List Int} (h : w.ownsRow 0 3 1 (.slice (some ⟨g, 0, none⟩) (zs.length + 1) cap) (zs.length + 1) ((y :: zs).map V)) (A : Addr) (hA : (if cap = 1 then some (⟨g, 0, none⟩ : Addr) else some ⟨g, 1, none⟩) = some A) :
    FromRow w 1 (some A) zs.length (cap - 1) (zs.map V) := by
  have hone : ∀ u ∈ zs.map V, u.oneCell' = true := Num.one_cells zs
  by_cases hc : cap = 1
  · have : zs = [] := by
      rcases h.2 with ⟨e, _⟩ | ⟨g', cap', cur, hv, _, _, hle, _⟩
      · cases e
      · cases hv; exact List.eq_nil_of_length_eq_zero (by omega)
    subst this
    exact .inr ⟨_, rfl, rfl, fun j u hu => by simp at hu, by simp⟩
  · rw [if_neg hc] at hA
    cases hA
    refine .inr ⟨_, rfl, by simp, fun j u hu => ?_, hone⟩
    have := h.cells rfl (1 + j) u (by rw [List.map_cons, Nat.add_comm, List.getElem?_cons_succ]; exact hu)
    rw [Addr.add_lit] at this ⊢
    simpa using this
set_option maxHeartbeats 1000000 in
theorem rpop_cons {y : Int} (H : RX D w x (y :: zs) room) (hD : ∀ k, w.heap.size ≤ k → D k) (hl : zs.length ≤ 4096) :
    Calls Try.prog 9 #[.pointer (some ⟨x, 0, none⟩)] w fun e w' => e = .returned (.tuple #[V y, .bool true]) ∧ RX D w' x zs room ∧ Keeps D w w' := by
  obtain ⟨i0, hi, hz0, hz1, hz2⟩ := info_parts infoE
  obtain ⟨ad, cap, H⟩ := H
  obtain ⟨c0, c1, f0, f1⟩ := H.top
  obtain ⟨g, cur, rfl, _, hg, hc⟩ := ownsRow_block H.2.2.1 (by simp)
  have d0 := hc 0 (V y) rfl
  have HA : RefIn D (w.alloc (.cells #[] 3)) x (y :: zs) room (some ⟨g, 0, none⟩) cap := H.below ((Below.refl _ w).alloc (Nat.le_refl _) _)
  obtain ⟨s0, s1, h0, h1⟩ := HA.top
  have hcap : zs.length + 1 ≤ cap := by
    rcases H.2.2.1.2 with ⟨e, _⟩ | ⟨g', cap', cur', hv, _, _, hle, _⟩
    · cases e
    · cases hv; simpa using hle
  obtain ⟨A, hA⟩ : ∃ A, (if cap = 1 then some (⟨g, 0, none⟩ : Addr) else some ⟨g, 1, none⟩) = some A := by
    by_cases h : cap = 1
    · exact ⟨_, by rw [if_pos h]⟩
    · exact ⟨_, by rw [if_neg h]⟩
  have hsrc : FromRow (w.alloc (.cells #[] 3)) 1 (some A) zs.length (cap - 1) (zs.map V) := from_tail (y := y) HA.2.2.1 A hA
  have HH : Hid (RefIn D w x (y :: zs) room (some ⟨g, 0, none⟩) cap) := H
  have HD : Hid (∀ k, w.heap.size ≤ k → D k) := hD
  rw [List.length_cons] at c0 s0
  have hc1 : (1 : Int) ≤ cap := by omega
  have hxn : Hid (x < (w.alloc (.cells #[] 3)).heap.size ∧ some x ≠ (Value.slice (some ⟨w.heap.size, 0, none⟩) 0 0).ownBlock) := by
    have := lt_of_block H.2.1
    refine ⟨by simp; omega, ?_⟩
    simp [Value.ownBlock]
    omega
  clear H HA hg hc hD
  go_enter Try.func9, Try.ntmps9
  go_wp2_with (at_builtin; go_must (refine wpList_append_from _ rfl _ _ 22 rfl 0 3 i0 _ 1 8 Try.underlying22 hi hz0 hz1 hz2 rfl (by omega) _ 0 [] rfl (World.ownsRow_made (size := 1) (base := 0) w #[] 0 (Nat.zero_le _) (by unfold maxLen; omega) rfl) (some A) zs.length (cap - 1) _ rfl hsrc (by unfold maxLen; omega) (by omega) (Nat.zero_le _) ?_); (intro ad' cap' w2 hc2 hown2 hgrow2 hat2; rw [Nat.zero_add] at hown2 hat2 ⊢; rw [List.nil_append] at hown2; have hx2 : w2.heap[x]? = w.heap[x]? := (hgrow2.block x hxn.out.1 hxn.out.2).trans (Below.heap_alloc _ _ _ (lt_of_block HH.out.2.1)); have hy2 := hx2.trans HH.out.2.1; have u0 := cell_of_block (j := 0) hy2; have v0 := frozen_of_block (j := 0) hy2; simp at u0))
  go_ret2
  have hk2 : Keeps D w w2 := ((Keeps.refl D w).alloc _).grown hgrow2 (fun k e => .inr (by cases e; exact Nat.le_refl _))
  have hlx := lt_of_block HH.out.2.1
  refine ⟨rfl, HH.out.newL hx2 rfl hown2 (fun k e => ?_), hk2.setCell HH.out.1 _⟩
  rcases hat2 with h | h
  · rw [h] at e; cases e
    exact ⟨HD.out _ (Nat.le_refl _), fun (e : w.heap.size = x) => by omega⟩
  · rw [h] at e; cases e
    exact ⟨HD.out _ (by simp), by simp; omega⟩
theorem rpop_any (H : RX D w x zs room) (hD : ∀ k, w.heap.size ≤ k → D k) (hl : zs.length ≤ 4096) :
    Calls Try.prog 9 #[.pointer (some ⟨x, 0, none⟩)] w fun e w' => e = .returned (.tuple #[V (zs.headD 0), .bool (decide (0 < zs.length))]) ∧ RX D w' x zs.tail room ∧ Keeps D w w' := by
  cases zs with
  | nil => exact (rpop_nil H).mono fun e w' ⟨he, hw⟩ => ⟨he, by rw [hw]; exact H, by rw [hw]; exact Keeps.refl D w⟩
  | cons y zs => exact (rpop_cons H hD (by simp at hl; omega)).mono fun e w' ⟨he, h⟩ => ⟨by simpa using he, h⟩
end
end Go.Proofs.Ytpjeehdgdhbhdaa
