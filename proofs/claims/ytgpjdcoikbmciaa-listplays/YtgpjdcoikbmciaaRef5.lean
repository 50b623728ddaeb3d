/- The document's answer (hoardref4): what Remove, ToFront, ToBack make of its row. -/
import Derived.Test.YtgpjdcoikbmciaaRef4
namespace Go.Proofs.Ytgpjdcoikbmciaa
open Go.RowKit
set_option linter.unusedSimpArgs false

section
variable {D : Nat → Prop} {w w' : World} {x : Nat} {row free : List Nat} {va : Nat → ByteArray} {n : Nat} {a1 : Option Addr} {c1 : Nat} {a2 : Option Addr} {c2 : Nat}
theorem field62 (a b : Value) (w : World) : (Instr.field 62 (.agg #[a, b]) 1).run Try.prog w = .ok b w := by
  simp [Instr.field, run_underlying Try.underlying62, go_sem, asAgg]
theorem remove_fresh {w0 : World} {o : Obj} {ad' : Option Addr} {m cap' : Nat} (HA : RefIn D (w0.alloc o) x row free va n a1 c1 a2 c2) (hD : ∀ k, w0.heap.size ≤ k → D k)
    (hat : (Value.slice ad' m cap').ownBlock = (Value.slice a2 free.length c2).ownBlock ∨ (Value.slice ad' m cap').ownBlock = some (w0.alloc o).heap.size) :
    ∀ g, (Value.slice ad' m cap').ownBlock = some g → D g ∧ g ≠ x ∧ (Value.slice a1 row.length c1).ownBlock ≠ some g := by
  intro g e
  rcases hat with h | h
  · rw [h] at e
    exact ⟨HA.2.2.2.2.2.2.2.2 g e, fun e2 => HA.2.2.2.2.2.1 (by rw [e, e2]), fun e2 => HA.2.2.2.2.2.2.1 g e2 e⟩
  · rw [h] at e
    cases e
    exact ⟨hD _ (by simp), (HA.fresh (Nat.le_refl _)).1, (HA.fresh (Nat.le_refl _)).2.1⟩
set_option maxHeartbeats 1000000 in
theorem rremove_in {l r : List Nat} (hd : Nat) (H : RA D w x (l ++ hd :: r) free va n) (hD : ∀ k, w.heap.size ≤ k → D k) (ho : hd ∉ l) (hn : (l ++ hd :: r).length ≤ 1000000) (hf : free.length ≤ 1000000) :
    Calls Try.prog 42 #[.pointer (some ⟨x, 0, none⟩), .int .i64 hd] w fun e w' => e = .returned (.tuple #[.string (va hd), .bool true]) ∧ RA D w' x (l ++ r) (hd :: free) va n ∧ Keeps D w w' := by
  obtain ⟨i0, hi, hz0, hz1, hz2⟩ := info_parts Try.info3
  have ha := rat_in hd H ho hn
  obtain ⟨a1, c1, a2, c2, H⟩ := H
  obtain ⟨-, t1, -, -, g1, -⟩ := H.top
  have HA := H.alloc (.cells #[.int .i64 hd] 3)
  have hl : l.length ≤ 1000000 := by rw [List.length_append] at hn; omega
  have hfe : (free.reverse.map fun h => Value.int .i64 (h : Nat)) ++ [Value.int .i64 (hd : Nat)] = ((hd :: free).reverse.map fun h => Value.int .i64 (h : Nat)) := by simp
  have HF : Hid _ := hfe
  clear ho hfe
  have hfd := field62
  go_enter Try.func42, Try.ntmps42
  go_wp2_with (first
    | (go_at_call 58; refine ha.mono ?_; rintro e w1 ⟨rfl, rfl⟩; clear ha)
    | (at_builtin; go_must (refine wpList_append_from _ rfl _ _ 28 rfl 0 3 i0 _ 1 8 Try.underlying28 hi hz0 hz1 hz2 rfl (by omega) (.slice a2 free.length c2) free.length _ rfl HA.2.2.2.1 _ 1 1 _ rfl (one_new _ _ 3 rfl) (by unfold maxLen; omega) (by omega) (Nat.zero_le _) ?_); intro ad' cap' w2 hc2 hown2 hgrow2 hat2; rw [HF.out] at hown2; have hx2 := hgrow2.block x (lt_of_block HA.2.1) (fun e => HA.2.2.2.2.2.1 e.symm); have hy2 := hx2.trans HA.2.1; have u0 := cell_of_block (j := 1) hy2; have v0 := frozen_of_block (j := 1) hy2; simp at u0; have H2 := HA.newF (w' := w2) (m := free.length + 1) (free' := hd :: free) rfl hx2 (fun g e => hgrow2.block g (HA.2.2.1.lt g e).2 (fun e2 => HA.2.2.2.2.2.2.1 g e e2.symm)) hown2 (remove_fresh HA hD hat2); have hk2 := (((Keeps.refl D w1).alloc (.cells #[.int .i64 hd] 3)).grown hgrow2 (fun k e => .inl (HA.2.2.2.2.2.2.2.2 k e))).setCell (p := ⟨x, 1, none⟩) HA.1 (.slice ad' (free.length + 1) cap'))
    | (go_at_call 59; refine (rout_in hd ⟨_, _, _, _, H2⟩ (fun k h => hD k (Nat.le_trans hk2.size h)) hn).mono ?_; rintro e w3 ⟨rfl, H3, hk3⟩))
  go_ret2
  exact ⟨rfl, H3, hk2.trans hk3⟩
theorem flat_cons (hd : Nat) : flat (hd :: row) va = [Value.int .i64 (hd : Nat), Value.string (va hd)] ++ flat row va := rfl
theorem moved_end {w2 : World} {W1 : World} {row' : List Nat} {ad' : Option Addr} {m cap' : Nat} (HW : RefIn D W1 x row free va n a1 c1 a2 c2) (H2 : RefIn D w2 x row free va n a1 c1 a2 c2) (hl : row'.length = m) (hs : w.heap.size ≤ W1.heap.size) (hD : ∀ k, w.heap.size ≤ k → D k)
    (hown : w2.ownsRow 0 62 2 (.slice ad' m cap') m (flat row' va)) (hfr : ∀ k, (Value.slice ad' m cap').ownBlock = some k → W1.heap.size ≤ k) :
    RA D (w2.setCell ⟨x, 0, none⟩ (.slice ad' m cap')) x row' free va n := by
  refine ⟨_, _, _, _, H2.newL (w' := w2) hl rfl (fun _ _ => rfl) hown (fun g e => ⟨hD g (by have := hfr g e; omega), (HW.fresh (hfr g e)).1, (HW.fresh (hfr g e)).2.2⟩)⟩
set_option maxHeartbeats 2000000 in
theorem rtoFront_in {l r : List Nat} (hd : Nat) (H : RA D w x (l ++ hd :: r) free va n) (hD : ∀ k, w.heap.size ≤ k → D k) (ho : hd ∉ l) (hn : (l ++ hd :: r).length ≤ 1000000) :
    Calls Try.prog 44 #[.pointer (some ⟨x, 0, none⟩), .int .i64 hd] w fun e w' => e = .returned (.bool true) ∧ RA D w' x (hd :: (l ++ r)) free va n ∧ Keeps D w w' := by
  obtain ⟨i0, hi, hz0, hz1, hz2⟩ := info_parts Try.info62
  have hlen : (l ++ hd :: r).length = (l ++ r).length + 1 := by simp; omega
  have hl : l.length ≤ 1000000 := by rw [List.length_append] at hn; omega
  go_enter Try.func44, Try.ntmps44
  go_wp2_with (first
    | (go_at_call 58; refine (rat_in hd H ho hn).mono ?_; rintro e w0 ⟨rfl, rfl⟩)
    | (go_at_call 59; refine (rout_in hd H hD hn).mono ?_; rintro e w1 ⟨rfl, ⟨a1, c1, a2, c2, H1⟩, hk1⟩; clear H))
  rw [hlen] at hn
  clear hlen
  generalize hrow : l ++ r = row at H1 hn ⊢
  have HR : Hid _ := hrow
  clear hrow
  have HW := H1.alloc (.cells #[.int .i64 hd, .string (va hd)] 62)
  have hkW : Keeps D w0 (w1.alloc (.cells #[.int .i64 hd, .string (va hd)] 62)) := hk1.alloc _
  have b6 : (w1.alloc (.cells #[.int .i64 hd, .string (va hd)] 62)).heap[w1.heap.size]? = some (.cells #[.int .i64 hd, .string (va hd)] 62 (0, 0)) := heap_alloc_new w1 _
  generalize w1.alloc (.cells #[.int .i64 hd, .string (va hd)] 62) = W at HW hkW b6 ⊢
  generalize w1.heap.size = q at b6 ⊢
  have y0 := cell_of_block (j := 0) b6
  have y1 := cell_of_block (j := 1) b6
  simp at y0 y1
  have HA := HW.alloc (.cells #[.int .i64 hd, .string (va hd)] 62)
  have hbA : (W.alloc (.cells #[.int .i64 hd, .string (va hd)] 62)).heap[q]? = _ := (Below.heap_alloc W _ q (lt_of_block b6)).trans b6
  have w0' := cell_of_block (j := 0) hbA
  have w1' := cell_of_block (j := 1) hbA
  simp at w0' w1'
  obtain ⟨t0, -, -, f0, -, -⟩ := HW.top
  obtain ⟨s0, -, -, k0, -, -⟩ := HA.top
  have hsrc : FromRow ((W.alloc (.cells #[.int .i64 hd, .string (va hd)] 62)).drew) 2 a1 row.length c1 (flat row va) := from_flat (w := (W.alloc (.cells #[.int .i64 hd, .string (va hd)] 62)).drew) HA.2.2.1
  have hDD : Hid _ := hD
  clear hD b6 hbA H1 ho
  go_region_law (refine step_append_from rfl (.tmp 17) (.tmp 21) 27 rfl 0 62 i0 _ 2 24 Try.underlying27 hi hz0 hz1 hz2 rfl (by omega) _ 1 _ (by simp [Act.eval, Act.put]) (own_two W (.int .i64 hd) (.string (va hd))) _ row.length c1 _ (by simp [Act.eval, Act.put]) hsrc (by unfold maxLen; omega) (by omega) (Nat.zero_le _) ?_; intro ad' cap' w2 hc2 hown2 hgrow2 hat2; rw [← flat_cons] at hown2; obtain ⟨hk2, H2⟩ := HW.behind (w1 := (W.alloc (.cells #[.int .i64 hd, .string (va hd)] 62)).drew) (fun k hk => Below.heap_alloc W _ k hk) (by show W.heap.size ≤ (W.alloc _).heap.size; simp) hgrow2 (fun k e => by cases e; exact Nat.le_refl _); obtain ⟨u0, -, -, v0, -, -⟩ := H2.top)
  all_goals
    go_wp2_with fail
    go_ret
    rw [HR.out]
    refine ⟨rfl, moved_end HW H2 (by simp; omega) hkW.size hDD.out hown2 ?_, ?_⟩
    · intro k e
      rcases hat2 with h | h
      · rw [h] at e; cases e; exact Nat.le_refl _
      · rw [h] at e; cases e; show W.heap.size ≤ (W.alloc _).heap.size; simp
    · exact hkW.trans ((((Keeps.refl D W).alloc _).drew.grown hgrow2 (fun k e => .inr (by cases e; exact Nat.le_refl _))).setCell HW.1 _)
theorem flat_concat (hd : Nat) : flat (row ++ [hd]) va = flat row va ++ [Value.int .i64 (hd : Nat), Value.string (va hd)] := by rw [flat_append]; rfl
set_option maxHeartbeats 2000000 in
theorem rtoBack_in {l r : List Nat} (hd : Nat) (H : RA D w x (l ++ hd :: r) free va n) (hD : ∀ k, w.heap.size ≤ k → D k) (ho : hd ∉ l) (hn : (l ++ hd :: r).length ≤ 1000000) :
    Calls Try.prog 45 #[.pointer (some ⟨x, 0, none⟩), .int .i64 hd] w fun e w' => e = .returned (.bool true) ∧ RA D w' x (l ++ r ++ [hd]) free va n ∧ Keeps D w w' := by
  obtain ⟨i0, hi, hz0, hz1, hz2⟩ := info_parts Try.info62
  have hlen : (l ++ hd :: r).length = (l ++ r).length + 1 := by simp; omega
  have hl : l.length ≤ 1000000 := by rw [List.length_append] at hn; omega
  go_enter Try.func45, Try.ntmps45
  go_wp2_with (first
    | (go_at_call 58; refine (rat_in hd H ho hn).mono ?_; rintro e w0 ⟨rfl, rfl⟩)
    | (go_at_call 59; refine (rout_in hd H hD hn).mono ?_; rintro e w1 ⟨rfl, ⟨a1, c1, a2, c2, H1⟩, hk1⟩; clear H))
  rw [hlen] at hn
  clear hlen
  generalize hrow : l ++ r = row at H1 hn ⊢
  have HR : Hid _ := hrow
  clear hrow
  have HW := H1.alloc (.cells #[.int .i64 hd, .string (va hd)] 62)
  have hkW : Keeps D w0 (w1.alloc (.cells #[.int .i64 hd, .string (va hd)] 62)) := hk1.alloc _
  have b6 : (w1.alloc (.cells #[.int .i64 hd, .string (va hd)] 62)).heap[w1.heap.size]? = some (.cells #[.int .i64 hd, .string (va hd)] 62 (0, 0)) := heap_alloc_new w1 _
  generalize w1.alloc (.cells #[.int .i64 hd, .string (va hd)] 62) = W at HW hkW b6 ⊢
  generalize w1.heap.size = q at b6 ⊢
  have y0 := cell_of_block (j := 0) b6
  have y1 := cell_of_block (j := 1) b6
  simp at y0 y1
  have HA := HW.alloc (.cells #[.int .i64 hd, .string (va hd)] 62)
  have hbA : (W.alloc (.cells #[.int .i64 hd, .string (va hd)] 62)).heap[q]? = _ := (Below.heap_alloc W _ q (lt_of_block b6)).trans b6
  have w0' := cell_of_block (j := 0) hbA
  have w1' := cell_of_block (j := 1) hbA
  simp at w0' w1'
  obtain ⟨t0, -, -, f0, -, -⟩ := HW.top
  obtain ⟨s0, -, -, k0, -, -⟩ := HA.top
  have hsrc : FromRow ((W.alloc (.cells #[.int .i64 hd, .string (va hd)] 62)).drew) 2 (some ⟨W.heap.size, 0, none⟩) 1 1 [.int .i64 hd, .string (va hd)] := two_new W _ _ rfl rfl
  have hDD : Hid _ := hD
  clear hD b6 hbA H1 ho
  go_region_law (refine step_append_from rfl (.tmp 19) (.tmp 21) 27 rfl 0 62 i0 _ 2 24 Try.underlying27 hi hz0 hz1 hz2 rfl (by omega) (.slice a1 row.length c1) row.length _ (by simp [Act.eval, Act.put]) HA.2.2.1 _ 1 1 _ (by simp [Act.eval, Act.put]) hsrc (by unfold maxLen; omega) (by omega) (Nat.zero_le _) ?_; intro ad' cap' w2 hc2 hown2 hgrow2 hat2; rw [← flat_concat] at hown2; have hx2 : w2.heap[x]? = (W.alloc (.cells #[.int .i64 hd, .string (va hd)] 62)).heap[x]? := hgrow2.block x (lt_of_block HA.2.1) (fun e => HA.2.2.2.2.1 e.symm); have hy2 := hx2.trans HA.2.1; have u0 := cell_of_block (j := 0) hy2; have v0 := frozen_of_block (j := 0) hy2; simp at u0)
  all_goals
    go_wp2_with fail
    go_ret
    rw [HR.out]
    refine ⟨rfl, ⟨_, _, _, _, HA.newL (w' := w2) (by simp) hx2 (fun g e => hgrow2.block g (HA.2.2.2.1.lt g e).2 (fun e2 => HA.2.2.2.2.2.2.1 g e2.symm e)) hown2 (fun g' e => ?_)⟩, ?_⟩
    · rcases hat2 with h | h
      · rw [h] at e
        exact ⟨HA.2.2.2.2.2.2.2.1 g' e, fun e2 => HA.2.2.2.2.1 (by rw [e, e2]), HA.2.2.2.2.2.2.1 g' e⟩
      · rw [h] at e
        cases e
        exact ⟨hDD.out _ (by have := hkW.size; show _ ≤ (W.alloc _).heap.size; simp; omega), (HA.fresh (Nat.le_refl _)).1, (HA.fresh (Nat.le_refl _)).2.2⟩
    · exact hkW.trans ((((Keeps.refl D W).alloc _).drew.grown hgrow2 (fun k e => .inl (HA.2.2.2.2.2.2.2.1 k e))).setCell HW.1 _)
end
end Go.Proofs.Ytgpjdcoikbmciaa
