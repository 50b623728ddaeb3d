/- The document's answer (hoardref4): what PushFront, PushBack, out, Remove, ToFront, ToBack make of its row. -/
import Derived.Test.YtgpjdcoikbmciaaRef2
namespace Go.Proofs.Ytgpjdcoikbmciaa
open Go.RowKit

section
variable {D : Nat → Prop} {w w' : World} {x : Nat} {row free : List Nat} {va : Nat → ByteArray} {n : Nat} {a1 : Option Addr} {c1 : Nat} {a2 : Option Addr} {c2 : Nat}
theorem own_two (w : World) (a b : Value) : (w.alloc (.cells #[a, b] 62)).ownsRow 0 62 2 (.slice (some ⟨w.heap.size, 0, none⟩) 1 1) 1 [a, b] :=
  ⟨rfl, .inr ⟨_, _, _, rfl, Nat.zero_le _, heap_alloc_new w _, Nat.le_refl _, by unfold maxLen; omega, rfl, rfl⟩⟩
theorem from_flat (h : w.ownsRow 0 62 2 (.slice a1 row.length c1) row.length (flat row va)) : FromRow w 2 a1 row.length c1 (flat row va) := by
  rcases h.2 with ⟨hv, h0⟩ | ⟨g, c, cur, hv, _⟩
  · have : row = [] := List.eq_nil_of_length_eq_zero h0
    subst this
    cases hv
    exact .inl ⟨rfl, rfl, rfl, rfl⟩
  · cases hv
    exact .inr ⟨_, rfl, h.1, fun j u hu => h.cells rfl j u hu, flat_one⟩
theorem two_new (w : World) (a b : Value) (ha : a.oneCell' = true) (hb : b.oneCell' = true) : FromRow (w.alloc (.cells #[a, b] 62)) 2 (some ⟨w.heap.size, 0, none⟩) 1 1 [a, b] := by
  refine .inr ⟨_, rfl, rfl, ?_, ?_⟩
  · intro j u hu
    have := heap_alloc_new w (.cells #[a, b] 62)
    rw [show (⟨w.heap.size, 0, none⟩ : Addr).add j = ⟨w.heap.size, j, none⟩ by simp [Addr.add_lit], cell_of_block this]
    simpa using hu
  · intro u hu
    simp at hu
    rcases hu with rfl | rfl <;> assumption
theorem flat_cons_upd {h : Nat} (v : ByteArray) (hh : h ∉ row) : [Value.int .i64 (h : Nat), Value.string v] ++ flat row va = flat (h :: row) (upd va h v) := by
  rw [flat_congr (va' := upd va h v) (fun z hz => (upd_far _ _ (by rintro rfl; exact hh hz)).symm)]
  show _ = Value.int .i64 (h : Nat) :: Value.string (upd va h v h) :: _
  rw [upd_same]
  rfl
theorem flat_concat_upd {h : Nat} (v : ByteArray) (hh : h ∉ row) : flat row va ++ [Value.int .i64 (h : Nat), Value.string v] = flat (row ++ [h]) (upd va h v) := by
  rw [flat_append, flat_congr (va' := upd va h v) (fun z hz => (upd_far _ _ (by rintro rfl; exact hh hz)).symm)]
  show _ = _ ++ [Value.int .i64 (h : Nat), Value.string (upd va h v h)]
  rw [upd_same]
set_option maxHeartbeats 1000000 in
theorem rpushFront_any (H : RA D w x row free va n) (hD : ∀ k, w.heap.size ≤ k → D k) (v : ByteArray) (hn : n ≤ 1000000) (hf : free.length ≤ 1000000) (hr : row.length ≤ 1000000) (hh : handOf free n ∉ row) :
    Calls Try.prog 40 #[.pointer (some ⟨x, 0, none⟩), .string v] w fun e w' => e = .returned (.int .i64 (handOf free n)) ∧ RA D w' x (handOf free n :: row) free.tail (upd va (handOf free n) v) (moreOf free n) ∧ Keeps D w w' := by
  obtain ⟨i0, hi, hz0, hz1, hz2⟩ := info_parts Try.info62
  have hha := rhand_any H hD hn hf
  have HF : Hid _ := flat_cons_upd (va := va) v hh
  generalize handOf free n = hd at hha HF ⊢
  generalize moreOf free n = m at hha ⊢
  generalize free.tail = fr at hha ⊢
  clear H hh
  go_enter Try.func40, Try.ntmps40
  go_wp2_with (first
    | (go_at_call 57; refine hha.mono ?_; rintro e w1 ⟨rfl, ⟨a1, c1, a2, c2, H1⟩, hk1⟩; clear hha; obtain ⟨t0, -, -, g0, -, -⟩ := H1.top; obtain ⟨s0, -, -, k0, -, -⟩ := (H1.alloc (.cells #[.int .i64 hd, .string v] 62)).top)
    | (at_builtin; go_must (refine wpList_append_from _ rfl _ _ 27 rfl 0 62 i0 _ 2 24 Try.underlying27 hi hz0 hz1 hz2 rfl (by omega) _ 1 _ rfl (own_two w1 (.int .i64 hd) (.string v)) a1 row.length c1 _ rfl (from_flat (H1.alloc _).2.2.1) (by unfold maxLen; omega) (by omega) (Nat.zero_le _) ?_); intro ad' cap' w2 hc2 hown2 hgrow2 hat2; rw [HF.out] at hown2; obtain ⟨hb2, H2⟩ := H1.behind (w1 := w1.alloc (.cells #[.int .i64 hd, .string v] 62)) (fun k hk => Below.heap_alloc w1 _ k hk) (by simp) hgrow2 (fun k e => by cases e; exact Nat.le_refl _); obtain ⟨u0, -, -, v0, -, -⟩ := H2.top))
  go_ret
  have hfr : ∀ g, (Value.slice ad' (1 + row.length) cap').ownBlock = some g → w1.heap.size ≤ g := by
    intro g' e
    rcases hat2 with h | h
    · rw [h] at e; cases e; exact Nat.le_refl _
    · rw [h] at e; cases e; simp
  have hs := hk1.size
  refine ⟨rfl, ⟨_, _, _, _, H2.newL (w' := w2) (by simp; omega) rfl (fun _ _ => rfl) hown2 (fun g' e => ⟨hD g' (by have := hfr g' e; omega), (H1.fresh (hfr g' e)).1, (H1.fresh (hfr g' e)).2.2⟩)⟩, ?_⟩
  exact hk1.trans ((((Keeps.refl D w1).alloc _).grown hgrow2 (fun k e => .inr (by cases e; exact Nat.le_refl _))).setCell H1.1 _)
set_option maxHeartbeats 1000000 in
theorem rpushBack_any (H : RA D w x row free va n) (hD : ∀ k, w.heap.size ≤ k → D k) (v : ByteArray) (hn : n ≤ 1000000) (hf : free.length ≤ 1000000) (hr : row.length ≤ 1000000) (hh : handOf free n ∉ row) :
    Calls Try.prog 41 #[.pointer (some ⟨x, 0, none⟩), .string v] w fun e w' => e = .returned (.int .i64 (handOf free n)) ∧ RA D w' x (row ++ [handOf free n]) free.tail (upd va (handOf free n) v) (moreOf free n) ∧ Keeps D w w' := by
  obtain ⟨i0, hi, hz0, hz1, hz2⟩ := info_parts Try.info62
  have hha := rhand_any H hD hn hf
  have HF : Hid _ := flat_concat_upd (va := va) v hh
  generalize handOf free n = hd at hha HF ⊢
  generalize moreOf free n = m at hha ⊢
  generalize free.tail = fr at hha ⊢
  clear H hh
  go_enter Try.func41, Try.ntmps41
  go_wp2_with (first
    | (go_at_call 57; refine hha.mono ?_; rintro e w1 ⟨rfl, ⟨a1, c1, a2, c2, H1⟩, hk1⟩; clear hha; obtain ⟨t0, -, -, g0, -, -⟩ := H1.top; have HA := H1.alloc (.cells #[.int .i64 hd, .string v] 62))
    | (at_builtin; go_must (refine wpList_append_from _ rfl _ _ 27 rfl 0 62 i0 _ 2 24 Try.underlying27 hi hz0 hz1 hz2 rfl (by omega) (.slice a1 row.length c1) row.length _ rfl HA.2.2.1 _ 1 1 _ rfl (two_new w1 (.int .i64 hd) (.string v) rfl rfl) (by unfold maxLen; omega) (by omega) (Nat.zero_le _) ?_); intro ad' cap' w2 hc2 hown2 hgrow2 hat2; rw [HF.out] at hown2; have hx2 : w2.heap[x]? = (w1.alloc (.cells #[.int .i64 hd, .string v] 62)).heap[x]? := hgrow2.block x (lt_of_block HA.2.1) (fun e => HA.2.2.2.2.1 e.symm); have hy2 := hx2.trans HA.2.1; have u0 := cell_of_block (j := 0) hy2; have v0 := frozen_of_block (j := 0) hy2; simp at u0))
  go_ret
  have hs := hk1.size
  have hd7 := HA.2.2.2.2.2.2.1
  refine ⟨rfl, ⟨_, _, _, _, HA.newL (w' := w2) (by simp) hx2 (fun g e => hgrow2.block g (HA.2.2.2.1.lt g e).2 (fun e2 => hd7 g e2.symm e)) hown2 (fun g' e => ?_)⟩, ?_⟩
  · rcases hat2 with h | h
    · rw [h] at e
      exact ⟨HA.2.2.2.2.2.2.2.1 g' e, fun e2 => HA.2.2.2.2.1 (by rw [e, e2]), hd7 g' e⟩
    · rw [h] at e
      cases e
      exact ⟨hD _ (by simp; omega), (HA.fresh (Nat.le_refl _)).1, (HA.fresh (Nat.le_refl _)).2.2⟩
  · exact hk1.trans ((((Keeps.refl D w1).alloc _).grown hgrow2 (fun k e => .inl (HA.2.2.2.2.2.2.2.1 k e))).setCell H1.1 _)
end
end Go.Proofs.Ytgpjdcoikbmciaa
