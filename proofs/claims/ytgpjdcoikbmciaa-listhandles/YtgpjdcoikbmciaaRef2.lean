/- The document's answer (hoardref4): what handle, out, PushFront, PushBack, Remove, ToFront, ToBack make of its row. -/
import Derived.Test.YtgpjdcoikbmciaaRef
namespace Go.Proofs.Ytgpjdcoikbmciaa
open Go.RowKit

section
variable {D : Nat → Prop} {w w' : World} {x : Nat} {row free : List Nat} {va : Nat → ByteArray} {n : Nat} {a1 : Option Addr} {c1 : Nat} {a2 : Option Addr} {c2 : Nat}
/-- its row of cells is another one -/
theorem RefIn.newL (h : RefIn D w x row free va n a1 c1 a2 c2) {a : Option Addr} {m c : Nat} {row' : List Nat} {va' : Nat → ByteArray} (hm : row'.length = m) (hx : w'.heap[x]? = w.heap[x]?) (hf : ∀ g, (Value.slice a2 free.length c2).ownBlock = some g → w'.heap[g]? = w.heap[g]?)
    (ho : w'.ownsRow 0 62 2 (.slice a m c) m (flat row' va')) (hg : ∀ g, (Value.slice a m c).ownBlock = some g → D g ∧ g ≠ x ∧ (Value.slice a2 free.length c2).ownBlock ≠ some g) :
    RefIn D (w'.setCell ⟨x, 0, none⟩ (.slice a m c)) x row' free va' n a c a2 c2 := by
  subst hm
  obtain ⟨h1, h2, h3, h4, h5, h6, h7, h8, h9⟩ := h
  have hne : (Value.slice a row'.length c).ownBlock ≠ some x := fun e => (hg x e).2.1 rfl
  exact ⟨h1, by rw [block_setCell (hx.trans h2)]; rfl, ownsRow_setCell_far ho hne, ownsRow_setCell_far (ownsRow_same h4 hf) h6, hne, h6, fun g e => (hg g e).2.2, fun g e => (hg g e).1, h9⟩
/-- its free handles are others -/
theorem RefIn.newF (h : RefIn D w x row free va n a1 c1 a2 c2) {a : Option Addr} {m c : Nat} {free' : List Nat} (hm : free'.length = m) (hx : w'.heap[x]? = w.heap[x]?) (hl : ∀ g, (Value.slice a1 row.length c1).ownBlock = some g → w'.heap[g]? = w.heap[g]?)
    (ho : w'.ownsRow 0 3 1 (.slice a m c) m (free'.reverse.map fun h => Value.int .i64 (h : Nat))) (hg : ∀ g, (Value.slice a m c).ownBlock = some g → D g ∧ g ≠ x ∧ (Value.slice a1 row.length c1).ownBlock ≠ some g) :
    RefIn D (w'.setCell ⟨x, 1, none⟩ (.slice a m c)) x row free' va n a1 c1 a c := by
  subst hm
  obtain ⟨h1, h2, h3, h4, h5, h6, h7, h8, h9⟩ := h
  have hne : (Value.slice a free'.length c).ownBlock ≠ some x := fun e => (hg x e).2.1 rfl
  exact ⟨h1, by rw [block_setCell (hx.trans h2)]; rfl, ownsRow_setCell_far (ownsRow_same h3 hl) h5, ownsRow_setCell_far ho hne, h5, hne, fun g e e2 => (hg g e2).2.2 e, h8, fun g e => (hg g e).1⟩
theorem RefIn.setN (h : RefIn D w x row free va n a1 c1 a2 c2) (m : Nat) : RefIn D (w.setCell ⟨x, 2, none⟩ (.int .i64 (m : Nat))) x row free va m a1 c1 a2 c2 := by
  obtain ⟨h1, h2, h3, h4, h5, h6, h7, h8, h9⟩ := h
  exact ⟨h1, by rw [block_setCell h2]; rfl, ownsRow_setCell_far h3 h5, ownsRow_setCell_far h4 h6, h5, h6, h7, h8, h9⟩
/-- what lies where, behind new blocks and an append to one of them -/
theorem RefIn.behind (h : RefIn D w x row free va n a1 c1 a2 c2) {w1 w2 : World} {b : Option Nat} (h1 : ∀ k, k < w.heap.size → w1.heap[k]? = w.heap[k]?) (hs : w.heap.size ≤ w1.heap.size) (hg : w1.grownBy w2 b) (hb : ∀ k, b = some k → w.heap.size ≤ k) :
    (∀ k, k < w.heap.size → w2.heap[k]? = w.heap[k]?) ∧ RefIn D w2 x row free va n a1 c1 a2 c2 := by
  have hk : ∀ k, k < w.heap.size → w2.heap[k]? = w.heap[k]? := fun k hk => (hg.block k (by omega) (fun e => by have := hb k e.symm; omega)).trans (h1 k hk)
  refine ⟨hk, ?_⟩
  obtain ⟨h1, h2, h3, h4, h5, h6, h7, h8, h9⟩ := h
  exact ⟨h1, (hk x (lt_of_block h2)).trans h2, ownsRow_same h3 (fun g e => hk g (h3.lt g e).2), ownsRow_same h4 (fun g e => hk g (h4.lt g e).2), h5, h6, h7, h8, h9⟩
theorem RefIn.alloc (h : RefIn D w x row free va n a1 c1 a2 c2) (o : Obj) : RefIn D (w.alloc o) x row free va n a1 c1 a2 c2 :=
  h.kept (D' := fun _ => False) ((Keeps.refl _ w).alloc o) (fun _ _ h => h)
theorem RefIn.drewN (h : RefIn D w x row free va n a1 c1 a2 c2) (q : Nat) : RefIn D (w.drewN q) x row free va n a1 c1 a2 c2 :=
  h.kept (D' := fun _ => False) ⟨rfl, rfl, rfl, Nat.le_refl _, fun _ _ _ => rfl⟩ (fun _ _ h => h)
theorem Keeps.drewN {a : World} (h : Keeps D a w) (q : Nat) : Keeps D a (w.drewN q) := ⟨h.os, h.tape, h.output, h.size, h.block⟩
theorem RefIn.fresh (h : RefIn D w x row free va n a1 c1 a2 c2) {g : Nat} (hg : w.heap.size ≤ g) : g ≠ x ∧ (Value.slice a1 row.length c1).ownBlock ≠ some g ∧ (Value.slice a2 free.length c2).ownBlock ≠ some g := by
  have := lt_of_block h.2.1
  exact ⟨by omega, fun e => by have := (h.2.2.1.lt g e).2; omega, fun e => by have := (h.2.2.2.1.lt g e).2; omega⟩
theorem Try.info62 : (Try.prog.info? 62).map (fun i => (i.zero, i.size, i.bytes)) = some (some (.agg #[.int .i64 0, .string ByteArray.empty]), 2, 24) := by kernel_rfl
theorem Try.info3 : (Try.prog.info? 3).map (fun i => (i.zero, i.size, i.bytes)) = some (some (.int .i64 0), 1, 8) := by kernel_rfl
/-- the first cells of a row, as what an append takes -/
theorem from_first {e : TypeId} {size g m c k c' : Nat} {xs ys : List Value} {base : Nat} (h : w.ownsRow base e size (.slice (some ⟨g, 0, none⟩) m c) m (xs ++ ys)) (hk : xs.length = k * size) (h1 : ∀ u ∈ xs, u.oneCell' = true) :
    FromRow w size (some ⟨g, 0, none⟩) k c' xs := by
  refine .inr ⟨_, rfl, hk, fun j u hu => h.cells rfl j u ?_, h1⟩
  rw [List.getElem?_append_left]
  · exact hu
  · rcases Nat.lt_or_ge j xs.length with h | h
    · exact h
    · rw [List.getElem?_eq_none h] at hu; cases hu
set_option maxHeartbeats 2000000 in
theorem rhand_any (H : RA D w x row free va n) (hD : ∀ k, w.heap.size ≤ k → D k) (hn : n ≤ 1000000) (hf : free.length ≤ 1000000) :
    Calls Try.prog 57 #[.pointer (some ⟨x, 0, none⟩)] w fun e w' => e = .returned (.int .i64 (handOf free n)) ∧ RA D w' x row free.tail va (moreOf free n) ∧ Keeps D w w' := by
  obtain ⟨a1, c1, a2, c2, H⟩ := H
  obtain ⟨t0, t1, t2, f0, f1, f2⟩ := H.top
  have hx := H.1
  cases free with
  | nil =>
    have H2 := H.setN (n + 1)
    clear H
    go_enter Try.func57, Try.ntmps57
    go_wp2
    go_ret
    exact ⟨rfl, ⟨_, _, _, _, H2⟩, (Keeps.refl D w).setCell hx _⟩
  | cons f r =>
    obtain ⟨i0, hi, hz0, hz1, hz2⟩ := info_parts Try.info3
    rw [List.length_cons] at hf
    obtain ⟨g, cur, rfl, _, hgb, hgc⟩ := ownsRow_block H.2.2.2.1 (by simp)
    have cl := hgc r.length (.int .i64 f) (by simp)
    rw [List.length_cons] at t1
    clear hgc hgb
    go_enter Try.func57, Try.ntmps57
    go_wp2
    go_quiet (fail)
    go_wp2
    have HW := H.drewN nq
    have hk0 : Keeps D w (w.drewN nq) := (Keeps.refl D w).drewN nq
    have hsz : (w.drewN nq).heap.size = w.heap.size := rfl
    generalize w.drewN nq = W at HW hk0 hsz ⊢
    clear H t0 t1 t2 f0 f1 f2 cl
    have HA := HW.alloc (.cells #[] 3)
    obtain ⟨-, t1, -, -, f1, -⟩ := HW.top
    obtain ⟨-, s1, -, -, g1, -⟩ := HA.top
    rw [List.length_cons] at t1 s1
    have hsrc : FromRow ((W.alloc (.cells #[] 3)).drew) 1 (some ⟨g, 0, none⟩) r.length c2 (r.reverse.map fun h => Value.int .i64 (h : Nat)) := by
      have ho := HA.2.2.2.1
      rw [List.reverse_cons, List.map_append] at ho
      exact from_first (w := (W.alloc (.cells #[] 3)).drew) ho (by simp) (by intro u hu; simp at hu; obtain ⟨_, _, rfl⟩ := hu; rfl)
    have hrl : r.length ≤ c2 := by
      rcases HW.2.2.2.1.2 with ⟨e, _⟩ | ⟨g', cap, cur, hv, _, _, hle, _⟩
      · cases e
      · cases hv; simp at hle; omega
    have hwr : IntKind.i64.wrap (r.length : Int) = r.length := by rw [IntKind.wrap_i64]; omega
    have hr2 : (r.length : Int) ≤ c2 := by omega
    have HS : Hid _ := hsz
    clear hsz hrl
    go_region_law (refine step_append_from rfl (.tmp 34) (.tmp 45) 28 rfl 0 3 i0 _ 1 8 Try.underlying28 hi hz0 hz1 hz2 rfl (by omega) _ 0 [] (by simp [Act.eval, Act.put]) (World.ownsRow_made (size := 1) (base := 0) W #[] 0 (Nat.zero_le _) (by unfold maxLen; omega) rfl) _ r.length c2 _ (by simp [Act.eval, Act.put]) hsrc (by unfold maxLen; omega) (by omega) (Nat.zero_le _) ?_; intro ad' cap' w2 hc2 hown2 hgrow2 hat2; rw [Nat.zero_add] at hown2 hat2 ⊢; rw [List.nil_append] at hown2; obtain ⟨hk2, H2⟩ := HW.behind (w1 := (W.alloc (.cells #[] 3)).drew) (fun k hk => Below.heap_alloc W _ k hk) (by show W.heap.size ≤ (W.alloc _).heap.size; simp) hgrow2 (fun k e => by cases e; exact Nat.le_refl _); obtain ⟨-, u1, -, -, v1, -⟩ := H2.top; rw [List.length_cons] at u1)
    all_goals
      go_wp2_with fail
      go_ret
      have hfr : ∀ g, (Value.slice ad' r.length cap').ownBlock = some g → W.heap.size ≤ g := by
        intro g' e
        rcases hat2 with h | h
        · rw [h] at e; cases e; exact Nat.le_refl _
        · rw [h] at e; cases e; show W.heap.size ≤ (W.alloc _).heap.size; simp
      refine ⟨rfl, ⟨_, _, _, _, H2.newF (w' := w2) rfl rfl (fun _ _ => rfl) hown2 (fun g' e => ⟨hD g' (by have := hfr g' e; have := HS.out; omega), (HW.fresh (hfr g' e)).1, (HW.fresh (hfr g' e)).2.1⟩)⟩, ?_⟩
      exact hk0.trans (((((Keeps.refl D W).alloc _).drew.grown hgrow2 (fun k e => .inr (by cases e; exact Nat.le_refl _)))).setCell hx _)
end
end Go.Proofs.Ytgpjdcoikbmciaa
