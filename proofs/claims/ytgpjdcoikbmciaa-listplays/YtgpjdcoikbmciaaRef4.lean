/- The document's answer (hoardref4): what out, Remove, ToFront, ToBack make of its row. -/
import Derived.Test.YtgpjdcoikbmciaaRef3
namespace Go.Proofs.Ytgpjdcoikbmciaa
open Go.RowKit

section
variable {D : Nat → Prop} {w w' : World} {x : Nat} {row free : List Nat} {va : Nat → ByteArray} {n : Nat} {a1 : Option Addr} {c1 : Nat} {a2 : Option Addr} {c2 : Nat}
/-- the last cells of a row, as what an append takes -/
theorem from_last {e : TypeId} {size g m c k off c' : Nat} {xs ys : List Value} {base : Nat} (h : w.ownsRow base e size (.slice (some ⟨g, 0, none⟩) m c) m (xs ++ ys)) (ho : xs.length = off) (hk : ys.length = k * size) (h1 : ∀ u ∈ ys, u.oneCell' = true) :
    FromRow w size (some ⟨g, off, none⟩) k c' ys := by
  subst ho
  refine .inr ⟨_, rfl, hk, fun j u hu => ?_, h1⟩
  have := h.cells rfl (xs.length + j) u (by rw [List.getElem?_append_right (by omega)]; simpa using hu)
  rw [Addr.add_lit] at this ⊢
  simpa using this
theorem RefIn.without {q : Nat} (h : RefIn D w x row free va n a1 c1 a2 c2) (hx : x ≠ q) (h1 : ∀ g, (Value.slice a1 row.length c1).ownBlock = some g → g ≠ q) (h2 : ∀ g, (Value.slice a2 free.length c2).ownBlock = some g → g ≠ q) :
    RefIn (fun k => D k ∧ k ≠ q) w x row free va n a1 c1 a2 c2 := by
  obtain ⟨k1, k2, k3, k4, k5, k6, k7, k8, k9⟩ := h
  exact ⟨⟨k1, hx⟩, k2, k3, k4, k5, k6, k7, fun g e => ⟨k8 g e, h1 g e⟩, fun g e => ⟨k9 g e, h2 g e⟩⟩
theorem own_fresh {W : World} {o : Obj} {ad' : Option Addr} {m cap' : Nat} (h : (Value.slice ad' m cap').ownBlock = (Value.slice (some ⟨W.heap.size, 0, none⟩) 0 0).ownBlock ∨ (Value.slice ad' m cap').ownBlock = some (W.alloc o).drew.heap.size) :
    ∀ k, (Value.slice ad' m cap').ownBlock = some k → W.heap.size ≤ k := by
  intro k e
  rcases h with h | h
  · rw [h] at e; cases e; exact Nat.le_refl _
  · rw [h] at e; cases e; show W.heap.size ≤ (W.alloc _).heap.size; simp
theorem own_fresh3 {W w2 : World} {ad' ad3 : Option Addr} {m cap' m3 cap3 : Nat} (h2 : ∀ k, (Value.slice ad' m cap').ownBlock = some k → W.heap.size ≤ k) (hs : W.heap.size ≤ w2.heap.size)
    (h : (Value.slice ad3 m3 cap3).ownBlock = (Value.slice ad' m cap').ownBlock ∨ (Value.slice ad3 m3 cap3).ownBlock = some w2.heap.size) : ∀ k, (Value.slice ad3 m3 cap3).ownBlock = some k → W.heap.size ≤ k := by
  intro k e
  rcases h with h | h
  · exact h2 k (h ▸ e)
  · rw [h] at e; cases e; exact hs
theorem out_end {l r : List Nat} {hd q : Nat} {W w3 : World} {ad3 : Option Addr} {cap3 : Nat} {ob4 ob5 : Obj} (H3 : RefIn D w3 x (l ++ hd :: r) free va n a1 c1 a2 c2) (hk3 : ∀ k, k < W.heap.size → w3.heap[k]? = W.heap[k]?)
    (hown3 : w3.ownsRow 0 62 2 (Value.slice ad3 (l.length + r.length) cap3) (l.length + r.length) (flat l va ++ flat r va)) (hfr : ∀ k, (Value.slice ad3 (l.length + r.length) cap3).ownBlock = some k → W.heap.size ≤ k)
    (hf2 : ∀ g, (Value.slice a2 free.length c2).ownBlock = some g → g < q) (hxq : x < q) (b4 : W.heap[q]? = some ob4) (b5 : W.heap[q + 1]? = some ob5) (hsz : W.heap.size = q + 2) (hD : ∀ k, q ≤ k → D k) (hk : Keeps D w w3) :
    RA (fun k => D k ∧ k ≠ q) (w3.setCell ⟨x, 0, none⟩ (Value.slice ad3 (l.length + r.length) cap3)) x (l ++ r) free va n ∧ (w3.setCell ⟨x, 0, none⟩ (Value.slice ad3 (l.length + r.length) cap3)).heap[q]? = some ob4 ∧
      (w3.setCell ⟨x, 0, none⟩ (Value.slice ad3 (l.length + r.length) cap3)).heap[q + 1]? = some ob5 ∧ Keeps D w (w3.setCell ⟨x, 0, none⟩ (Value.slice ad3 (l.length + r.length) cap3)) := by
  have hl : (l ++ r).length = l.length + r.length := List.length_append
  refine ⟨⟨_, _, _, _, (H3.newL (w' := w3) hl rfl (fun _ _ => rfl) (by rw [flat_append]; exact hown3) (fun g' e => ⟨hD g' (by have := hfr g' e; omega), by have := hfr g' e; omega, ?_⟩)).without (by omega) (fun g e => ?_) (fun g e => ?_)⟩, ?_, ?_, hk.setCell H3.1 _⟩
  · intro e2
    have := hf2 g' e2
    have := hfr g' e
    omega
  · have := hfr g (hl ▸ e)
    omega
  · have := hf2 g e
    omega
  · rw [Below.heap_setCell _ _ _ _ (by show q ≠ x; omega), hk3 q (by omega)]; exact b4
  · rw [Below.heap_setCell _ _ _ _ (by show q + 1 ≠ x; omega), hk3 (q + 1) (by omega)]; exact b5
set_option maxHeartbeats 4000000 in
theorem rout_in {l r : List Nat} (hd : Nat) (H : RA D w x (l ++ hd :: r) free va n) (hD : ∀ k, w.heap.size ≤ k → D k) (hn : (l ++ hd :: r).length ≤ 1000000) :
    Calls Try.prog 59 #[.pointer (some ⟨x, 0, none⟩), .int .i64 (l.length : Nat)] w fun e w' => e = .returned (.agg #[.int .i64 hd, .string (va hd)]) ∧ RA D w' x (l ++ r) free va n ∧ Keeps D w w' := by
  obtain ⟨i0, hi, hz0, hz1, hz2⟩ := info_parts Try.info62
  obtain ⟨a1, c1, a2, c2, H⟩ := H
  have hlen : (l ++ hd :: r).length = l.length + 1 + r.length := by rw [List.length_append, List.length_cons]; omega
  obtain ⟨t0, -, -, g0, -, -⟩ := H.top
  obtain ⟨g, rfl, hg, d0, d1, -⟩ := H.cell (split_at (l := l) (r := r) (hd := hd))
  have HZ := H.alloc (.cells #[.int .i64 0, .string ⟨#[]⟩] 62)
  obtain ⟨s0, -, -, h0, -, -⟩ := HZ.top
  obtain ⟨g', eg, -, e0, e1, -⟩ := HZ.cell (split_at (l := l) (r := r) (hd := hd))
  cases eg
  rw [hlen] at t0 hn s0
  go_enter Try.func59, Try.ntmps59
  go_wp2
  have HW := HZ.alloc (.cells #[.int .i64 hd, .string (va hd)] 62)
  have hk0 : Keeps D w ((w.alloc (.cells #[.int .i64 0, .string ⟨#[]⟩] 62)).alloc (.cells #[.int .i64 hd, .string (va hd)] 62)) := ((Keeps.refl D w).alloc _).alloc _
  have b4 : ((w.alloc (.cells #[.int .i64 0, .string ⟨#[]⟩] 62)).alloc (.cells #[.int .i64 hd, .string (va hd)] 62)).heap[w.heap.size]? = some (.cells #[.int .i64 0, .string ⟨#[]⟩] 62 (0, 0)) := by
    rw [Below.heap_alloc _ _ _ (by simp)]
    exact heap_alloc_new w _
  have b5 : ((w.alloc (.cells #[.int .i64 0, .string ⟨#[]⟩] 62)).alloc (.cells #[.int .i64 hd, .string (va hd)] 62)).heap[w.heap.size + 1]? = some (.cells #[.int .i64 hd, .string (va hd)] 62 (0, 0)) := by
    have := heap_alloc_new (w.alloc (.cells #[.int .i64 0, .string ⟨#[]⟩] 62)) (.cells #[.int .i64 hd, .string (va hd)] 62)
    simpa using this
  have hsz : ((w.alloc (.cells #[.int .i64 0, .string ⟨#[]⟩] 62)).alloc (.cells #[.int .i64 hd, .string (va hd)] 62)).heap.size = w.heap.size + 2 := by simp
  generalize (w.alloc (.cells #[.int .i64 0, .string ⟨#[]⟩] 62)).alloc (.cells #[.int .i64 hd, .string (va hd)] 62) = W at HW hk0 b4 b5 hsz ⊢
  have hcap : l.length + 1 + r.length ≤ c1 := by
    rcases HW.2.2.1.2 with ⟨e, _⟩ | ⟨g', cap, cur, hv, _, _, hle, _⟩
    · cases e
    · cases hv; rw [hlen] at hle; exact hle
  have hxq : Hid (x < w.heap.size) := lt_of_block H.2.1
  have hf2 : Hid (∀ g, (Value.slice a2 free.length c2).ownBlock = some g → g < w.heap.size) := fun g e => (H.2.2.2.1.lt g e).2
  clear H HZ t0 s0 h0 e0 e1 d0 d1 g0 hg
  have hB4 : Hid _ := b4
  have hB5 : Hid _ := b5
  have hSZ : Hid _ := hsz
  have hDD : Hid _ := hD
  clear b4 b5 hsz hD
  go_cut [] from 13 (fun wx => RA (fun k => D k ∧ k ≠ w.heap.size) wx x (l ++ r) free va n ∧ wx.heap[w.heap.size]? = some (.cells #[.int .i64 0, .string ⟨#[]⟩] 62 (0, 0)) ∧ wx.heap[w.heap.size + 1]? = some (.cells #[.int .i64 hd, .string (va hd)] 62 (0, 0)) ∧ Keeps D w wx)
  case first =>
    have HA := HW.alloc (.cells #[] 62)
    obtain ⟨t0, -, -, f0, -, -⟩ := HW.top
    obtain ⟨s0, -, -, k0, -, -⟩ := HA.top
    rw [hlen] at t0 s0
    have fe : flat (l ++ hd :: r) va = flat l va ++ flat (hd :: r) va := flat_append _ _ _
    have fe2 : flat (l ++ hd :: r) va = flat (l ++ [hd]) va ++ flat r va := by rw [← flat_append]; simp
    have hsrc1 : FromRow ((W.alloc (.cells #[] 62)).drew) 2 (some ⟨g, 0, none⟩) l.length c1 (flat l va) := by
      have ho := HA.2.2.1
      rw [fe] at ho
      exact from_first (w := (W.alloc (.cells #[] 62)).drew) ho (flat_length _ _) flat_one
    obtain ⟨A, hA, hsrc2⟩ : ∃ A, (if c1 = l.length + 1 then some (⟨g, 0, none⟩ : Addr) else some ⟨g, (l.length + 1) * 2, none⟩) = some A ∧ ∀ w2 : World, RefIn D w2 x (l ++ hd :: r) free va n (some ⟨g, 0, none⟩) c1 a2 c2 → FromRow w2 2 (some A) r.length (c1 - (l.length + 1)) (flat r va) := by
      by_cases hc : c1 = l.length + 1
      · refine ⟨_, by rw [if_pos hc], fun w2 _ => ?_⟩
        have : r = [] := List.eq_nil_of_length_eq_zero (by omega)
        subst this
        exact .inr ⟨_, rfl, rfl, fun j u hu => by simp [flat] at hu, by simp [flat]⟩
      · refine ⟨_, by rw [if_neg hc], fun w2 h2 => ?_⟩
        have ho := h2.2.2.1
        rw [fe2] at ho
        exact from_last ho (by rw [flat_length]; simp) (flat_length _ _) flat_one
    have hw1 : IntKind.i64.wrap ((l.length : Int) + 1) = (l.length : Int) + 1 := by rw [IntKind.wrap_i64]; omega
    have hi1 : (l.length : Int) ≤ c1 := by omega
    have hi2 : (l.length : Int) + 1 ≤ (l.length : Int) + 1 + r.length := by omega
    have hi3 : (0 : Int) ≤ (l.length : Int) + 1 := by omega
    have HHW : Hid _ := hsrc2
    have HC : Hid _ := hcap
    clear fe fe2 hlen hsrc2 hcap
    go_region_law (first
      | (refine step_append_from rfl (.tmp 14) (.tmp 20) 27 rfl 0 62 i0 _ 2 24 Try.underlying27 hi hz0 hz1 hz2 rfl (by omega) _ 0 [] (by simp [Act.eval, Act.put]) (World.ownsRow_made (size := 2) (base := 0) W #[] 0 (Nat.zero_le _) (by unfold maxLen; omega) rfl) _ l.length c1 _ (by simp [Act.eval, Act.put]) hsrc1 (by unfold maxLen; omega) (by omega) (Nat.zero_le _) ?_; intro ad' cap' w2 hc2 hown2 hgrow2 hat2; rw [Nat.zero_add] at hown2 hat2 ⊢; rw [List.nil_append] at hown2; obtain ⟨hk2, H2⟩ := HW.behind (w1 := (W.alloc (.cells #[] 62)).drew) (fun k hk => Below.heap_alloc W _ k hk) (by show W.heap.size ≤ (W.alloc _).heap.size; simp) hgrow2 (fun k e => by cases e; exact Nat.le_refl _); obtain ⟨u0, -, -, v0, -, -⟩ := H2.top; rw [show (l ++ hd :: r).length = l.length + 1 + r.length by rw [List.length_append, List.length_cons]; omega] at u0; have hs2 : W.heap.size ≤ w2.heap.size := Nat.le_trans (by show W.heap.size ≤ (W.alloc _).heap.size; simp) hgrow2.size; have hfr2 : ∀ k, (Value.slice ad' l.length cap').ownBlock = some k → W.heap.size ≤ k := own_fresh hat2)
      | (refine step_append_from rfl (.tmp 21) (.tmp 28) 27 rfl 0 62 i0 _ 2 24 Try.underlying27 hi hz0 hz1 hz2 rfl (by omega) (.slice ad' l.length cap') l.length _ (by simp [Act.eval, Act.put]) hown2 (some A) r.length (c1 - (l.length + 1)) _ (by simp [Act.eval, Act.put]) (HHW.out w2 H2) (by unfold maxLen; omega) (by omega) (Nat.zero_le _) ?_; intro ad3 cap3 w3 hc3 hown3 hgrow3 hat3; obtain ⟨hk3, H3⟩ := HW.behind (w1 := w2) hk2 hs2 hgrow3 hfr2; obtain ⟨p0, -, -, q0, -, -⟩ := H3.top; rw [show (l ++ hd :: r).length = l.length + 1 + r.length by rw [List.length_append, List.length_cons]; omega] at p0))
    all_goals
      go_wp2_with fail
      go_meet
      case rel => exact out_end H3 hk3 hown3 (own_fresh3 hfr2 hs2 hat3) hf2.out hxq.out hB4.out hB5.out hSZ.out hDD.out (hk0.trans ((((Keeps.refl D W).alloc _).drew.grown hgrow2 (fun k e => .inr (by cases e; exact Nat.le_refl _))).grown hgrow3 (fun k e => .inr (hfr2 k e))))
  case rest =>
    obtain ⟨H4, b4, b5, hk4⟩ := hcut
    have y0 := cell_of_block (j := 0) b5
    have y1 := cell_of_block (j := 1) b5
    have y2 := cell_of_block (j := 0) b4
    have y3 := cell_of_block (j := 1) b4
    have y4 := frozen_of_block (j := 0) b4
    have y5 := frozen_of_block (j := 1) b4
    simp at y0 y1 y2 y3
    clear HW hk0
    have b6 : ((wc.setCell ⟨w.heap.size, 0, none⟩ (.int .i64 hd)).setCell ⟨w.heap.size, 1, none⟩ (.string (va hd))).heap[w.heap.size]? = some (.cells #[.int .i64 hd, .string (va hd)] 62 (0, 0)) := block_setCell (block_setCell b4)
    have z0 := cell_of_block (j := 0) b6
    have z1 := cell_of_block (j := 1) b6
    simp at z0 z1
    clear b6
    go_wp2_with fail
    refine bodyPost_ret (v := .agg #[.int .i64 hd, .string (va hd)]) (by simp [results, Try.results59, go_sem, z0, z1]) rfl ⟨rfl, ?_, ?_⟩
    · refine (H4.kept (D' := fun k => k = w.heap.size) (((Keeps.refl (fun k => k = w.heap.size) wc).setCell (p := ⟨w.heap.size, 0, none⟩) rfl _).setCell (p := ⟨w.heap.size, 1, none⟩) rfl _) (fun k h e => h.2 e)).wide (fun k h => h.1)
    · exact (hk4.setCell (hDD.out _ (Nat.le_refl _)) _).setCell (hDD.out _ (Nat.le_refl _)) _
end
end Go.Proofs.Ytgpjdcoikbmciaa
