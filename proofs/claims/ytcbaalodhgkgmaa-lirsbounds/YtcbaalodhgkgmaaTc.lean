/- Rows of cells (a key, a number) behind a slice, wherever in a block they begin: what is read, cut off, appended; what is kept. -/
import Derived.Test.YtcbaalodhgkgmaaBs
import Derived.Test.YtcbaalodhgkgmaaMx
namespace Go.Proofs.Ytcbaalodhgkgmaa.C
open Go.RowKit
/-- a cell: a key, a sign -/
structure It where
  key : ByteArray
  n : Nat
def its (l : List It) : List Value := l.flatMap fun x => [Value.string x.key, Value.int IntKind.u8 (x.n : Nat)]
def ks (l : List It) : List ByteArray := l.map It.key
theorem ks_len (l : List It) : (ks l).length = l.length := by simp [ks]
theorem its_at {l : List It} {j : Nat} {x : It} (h : l[j]? = some x) : (its l)[j * 2]? = some (Value.string x.key) ∧ (its l)[j * 2 + 1]? = some (Value.int IntKind.u8 (x.n : Nat)) := by
  induction l generalizing j with
  | nil => simp at h
  | cons y l ih =>
    cases j with
    | zero => simp at h; subst h; simp [its]
    | succ j =>
      have := ih (j := j) (by simpa using h)
      simp only [its, List.flatMap_cons] at this ⊢
      rw [show (j + 1) * 2 = j * 2 + 2 by omega, show j * 2 + 2 + 1 = (j * 2 + 1) + 2 by omega]
      simpa using this

theorem its_len (l : List It) : (its l).length = l.length * 2 := by
  induction l with
  | nil => rfl
  | cons x l ih =>
    simp only [its, List.flatMap_cons, List.length_append, List.length_cons, List.length_nil] at ih ⊢
    omega
theorem its_app (l m : List It) : its (l ++ m) = its l ++ its m := by simp [its]
theorem its_one (l : List It) : ∀ u ∈ its l, u.oneCell' = true := by
  intro u hu
  simp only [its, List.mem_flatMap] at hu
  obtain ⟨x, _, h⟩ := hu
  simp at h
  rcases h with rfl | rfl <;> rfl
/-- each cell of a row is one of an item -/
theorem its_cell {l : List It} {f : Nat → Option Value} (h : ∀ i z, l[i]? = some z → f (i * 2) = some (.string z.key) ∧ f (i * 2 + 1) = some (.int .u8 (z.n : Nat))) {j : Nat} {u : Value} (hu : (its l)[j]? = some u) : f j = some u := by
  have hj : j < l.length * 2 := by have := lt_of_at hu; rwa [its_len] at this
  obtain ⟨z, hz⟩ : ∃ z, l[j / 2]? = some z := ⟨_, List.getElem?_eq_getElem (by omega)⟩
  obtain ⟨a1, a2⟩ := its_at hz
  obtain ⟨b1, b2⟩ := h _ _ hz
  have hj2 : j = j / 2 * 2 ∨ j = j / 2 * 2 + 1 := by omega
  rcases hj2 with e | e
  · rw [← e] at a1 b1
    rw [b1, ← a1, hu]
  · rw [← e] at a2 b2
    rw [b2, ← a2, hu]
/-- items behind a slice, in a block of D; where there is no capacity there is nothing -/
def Row (D : Nat → Prop) (w : World) (ad : Option Addr) (cap : Nat) (zs : List It) : Prop :=
  zs.length ≤ cap ∧ cap ≤ maxLen ∧ (0 < cap → ∃ g off cur, ad = some ⟨g, off, none⟩ ∧ D g ∧ w.heap[g]? = some (.cells cur 73 (0, 0)) ∧ off + cap * 2 ≤ cur.size ∧ ∀ i z, zs[i]? = some z → cur[off + i * 2]? = some (.string z.key) ∧ cur[off + i * 2 + 1]? = some (.int .u8 (z.n : Nat)))
section
variable {D D' : Nat → Prop} {w w' : World} {ad : Option Addr} {cap : Nat} {zs ks : List It}
theorem Row.kept (h : Row D w ad cap zs) (hk : Keeps D' w w') (hd : ∀ k, D k → ¬ D' k) : Row D w' ad cap zs := by
  refine ⟨h.1, h.2.1, fun hc => ?_⟩
  obtain ⟨g, off, cur, e, hD, hg, hs, hz⟩ := h.2.2 hc
  exact ⟨g, off, cur, e, hD, (hk.block g (lt_of_block hg) (hd g hD)).trans hg, hs, hz⟩
theorem Row.below (h : Row D w ad cap zs) (hb : Below w.heap.size w w') : Row D w' ad cap zs := h.kept (D' := fun _ => False) (.of_below hb) (fun _ _ e => e)
theorem Row.wide (h : Row D w ad cap zs) (hD : ∀ k, k < w.heap.size → D k → D' k) : Row D' w ad cap zs := by
  refine ⟨h.1, h.2.1, fun hc => ?_⟩
  obtain ⟨g, off, cur, e, hg0, hg, r⟩ := h.2.2 hc
  exact ⟨g, off, cur, e, hD _ (lt_of_block hg) hg0, hg, r⟩
theorem Row.narrow (h : Row D w ad cap zs) : Row (fun k => D k ∧ k < w.heap.size) w ad cap zs := h.wide (fun _ a b => ⟨b, a⟩)
theorem Row.kept2 (h : Row D w ad cap zs) (hk : Keeps D' w w') (hd : ∀ k, k < w.heap.size → D k → ¬ D' k) : Row D w' ad cap zs :=
  (h.narrow.kept hk (fun k e => hd k e.2 e.1)).wide (fun _ _ e => e.1)
theorem Row.nil : Row D w none 0 [] := ⟨Nat.le_refl _, Nat.zero_le _, fun h => absurd h (Nat.lt_irrefl _)⟩
theorem Row.bare (ad : Option Addr) : Row D w ad 0 [] := ⟨Nat.le_refl _, Nat.zero_le _, fun h => absurd h (Nat.lt_irrefl _)⟩
theorem Row.at (h : Row D w ad cap zs) {i : Nat} {z : It} (hz : zs[i]? = some z) : ∃ g off, ad = some ⟨g, off, none⟩ ∧ D g ∧ g < w.heap.size ∧ w.cell? ⟨g, off + i * 2, none⟩ = some (.string z.key) ∧ w.cell? ⟨g, off + i * 2 + 1, none⟩ = some (.int .u8 (z.n : Nat)) ∧ w.frozen? ⟨g, off + i * 2 + 1, none⟩ = false := by
  obtain ⟨g, off, cur, e, hD, hg, hs, hc⟩ := h.2.2 (by have := lt_of_at hz; have := h.1; omega)
  exact ⟨g, off, e, hD, lt_of_block hg, by rw [cell_of_block hg]; exact (hc i z hz).1, by rw [cell_of_block hg]; exact (hc i z hz).2, frozen_of_block hg⟩
theorem Row.shape (h : Row D w ad cap zs) (hc : 0 < cap) : ∃ g off, ad = some ⟨g, off, none⟩ := by
  obtain ⟨g, off, cur, e, -⟩ := h.2.2 hc
  exact ⟨g, off, e⟩
/-- the first ones cut off -/
theorem Row.drop {g off : Nat} (h : Row D w (some ⟨g, off, none⟩) cap zs) (j : Nat) : Row D w (some ⟨g, off + j * 2, none⟩) (cap - j) (zs.drop j) := by
  refine ⟨by have := h.1; simp; omega, by have := h.2.1; omega, fun hc => ?_⟩
  obtain ⟨g', off', cur, e, hD, hg, hs, hz⟩ := h.2.2 (by omega)
  cases e
  refine ⟨g, off + j * 2, cur, rfl, hD, hg, by omega, fun i z hi => ?_⟩
  rw [List.getElem?_drop] at hi
  have := hz (j + i) z hi
  rw [show off + j * 2 + i * 2 = off + (j + i) * 2 by omega]
  exact this
/-- the last ones cut off -/
theorem Row.take (h : Row D w ad cap zs) (j : Nat) : Row D w ad cap (zs.take j) := by
  refine ⟨by have := h.1; simp; omega, h.2.1, fun hc => ?_⟩
  obtain ⟨g, off, cur, e, hD, hg, hs, hz⟩ := h.2.2 hc
  refine ⟨g, off, cur, e, hD, hg, hs, fun i z hi => hz i z ?_⟩
  rw [List.getElem?_take] at hi
  split at hi
  · exact hi
  · cases hi
/-- as what an append takes -/
theorem Row.src (h : Row D w ad cap zs) : Src Try.prog 2 60 (.slice ad zs.length cap) zs.length (its zs) w := by
  rcases Nat.eq_zero_or_pos zs.length with h0 | h0
  · obtain rfl : zs = [] := List.eq_nil_of_length_eq_zero h0
    cases ad with
    | none => exact Src.ofNil w Try.underlying60 cap
    | some x => exact Src.ofSlice w Try.underlying60 x 0 cap [] (by simp) (by simp) (by simp)
  · obtain ⟨g, off, cur, rfl, hD, hg, hs, hc⟩ := h.2.2 (by have := h.1; omega)
    refine Src.ofSlice w Try.underlying60 _ _ _ _ (by rw [its_len]) (fun j u hu => ?_) (its_one zs)
    rw [Addr.add_lit, cell_of_block hg]
    exact its_cell (f := fun j => cur[off + j]?) (fun i z hi => ⟨(hc i z hi).1, by rw [← Nat.add_assoc]; exact (hc i z hi).2⟩) hu
end
theorem info_cell : ∃ i, Try.prog.info? 73 = some i ∧ i.zero = some (.agg #[.string ByteArray.empty, .int .u8 0]) ∧ i.size = 2 ∧ i.bytes = 24 := by
  have h : (Try.prog.info? 73).map (fun i => (i.zero, i.size, i.bytes)) = some (some (.agg #[.string ByteArray.empty, .int .u8 0]), 2, 24) := by kernel_rfl
  cases hi : Try.prog.info? 73 with
  | none => rw [hi] at h; cases h
  | some i => rw [hi] at h; simp at h; exact ⟨i, rfl, h.1, h.2.1, h.2.2⟩
section
variable {D : Nat → Prop} {w : World} {ad : Option Addr} {cap : Nat} {zs ks : List It}
theorem run_append_row (ty : TypeId) (h : Row D w ad cap zs) {x : Value} (hx : Src Try.prog 2 60 x ks.length (its ks) w) (hn : zs.length + ks.length ≤ 1000000) :
    ∃ ad' cap' w', (Builtin.append_ #[60, 60] ty #[.slice ad zs.length cap, x]).run Try.prog w = .ok (.slice ad' (zs.length + ks.length) cap') w' ∧
      Row (fun g => D g ∨ w.heap.size ≤ g) w' ad' cap' (zs ++ ks) ∧ Keeps D w w' := by
  obtain ⟨i, hi, hz, hsz, hby⟩ := info_cell
  have hx' : Src Try.prog i.size 60 x ks.length (its ks) w := by rw [hsz]; exact hx
  have hm : (1000000 : Nat) ≤ maxLen := by unfold maxLen; omega
  rcases Nat.lt_or_ge cap (zs.length + ks.length) with hg | hr
  · have hold : (Builtin.firstCells i.size zs.length (.slice ad zs.length cap)).run Try.prog w.drew = .ok (its zs).toArray w.drew := by
      rcases Nat.eq_zero_or_pos cap with h0 | h0
      · have hz0 : zs = [] := List.eq_nil_of_length_eq_zero (by have := h.1; omega)
        subst hz0
        cases ad with
        | none => exact run_firstCells_none w.drew _ _ _ _
        | some a => exact run_firstCells_some w.drew _ _ a _ _ [] (by simp) (by simp)
      · obtain ⟨g, off, cur, rfl, hD, hgb, hs, hc⟩ := h.2.2 h0
        refine run_firstCells_some w.drew _ _ _ _ _ _ (by rw [its_len, hsz]) (fun j u hu => ?_)
        rw [Addr.add_lit]
        have : w.drew.heap[g]? = some (.cells cur 73 (0, 0)) := hgb
        rw [cell_of_block this]
        exact its_cell (f := fun j => cur[off + j]?) (fun i z hi => ⟨(hc i z hi).1, by rw [← Nat.add_assoc]; exact (hc i z hi).2⟩) hu
    have hrun := run_append_grow_src (P := Try.prog) w 60 60 ty 73 i (.agg #[.string ByteArray.empty, .int .u8 0]) Try.underlying60 hi hz ad zs.length cap (its zs) hold x ks.length (its ks) hx' hg (by omega) (growslice_fits hg (by rw [hby]; omega))
    have hge := grownCap_ge w (zs.length + ks.length) cap 73
    have hcm := grownCap_le_maxLen w (zs.length + ks.length) cap 73 (by omega)
    refine ⟨_, _, _, hrun, ⟨by rw [List.length_append]; exact hge, hcm, fun _ => ⟨_, 0, _, rfl, .inr (Nat.le_refl _), heap_alloc_new w.drew _, ?_, fun j z hj => ?_⟩⟩, ((Keeps.refl D w).drew).alloc _⟩
    · rw [Array.size_append, List.size_toArray, size_zeroCells, List.length_append, its_len, its_len]
      simp [Value.cells]
      omega
    · have hl := lt_of_at hj
      obtain ⟨a1, a2⟩ := its_at hj
      have hle : j * 2 + 1 < (its zs ++ its ks).length := by rw [← its_app, its_len]; omega
      rw [Nat.zero_add, Array.getElem?_append_left (by rw [List.size_toArray]; omega), Array.getElem?_append_left (by rw [List.size_toArray]; omega), List.getElem?_toArray, List.getElem?_toArray, ← its_app]
      exact ⟨a1, a2⟩
  · rcases Nat.eq_zero_or_pos cap with h0 | h0
    · subst h0
      have hz0 : zs = [] := List.eq_nil_of_length_eq_zero (by omega)
      have hk0 : ks = [] := List.eq_nil_of_length_eq_zero (by omega)
      subst hz0 hk0
      exact ⟨ad, 0, w, run_append_nothing (P := Try.prog) w 60 60 ty 73 i Try.underlying60 hi ad 0 0 (Nat.le_refl _) x hx', Row.bare ad, Keeps.refl D w⟩
    · obtain ⟨g, off, cur, rfl, hD, hgb, hs, hc⟩ := h.2.2 h0
      have hrun := run_append_room_src (P := Try.prog) w 60 60 ty 73 i Try.underlying60 hi g off zs.length cap x ks.length (its ks) hx' hr
        (fun j hj => by rw [hsz, cell_of_block hgb]; rw [its_len] at hj; rw [Array.getElem?_eq_getElem (by omega)]; rfl) (fun j _ => frozen_of_block hgb)
      rw [hsz] at hrun
      obtain ⟨cur', b1, b2, b3, b4⟩ := setCells_block (its ks) (off + zs.length * 2) w cur hgb (by rw [its_len]; omega)
      refine ⟨_, _, _, hrun, ⟨by rw [List.length_append]; exact hr, h.2.1, fun _ => ⟨g, off, cur', rfl, .inl hD, b1, by rw [b2]; exact hs, fun j z hj => ?_⟩⟩, setCells_keeps hD _ _ w⟩
      by_cases hjz : j < zs.length
      · rw [b3 _ (by omega), b3 _ (by omega)]
        rw [List.getElem?_append_left hjz] at hj
        exact hc j z hj
      · rw [List.getElem?_append_right (by omega)] at hj
        have hl := lt_of_at hj
        obtain ⟨a1, a2⟩ := its_at hj
        have h4 := b4 ((j - zs.length) * 2) (by rw [its_len]; omega)
        have h5 := b4 ((j - zs.length) * 2 + 1) (by rw [its_len]; omega)
        rw [show off + zs.length * 2 + (j - zs.length) * 2 = off + j * 2 by omega] at h4
        rw [show off + zs.length * 2 + ((j - zs.length) * 2 + 1) = off + j * 2 + 1 by omega] at h5
        rw [h4, h5]
        exact ⟨a1, a2⟩
theorem wpList_append_row {ops : Array Oper} {rest : List Oper} {o : Oper} {a : Act} {Q : Exit → Act → World → Prop} (hgd : o.guard = none) (s x : Operand)
    (ho : o.op = .call { callee := .builtin .append, args := #[s, x], argTypes := #[60, 60] })
    (hs : a.eval s = .slice ad zs.length cap) (hrow : Row D w ad cap zs) {vx : Value} (hx : a.eval x = vx) (hsrc : Src Try.prog 2 60 vx ks.length (its ks) w) (hn : zs.length + ks.length ≤ 1000000)
    (h : ∀ ad' cap' w', Row (fun g => D g ∨ w.heap.size ≤ g) w' ad' cap' (zs ++ ks) → Keeps D w w' → wpList Try.prog ops Q rest (a.put o.dst (.slice ad' (zs.length + ks.length) cap')) w') : wpList Try.prog ops Q (o :: rest) a w := by
  refine wpList_plain hgd fun K hK => ?_
  obtain ⟨ad', cap', w', hrun, h2, h3⟩ := run_append_row o.type hrow hsrc hn
  unfold Oper.wp
  simp [execOp, ho, resolve, invoke, builtin, hs, hx, hrun, Result.andThen]
  exact hK _ _ (h ad' cap' w' h2 h3)
/-- one item, laid for an append -/
theorem src_one (w : World) (k : ByteArray) (n : Nat) : Src Try.prog 2 60 (.slice (some ⟨w.heap.size, 0, none⟩) 1 1) 1 (its [⟨k, n⟩]) (w.alloc (.cells #[.string k, .int .u8 (n : Nat)] 73)) := by
  refine Src.ofSlice _ Try.underlying60 _ 1 1 _ rfl (fun j u hu => ?_) (its_one _)
  rw [Addr.add_lit, cell_of_block (heap_alloc_new w _)]
  simpa [its] using hu
end
end Go.Proofs.Ytcbaalodhgkgmaa.C
