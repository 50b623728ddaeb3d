/- The document's answer (hoardref6), in memory: its row of pairs, rising by keys. -/
import Derived.Test.YtpfcmaoookhopaaTwo
import Derived.Deep.RegionLaw
namespace Go.Proofs.Ytpfcmaoookhopaa
open Go.RowKit

theorem step_append_from {P : Program} {ops : Array Oper} {o : Oper} {a : Act} {w : World} {K : Act → World → Prop} {Q : Exit → Act → World → Prop} {E : Prop}
    (hg : o.guard = none) (s x : Operand) (t : TypeId) (hop : o.op = Op.call { callee := Callee.builtin Builtin.append, args := #[s, x], argTypes := #[t, t] })
    (base : Nat) (e : TypeId) (i : TypeInfo) (z : Value) (size bytes : Nat) (ht : P.underlying t = some (.slice e)) (hi : P.info? e = some i) (hz : i.zero = some z)
    (hsize : i.size = size) (hby : i.bytes = bytes) (hzs : z.cells.size = size) (hsz : 0 < size)
    (v : Value) (n : Nat) (xs : List Value) (hs : a.eval s = v) (hown : w.ownsRow base e size v n xs) (ad : Option Addr) (m c : Nat) (news : List Value) (hx : a.eval x = .slice ad m c) (hsrc : FromRow w size ad m c news)
    (h63 : n + m ≤ maxLen) (hbytes : (n + m) * bytes ≤ 140737488355328) (hbase : base ≤ w.heap.size)
    (hK : ∀ ad' cap' w', n + m ≤ cap' → w'.ownsRow base e size (.slice ad' (n + m) cap') (n + m) (xs ++ news) → w.grownBy w' v.ownBlock → ((Value.slice ad' (n + m) cap').ownBlock = v.ownBlock ∨ (Value.slice ad' (n + m) cap').ownBlock = some w.heap.size) →
      K (a.put o.dst (.slice ad' (n + m) cap')) w') :
    if Region.wanted o (yielded ops a.tmps) = true then Oper.wp P o a w K Q else E := by
  have hw : Region.wanted o (yielded ops a.tmps) = true := by simp [Region.wanted, hg]
  rw [if_pos hw]
  obtain ⟨v', w', hrun, h2, h3, h4⟩ := run_append_from (P := P) w base t o.type e i z size bytes ht hi hz hsize hby hzs hsz v n xs hown ad m c news hsrc h63 hbytes hbase
  obtain ⟨ad', cap', rfl, hc⟩ := ownsRow_shape h2
  unfold Oper.wp
  simp [execOp, hop, resolve, invoke, builtin, hs, hx, hrun, Result.andThen]
  exact hK ad' cap' w' hc h2 h3 h4


section
variable {w : World}
/-- the first cells of a row, as what an append takes -/
theorem from_first {e : TypeId} {size g m c k c' : Nat} {xs ys : List Value} {base : Nat} (h : w.ownsRow base e size (.slice (some ⟨g, 0, none⟩) m c) m (xs ++ ys)) (hk : xs.length = k * size) (h1 : ∀ u ∈ xs, u.oneCell' = true) :
    FromRow w size (some ⟨g, 0, none⟩) k c' xs := by
  refine .inr ⟨_, rfl, hk, fun j u hu => h.cells rfl j u ?_, h1⟩
  rw [List.getElem?_append_left]
  · exact hu
  · rcases Nat.lt_or_ge j xs.length with h | h
    · exact h
    · rw [List.getElem?_eq_none h] at hu; cases hu
/-- the last cells of a row, as what an append takes -/
theorem from_last {e : TypeId} {size g m c k off c' : Nat} {xs ys : List Value} {base : Nat} (h : w.ownsRow base e size (.slice (some ⟨g, 0, none⟩) m c) m (xs ++ ys)) (ho : xs.length = off) (hk : ys.length = k * size) (h1 : ∀ u ∈ ys, u.oneCell' = true) :
    FromRow w size (some ⟨g, off, none⟩) k c' ys := by
  subst ho
  refine .inr ⟨_, rfl, hk, fun j u hu => ?_, h1⟩
  have := h.cells rfl (xs.length + j) u (by rw [List.getElem?_append_right (by omega)]; simpa using hu)
  rw [Addr.add_lit] at this ⊢
  simpa using this
theorem own_fresh {W : World} {o : Obj} {ad' : Option Addr} {m cap' : Nat} (h : (Value.slice ad' m cap').ownBlock = (Value.slice (some ⟨W.heap.size, 0, none⟩) 0 0).ownBlock ∨ (Value.slice ad' m cap').ownBlock = some (W.alloc o).drew.heap.size) :
    ∀ k, (Value.slice ad' m cap').ownBlock = some k → W.heap.size ≤ k := by
  intro k e
  rcases h with h | h
  · rw [h] at e; cases e; exact Nat.le_refl _
  · rw [h] at e; cases e; show W.heap.size ≤ (W.alloc _).heap.size; simp
theorem own_fresh3 {W w2 : World} {ad' ad3 : Option Addr} {m cap' m3 cap3 : Nat} (h2 : ∀ k, (Value.slice ad' m cap').ownBlock = some k → W.heap.size ≤ k) (hs : W.heap.size ≤ w2.heap.size)
    (h : (Value.slice ad3 m3 cap3).ownBlock = (Value.slice ad' m cap').ownBlock ∨ (Value.slice ad3 m3 cap3).ownBlock = some w2.heap.size) : ∀ k, (Value.slice ad3 m3 cap3).ownBlock = some k → W.heap.size ≤ k := by
  intro k e
  rcases h with h | h
  · exact h2 k (h ▸ e)
  · rw [h] at e; cases e; exact hs

end
/-- pairs, as cells -/
def prow (l : List (ByteArray × Int)) : List Value := l.flatMap fun e => [Value.string e.1, Value.int .i64 e.2]
theorem prow_cons (e : ByteArray × Int) (l : List (ByteArray × Int)) : prow (e :: l) = .string e.1 :: .int .i64 e.2 :: prow l := rfl
theorem prow_append (a b : List (ByteArray × Int)) : prow (a ++ b) = prow a ++ prow b := by simp [prow]
theorem prow_len (l : List (ByteArray × Int)) : (prow l).length = l.length * 2 := by
  induction l with
  | nil => rfl
  | cons e l ih => rw [prow_cons]; simp [ih]; omega
theorem prow_one (l : List (ByteArray × Int)) : ∀ u ∈ prow l, u.oneCell' = true := by
  intro u hu
  simp [prow] at hu
  obtain ⟨a, b, _, rfl | rfl⟩ := hu <;> rfl
theorem prow_at : ∀ (l : List (ByteArray × Int)) (i : Nat) (e : ByteArray × Int), l[i]? = some e → (prow l)[i * 2]? = some (.string e.1) ∧ (prow l)[i * 2 + 1]? = some (.int .i64 e.2)
  | s :: l, 0, t, h => by
    simp at h
    subst h
    simp [prow_cons]
  | s :: l, i + 1, t, h => by
    rw [show (i + 1) * 2 = i * 2 + 1 + 1 by omega]
    simp only [prow_cons, List.getElem?_cons_succ]
    exact prow_at l i t (by simpa using h)
theorem prow_set (a b : List (ByteArray × Int)) (k : ByteArray) (v u : Int) : (prow (a ++ (k, v) :: b)).set (a.length * 2 + 1) (.int .i64 u) = prow (a ++ (k, u) :: b) := by
  rw [prow_append, prow_append, prow_cons, prow_cons, List.set_append_right _ _ (by rw [prow_len]; omega), prow_len]
  rw [show a.length * 2 + 1 - a.length * 2 = 1 by omega]
  rfl
def RefIn (D : Nat → Prop) (w : World) (x : Nat) (l : List (ByteArray × Int)) (ad : Option Addr) (cap : Nat) : Prop :=
  D x ∧ w.heap[x]? = some (.cells #[.slice ad l.length cap] 30 (0, 0)) ∧ w.ownsRow 0 60 2 (.slice ad l.length cap) l.length (prow l) ∧ (Value.slice ad l.length cap).ownBlock ≠ some x ∧ ∀ g, (Value.slice ad l.length cap).ownBlock = some g → D g
def Rising (l : List (ByteArray × Int)) : Prop := l.Pairwise (fun a b => bts a.1 < bts b.1)
def Says (l : List (ByteArray × Int)) (m : ByteArray → Option Int) : Prop := ∀ k v, m k = some v ↔ (k, v) ∈ l
def RX (x : Nat) (m : ByteArray → Option Int) (b : Nat) (D : Nat → Prop) (w : World) : Prop := ∃ l ad cap, RefIn D w x l ad cap ∧ Rising l ∧ Says l m ∧ l.length ≤ b
section
variable {D : Nat → Prop} {w w' : World} {x : Nat} {l : List (ByteArray × Int)} {ad : Option Addr} {cap b : Nat} {m : ByteArray → Option Int}
theorem RefIn.kept {D' : Nat → Prop} (h : RefIn D w x l ad cap) (hk : Keeps D' w w') (hd : ∀ k, D k → ¬ D' k) : RefIn D w' x l ad cap := by
  obtain ⟨h1, h2, h3, h4, h5⟩ := h
  exact ⟨h1, (hk.block x (lt_of_block h2) (hd _ h1)).trans h2, ownsRow_same h3 (fun g e => hk.block g (h3.lt g e).2 (hd _ (h5 g e))), h4, h5⟩
theorem RefIn.below (h : RefIn D w x l ad cap) (hb : Below w.heap.size w w') : RefIn D w' x l ad cap :=
  h.kept (D' := fun _ => False) (.of_below hb) (fun _ _ e => e)
theorem RefIn.drewN (h : RefIn D w x l ad cap) (q : Nat) : RefIn D (w.drewN q) x l ad cap := h.below (below_drewN (Below.refl _ w) q)
theorem RefIn.alloc (h : RefIn D w x l ad cap) (o : Obj) : RefIn D (w.alloc o) x l ad cap := h.below ((Below.refl _ w).alloc (Nat.le_refl _) _)
theorem RefIn.top (h : RefIn D w x l ad cap) : w.cell? ⟨x, 0, none⟩ = some (.slice ad l.length cap) ∧ w.frozen? ⟨x, 0, none⟩ = false := by
  have := h.2.1
  simp [World.cell?, World.frozen?, this]
theorem RX.lies (x : Nat) (m : ByteArray → Option Int) (b : Nat) : Lies (RX x m b) := by
  refine ⟨?_, ?_, ?_⟩
  · rintro D D' w w' ⟨l, ad, cap, h, r⟩ hk hd
    exact ⟨l, ad, cap, h.kept hk hd, r⟩
  · rintro D D' w ⟨l, ad, cap, ⟨h1, h2, h3, h4, h5⟩, r⟩ hD
    exact ⟨l, ad, cap, ⟨hD _ h1, h2, h3, h4, fun g e => hD _ (h5 g e)⟩, r⟩
  · rintro D w ⟨l, ad, cap, ⟨h1, h2, h3, h4, h5⟩, r⟩
    exact ⟨l, ad, cap, ⟨⟨h1, lt_of_block h2⟩, h2, h3, h4, fun g e => ⟨h5 g e, (h3.lt g e).2⟩⟩, r⟩
theorem RefIn.cell (h : RefIn D w x l ad cap) {i : Nat} {e : ByteArray × Int} (hi : l[i]? = some e) : ∃ g, ad = some ⟨g, 0, none⟩ ∧ g ≠ x ∧ D g ∧ w.cell? ⟨g, i * 2, none⟩ = some (.string e.1) ∧ w.cell? ⟨g, i * 2 + 1, none⟩ = some (.int .i64 e.2) ∧ w.frozen? ⟨g, i * 2 + 1, none⟩ = false := by
  obtain ⟨h1, h2, h3, h4, h5⟩ := h
  obtain ⟨g, cur, rfl, _, hg, hc⟩ := ownsRow_block h3 (by have := lt_of_at hi; omega)
  obtain ⟨p0, p1⟩ := prow_at l i e hi
  refine ⟨g, rfl, fun e => h4 (by rw [← e]; rfl), h5 g rfl, hc _ _ p0, hc _ _ p1, frozen_of_block hg⟩
theorem RX.made (hD : D w.heap.size) : RX w.heap.size (fun _ => none) 0 D (w.alloc (.cells #[.slice none 0 0] 30)) :=
  ⟨[], none, 0, ⟨hD, heap_alloc_new w _, World.ownsRow_nil _ _ _ _, by simp [Value.ownBlock], by simp [Value.ownBlock]⟩, List.Pairwise.nil, by simp [Says], Nat.le_refl _⟩
/-! ### where a key stands, or would -/
theorem bts_tri (a b : ByteArray) : bts a < bts b ∨ a = b ∨ bts b < bts a := by
  rcases Classical.em (bts a < bts b) with h | h
  · exact .inl h
  · rcases List.le_iff_lt_or_eq.1 (List.not_lt.1 h) with h | h
    · exact .inr (.inr h)
    · exact .inr (.inl (bts_inj h.symm))
theorem cut_at (hr : Rising l) (k : ByteArray) : ∃ A B, l = A ++ B ∧ (∀ a ∈ A, bts a.1 < bts k) ∧ ∀ c ∈ B, ¬ bts c.1 < bts k := by
  induction l with
  | nil => exact ⟨[], [], rfl, by simp, by simp⟩
  | cons e l ih =>
    rw [Rising, List.pairwise_cons] at hr
    by_cases h : bts e.1 < bts k
    · obtain ⟨A, B, rfl, hA, hB⟩ := ih hr.2
      refine ⟨e :: A, B, rfl, ?_, hB⟩
      intro a ha
      rcases List.mem_cons.1 ha with rfl | ha
      · exact h
      · exact hA a ha
    · refine ⟨[], e :: l, rfl, by simp, ?_⟩
      intro c hc
      rcases List.mem_cons.1 hc with rfl | hc
      · exact h
      · exact fun h2 => h (List.lt_trans (hr.1 c hc) h2)
theorem cut_hit (hr : Rising l) (hs : Says l m) {k : ByteArray} {v : Int} (hm : m k = some v) : ∃ A B, l = A ++ (k, v) :: B ∧ ∀ a ∈ A, bts a.1 < bts k := by
  obtain ⟨A, B, rfl, hA, hB⟩ := cut_at hr k
  have hmem := (hs k v).1 hm
  rcases List.mem_append.1 hmem with h | h
  · exact absurd (hA _ h) (lt_irr _)
  · cases B with
    | nil => cases h
    | cons c B =>
      rcases List.mem_cons.1 h with h | h
      · subst h; exact ⟨A, B, rfl, hA⟩
      · have h2 : Rising (c :: B) := by
          rw [Rising, List.pairwise_append] at hr
          exact hr.2.1
        rw [Rising, List.pairwise_cons] at h2
        exact absurd (h2.1 _ h) (hB c (by simp))
theorem cut_miss (hr : Rising l) (hs : Says l m) {k : ByteArray} (hm : m k = none) : ∃ A B, l = A ++ B ∧ (∀ a ∈ A, bts a.1 < bts k) ∧ ∀ c ∈ B, bts k < bts c.1 := by
  obtain ⟨A, B, rfl, hA, hB⟩ := cut_at hr k
  refine ⟨A, B, rfl, hA, fun c hc => ?_⟩
  rcases bts_tri k c.1 with h | h | h
  · exact h
  · have : m k = some c.2 := (hs k c.2).2 (List.mem_append.2 (.inr (by rw [h]; exact hc)))
    rw [hm] at this; cases this
  · exact absurd h (hB c hc)
end
end Go.Proofs.Ytpfcmaoookhopaa
