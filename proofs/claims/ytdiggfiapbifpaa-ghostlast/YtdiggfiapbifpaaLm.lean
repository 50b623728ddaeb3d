/- A list in memory: its struct, its slots; append onto rows that the call owns, stores into them. -/
import Derived.Test.YtdiggfiapbifpaaTx
import Derived.Maps.AppendAt
namespace Go.Proofs.Ytdiggfiapbifpaa
open Go.RowKit
theorem Keeps.setNew {D : Nat → Prop} {a w : World} (h : Keeps D a w) {p : Addr} (hp : a.heap.size ≤ p.block) (u : Value) : Keeps D a (w.setCell p u) :=
  ⟨h.os, h.tape, h.output, by simpa [World.setCell] using h.size, fun k hk hn => (Below.heap_setCell _ _ _ _ (by omega)).trans (h.block k hk hn)⟩
theorem Keeps.grown {D : Nat → Prop} {a w w' : World} {row : Option Nat} (h : Keeps D a w) (hg : w.grownBy w' row) (hr : ∀ k, row = some k → D k ∨ a.heap.size ≤ k) : Keeps D a w' :=
  ⟨hg.os.trans h.os, hg.tape.trans h.tape, hg.output.trans h.output, Nat.le_trans h.size hg.size, fun k hk hn => (hg.block k (Nat.lt_of_lt_of_le hk h.size) (fun e => by rcases hr k e.symm with x | x; exact hn x; omega)).trans (h.block k hk hn)⟩
end Go.Proofs.Ytdiggfiapbifpaa
namespace Go.Proofs.Ytdiggfiapbifpaa.Ls
open Go.RowKit

/-- what is appended: a nil slice, or cells behind an address -/
def FromRow (w : World) (size : Nat) (a : Option Addr) (m c : Nat) (news : List Value) : Prop :=
  (a = none ∧ m = 0 ∧ c = 0 ∧ news = []) ∨ ∃ x, a = some x ∧ news.length = m * size ∧ (∀ j u, news[j]? = some u → w.cell? (x.add j) = some u) ∧ ∀ u ∈ news, u.oneCell' = true

theorem run_append_from {P : Program} (w : World) (base : Nat) (t ty e : TypeId) (i : TypeInfo) (z : Value) (size bytes : Nat) (ht : P.underlying t = some (.slice e)) (hi : P.info? e = some i) (hz : i.zero = some z)
    (hsize : i.size = size) (hby : i.bytes = bytes) (hzs : z.cells.size = size) (hsz : 0 < size)
    (v : Value) (n : Nat) (xs : List Value) (hown : w.ownsRow base e size v n xs) (a : Option Addr) (m c : Nat) (news : List Value) (hsrc : FromRow w size a m c news)
    (h63 : n + m ≤ maxLen) (hbytes : (n + m) * bytes ≤ 140737488355328) (hbase : base ≤ w.heap.size) :
    ∃ v' w', (Builtin.append_ #[t, t] ty #[v, .slice a m c]).run P w = .ok v' w' ∧ w'.ownsRow base e size v' (n + m) (xs ++ news) ∧ w.grownBy w' v.ownBlock ∧ (v'.ownBlock = v.ownBlock ∨ v'.ownBlock = some w.heap.size) := by
  rcases hsrc with ⟨rfl, rfl, rfl, rfl⟩ | ⟨x, rfl, hl, hc, h1⟩
  · exact ⟨v, w, run_append_owned_none w base t ty e i size ht hi v n xs hown, by simpa using hown, World.grownBy.refl _ _, .inl rfl⟩
  · obtain ⟨v', w', h, h2, h3, _, h5⟩ := run_append_own_at (P := P) w base t ty e i z size bytes ht hi hz hsize hby hzs hsz v n xs hown x m c news hl hc h1 h63 hbytes hbase
    exact ⟨v', w', h, h2, h3, h5⟩

theorem ownsRow_shape {w : World} {base : Nat} {e : TypeId} {size : Nat} {v : Value} {n : Nat} {xs : List Value} (h : w.ownsRow base e size v n xs) : ∃ ad cap, v = .slice ad n cap ∧ n ≤ cap := by
  rcases h.2 with ⟨rfl, rfl⟩ | ⟨g, cap, cur, rfl, _, _, hn, _⟩
  · exact ⟨none, 0, rfl, Nat.le_refl _⟩
  · exact ⟨_, cap, rfl, hn⟩

theorem wpList_append_from {P : Program} (w : World) {ops : Array Oper} {rest : List Oper} {o : Oper} {a : Act} {Q : Exit → Act → World → Prop} (hgd : o.guard = none) (s x : Operand) (t : TypeId)
    (ho : o.op = .call { callee := .builtin .append, args := #[s, x], argTypes := #[t, t] })
    (base : Nat) (e : TypeId) (i : TypeInfo) (z : Value) (size bytes : Nat) (ht : P.underlying t = some (.slice e)) (hi : P.info? e = some i) (hz : i.zero = some z)
    (hsize : i.size = size) (hby : i.bytes = bytes) (hzs : z.cells.size = size) (hsz : 0 < size)
    (v : Value) (n : Nat) (xs : List Value) (hs : a.eval s = v) (hown : w.ownsRow base e size v n xs) (ad : Option Addr) (m c : Nat) (news : List Value) (hx : a.eval x = .slice ad m c) (hsrc : FromRow w size ad m c news)
    (h63 : n + m ≤ maxLen) (hbytes : (n + m) * bytes ≤ 140737488355328) (hbase : base ≤ w.heap.size)
    (h : ∀ ad' cap' w', n + m ≤ cap' → w'.ownsRow base e size (.slice ad' (n + m) cap') (n + m) (xs ++ news) → w.grownBy w' v.ownBlock → ((Value.slice ad' (n + m) cap').ownBlock = v.ownBlock ∨ (Value.slice ad' (n + m) cap').ownBlock = some w.heap.size) →
      wpList P ops Q rest (a.put o.dst (.slice ad' (n + m) cap')) w') : wpList P ops Q (o :: rest) a w := by
  refine wpList_plain hgd fun K hK => ?_
  obtain ⟨v', w', hrun, h2, h3, h4⟩ := run_append_from (P := P) w base t o.type e i z size bytes ht hi hz hsize hby hzs hsz v n xs hown ad m c news hsrc h63 hbytes hbase
  obtain ⟨ad', cap', rfl, hc⟩ := ownsRow_shape h2
  unfold Oper.wp
  simp [execOp, ho, resolve, invoke, builtin, hs, hx, hrun, Result.andThen]
  exact hK _ _ (h ad' cap' w' hc h2 h3 h4)

/-- a store into a row that the call owns -/
theorem ownsRow_setCell {w : World} {base : Nat} {e : TypeId} {size n cap g k : Nat} {xs : List Value} {u : Value} (h : w.ownsRow base e size (.slice (some ⟨g, 0, none⟩) n cap) n xs) :
    (w.setCell ⟨g, k, none⟩ u).ownsRow base e size (.slice (some ⟨g, 0, none⟩) n cap) n (xs.set k u) := by
  refine ⟨by simpa using h.1, ?_⟩
  rcases h.2 with ⟨h0, _⟩ | ⟨g', cap', cur, hv, hb, hg, hn, hc, hcs, ht⟩
  · cases h0
  · cases hv
    refine .inr ⟨g, cap, cur.set! k u, rfl, hb, block_setCell hg, hn, hc, by simpa using hcs, ?_⟩
    rw [← ht]
    simp only [Array.set!_eq_setIfInBounds, Array.toList_setIfInBounds, List.take_set]
theorem ownsRow_setCell_far {w : World} {base : Nat} {e : TypeId} {size n : Nat} {v : Value} {xs : List Value} {a : Addr} {u : Value} (h : w.ownsRow base e size v n xs) (hne : v.ownBlock ≠ some a.block) :
    (w.setCell a u).ownsRow base e size v n xs := by
  refine ⟨h.1, ?_⟩
  rcases h.2 with h0 | ⟨g', cap', cur, hv, hb, hg, r⟩
  · exact .inl h0
  · refine .inr ⟨g', cap', cur, hv, hb, ?_, r⟩
    rw [Below.heap_setCell _ _ _ _ (by intro e; apply hne; subst hv; simp [Value.ownBlock, e])]
    exact hg
theorem ownsRow_block {w : World} {base : Nat} {e : TypeId} {size n : Nat} {ad : Option Addr} {cap : Nat} {xs : List Value} (h : w.ownsRow base e size (.slice ad n cap) n xs) (hn : 0 < n) :
    ∃ g cur, ad = some ⟨g, 0, none⟩ ∧ base ≤ g ∧ w.heap[g]? = some (.cells cur e (0, 0)) ∧ ∀ k u, xs[k]? = some u → w.cell? ⟨g, k, none⟩ = some u := by
  rcases h.2 with ⟨_, h0⟩ | ⟨g, cap', cur, hv, hb, hg, _⟩
  · omega
  · cases hv
    exact ⟨g, cur, rfl, hb, hg, fun k u hu => by simpa [Addr.add_lit] using h.cells (g := g) rfl k u hu⟩

theorem cell_four_new (w : World) (a b c d : Value) (t : TypeId) : FromRow (w.alloc (.cells #[a, b, c, d] t)) 4 (some ⟨w.heap.size, 0, none⟩) 1 1 [a, b, c, d] ∨ ¬ (a.oneCell' = true ∧ b.oneCell' = true ∧ c.oneCell' = true ∧ d.oneCell' = true) := by
  by_cases h : a.oneCell' = true ∧ b.oneCell' = true ∧ c.oneCell' = true ∧ d.oneCell' = true
  · refine .inl (.inr ⟨_, rfl, rfl, ?_, ?_⟩)
    · intro j u hu
      have := heap_alloc_new w (.cells #[a, b, c, d] t)
      rw [show (⟨w.heap.size, 0, none⟩ : Addr).add j = ⟨w.heap.size, j, none⟩ by simp [Addr.add_lit], cell_of_block this]
      simpa using hu
    · intro u hu
      simp at hu
      rcases hu with rfl | rfl | rfl | rfl <;> simp [h]
  · exact .inr h
/-! ### a list in memory -/
/-- what its struct and its slots say: beside each handle (0: beyond both ends) who stands ahead and behind, who is there, and what lies there -/
structure St (α : Type) where
  pv : Nat → Nat
  nx : Nat → Nat
  th : Nat → Bool
  va : Nat → α
  free : Nat
  n : Nat
  count : Nat
def upd {β : Type} (f : Nat → β) (k : Nat) (x : β) : Nat → β := fun j => if j = k then x else f j
theorem upd_same {β : Type} (f : Nat → β) (k : Nat) (x : β) : upd f k x k = x := by simp [upd]
theorem upd_far {β : Type} (f : Nat → β) {k j : Nat} (x : β) (h : j ≠ k) : upd f k x j = f j := by simp [upd, h]

def St.cell {α : Type} (V : α → Value) (s : St α) (k : Nat) : Value :=
  if k % 4 = 0 then .int .i64 (s.pv (k / 4 + 1)) else if k % 4 = 1 then .int .i64 (s.nx (k / 4 + 1)) else if k % 4 = 2 then .bool (s.th (k / 4 + 1)) else V (s.va (k / 4 + 1))
def St.row {α : Type} (V : α → Value) (s : St α) : List Value := (List.range (s.n * 4)).map (s.cell V)
def ListIn {α : Type} (V : α → Value) (te tl : TypeId) (B : Nat → Prop) (w : World) (p : Nat) (s : St α) (ad : Option Addr) (cap : Nat) : Prop :=
  B p ∧ w.heap[p]? = some (.cells #[.int .i64 (s.pv 0), .int .i64 (s.nx 0), .slice ad s.n cap, .int .i64 s.free, .int .i64 s.count] tl (0, 0)) ∧
    w.ownsRow 0 te 4 (.slice ad s.n cap) s.n (s.row V) ∧ (Value.slice ad s.n cap).ownBlock ≠ some p ∧ ∀ g, (Value.slice ad s.n cap).ownBlock = some g → B g
def ListAt {α : Type} (V : α → Value) (te tl : TypeId) (B : Nat → Prop) (w : World) (p : Nat) (s : St α) : Prop := ∃ ad cap, ListIn V te tl B w p s ad cap

theorem cells_of_five {w : World} {p : Nat} {a b c d e : Value} {t : TypeId} (h : w.heap[p]? = some (.cells #[a, b, c, d, e] t (0, 0))) :
    w.cell? ⟨p, 0, none⟩ = some a ∧ w.cell? ⟨p, 1, none⟩ = some b ∧ w.cell? ⟨p, 2, none⟩ = some c ∧ w.cell? ⟨p, 3, none⟩ = some d ∧ w.cell? ⟨p, 4, none⟩ = some e ∧
    w.frozen? ⟨p, 0, none⟩ = false ∧ w.frozen? ⟨p, 1, none⟩ = false ∧ w.frozen? ⟨p, 2, none⟩ = false ∧ w.frozen? ⟨p, 3, none⟩ = false ∧ w.frozen? ⟨p, 4, none⟩ = false := by
  simp [World.cell?, World.frozen?, h]
/-- the four cells of a slot -/
theorem row_at {α : Type} (V : α → Value) (s : St α) {i : Nat} (h : i < s.n) :
    (s.row V)[i * 4]? = some (.int .i64 (s.pv (i + 1))) ∧ (s.row V)[i * 4 + 1]? = some (.int .i64 (s.nx (i + 1))) ∧ (s.row V)[i * 4 + 2]? = some (.bool (s.th (i + 1))) ∧ (s.row V)[i * 4 + 3]? = some (V (s.va (i + 1))) := by
  have h0 : (i * 4) % 4 = 0 := by omega
  have h1 : (i * 4 + 1) % 4 = 1 := by omega
  have h2 : (i * 4 + 2) % 4 = 2 := by omega
  have h3 : (i * 4 + 3) % 4 = 3 := by omega
  have d0 : (i * 4) / 4 = i := by omega
  have d1 : (i * 4 + 1) / 4 = i := by omega
  have d2 : (i * 4 + 2) / 4 = i := by omega
  have d3 : (i * 4 + 3) / 4 = i := by omega
  simp only [St.row, List.getElem?_map, List.getElem?_range (show i * 4 < s.n * 4 by omega), List.getElem?_range (show i * 4 + 1 < s.n * 4 by omega), List.getElem?_range (show i * 4 + 2 < s.n * 4 by omega), List.getElem?_range (show i * 4 + 3 < s.n * 4 by omega), Option.map_some, St.cell, h0, h1, h2, h3, d0, d1, d2, d3]
  simp
theorem map_set {f f' : Nat → Value} {m k : Nat} {u : Value} (hk : f' k = u) (h : ∀ j, j ≠ k → f' j = f j) : ((List.range m).map f).set k u = (List.range m).map f' := by
  apply List.ext_getElem?
  intro j
  rw [List.getElem?_set]
  by_cases e : k = j
  · subst e
    by_cases hm : k < m
    · simp [hm, hk]
    · simp [hm]
  · rw [if_neg e]
    by_cases hm : j < m
    · simp [hm, h j (fun x => e x.symm)]
    · simp [hm]

section
variable {α : Type} {V : α → Value} {te tl : TypeId} {B : Nat → Prop} {w : World} {p g cap : Nat} {s : St α} {ad : Option Addr}
/-- stores into a slot -/
theorem ListIn.setPv (h : ListIn V te tl B w p s (some ⟨g, 0, none⟩) cap) (i u : Nat) :
    ListIn V te tl B (w.setCell ⟨g, i * 4, none⟩ (.int .i64 (u : Nat))) p { s with pv := upd s.pv (i + 1) u } (some ⟨g, 0, none⟩) cap := by
  obtain ⟨hB, hh, ho, hne, hD⟩ := h
  have hgp : p ≠ g := by intro e; apply hne; simp [Value.ownBlock, e]
  refine ⟨hB, ?_, ?_, hne, hD⟩
  · rw [Below.heap_setCell _ _ _ _ (by exact hgp)]
    simpa [upd] using hh
  · have h2 := ownsRow_setCell (k := i * 4) (u := .int .i64 (u : Nat)) ho
    rw [St.row, map_set (f' := St.cell V { s with pv := upd s.pv (i + 1) u })] at h2
    · exact h2
    · simp [St.cell, upd]
    · intro j hj
      simp only [St.cell]
      split
      · rw [upd_far _ _ (by omega)]
      · rfl
theorem ListIn.setNx (h : ListIn V te tl B w p s (some ⟨g, 0, none⟩) cap) (i u : Nat) :
    ListIn V te tl B (w.setCell ⟨g, i * 4 + 1, none⟩ (.int .i64 (u : Nat))) p { s with nx := upd s.nx (i + 1) u } (some ⟨g, 0, none⟩) cap := by
  obtain ⟨hB, hh, ho, hne, hD⟩ := h
  have hgp : p ≠ g := by intro e; apply hne; simp [Value.ownBlock, e]
  refine ⟨hB, ?_, ?_, hne, hD⟩
  · rw [Below.heap_setCell _ _ _ _ (by exact hgp)]
    simpa [upd] using hh
  · have h2 := ownsRow_setCell (k := i * 4 + 1) (u := .int .i64 (u : Nat)) ho
    rw [St.row, map_set (f' := St.cell V { s with nx := upd s.nx (i + 1) u })] at h2
    · exact h2
    · have e1 : (i * 4 + 1) % 4 = 1 := by omega
      have e2 : (i * 4 + 1) / 4 = i := by omega
      simp [St.cell, upd, e1, e2]
    · intro j hj
      simp only [St.cell]
      split
      · rfl
      · split
        · rw [upd_far _ _ (by omega)]
        · rfl
theorem ListIn.setTh (h : ListIn V te tl B w p s (some ⟨g, 0, none⟩) cap) (i : Nat) (u : Bool) :
    ListIn V te tl B (w.setCell ⟨g, i * 4 + 2, none⟩ (.bool u)) p { s with th := upd s.th (i + 1) u } (some ⟨g, 0, none⟩) cap := by
  obtain ⟨hB, hh, ho, hne, hD⟩ := h
  have hgp : p ≠ g := by intro e; apply hne; simp [Value.ownBlock, e]
  refine ⟨hB, ?_, ?_, hne, hD⟩
  · rw [Below.heap_setCell _ _ _ _ (by exact hgp)]
    exact hh
  · have h2 := ownsRow_setCell (k := i * 4 + 2) (u := .bool u) ho
    rw [St.row, map_set (f' := St.cell V { s with th := upd s.th (i + 1) u })] at h2
    · exact h2
    · have e1 : (i * 4 + 2) % 4 = 2 := by omega
      have e2 : (i * 4 + 2) / 4 = i := by omega
      simp [St.cell, upd, e1, e2]
    · intro j hj
      simp only [St.cell]
      split
      · rfl
      · split
        · rfl
        · split
          · rw [upd_far _ _ (by omega)]
          · rfl
theorem ListIn.setVa (h : ListIn V te tl B w p s (some ⟨g, 0, none⟩) cap) (i : Nat) (u : α) :
    ListIn V te tl B (w.setCell ⟨g, i * 4 + 3, none⟩ (V u)) p { s with va := upd s.va (i + 1) u } (some ⟨g, 0, none⟩) cap := by
  obtain ⟨hB, hh, ho, hne, hD⟩ := h
  have hgp : p ≠ g := by intro e; apply hne; simp [Value.ownBlock, e]
  refine ⟨hB, ?_, ?_, hne, hD⟩
  · rw [Below.heap_setCell _ _ _ _ (by exact hgp)]
    exact hh
  · have h2 := ownsRow_setCell (k := i * 4 + 3) (u := V u) ho
    rw [St.row, map_set (f' := St.cell V { s with va := upd s.va (i + 1) u })] at h2
    · exact h2
    · have e1 : (i * 4 + 3) % 4 = 3 := by omega
      have e2 : (i * 4 + 3) / 4 = i := by omega
      simp [St.cell, upd, e1, e2]
    · intro j hj
      simp only [St.cell]
      split
      · rfl
      · split
        · rfl
        · split
          · rfl
          · rw [upd_far _ _ (by omega)]
/-- stores into the struct -/
theorem ListIn.setPv0 (h : ListIn V te tl B w p s ad cap) (u : Nat) : ListIn V te tl B (w.setCell ⟨p, 0, none⟩ (.int .i64 (u : Nat))) p { s with pv := upd s.pv 0 u } ad cap := by
  obtain ⟨hB, hh, ho, hne, hD⟩ := h
  refine ⟨hB, by rw [block_setCell hh]; simp [upd], ?_, hne, hD⟩
  have h2 := ownsRow_setCell_far (a := ⟨p, 0, none⟩) (u := .int .i64 (u : Nat)) ho hne
  have e : St.row V { s with pv := upd s.pv 0 u } = s.row V := by simp [St.row, St.cell, upd]
  rw [e]; exact h2
theorem ListIn.setNx0 (h : ListIn V te tl B w p s ad cap) (u : Nat) : ListIn V te tl B (w.setCell ⟨p, 1, none⟩ (.int .i64 (u : Nat))) p { s with nx := upd s.nx 0 u } ad cap := by
  obtain ⟨hB, hh, ho, hne, hD⟩ := h
  refine ⟨hB, by rw [block_setCell hh]; simp [upd], ?_, hne, hD⟩
  have h2 := ownsRow_setCell_far (a := ⟨p, 1, none⟩) (u := .int .i64 (u : Nat)) ho hne
  have e : St.row V { s with nx := upd s.nx 0 u } = s.row V := by simp [St.row, St.cell, upd]
  rw [e]; exact h2
theorem ListIn.setFree (h : ListIn V te tl B w p s ad cap) (u : Nat) : ListIn V te tl B (w.setCell ⟨p, 3, none⟩ (.int .i64 (u : Nat))) p { s with free := u } ad cap := by
  obtain ⟨hB, hh, ho, hne, hD⟩ := h
  exact ⟨hB, by rw [block_setCell hh]; simp, ownsRow_setCell_far ho hne, hne, hD⟩
theorem ListIn.setCount (h : ListIn V te tl B w p s ad cap) (u : Nat) : ListIn V te tl B (w.setCell ⟨p, 4, none⟩ (.int .i64 (u : Nat))) p { s with count := u } ad cap := by
  obtain ⟨hB, hh, ho, hne, hD⟩ := h
  exact ⟨hB, by rw [block_setCell hh]; simp, ownsRow_setCell_far ho hne, hne, hD⟩
/-- what the walk reads of the struct -/
theorem ListIn.top (h : ListIn V te tl B w p s ad cap) :
    w.cell? ⟨p, 0, none⟩ = some (.int .i64 (s.pv 0)) ∧ w.cell? ⟨p, 1, none⟩ = some (.int .i64 (s.nx 0)) ∧ w.cell? ⟨p, 2, none⟩ = some (.slice ad s.n cap) ∧ w.cell? ⟨p, 3, none⟩ = some (.int .i64 s.free) ∧ w.cell? ⟨p, 4, none⟩ = some (.int .i64 s.count) ∧
    w.frozen? ⟨p, 0, none⟩ = false ∧ w.frozen? ⟨p, 1, none⟩ = false ∧ w.frozen? ⟨p, 2, none⟩ = false ∧ w.frozen? ⟨p, 3, none⟩ = false ∧ w.frozen? ⟨p, 4, none⟩ = false := cells_of_five h.2.1
/-- where its slots lie -/
theorem ListIn.slots (h : ListIn V te tl B w p s ad cap) (hn : 0 < s.n) : ∃ g, ad = some ⟨g, 0, none⟩ ∧ B g ∧ p ≠ g := by
  obtain ⟨_, _, ho, hne, hD⟩ := h
  obtain ⟨g, cur, rfl, hb, _⟩ := ownsRow_block ho hn
  exact ⟨g, rfl, hD g rfl, by intro e; apply hne; simp [Value.ownBlock, e]⟩
theorem ListIn.slot (h : ListIn V te tl B w p s (some ⟨g, 0, none⟩) cap) {i : Nat} (hi : i < s.n) :
    w.cell? ⟨g, i * 4, none⟩ = some (.int .i64 (s.pv (i + 1))) ∧ w.cell? ⟨g, i * 4 + 1, none⟩ = some (.int .i64 (s.nx (i + 1))) ∧ w.cell? ⟨g, i * 4 + 2, none⟩ = some (.bool (s.th (i + 1))) ∧ w.cell? ⟨g, i * 4 + 3, none⟩ = some (V (s.va (i + 1))) ∧
    w.frozen? ⟨g, i * 4, none⟩ = false ∧ w.frozen? ⟨g, i * 4 + 1, none⟩ = false ∧ w.frozen? ⟨g, i * 4 + 2, none⟩ = false ∧ w.frozen? ⟨g, i * 4 + 3, none⟩ = false := by
  obtain ⟨_, _, ho, hne, _⟩ := h
  obtain ⟨g', cur, hg', _, hg, hc⟩ := ownsRow_block ho (by omega)
  cases hg'
  obtain ⟨r0, r1, r2, r3⟩ := row_at V s hi
  exact ⟨hc _ _ r0, hc _ _ r1, hc _ _ r2, hc _ _ r3, frozen_of_block hg, frozen_of_block hg, frozen_of_block hg, frozen_of_block hg⟩
/-- a list far from what is written -/
theorem ListIn.far {w' : World} {row : Option Nat} (h : ListIn V te tl B w p s ad cap) (hg : w.grownBy w' row) (hr : ∀ k, row = some k → ¬ B k ∨ w.heap.size ≤ k) : ListIn V te tl B w' p s ad cap := by
  obtain ⟨hB, hh, ho, hne, hD⟩ := h
  refine ⟨hB, ?_, ho.kept hg ?_, hne, hD⟩
  · rw [hg.block p (lt_of_block hh) (fun e => by have := lt_of_block hh; rcases hr p e.symm with x | x; exact x hB; omega)]
    exact hh
  · cases e : (Value.slice ad s.n cap).ownBlock with
    | none => exact .inl rfl
    | some k =>
      refine .inr fun e2 => ?_
      have := ho.lt k e
      rcases hr k e2.symm with x | x
      · exact x (hD k e)
      · omega
/-- what lies beside a handle: two cells, and what a store into them makes of the list -/
structure LinkAt (V : α → Value) (te tl : TypeId) (B : Nat → Prop) (w : World) (p : Nat) (s : St α) (ad : Option Addr) (cap : Nat) (h b off : Nat) : Prop where
  lo : B b
  at_ : b = p ∨ ad = some ⟨b, 0, none⟩
  c0 : w.cell? ⟨b, off, none⟩ = some (.int .i64 (s.pv h))
  c1 : w.cell? ⟨b, off + 1, none⟩ = some (.int .i64 (s.nx h))
  f0 : w.frozen? ⟨b, off, none⟩ = false
  f1 : w.frozen? ⟨b, off + 1, none⟩ = false
  pv : ∀ u : Nat, ListIn V te tl B (w.setCell ⟨b, off, none⟩ (.int .i64 (u : Nat))) p { s with pv := upd s.pv h u } ad cap
  nx : ∀ u : Nat, ListIn V te tl B (w.setCell ⟨b, off + 1, none⟩ (.int .i64 (u : Nat))) p { s with nx := upd s.nx h u } ad cap
  both : ∀ u v : Nat, ListIn V te tl B ((w.setCell ⟨b, off, none⟩ (.int .i64 (u : Nat))).setCell ⟨b, off + 1, none⟩ (.int .i64 (v : Nat))) p { s with pv := upd s.pv h u, nx := upd s.nx h v } ad cap
theorem ListIn.link0 (h : ListIn V te tl B w p s ad cap) : LinkAt V te tl B w p s ad cap 0 p 0 := by
  obtain ⟨c0, c1, c2, c3, c4, f0, f1, f2, f3, f4⟩ := h.top
  exact ⟨h.1, .inl rfl, c0, c1, f0, f1, fun u => h.setPv0 u, fun u => h.setNx0 u, fun u v => (h.setPv0 u).setNx0 v⟩
theorem ListIn.link (h : ListIn V te tl B w p s (some ⟨g, 0, none⟩) cap) (hg : B g) {i : Nat} (hi : i < s.n) : LinkAt V te tl B w p s (some ⟨g, 0, none⟩) cap (i + 1) g (i * 4) := by
  obtain ⟨d0, d1, d2, d3, e0, e1, e2, e3⟩ := h.slot hi
  exact ⟨hg, .inr rfl, d0, d1, e0, e1, fun u => h.setPv i u, fun u => h.setNx i u, fun u v => (h.setPv i u).setNx i v⟩
/-- its blocks have been there -/
theorem ListIn.old (h : ListIn V te tl B w p s ad cap) {b : Nat} (hb : b = p ∨ ad = some ⟨b, 0, none⟩) : b < w.heap.size := by
  rcases hb with rfl | rfl
  · exact lt_of_block h.2.1
  · exact (h.2.2.1.lt b rfl).2
theorem ListIn.drew (h : ListIn V te tl B w p s ad cap) : ListIn V te tl B w.drew p s ad cap := h
theorem ListIn.alloc (h : ListIn V te tl B w p s ad cap) (o : Obj) : ListIn V te tl B (w.alloc o) p s ad cap :=
  h.far (World.grownBy_alloc w o none) (fun k e => by cases e)
/-- a whole slot is written over -/
theorem ListIn.setSlot (h : ListIn V te tl B w p s (some ⟨g, 0, none⟩) cap) (i a b : Nat) (c : Bool) (d : α) :
    ListIn V te tl B ((((w.setCell ⟨g, i * 4, none⟩ (.int .i64 (a : Nat))).setCell ⟨g, i * 4 + 1, none⟩ (.int .i64 (b : Nat))).setCell ⟨g, i * 4 + 2, none⟩ (.bool c)).setCell ⟨g, i * 4 + 3, none⟩ (V d)) p
      { s with pv := upd s.pv (i + 1) a, nx := upd s.nx (i + 1) b, th := upd s.th (i + 1) c, va := upd s.va (i + 1) d } (some ⟨g, 0, none⟩) cap :=
  (((h.setPv i a).setNx i b).setTh i c).setVa i d
theorem ListAt.lo (h : ListAt V te tl B w p s) : B p := by obtain ⟨_, _, h⟩ := h; exact h.1
theorem ListAt.far {w' : World} {row : Option Nat} (h : ListAt V te tl B w p s) (hg : w.grownBy w' row) (hr : ∀ k, row = some k → ¬ B k ∨ w.heap.size ≤ k) : ListAt V te tl B w' p s := by
  obtain ⟨_, _, h⟩ := h
  exact ⟨_, _, h.far hg hr⟩
/-- an empty list, just made -/
theorem ListAt.made (V : α → Value) (te tl : TypeId) {B : Nat → Prop} {w : World} (hB : B w.heap.size) (va : Nat → α) (th : Nat → Bool) :
    ListAt V te tl B (w.alloc (.cells #[.int .i64 0, .int .i64 0, .slice none 0 0, .int .i64 0, .int .i64 0] tl)) w.heap.size ⟨fun _ => 0, fun _ => 0, th, va, 0, 0, 0⟩ :=
  ⟨none, 0, hB, heap_alloc_new w _, World.ownsRow_nil _ _ _ _, by simp [Value.ownBlock], by simp [Value.ownBlock]⟩
def St.has (s : St α) (h : Int) : Bool := decide (1 ≤ h) && (decide (h ≤ s.n) && s.th h.toNat)
/-- one slot more -/
theorem row_more (V : α → Value) (s : St α) (v : α) :
    s.row V ++ [.int .i64 (0 : Nat), .int .i64 (0 : Nat), .bool true, V v] = St.row V { s with pv := upd s.pv (s.n + 1) 0, nx := upd s.nx (s.n + 1) 0, th := upd s.th (s.n + 1) true, va := upd s.va (s.n + 1) v, n := s.n + 1 } := by
  have e : (s.n + 1) * 4 = s.n * 4 + 1 + 1 + 1 + 1 := by omega
  simp only [St.row, e, List.range_succ, List.map_append, List.map_cons, List.map_nil, List.append_assoc, List.cons_append, List.nil_append]
  congr 1
  · apply List.map_congr_left
    intro k hk
    have hk := List.mem_range.1 hk
    simp only [St.cell]
    rw [upd_far _ _ (show k / 4 + 1 ≠ s.n + 1 by omega), upd_far _ _ (show k / 4 + 1 ≠ s.n + 1 by omega), upd_far _ _ (show k / 4 + 1 ≠ s.n + 1 by omega), upd_far _ _ (show k / 4 + 1 ≠ s.n + 1 by omega)]
  · have h1 : (s.n * 4 + 1) % 4 = 1 := by omega
    have h2 : (s.n * 4 + 1 + 1) % 4 = 2 := by omega
    have h3 : (s.n * 4 + 1 + 1 + 1) % 4 = 3 := by omega
    have d1 : (s.n * 4 + 1) / 4 = s.n := by omega
    have d2 : (s.n * 4 + 1 + 1) / 4 = s.n := by omega
    have d3 : (s.n * 4 + 1 + 1 + 1) / 4 = s.n := by omega
    simp [St.cell, h1, h2, h3, d1, d2, d3, upd]
theorem ListIn.grow (h : ListIn V te tl B w p s ad cap) (hN : B w.heap.size) (v : α) {w' : World} {ad' : Option Addr} {cap' : Nat}
    (hown : w'.ownsRow 0 te 4 (.slice ad' (s.n + 1) cap') (s.n + 1) (s.row V ++ [.int .i64 (0 : Nat), .int .i64 (0 : Nat), .bool true, V v])) (hg : w.grownBy w' (Value.slice ad s.n cap).ownBlock)
    (hat : (Value.slice ad' (s.n + 1) cap').ownBlock = (Value.slice ad s.n cap).ownBlock ∨ (Value.slice ad' (s.n + 1) cap').ownBlock = some w.heap.size) :
    ListIn V te tl B (w'.setCell ⟨p, 2, none⟩ (.slice ad' (s.n + 1) cap')) p { s with pv := upd s.pv (s.n + 1) 0, nx := upd s.nx (s.n + 1) 0, th := upd s.th (s.n + 1) true, va := upd s.va (s.n + 1) v, n := s.n + 1 } ad' cap' := by
  obtain ⟨hB, hh, ho, hne, hD⟩ := h
  have hlt := lt_of_block hh
  have hh' : w'.heap[p]? = _ := (hg.block p hlt (fun e => hne e.symm)).trans hh
  have hne' : (Value.slice ad' (s.n + 1) cap').ownBlock ≠ some p := by
    rcases hat with e | e <;> rw [e]
    · exact hne
    · intro e2
      cases e2
      omega
  have hD' : ∀ g, (Value.slice ad' (s.n + 1) cap').ownBlock = some g → B g := by
    intro g e0
    rcases hat with e | e
    · exact hD g (e ▸ e0)
    · rw [e] at e0; cases e0; exact hN
  refine ⟨hB, ?_, ?_, hne', hD'⟩
  · rw [block_setCell hh']
    simp [upd]
  · rw [row_more] at hown
    exact ownsRow_setCell_far hown hne'
theorem ListIn.struct (h : ListIn V te tl B w p s ad cap) {w' : World} (hg : w.grownBy w' (Value.slice ad s.n cap).ownBlock) :
    w'.cell? ⟨p, 2, none⟩ = some (.slice ad s.n cap) ∧ w'.frozen? ⟨p, 2, none⟩ = false := by
  obtain ⟨hB, hh, ho, hne, hD⟩ := h
  have hh' : w'.heap[p]? = _ := (hg.block p (lt_of_block hh) (fun e => hne e.symm)).trans hh
  obtain ⟨c0, c1, c2, c3, c4, f0, f1, f2, f3, f4⟩ := cells_of_five hh'
  exact ⟨c2, f2⟩
end
end Go.Proofs.Ytdiggfiapbifpaa.Ls
