/- Rows that the call owns; what is kept; an index in memory: its struct, its slots. -/
import Derived.Test.YtpfcmaoookhopaaRows
import Derived.WalkKit
import Derived.WalkSpells
import Derived.WalkLawsBesides
import Derived.WalkSmall
import Derived.Maps.AppendAt
import Derived.Laws.CopyOwn
import Derived.Deep.OwnRows
import Derived.Deep.QuietTactic
import Derived.BigQuiet
namespace Go.Proofs.Ytpfcmaoookhopaa
open Go.RowKit

/-- what is appended: a nil slice, or cells behind an address -/
def FromRow (w : World) (size : Nat) (a : Option Addr) (m c : Nat) (news : List Value) : Prop :=
  (a = none ∧ m = 0 ∧ c = 0 ∧ news = []) ∨ ∃ x, a = some x ∧ news.length = m * size ∧ (∀ j u, news[j]? = some u → w.cell? (x.add j) = some u) ∧ ∀ u ∈ news, u.oneCell' = true

theorem run_append_from {P : Program} (w : World) (base : Nat) (t ty e : TypeId) (i : TypeInfo) (z : Value) (size bytes : Nat) (ht : P.underlying t = some (.slice e)) (hi : P.info? e = some i) (hz : i.zero = some z)
    (hsize : i.size = size) (hby : i.bytes = bytes) (hzs : z.cells.size = size) (hsz : 0 < size)
    (v : Value) (n : Nat) (xs : List Value) (hown : w.ownsRow base e size v n xs) (a : Option Addr) (m c : Nat) (news : List Value) (hsrc : FromRow w size a m c news)
    (h63 : n + m ≤ maxLen) (hbytes : (n + m) * bytes ≤ 140737488355328) (hbase : base ≤ w.heap.size) :
    ∃ v' w', (Builtin.append_ #[t, t] ty #[v, .slice a m c]).run P w = .ok v' w' ∧ w'.ownsRow base e size v' (n + m) (xs ++ news) ∧ w.grownBy w' v.ownBlock ∧ (v'.ownBlock = v.ownBlock ∨ v'.ownBlock = some w.heap.size) := by
  rcases hsrc with ⟨rfl, rfl, rfl, rfl⟩ | ⟨x, rfl, hl, hc, h1⟩
  · exact ⟨v, w, run_append_owned_none w base t ty e i size ht hi v n xs hown, by simpa using hown, World.grownBy.refl _ _, .inl rfl⟩
  · obtain ⟨v', w', h, h2, h3, _, h5⟩ := run_append_own_at (P := P) w base t ty e i z size bytes ht hi hz hsize hby hzs hsz v n xs hown x m c news hl hc h1 h63 hbytes hbase
    exact ⟨v', w', h, h2, h3, h5⟩

theorem ownsRow_shape {w : World} {base : Nat} {e : TypeId} {size : Nat} {v : Value} {n : Nat} {xs : List Value} (h : w.ownsRow base e size v n xs) : ∃ ad cap, v = .slice ad n cap ∧ n ≤ cap := by
  rcases h.2 with ⟨rfl, rfl⟩ | ⟨g, cap, cur, rfl, _, _, hn, _⟩
  · exact ⟨none, 0, rfl, Nat.le_refl _⟩
  · exact ⟨_, cap, rfl, hn⟩

theorem wpList_append_from {P : Program} (w : World) {ops : Array Oper} {rest : List Oper} {o : Oper} {a : Act} {Q : Exit → Act → World → Prop} (hgd : o.guard = none) (s x : Operand) (t : TypeId)
    (ho : o.op = .call { callee := .builtin .append, args := #[s, x], argTypes := #[t, t] })
    (base : Nat) (e : TypeId) (i : TypeInfo) (z : Value) (size bytes : Nat) (ht : P.underlying t = some (.slice e)) (hi : P.info? e = some i) (hz : i.zero = some z)
    (hsize : i.size = size) (hby : i.bytes = bytes) (hzs : z.cells.size = size) (hsz : 0 < size)
    (v : Value) (n : Nat) (xs : List Value) (hs : a.eval s = v) (hown : w.ownsRow base e size v n xs) (ad : Option Addr) (m c : Nat) (news : List Value) (hx : a.eval x = .slice ad m c) (hsrc : FromRow w size ad m c news)
    (h63 : n + m ≤ maxLen) (hbytes : (n + m) * bytes ≤ 140737488355328) (hbase : base ≤ w.heap.size)
    (h : ∀ ad' cap' w', n + m ≤ cap' → w'.ownsRow base e size (.slice ad' (n + m) cap') (n + m) (xs ++ news) → w.grownBy w' v.ownBlock → ((Value.slice ad' (n + m) cap').ownBlock = v.ownBlock ∨ (Value.slice ad' (n + m) cap').ownBlock = some w.heap.size) →
      wpList P ops Q rest (a.put o.dst (.slice ad' (n + m) cap')) w') : wpList P ops Q (o :: rest) a w := by
  refine wpList_plain hgd fun K hK => ?_
  obtain ⟨v', w', hrun, h2, h3, h4⟩ := run_append_from (P := P) w base t o.type e i z size bytes ht hi hz hsize hby hzs hsz v n xs hown ad m c news hsrc h63 hbytes hbase
  obtain ⟨ad', cap', rfl, hc⟩ := ownsRow_shape h2
  unfold Oper.wp
  simp [execOp, ho, resolve, invoke, builtin, hs, hx, hrun, Result.andThen]
  exact hK _ _ (h ad' cap' w' hc h2 h3 h4)

theorem block_setCell {w : World} {p j : Nat} {cs : Array Value} {t : TypeId} {u : Value} (h : w.heap[p]? = some (.cells cs t (0, 0))) :
    (w.setCell ⟨p, j, none⟩ u).heap[p]? = some (.cells (cs.set! j u) t (0, 0)) := by
  have hlt := lt_of_block h
  have h' : w.heap[p] = .cells cs t (0, 0) := by simpa [Array.getElem?_eq_getElem hlt] using h
  show (w.heap.modify p _)[p]? = _
  rw [Array.getElem?_eq_getElem (by simpa using hlt), Array.getElem_modify_self, h']
  rfl
theorem cell_setCell_far {w : World} {a b : Addr} {u : Value} (h : b.block ≠ a.block) : (w.setCell a u).cell? b = w.cell? b :=
  World.cell?_of_block (w := w) (Below.heap_setCell _ _ _ _ h)
theorem frozen_of_block {w : World} {p j : Nat} {cs : Array Value} {t : TypeId} (h : w.heap[p]? = some (.cells cs t (0, 0))) : w.frozen? ⟨p, j, none⟩ = false := by
  simp [World.frozen?, h]
theorem cell_of_block {w : World} {p j : Nat} {cs : Array Value} {t : TypeId} (h : w.heap[p]? = some (.cells cs t (0, 0))) : w.cell? ⟨p, j, none⟩ = cs[j]? := by
  simp [World.cell?, h]

/-- a store into a row that the call owns -/
theorem ownsRow_setCell {w : World} {base : Nat} {e : TypeId} {size n cap g k : Nat} {xs : List Value} {u : Value} (h : w.ownsRow base e size (.slice (some ⟨g, 0, none⟩) n cap) n xs) :
    (w.setCell ⟨g, k, none⟩ u).ownsRow base e size (.slice (some ⟨g, 0, none⟩) n cap) n (xs.set k u) := by
  refine ⟨by simpa using h.1, ?_⟩
  rcases h.2 with ⟨h0, _⟩ | ⟨g', cap', cur, hv, hb, hg, hn, hc, hcs, ht⟩
  · cases h0
  · cases hv
    refine .inr ⟨g, cap, cur.set! k u, rfl, hb, block_setCell hg, hn, hc, by simpa using hcs, ?_⟩
    rw [← ht]
    simp only [Array.set!_eq_setIfInBounds, Array.toList_setIfInBounds, List.take_set]
theorem ownsRow_setCell_far {w : World} {base : Nat} {e : TypeId} {size n : Nat} {v : Value} {xs : List Value} {a : Addr} {u : Value} (h : w.ownsRow base e size v n xs) (hne : v.ownBlock ≠ some a.block) :
    (w.setCell a u).ownsRow base e size v n xs := by
  refine ⟨h.1, ?_⟩
  rcases h.2 with h0 | ⟨g', cap', cur, hv, hb, hg, r⟩
  · exact .inl h0
  · refine .inr ⟨g', cap', cur, hv, hb, ?_, r⟩
    rw [Below.heap_setCell _ _ _ _ (by intro e; apply hne; subst hv; simp [Value.ownBlock, e])]
    exact hg
theorem ownsRow_block {w : World} {base : Nat} {e : TypeId} {size n : Nat} {ad : Option Addr} {cap : Nat} {xs : List Value} (h : w.ownsRow base e size (.slice ad n cap) n xs) (hn : 0 < n) :
    ∃ g cur, ad = some ⟨g, 0, none⟩ ∧ base ≤ g ∧ w.heap[g]? = some (.cells cur e (0, 0)) ∧ ∀ k u, xs[k]? = some u → w.cell? ⟨g, k, none⟩ = some u := by
  rcases h.2 with ⟨_, h0⟩ | ⟨g, cap', cur, hv, hb, hg, _⟩
  · omega
  · cases hv
    exact ⟨g, cur, rfl, hb, hg, fun k u hu => by simpa [Addr.add_lit] using h.cells (g := g) rfl k u hu⟩

/-- the world w' is as w was, but for blocks of D, and new ones -/
structure Keeps (D : Nat → Prop) (w w' : World) : Prop where
  os : w'.os = w.os
  tape : w'.tape = w.tape
  output : w'.output = w.output
  size : w.heap.size ≤ w'.heap.size
  block : ∀ k, k < w.heap.size → ¬ D k → w'.heap[k]? = w.heap[k]?
theorem Keeps.refl (D : Nat → Prop) (w : World) : Keeps D w w := ⟨rfl, rfl, rfl, Nat.le_refl _, fun _ _ _ => rfl⟩
theorem Keeps.trans {D : Nat → Prop} {a b c : World} (h : Keeps D a b) (k : Keeps D b c) : Keeps D a c :=
  ⟨k.os.trans h.os, k.tape.trans h.tape, k.output.trans h.output, Nat.le_trans h.size k.size, fun i hi hD => (k.block i (Nat.lt_of_lt_of_le hi h.size) hD).trans (h.block i hi hD)⟩
theorem Keeps.mono {D D' : Nat → Prop} {w w' : World} (h : Keeps D w w') (hD : ∀ k, D k → D' k) : Keeps D' w w' := ⟨h.os, h.tape, h.output, h.size, fun k hk hn => h.block k hk (fun e => hn (hD k e))⟩
theorem Keeps.drew {D : Nat → Prop} {a w : World} (h : Keeps D a w) : Keeps D a w.drew := ⟨h.os, h.tape, h.output, h.size, h.block⟩
theorem Keeps.alloc {D : Nat → Prop} {a w : World} (h : Keeps D a w) (o : Obj) : Keeps D a (w.alloc o) :=
  h.trans ⟨rfl, rfl, rfl, by simp, fun k hk _ => Below.heap_alloc _ _ _ hk⟩
theorem Keeps.setCell {D : Nat → Prop} {a w : World} (h : Keeps D a w) {p : Addr} (hp : D p.block) (u : Value) : Keeps D a (w.setCell p u) :=
  h.trans ⟨rfl, rfl, rfl, by simp [World.setCell], fun k _ hn => Below.heap_setCell _ _ _ _ (by rintro rfl; exact hn hp)⟩
theorem Keeps.setNew {D : Nat → Prop} {a w : World} (h : Keeps D a w) {p : Addr} (hp : a.heap.size ≤ p.block) (u : Value) : Keeps D a (w.setCell p u) :=
  ⟨h.os, h.tape, h.output, by simpa [World.setCell] using h.size, fun k hk hn => (Below.heap_setCell _ _ _ _ (by omega)).trans (h.block k hk hn)⟩
theorem Keeps.grown {D : Nat → Prop} {a w w' : World} {row : Option Nat} (h : Keeps D a w) (hg : w.grownBy w' row) (hr : ∀ k, row = some k → D k ∨ a.heap.size ≤ k) : Keeps D a w' :=
  ⟨hg.os.trans h.os, hg.tape.trans h.tape, hg.output.trans h.output, Nat.le_trans h.size hg.size, fun k hk hn => (hg.block k (Nat.lt_of_lt_of_le hk h.size) (fun e => by rcases hr k e.symm with x | x; exact hn x; omega)).trans (h.block k hk hn)⟩
theorem Keeps.of_below {D : Nat → Prop} {w w' : World} (h : Below w.heap.size w w') : Keeps D w w' := ⟨h.os, h.tape, h.output, h.size, fun k hk _ => h.block k hk⟩
theorem Keeps.below {D : Nat → Prop} {B : Nat} {w w' : World} (h : Keeps D w w') (hB : B ≤ w.heap.size) (hD : ∀ k, D k → B ≤ k) : Below B w w' :=
  ⟨h.os, h.tape, h.output, h.size, fun k hk => h.block k (by omega) (fun e => by have := hD k e; omega)⟩


theorem Keeps.drewN {D : Nat → Prop} {a w : World} (h : Keeps D a w) (q : Nat) : Keeps D a (w.drewN q) := ⟨h.os, h.tape, h.output, h.size, h.block⟩
theorem made_list (z : Value) (n : Nat) : madeCells #[z] n = (List.replicate n z).toArray := by
  rw [← toList_madeCells_one]


/-! ### an index in memory -/
/-- a slot: 0 empty, 1 gone, 2 taken -/
structure Sl (α : Type) where
  st : Nat
  key : ByteArray
  val : α
section
variable {α : Type}
def Sl.cells (V : α → Value) (s : Sl α) : List Value := [.int .u8 (s.st : Nat), .string s.key, V s.val]
def rowOf (V : α → Value) (sl : List (Sl α)) : List Value := sl.flatMap (Sl.cells V)
theorem rowOf_nil (V : α → Value) : rowOf V [] = [] := rfl
theorem rowOf_cons (V : α → Value) (s : Sl α) (sl : List (Sl α)) : rowOf V (s :: sl) = .int .u8 (s.st : Nat) :: .string s.key :: V s.val :: rowOf V sl := rfl
theorem rowOf_len (V : α → Value) (sl : List (Sl α)) : (rowOf V sl).length = sl.length * 3 := by
  induction sl with
  | nil => rfl
  | cons s sl ih => rw [rowOf_cons]; simp [ih]; omega
theorem rowOf_at (V : α → Value) : ∀ (sl : List (Sl α)) (i : Nat) (s : Sl α), sl[i]? = some s →
    (rowOf V sl)[i * 3]? = some (.int .u8 (s.st : Nat)) ∧ (rowOf V sl)[i * 3 + 1]? = some (.string s.key) ∧ (rowOf V sl)[i * 3 + 2]? = some (V s.val)
  | s :: sl, 0, t, h => by
    simp at h
    subst h
    simp [rowOf_cons]
  | s :: sl, i + 1, t, h => by
    rw [show (i + 1) * 3 = i * 3 + 1 + 1 + 1 by omega]
    simp only [rowOf_cons, List.getElem?_cons_succ]
    exact rowOf_at V sl i t (by simpa using h)
theorem rowOf_set (V : α → Value) : ∀ (sl : List (Sl α)) (i : Nat) (s : Sl α),
    (((rowOf V sl).set (i * 3) (.int .u8 (s.st : Nat))).set (i * 3 + 1) (.string s.key)).set (i * 3 + 2) (V s.val) = rowOf V (sl.set i s)
  | [], i, s => rfl
  | t :: sl, 0, s => by simp [rowOf_cons]
  | t :: sl, i + 1, s => by
    rw [show (i + 1) * 3 = i * 3 + 1 + 1 + 1 by omega]
    simp only [rowOf_cons, List.set_cons_succ]
    rw [rowOf_set V sl i s]
theorem rowOf_setVal (V : α → Value) : ∀ (sl : List (Sl α)) (i : Nat) (t : Sl α) (v : α), sl[i]? = some t →
    (rowOf V sl).set (i * 3 + 2) (V v) = rowOf V (sl.set i { t with val := v })
  | t :: sl, 0, u, v, h => by
    simp at h
    subst h
    simp [rowOf_cons]
  | t :: sl, i + 1, u, v, h => by
    rw [show (i + 1) * 3 = i * 3 + 1 + 1 + 1 by omega]
    simp only [rowOf_cons, List.set_cons_succ]
    rw [rowOf_setVal V sl i u v (by simpa using h)]
def Sl.none (z : α) : Sl α := ⟨0, ⟨#[]⟩, z⟩
theorem rowOf_made (V : α → Value) (z : α) (n : Nat) : madeCells #[.int .u8 0, .string ⟨#[]⟩, V z] (n * 3) = (rowOf V (List.replicate n (Sl.none z))).toArray := by
  apply Array.ext'
  rw [List.toList_toArray]
  apply List.ext_getElem?
  intro j
  have hl := rowOf_len V (List.replicate n (Sl.none z))
  rw [List.length_replicate] at hl
  rcases Nat.lt_or_ge j (n * 3) with h | h
  · have hs : (List.replicate n (Sl.none z))[j / 3]? = some (Sl.none z) := by rw [List.getElem?_replicate, if_pos (by omega)]
    obtain ⟨h0, h1, h2⟩ := rowOf_at V _ _ _ hs
    have hm : (madeCells #[.int .u8 0, .string ⟨#[]⟩, V z] (n * 3)).toList[j]? = some (#[.int .u8 0, .string ⟨#[]⟩, V z][j % 3]!) := by
      simp [madeCells, h]
    rw [hm]
    have : j % 3 = 0 ∨ j % 3 = 1 ∨ j % 3 = 2 := by omega
    rcases this with e | e | e
    · rw [e, show j = j / 3 * 3 by omega, h0]; rfl
    · rw [e, show j = j / 3 * 3 + 1 by omega, h1]; rfl
    · rw [e, show j = j / 3 * 3 + 2 by omega, h2]; rfl
  · rw [List.getElem?_eq_none (by simp [madeCells]; omega)]
    exact (List.getElem?_eq_none (l := rowOf V (List.replicate n (Sl.none z))) (by omega)).symm

def IndexIn (V : α → Value) (te tl : TypeId) (D : Nat → Prop) (w : World) (p : Nat) (seed : Nat) (sl : List (Sl α)) (used count : Nat) (ad : Option Addr) : Prop :=
  D p ∧ w.heap[p]? = some (.cells #[.int .u64 (seed : Nat), .slice ad sl.length sl.length, .int .i64 (used : Nat), .int .i64 (count : Nat)] tl (0, 0)) ∧
  (sl = [] ∨ ∃ g, ad = some ⟨g, 0, none⟩ ∧ g ≠ p ∧ D g ∧ w.heap[g]? = some (.cells (rowOf V sl).toArray te (0, 0)))
theorem cells_of_four {w : World} {p : Nat} {a b c d : Value} {t : TypeId} (h : w.heap[p]? = some (.cells #[a, b, c, d] t (0, 0))) :
    w.cell? ⟨p, 0, none⟩ = some a ∧ w.cell? ⟨p, 1, none⟩ = some b ∧ w.cell? ⟨p, 2, none⟩ = some c ∧ w.cell? ⟨p, 3, none⟩ = some d ∧
    w.frozen? ⟨p, 0, none⟩ = false ∧ w.frozen? ⟨p, 1, none⟩ = false ∧ w.frozen? ⟨p, 2, none⟩ = false ∧ w.frozen? ⟨p, 3, none⟩ = false := by
  simp [World.cell?, World.frozen?, h]

variable {V : α → Value} {te tl : TypeId} {D : Nat → Prop} {w w' : World} {p g seed : Nat} {sl : List (Sl α)} {used count : Nat} {ad : Option Addr}
theorem IndexIn.top (h : IndexIn V te tl D w p seed sl used count ad) :
    w.cell? ⟨p, 0, none⟩ = some (.int .u64 (seed : Nat)) ∧ w.cell? ⟨p, 1, none⟩ = some (.slice ad sl.length sl.length) ∧ w.cell? ⟨p, 2, none⟩ = some (.int .i64 (used : Nat)) ∧ w.cell? ⟨p, 3, none⟩ = some (.int .i64 (count : Nat)) ∧
    w.frozen? ⟨p, 0, none⟩ = false ∧ w.frozen? ⟨p, 1, none⟩ = false ∧ w.frozen? ⟨p, 2, none⟩ = false ∧ w.frozen? ⟨p, 3, none⟩ = false := cells_of_four h.2.1
/-- the three cells of a slot in a block -/
theorem slot_cells {te : TypeId} (hg : w.heap[g]? = some (.cells (rowOf V sl).toArray te (0, 0))) {i : Nat} {s : Sl α} (hi : sl[i]? = some s) :
    w.cell? ⟨g, i * 3, none⟩ = some (.int .u8 (s.st : Nat)) ∧ w.cell? ⟨g, i * 3 + 1, none⟩ = some (.string s.key) ∧ w.cell? ⟨g, i * 3 + 2, none⟩ = some (V s.val) ∧
    w.frozen? ⟨g, i * 3, none⟩ = false ∧ w.frozen? ⟨g, i * 3 + 1, none⟩ = false ∧ w.frozen? ⟨g, i * 3 + 2, none⟩ = false := by
  obtain ⟨h0, h1, h2⟩ := rowOf_at V sl i s hi
  refine ⟨?_, ?_, ?_, frozen_of_block hg, frozen_of_block hg, frozen_of_block hg⟩
  · rw [cell_of_block hg, List.getElem?_toArray]; exact h0
  · rw [cell_of_block hg, List.getElem?_toArray]; exact h1
  · rw [cell_of_block hg, List.getElem?_toArray]; exact h2
theorem IndexIn.block (h : IndexIn V te tl D w p seed sl used count ad) (hs : 0 < sl.length) : ∃ g, ad = some ⟨g, 0, none⟩ ∧ g ≠ p ∧ D g ∧ w.heap[g]? = some (.cells (rowOf V sl).toArray te (0, 0)) := by
  rcases h.2.2 with h0 | h
  · subst h0; simp at hs
  · exact h
theorem IndexIn.setSlot (h : IndexIn V te tl D w p seed sl used count (some ⟨g, 0, none⟩)) (hs : 0 < sl.length) (i : Nat) (s : Sl α) :
    IndexIn V te tl D (((w.setCell ⟨g, i * 3, none⟩ (.int .u8 (s.st : Nat))).setCell ⟨g, i * 3 + 1, none⟩ (.string s.key)).setCell ⟨g, i * 3 + 2, none⟩ (V s.val)) p seed (sl.set i s) used count (some ⟨g, 0, none⟩) := by
  obtain ⟨hD, hp, h0 | ⟨g', e, hgp, hDg, hg⟩⟩ := h
  · subst h0; simp at hs
  · cases e
    refine ⟨hD, ?_, .inr ⟨g, rfl, hgp, hDg, ?_⟩⟩
    · rw [Below.heap_setCell _ _ _ _ (by exact Ne.symm hgp), Below.heap_setCell _ _ _ _ (by exact Ne.symm hgp), Below.heap_setCell _ _ _ _ (by exact Ne.symm hgp), List.length_set]
      exact hp
    · rw [block_setCell (block_setCell (block_setCell hg))]
      simp only [Array.set!_eq_setIfInBounds, List.setIfInBounds_toArray]
      rw [rowOf_set]
theorem IndexIn.setVal (h : IndexIn V te tl D w p seed sl used count (some ⟨g, 0, none⟩)) {i : Nat} {t : Sl α} (ht : sl[i]? = some t) (v : α) :
    IndexIn V te tl D (w.setCell ⟨g, i * 3 + 2, none⟩ (V v)) p seed (sl.set i { t with val := v }) used count (some ⟨g, 0, none⟩) := by
  obtain ⟨hD, hp, h0 | ⟨g', e, hgp, hDg, hg⟩⟩ := h
  · subst h0; simp at ht
  · cases e
    refine ⟨hD, ?_, .inr ⟨g, rfl, hgp, hDg, ?_⟩⟩
    · rw [Below.heap_setCell _ _ _ _ (by exact Ne.symm hgp), List.length_set]
      exact hp
    · rw [block_setCell hg]
      simp only [Array.set!_eq_setIfInBounds, List.setIfInBounds_toArray]
      rw [rowOf_setVal V sl i t v ht]
theorem IndexIn.setUsed (h : IndexIn V te tl D w p seed sl used count ad) (u : Nat) : IndexIn V te tl D (w.setCell ⟨p, 2, none⟩ (.int .i64 (u : Nat))) p seed sl u count ad := by
  obtain ⟨hD, hp, h2⟩ := h
  refine ⟨hD, by rw [block_setCell hp]; rfl, ?_⟩
  rcases h2 with h0 | ⟨g, e, hgp, hDg, hg⟩
  · exact .inl h0
  · exact .inr ⟨g, e, hgp, hDg, by rw [Below.heap_setCell _ _ _ _ (by exact hgp)]; exact hg⟩
theorem IndexIn.setCount (h : IndexIn V te tl D w p seed sl used count ad) (u : Nat) : IndexIn V te tl D (w.setCell ⟨p, 3, none⟩ (.int .i64 (u : Nat))) p seed sl used u ad := by
  obtain ⟨hD, hp, h2⟩ := h
  refine ⟨hD, by rw [block_setCell hp]; rfl, ?_⟩
  rcases h2 with h0 | ⟨g, e, hgp, hDg, hg⟩
  · exact .inl h0
  · exact .inr ⟨g, e, hgp, hDg, by rw [Below.heap_setCell _ _ _ _ (by exact hgp)]; exact hg⟩
/-- other slots -/
theorem IndexIn.newSlots {D' : Nat → Prop} (h : IndexIn V te tl D w p seed sl used count ad) (hw : w'.heap[p]? = w.heap[p]?) {q : Nat} (hq : q ≠ p) (hDp : D' p) (hDq : D' q) {ss : List (Sl α)} (hb : w'.heap[q]? = some (.cells (rowOf V ss).toArray te (0, 0))) :
    IndexIn V te tl D' (w'.setCell ⟨p, 1, none⟩ (.slice (some ⟨q, 0, none⟩) ss.length ss.length)) p seed ss used count (some ⟨q, 0, none⟩) := by
  obtain ⟨_, hp, _⟩ := h
  rw [← hw] at hp
  refine ⟨hDp, by rw [block_setCell hp]; rfl, .inr ⟨q, rfl, hq, hDq, ?_⟩⟩
  rw [Below.heap_setCell _ _ _ _ (by exact hq)]
  exact hb
theorem IndexIn.kept {D' : Nat → Prop} (h : IndexIn V te tl D w p seed sl used count ad) (hk : Keeps D' w w') (hd : ∀ k, D k → ¬ D' k) : IndexIn V te tl D w' p seed sl used count ad := by
  obtain ⟨hD, hp, h2⟩ := h
  refine ⟨hD, (hk.block p (lt_of_block hp) (hd _ hD)).trans hp, ?_⟩
  rcases h2 with h0 | ⟨g, e, hgp, hDg, hg⟩
  · exact .inl h0
  · exact .inr ⟨g, e, hgp, hDg, (hk.block g (lt_of_block hg) (hd _ hDg)).trans hg⟩
theorem IndexIn.below (h : IndexIn V te tl D w p seed sl used count ad) (hb : Below w.heap.size w w') : IndexIn V te tl D w' p seed sl used count ad :=
  h.kept (D' := fun _ => False) (.of_below hb) (fun _ _ e => e)
theorem IndexIn.drewN (h : IndexIn V te tl D w p seed sl used count ad) (q : Nat) : IndexIn V te tl D (w.drewN q) p seed sl used count ad :=
  h.kept (D' := fun _ => False) ((Keeps.refl _ w).drewN q) (fun _ _ e => e)
theorem IndexIn.narrow (h : IndexIn V te tl D w p seed sl used count ad) : IndexIn V te tl (fun k => D k ∧ k < w.heap.size) w p seed sl used count ad := by
  obtain ⟨hD, hp, h2⟩ := h
  refine ⟨⟨hD, lt_of_block hp⟩, hp, ?_⟩
  rcases h2 with h0 | ⟨g, e, hgp, hDg, hg⟩
  · exact .inl h0
  · exact .inr ⟨g, e, hgp, ⟨hDg, lt_of_block hg⟩, hg⟩
theorem IndexIn.wide {D' : Nat → Prop} (h : IndexIn V te tl D w p seed sl used count ad) (hD : ∀ k, D k → D' k) : IndexIn V te tl D' w p seed sl used count ad := by
  obtain ⟨h1, hp, h2⟩ := h
  refine ⟨hD _ h1, hp, ?_⟩
  rcases h2 with h0 | ⟨g, e, hgp, hDg, hg⟩
  · exact .inl h0
  · exact .inr ⟨g, e, hgp, hD _ hDg, hg⟩
end
end Go.Proofs.Ytpfcmaoookhopaa
