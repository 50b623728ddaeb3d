/- Rows that the call owns; what is kept; a ring in memory: its struct, its slots; and what the slots say. -/
import Derived.Test.YtpjeehdgdhbhdaaRows
import Derived.WalkKit
import Derived.WalkSpells
import Derived.WalkLawsBesides
import Derived.WalkSmall
import Derived.Maps.AppendAt
import Derived.Laws.CopyOwn
import Derived.Deep.OwnRows
import Derived.Deep.QuietTactic
import Derived.BigQuiet
namespace Go.Proofs.Ytpjeehdgdhbhdaa
open Go.RowKit

/-- what is appended: a nil slice, or cells behind an address -/
def FromRow (w : World) (size : Nat) (a : Option Addr) (m c : Nat) (news : List Value) : Prop :=
  (a = none ∧ m = 0 ∧ c = 0 ∧ news = []) ∨ ∃ x, a = some x ∧ news.length = m * size ∧ (∀ j u, news[j]? = some u → w.cell? (x.add j) = some u) ∧ ∀ u ∈ news, u.oneCell' = true

theorem run_append_from {P : Program} (w : World) (base : Nat) (t ty e : TypeId) (i : TypeInfo) (z : Value) (size bytes : Nat) (ht : P.underlying t = some (.slice e)) (hi : P.info? e = some i) (hz : i.zero = some z)
    (hsize : i.size = size) (hby : i.bytes = bytes) (hzs : z.cells.size = size) (hsz : 0 < size)
    (v : Value) (n : Nat) (xs : List Value) (hown : w.ownsRow base e size v n xs) (a : Option Addr) (m c : Nat) (news : List Value) (hsrc : FromRow w size a m c news)
    (h63 : n + m ≤ maxLen) (hbytes : (n + m) * bytes ≤ 140737488355328) (hbase : base ≤ w.heap.size) :
    ∃ v' w', (Builtin.append_ #[t, t] ty #[v, .slice a m c]).run P w = .ok v' w' ∧ w'.ownsRow base e size v' (n + m) (xs ++ news) ∧ w.grownBy w' v.ownBlock ∧ (v'.ownBlock = v.ownBlock ∨ v'.ownBlock = some w.heap.size) := by
  rcases hsrc with ⟨rfl, rfl, rfl, rfl⟩ | ⟨x, rfl, hl, hc, h1⟩
  · exact ⟨v, w, run_append_owned_none w base t ty e i size ht hi v n xs hown, by simpa using hown, World.grownBy.refl _ _, .inl rfl⟩
  · obtain ⟨v', w', h, h2, h3, _, h5⟩ := run_append_own_at (P := P) w base t ty e i z size bytes ht hi hz hsize hby hzs hsz v n xs hown x m c news hl hc h1 h63 hbytes hbase
    exact ⟨v', w', h, h2, h3, h5⟩

theorem ownsRow_shape {w : World} {base : Nat} {e : TypeId} {size : Nat} {v : Value} {n : Nat} {xs : List Value} (h : w.ownsRow base e size v n xs) : ∃ ad cap, v = .slice ad n cap ∧ n ≤ cap := by
  rcases h.2 with ⟨rfl, rfl⟩ | ⟨g, cap, cur, rfl, _, _, hn, _⟩
  · exact ⟨none, 0, rfl, Nat.le_refl _⟩
  · exact ⟨_, cap, rfl, hn⟩

theorem wpList_append_from {P : Program} (w : World) {ops : Array Oper} {rest : List Oper} {o : Oper} {a : Act} {Q : Exit → Act → World → Prop} (hgd : o.guard = none) (s x : Operand) (t : TypeId)
    (ho : o.op = .call { callee := .builtin .append, args := #[s, x], argTypes := #[t, t] })
    (base : Nat) (e : TypeId) (i : TypeInfo) (z : Value) (size bytes : Nat) (ht : P.underlying t = some (.slice e)) (hi : P.info? e = some i) (hz : i.zero = some z)
    (hsize : i.size = size) (hby : i.bytes = bytes) (hzs : z.cells.size = size) (hsz : 0 < size)
    (v : Value) (n : Nat) (xs : List Value) (hs : a.eval s = v) (hown : w.ownsRow base e size v n xs) (ad : Option Addr) (m c : Nat) (news : List Value) (hx : a.eval x = .slice ad m c) (hsrc : FromRow w size ad m c news)
    (h63 : n + m ≤ maxLen) (hbytes : (n + m) * bytes ≤ 140737488355328) (hbase : base ≤ w.heap.size)
    (h : ∀ ad' cap' w', n + m ≤ cap' → w'.ownsRow base e size (.slice ad' (n + m) cap') (n + m) (xs ++ news) → w.grownBy w' v.ownBlock → ((Value.slice ad' (n + m) cap').ownBlock = v.ownBlock ∨ (Value.slice ad' (n + m) cap').ownBlock = some w.heap.size) →
      wpList P ops Q rest (a.put o.dst (.slice ad' (n + m) cap')) w') : wpList P ops Q (o :: rest) a w := by
  refine wpList_plain hgd fun K hK => ?_
  obtain ⟨v', w', hrun, h2, h3, h4⟩ := run_append_from (P := P) w base t o.type e i z size bytes ht hi hz hsize hby hzs hsz v n xs hown ad m c news hsrc h63 hbytes hbase
  obtain ⟨ad', cap', rfl, hc⟩ := ownsRow_shape h2
  unfold Oper.wp
  simp [execOp, ho, resolve, invoke, builtin, hs, hx, hrun, Result.andThen]
  exact hK _ _ (h ad' cap' w' hc h2 h3 h4)

theorem block_setCell {w : World} {p j : Nat} {cs : Array Value} {t : TypeId} {u : Value} (h : w.heap[p]? = some (.cells cs t (0, 0))) :
    (w.setCell ⟨p, j, none⟩ u).heap[p]? = some (.cells (cs.set! j u) t (0, 0)) := by
  have hlt := lt_of_block h
  have h' : w.heap[p] = .cells cs t (0, 0) := by simpa [Array.getElem?_eq_getElem hlt] using h
  show (w.heap.modify p _)[p]? = _
  rw [Array.getElem?_eq_getElem (by simpa using hlt), Array.getElem_modify_self, h']
  rfl
theorem cell_setCell_far {w : World} {a b : Addr} {u : Value} (h : b.block ≠ a.block) : (w.setCell a u).cell? b = w.cell? b :=
  World.cell?_of_block (w := w) (Below.heap_setCell _ _ _ _ h)
theorem frozen_of_block {w : World} {p j : Nat} {cs : Array Value} {t : TypeId} (h : w.heap[p]? = some (.cells cs t (0, 0))) : w.frozen? ⟨p, j, none⟩ = false := by
  simp [World.frozen?, h]
theorem cell_of_block {w : World} {p j : Nat} {cs : Array Value} {t : TypeId} (h : w.heap[p]? = some (.cells cs t (0, 0))) : w.cell? ⟨p, j, none⟩ = cs[j]? := by
  simp [World.cell?, h]

/-- a store into a row that the call owns -/
theorem ownsRow_setCell {w : World} {base : Nat} {e : TypeId} {size n cap g k : Nat} {xs : List Value} {u : Value} (h : w.ownsRow base e size (.slice (some ⟨g, 0, none⟩) n cap) n xs) :
    (w.setCell ⟨g, k, none⟩ u).ownsRow base e size (.slice (some ⟨g, 0, none⟩) n cap) n (xs.set k u) := by
  refine ⟨by simpa using h.1, ?_⟩
  rcases h.2 with ⟨h0, _⟩ | ⟨g', cap', cur, hv, hb, hg, hn, hc, hcs, ht⟩
  · cases h0
  · cases hv
    refine .inr ⟨g, cap, cur.set! k u, rfl, hb, block_setCell hg, hn, hc, by simpa using hcs, ?_⟩
    rw [← ht]
    simp only [Array.set!_eq_setIfInBounds, Array.toList_setIfInBounds, List.take_set]
theorem ownsRow_setCell_far {w : World} {base : Nat} {e : TypeId} {size n : Nat} {v : Value} {xs : List Value} {a : Addr} {u : Value} (h : w.ownsRow base e size v n xs) (hne : v.ownBlock ≠ some a.block) :
    (w.setCell a u).ownsRow base e size v n xs := by
  refine ⟨h.1, ?_⟩
  rcases h.2 with h0 | ⟨g', cap', cur, hv, hb, hg, r⟩
  · exact .inl h0
  · refine .inr ⟨g', cap', cur, hv, hb, ?_, r⟩
    rw [Below.heap_setCell _ _ _ _ (by intro e; apply hne; subst hv; simp [Value.ownBlock, e])]
    exact hg
theorem ownsRow_block {w : World} {base : Nat} {e : TypeId} {size n : Nat} {ad : Option Addr} {cap : Nat} {xs : List Value} (h : w.ownsRow base e size (.slice ad n cap) n xs) (hn : 0 < n) :
    ∃ g cur, ad = some ⟨g, 0, none⟩ ∧ base ≤ g ∧ w.heap[g]? = some (.cells cur e (0, 0)) ∧ ∀ k u, xs[k]? = some u → w.cell? ⟨g, k, none⟩ = some u := by
  rcases h.2 with ⟨_, h0⟩ | ⟨g, cap', cur, hv, hb, hg, _⟩
  · omega
  · cases hv
    exact ⟨g, cur, rfl, hb, hg, fun k u hu => by simpa [Addr.add_lit] using h.cells (g := g) rfl k u hu⟩

/-- the world w' is as w was, but for blocks of D, and new ones -/
structure Keeps (D : Nat → Prop) (w w' : World) : Prop where
  os : w'.os = w.os
  tape : w'.tape = w.tape
  output : w'.output = w.output
  size : w.heap.size ≤ w'.heap.size
  block : ∀ k, k < w.heap.size → ¬ D k → w'.heap[k]? = w.heap[k]?
theorem Keeps.refl (D : Nat → Prop) (w : World) : Keeps D w w := ⟨rfl, rfl, rfl, Nat.le_refl _, fun _ _ _ => rfl⟩
theorem Keeps.trans {D : Nat → Prop} {a b c : World} (h : Keeps D a b) (k : Keeps D b c) : Keeps D a c :=
  ⟨k.os.trans h.os, k.tape.trans h.tape, k.output.trans h.output, Nat.le_trans h.size k.size, fun i hi hD => (k.block i (Nat.lt_of_lt_of_le hi h.size) hD).trans (h.block i hi hD)⟩
theorem Keeps.mono {D D' : Nat → Prop} {w w' : World} (h : Keeps D w w') (hD : ∀ k, D k → D' k) : Keeps D' w w' := ⟨h.os, h.tape, h.output, h.size, fun k hk hn => h.block k hk (fun e => hn (hD k e))⟩
theorem Keeps.drew {D : Nat → Prop} {a w : World} (h : Keeps D a w) : Keeps D a w.drew := ⟨h.os, h.tape, h.output, h.size, h.block⟩
theorem Keeps.alloc {D : Nat → Prop} {a w : World} (h : Keeps D a w) (o : Obj) : Keeps D a (w.alloc o) :=
  h.trans ⟨rfl, rfl, rfl, by simp, fun k hk _ => Below.heap_alloc _ _ _ hk⟩
theorem Keeps.setCell {D : Nat → Prop} {a w : World} (h : Keeps D a w) {p : Addr} (hp : D p.block) (u : Value) : Keeps D a (w.setCell p u) :=
  h.trans ⟨rfl, rfl, rfl, by simp [World.setCell], fun k _ hn => Below.heap_setCell _ _ _ _ (by rintro rfl; exact hn hp)⟩
theorem Keeps.setNew {D : Nat → Prop} {a w : World} (h : Keeps D a w) {p : Addr} (hp : a.heap.size ≤ p.block) (u : Value) : Keeps D a (w.setCell p u) :=
  ⟨h.os, h.tape, h.output, by simpa [World.setCell] using h.size, fun k hk hn => (Below.heap_setCell _ _ _ _ (by omega)).trans (h.block k hk hn)⟩
theorem Keeps.grown {D : Nat → Prop} {a w w' : World} {row : Option Nat} (h : Keeps D a w) (hg : w.grownBy w' row) (hr : ∀ k, row = some k → D k ∨ a.heap.size ≤ k) : Keeps D a w' :=
  ⟨hg.os.trans h.os, hg.tape.trans h.tape, hg.output.trans h.output, Nat.le_trans h.size hg.size, fun k hk hn => (hg.block k (Nat.lt_of_lt_of_le hk h.size) (fun e => by rcases hr k e.symm with x | x; exact hn x; omega)).trans (h.block k hk hn)⟩
theorem Keeps.of_below {D : Nat → Prop} {w w' : World} (h : Below w.heap.size w w') : Keeps D w w' := ⟨h.os, h.tape, h.output, h.size, fun k hk _ => h.block k hk⟩
theorem Keeps.below {D : Nat → Prop} {B : Nat} {w w' : World} (h : Keeps D w w') (hB : B ≤ w.heap.size) (hD : ∀ k, D k → B ≤ k) : Below B w w' :=
  ⟨h.os, h.tape, h.output, h.size, fun k hk => h.block k (by omega) (fun e => by have := hD k e; omega)⟩


theorem Keeps.drewN {D : Nat → Prop} {a w : World} (h : Keeps D a w) (q : Nat) : Keeps D a (w.drewN q) := ⟨h.os, h.tape, h.output, h.size, h.block⟩
theorem made_list (z : Value) (n : Nat) : madeCells #[z] n = (List.replicate n z).toArray := by
  rw [← toList_madeCells_one]

/-! ### a ring in memory -/
section
variable {α : Type}
def RingIn (V : α → Value) (te tl : TypeId) (D : Nat → Prop) (w : World) (p : Nat) (sl : List α) (first count room : Nat) (ad : Option Addr) : Prop :=
  D p ∧ w.heap[p]? = some (.cells #[.slice ad sl.length sl.length, .int .i64 (first : Nat), .int .i64 (count : Nat), .int .i64 (room : Nat)] tl (0, 0)) ∧
  (sl = [] ∨ ∃ g, ad = some ⟨g, 0, none⟩ ∧ g ≠ p ∧ D g ∧ w.heap[g]? = some (.cells (sl.map V).toArray te (0, 0)))
/-- what the slots say: from the first on, round the end -/
structure Ok (sl : List α) (first room : Nat) (xs : List α) : Prop where
  le : xs.length ≤ sl.length
  fits : sl.length ≤ room
  big : room ≤ 4096
  fst : first < sl.length ∨ (first = 0 ∧ sl = [])
  at_ : ∀ i x, xs[i]? = some x → sl[(first + i) % sl.length]? = some x
def RG (V : α → Value) (te tl : TypeId) (D : Nat → Prop) (w : World) (p : Nat) (xs : List α) (room : Nat) : Prop :=
  ∃ sl first ad, RingIn V te tl D w p sl first xs.length room ad ∧ Ok sl first room xs

theorem cells_of_four {w : World} {p : Nat} {a b c d : Value} {t : TypeId} (h : w.heap[p]? = some (.cells #[a, b, c, d] t (0, 0))) :
    w.cell? ⟨p, 0, none⟩ = some a ∧ w.cell? ⟨p, 1, none⟩ = some b ∧ w.cell? ⟨p, 2, none⟩ = some c ∧ w.cell? ⟨p, 3, none⟩ = some d ∧
    w.frozen? ⟨p, 0, none⟩ = false ∧ w.frozen? ⟨p, 1, none⟩ = false ∧ w.frozen? ⟨p, 2, none⟩ = false ∧ w.frozen? ⟨p, 3, none⟩ = false := by
  simp [World.cell?, World.frozen?, h]

variable {V : α → Value} {te tl : TypeId} {D : Nat → Prop} {w w' : World} {p g : Nat} {sl xs : List α} {first count room : Nat} {ad : Option Addr}
theorem RingIn.top (h : RingIn V te tl D w p sl first count room ad) :
    w.cell? ⟨p, 0, none⟩ = some (.slice ad sl.length sl.length) ∧ w.cell? ⟨p, 1, none⟩ = some (.int .i64 (first : Nat)) ∧ w.cell? ⟨p, 2, none⟩ = some (.int .i64 (count : Nat)) ∧ w.cell? ⟨p, 3, none⟩ = some (.int .i64 (room : Nat)) ∧
    w.frozen? ⟨p, 0, none⟩ = false ∧ w.frozen? ⟨p, 1, none⟩ = false ∧ w.frozen? ⟨p, 2, none⟩ = false ∧ w.frozen? ⟨p, 3, none⟩ = false := cells_of_four h.2.1
theorem RingIn.slot (h : RingIn V te tl D w p sl first count room ad) {i : Nat} {x : α} (hi : sl[i]? = some x) :
    ∃ g, ad = some ⟨g, 0, none⟩ ∧ g ≠ p ∧ D g ∧ w.cell? ⟨g, i, none⟩ = some (V x) ∧ w.frozen? ⟨g, i, none⟩ = false := by
  rcases h.2.2 with h0 | ⟨g, e, hp, hD, hg⟩
  · subst h0; simp at hi
  · refine ⟨g, e, hp, hD, ?_, frozen_of_block hg⟩
    rw [cell_of_block hg]
    simp [hi]
theorem RingIn.setSlot (h : RingIn V te tl D w p sl first count room (some ⟨g, 0, none⟩)) (hs : 0 < sl.length) (i : Nat) (x : α) :
    RingIn V te tl D (w.setCell ⟨g, i, none⟩ (V x)) p (sl.set i x) first count room (some ⟨g, 0, none⟩) := by
  obtain ⟨hD, hp, h0 | ⟨g', e, hgp, hDg, hg⟩⟩ := h
  · subst h0; simp at hs
  · cases e
    refine ⟨hD, ?_, .inr ⟨g, rfl, hgp, hDg, ?_⟩⟩
    · rw [Below.heap_setCell _ _ _ _ (by exact Ne.symm hgp), List.length_set]
      exact hp
    · rw [block_setCell hg]
      simp [List.map_set]
theorem RingIn.setFirst (h : RingIn V te tl D w p sl first count room ad) (u : Nat) : RingIn V te tl D (w.setCell ⟨p, 1, none⟩ (.int .i64 (u : Nat))) p sl u count room ad := by
  obtain ⟨hD, hp, h2⟩ := h
  refine ⟨hD, by rw [block_setCell hp]; rfl, ?_⟩
  rcases h2 with h0 | ⟨g, e, hgp, hDg, hg⟩
  · exact .inl h0
  · exact .inr ⟨g, e, hgp, hDg, by rw [Below.heap_setCell _ _ _ _ (by exact hgp)]; exact hg⟩
theorem RingIn.setCount (h : RingIn V te tl D w p sl first count room ad) (u : Nat) : RingIn V te tl D (w.setCell ⟨p, 2, none⟩ (.int .i64 (u : Nat))) p sl first u room ad := by
  obtain ⟨hD, hp, h2⟩ := h
  refine ⟨hD, by rw [block_setCell hp]; rfl, ?_⟩
  rcases h2 with h0 | ⟨g, e, hgp, hDg, hg⟩
  · exact .inl h0
  · exact .inr ⟨g, e, hgp, hDg, by rw [Below.heap_setCell _ _ _ _ (by exact hgp)]; exact hg⟩
/-- other slots -/
theorem RingIn.newSlots {D' : Nat → Prop} (h : RingIn V te tl D w p sl first count room ad) (hw : w'.heap[p]? = w.heap[p]?) {q : Nat} (hq : q ≠ p) (hD : ∀ k, D k → D' k) (hDq : D' q) {ss : List α} (hb : w'.heap[q]? = some (.cells (ss.map V).toArray te (0, 0))) :
    RingIn V te tl D' ((w'.setCell ⟨p, 0, none⟩ (.slice (some ⟨q, 0, none⟩) ss.length ss.length)).setCell ⟨p, 1, none⟩ (.int .i64 (0 : Nat))) p ss 0 count room (some ⟨q, 0, none⟩) := by
  obtain ⟨hDp, hp, _⟩ := h
  rw [← hw] at hp
  refine ⟨hD _ hDp, by rw [block_setCell (block_setCell hp)]; rfl, .inr ⟨q, rfl, hq, hDq, ?_⟩⟩
  rw [Below.heap_setCell _ _ _ _ (by exact hq), Below.heap_setCell _ _ _ _ (by exact hq)]
  exact hb
theorem RingIn.kept {D' : Nat → Prop} (h : RingIn V te tl D w p sl first count room ad) (hk : Keeps D' w w') (hd : ∀ k, D k → ¬ D' k) : RingIn V te tl D w' p sl first count room ad := by
  obtain ⟨hD, hp, h2⟩ := h
  refine ⟨hD, (hk.block p (lt_of_block hp) (hd _ hD)).trans hp, ?_⟩
  rcases h2 with h0 | ⟨g, e, hgp, hDg, hg⟩
  · exact .inl h0
  · exact .inr ⟨g, e, hgp, hDg, (hk.block g (lt_of_block hg) (hd _ hDg)).trans hg⟩
theorem RingIn.below (h : RingIn V te tl D w p sl first count room ad) (hb : Below w.heap.size w w') : RingIn V te tl D w' p sl first count room ad :=
  h.kept (D' := fun _ => False) (.of_below hb) (fun _ _ e => e)
theorem RingIn.drewN (h : RingIn V te tl D w p sl first count room ad) (q : Nat) : RingIn V te tl D (w.drewN q) p sl first count room ad :=
  h.kept (D' := fun _ => False) ((Keeps.refl _ w).drewN q) (fun _ _ e => e)
theorem RingIn.narrow (h : RingIn V te tl D w p sl first count room ad) : RingIn V te tl (fun k => D k ∧ k < w.heap.size) w p sl first count room ad := by
  obtain ⟨hD, hp, h2⟩ := h
  refine ⟨⟨hD, lt_of_block hp⟩, hp, ?_⟩
  rcases h2 with h0 | ⟨g, e, hgp, hDg, hg⟩
  · exact .inl h0
  · exact .inr ⟨g, e, hgp, ⟨hDg, lt_of_block hg⟩, hg⟩
theorem RingIn.wide {D' : Nat → Prop} (h : RingIn V te tl D w p sl first count room ad) (hD : ∀ k, D k → D' k) : RingIn V te tl D' w p sl first count room ad := by
  obtain ⟨h1, hp, h2⟩ := h
  refine ⟨hD _ h1, hp, ?_⟩
  rcases h2 with h0 | ⟨g, e, hgp, hDg, hg⟩
  · exact .inl h0
  · exact .inr ⟨g, e, hgp, hD _ hDg, hg⟩
theorem RG.kept {D' : Nat → Prop} (h : RG V te tl D w p xs room) (hk : Keeps D' w w') (hd : ∀ k, D k → ¬ D' k) : RG V te tl D w' p xs room := by
  obtain ⟨sl, f, ad, h, o⟩ := h; exact ⟨sl, f, ad, h.kept hk hd, o⟩
theorem RG.below (h : RG V te tl D w p xs room) (hb : Below w.heap.size w w') : RG V te tl D w' p xs room := by
  obtain ⟨sl, f, ad, h, o⟩ := h; exact ⟨sl, f, ad, h.below hb, o⟩
theorem RG.drewN (h : RG V te tl D w p xs room) (q : Nat) : RG V te tl D (w.drewN q) p xs room := by
  obtain ⟨sl, f, ad, h, o⟩ := h; exact ⟨sl, f, ad, h.drewN q, o⟩
theorem RG.narrow (h : RG V te tl D w p xs room) : RG V te tl (fun k => D k ∧ k < w.heap.size) w p xs room := by
  obtain ⟨sl, f, ad, h, o⟩ := h; exact ⟨sl, f, ad, h.narrow, o⟩
theorem RG.wide {D' : Nat → Prop} (h : RG V te tl D w p xs room) (hD : ∀ k, D k → D' k) : RG V te tl D' w p xs room := by
  obtain ⟨sl, f, ad, h, o⟩ := h; exact ⟨sl, f, ad, h.wide hD, o⟩
theorem RG.len (h : RG V te tl D w p xs room) : xs.length ≤ room ∧ room ≤ 4096 := by
  obtain ⟨sl, f, ad, h, o⟩ := h
  have := o.le; have := o.fits; have := o.big
  omega
/-- an empty ring, just made -/
theorem RG.made (V : α → Value) (te tl : TypeId) {D : Nat → Prop} {w : World} (hD : D w.heap.size) (room : Nat) (hr : room ≤ 4096) :
    RG V te tl D (w.alloc (.cells #[.slice none 0 0, .int .i64 0, .int .i64 0, .int .i64 (room : Nat)] tl)) w.heap.size [] room :=
  ⟨[], 0, none, ⟨hD, heap_alloc_new w _, .inl rfl⟩, ⟨Nat.le_refl _, Nat.zero_le _, hr, .inr ⟨rfl, rfl⟩, by simp⟩⟩

/-! ### what becomes of the slots -/
theorem mod_apart {f i j m : Nat} (hi : i < m) (hj : j < m) (h : (f + i) % m = (f + j) % m) : i = j := by
  have h1 : (f + i) % m = ((f % m) + i) % m := by rw [Nat.mod_add_mod]
  have h2 : (f + j) % m = ((f % m) + j) % m := by rw [Nat.mod_add_mod]
  rw [h1, h2] at h
  have hf : f % m < m := Nat.mod_lt _ (by omega)
  generalize f % m = a at h hf
  rcases Nat.lt_or_ge (a + i) m with c1 | c1 <;> rcases Nat.lt_or_ge (a + j) m with c2 | c2
  · rw [Nat.mod_eq_of_lt c1, Nat.mod_eq_of_lt c2] at h; omega
  · rw [Nat.mod_eq_of_lt c1, Nat.mod_eq_sub_mod c2, Nat.mod_eq_of_lt (by omega)] at h; omega
  · rw [Nat.mod_eq_of_lt c2, Nat.mod_eq_sub_mod c1, Nat.mod_eq_of_lt (by omega)] at h; omega
  · rw [Nat.mod_eq_sub_mod c1, Nat.mod_eq_sub_mod c2, Nat.mod_eq_of_lt (by omega), Nat.mod_eq_of_lt (by omega)] at h; omega
theorem Ok.lt (o : Ok sl first room xs) {i : Nat} (hi : i < xs.length) : (first + i) % sl.length < sl.length := Nat.mod_lt _ (by have := o.le; omega)
theorem Ok.push (o : Ok sl first room xs) (h : xs.length < sl.length) (v : α) : Ok (sl.set ((first + xs.length) % sl.length) v) first room (xs ++ [v]) := by
  refine ⟨by simp; omega, by simpa using o.fits, o.big, ?_, ?_⟩
  · rcases o.fst with h1 | ⟨_, rfl⟩
    · exact .inl (by simpa using h1)
    · simp at h
  · intro i x hx
    rw [List.length_set, List.getElem?_set]
    rcases Nat.lt_or_ge i xs.length with hi | hi
    · rw [if_neg (fun e => by have := mod_apart h (by omega) e; omega)]
      rw [List.getElem?_append_left hi] at hx
      exact o.at_ i x hx
    · rw [List.getElem?_append_right hi] at hx
      have e : i - xs.length = 0 := by
        rcases Nat.eq_zero_or_pos (i - xs.length) with e | e
        · exact e
        · rw [List.getElem?_eq_none (by simp; omega)] at hx; cases hx
      rw [e] at hx
      simp at hx
      subst hx
      have ei : i = xs.length := by omega
      subst ei
      rw [if_pos rfl, if_pos (Nat.mod_lt _ (by omega))]
theorem Ok.pop {x : α} (o : Ok sl first room (x :: xs)) (z : α) : sl[first]? = some x ∧ Ok (sl.set first z) ((first + 1) % sl.length) room xs := by
  have hl := o.le
  simp at hl
  have hf : first < sl.length := by
    rcases o.fst with h1 | ⟨_, rfl⟩
    · exact h1
    · simp at hl
  have h0 := o.at_ 0 x rfl
  rw [Nat.add_zero, Nat.mod_eq_of_lt hf] at h0
  refine ⟨h0, by simp; omega, by simpa using o.fits, o.big, .inl (by simp; exact Nat.mod_lt _ (by omega)), ?_⟩
  intro i y hy
  have hi : i < xs.length := by
    rcases Nat.lt_or_ge i xs.length with h | h
    · exact h
    · rw [List.getElem?_eq_none h] at hy; cases hy
  have e : ((first + 1) % sl.length + i) % sl.length = (first + (i + 1)) % sl.length := by rw [Nat.mod_add_mod]; congr 1; omega
  rw [List.length_set, e, List.getElem?_set, if_neg ?_]
  · exact o.at_ (i + 1) y (by simpa using hy)
  · intro e2
    have : (first + 0) % sl.length = (first + (i + 1)) % sl.length := by rw [Nat.add_zero, Nat.mod_eq_of_lt hf]; exact e2
    have := mod_apart (by omega) (by omega) this
    omega
theorem Ok.widen (o : Ok sl first room xs) {m : Nat} (h1 : xs.length < m) (h2 : m ≤ room) (z : α) : Ok (xs ++ List.replicate (m - xs.length) z) 0 room xs := by
  refine ⟨by simp, by simp; omega, o.big, .inl (by simp; omega), ?_⟩
  intro i x hx
  have hi : i < xs.length := by
    rcases Nat.lt_or_ge i xs.length with h | h
    · exact h
    · rw [List.getElem?_eq_none h] at hx; cases hx
  rw [Nat.zero_add, Nat.mod_eq_of_lt (by simp; omega), List.getElem?_append_left hi]
  exact hx
theorem splice_made (z : Value) (cs : List Value) (m : Nat) : splice (List.replicate m z) 0 cs = cs ++ List.replicate (m - cs.length) z := by
  simp [splice]
end
end Go.Proofs.Ytpjeehdgdhbhdaa
