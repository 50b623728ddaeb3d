/- What each function of the tape answers, and what becomes of the tape in memory: New, Left, Taken, Next; of a nil tape nothing does. -/
import Derived.Test.YtdjbcjiobcpghaaRows
import Derived.WalkKit
import Derived.WalkSpells
import Derived.WalkLawsBesides
import Derived.Maps.AppendAt
namespace Go.Proofs.Ytdjbcjiobcpghaa
open Go.RowKit

/-- what is appended: a nil slice, or cells behind an address -/
def FromRow (w : World) (a : Option Addr) (m c : Nat) (news : List Value) : Prop :=
  (a = none ∧ m = 0 ∧ c = 0 ∧ news = []) ∨ ∃ x, a = some x ∧ news.length = m ∧ (∀ j u, news[j]? = some u → w.cell? (x.add j) = some u) ∧ ∀ u ∈ news, u.oneCell' = true

/-- append of such a row onto what the call owns, where the elements have one cell -/
theorem run_append_from {P : Program} (w : World) (base : Nat) (t ty e : TypeId) (i : TypeInfo) (z : Value) (bytes : Nat) (ht : P.underlying t = some (.slice e)) (hi : P.info? e = some i) (hz : i.zero = some z)
    (hsize : i.size = 1) (hby : i.bytes = bytes) (hzs : z.cells.size = 1)
    (v : Value) (n : Nat) (xs : List Value) (hown : w.ownsRow base e 1 v n xs) (a : Option Addr) (m c : Nat) (news : List Value) (hsrc : FromRow w a m c news)
    (h63 : n + m ≤ maxLen) (hbytes : (n + m) * bytes ≤ 140737488355328) (hbase : base ≤ w.heap.size) :
    ∃ v' w', (Builtin.append_ #[t, t] ty #[v, .slice a m c]).run P w = .ok v' w' ∧ w'.ownsRow base e 1 v' (n + m) (xs ++ news) ∧ w.grownBy w' v.ownBlock ∧ (v'.ownBlock = v.ownBlock ∨ v'.ownBlock = some w.heap.size) := by
  rcases hsrc with ⟨rfl, rfl, rfl, rfl⟩ | ⟨x, rfl, hl, hc, h1⟩
  · exact ⟨v, w, run_append_owned_none w base t ty e i 1 ht hi v n xs hown, by simpa using hown, World.grownBy.refl _ _, .inl rfl⟩
  · obtain ⟨v', w', h, h2, h3, _, h5⟩ := run_append_own_at (P := P) w base t ty e i z 1 bytes ht hi hz hsize hby hzs (by omega) v n xs hown x m c news (by omega) hc h1 h63 hbytes hbase
    exact ⟨v', w', h, h2, h3, h5⟩

/-- what a value that owns a row looks like: a slice -/
theorem ownsRow_shape {w : World} {base : Nat} {e : TypeId} {v : Value} {n : Nat} {xs : List Value} (h : w.ownsRow base e 1 v n xs) : ∃ ad cap, v = .slice ad n cap ∧ n ≤ cap := by
  rcases h.2 with ⟨rfl, rfl⟩ | ⟨g, cap, cur, rfl, _, _, hn, _⟩
  · exact ⟨none, 0, rfl, Nat.le_refl _⟩
  · exact ⟨_, cap, rfl, hn⟩

theorem wpList_append_from {P : Program} (w : World) {ops : Array Oper} {rest : List Oper} {o : Oper} {a : Act} {Q : Exit → Act → World → Prop} (hgd : o.guard = none) (s x : Operand) (t : TypeId)
    (ho : o.op = .call { callee := .builtin .append, args := #[s, x], argTypes := #[t, t] })
    (base : Nat) (e : TypeId) (i : TypeInfo) (z : Value) (bytes : Nat) (ht : P.underlying t = some (.slice e)) (hi : P.info? e = some i) (hz : i.zero = some z)
    (hsize : i.size = 1) (hby : i.bytes = bytes) (hzs : z.cells.size = 1)
    (v : Value) (n : Nat) (xs : List Value) (hs : a.eval s = v) (hown : w.ownsRow base e 1 v n xs) (ad : Option Addr) (m c : Nat) (news : List Value) (hx : a.eval x = .slice ad m c) (hsrc : FromRow w ad m c news)
    (h63 : n + m ≤ maxLen) (hbytes : (n + m) * bytes ≤ 140737488355328) (hbase : base ≤ w.heap.size)
    (h : ∀ ad' cap' w', n + m ≤ cap' → w'.ownsRow base e 1 (.slice ad' (n + m) cap') (n + m) (xs ++ news) → w.grownBy w' v.ownBlock → ((Value.slice ad' (n + m) cap').ownBlock = v.ownBlock ∨ (Value.slice ad' (n + m) cap').ownBlock = some w.heap.size) →
      wpList P ops Q rest (a.put o.dst (.slice ad' (n + m) cap')) w') : wpList P ops Q (o :: rest) a w := by
  refine wpList_plain hgd fun K hK => ?_
  obtain ⟨v', w', hrun, h2, h3, h4⟩ := run_append_from (P := P) w base t o.type e i z bytes ht hi hz hsize hby hzs v n xs hown ad m c news hsrc h63 hbytes hbase
  obtain ⟨ad', cap', rfl, hc⟩ := ownsRow_shape h2
  unfold Oper.wp
  simp [execOp, ho, resolve, invoke, builtin, hs, hx, hrun, Result.andThen]
  exact hK _ _ (h ad' cap' w' hc h2 h3 h4)

theorem Try.info25 : (Try.prog.info? 25).map (fun i => (i.zero, i.size, i.bytes)) = some (some (.int .u32 0), 1, 4) := by kernel_rfl

/-- A tape in memory: its struct in block p, what is left of its draws in another block. -/
def TapeAt (B : Nat) (w : World) (p : Nat) (zs : List Int) (t : Int) : Prop :=
  B ≤ p ∧ ∃ ad n cap, w.heap[p]? = some (.cells #[.slice ad n cap, .int .i64 t] 32 (0, 0)) ∧ zs.length = n ∧ n ≤ cap ∧
    (0 < n → ∃ q off, ad = some ⟨q, off, none⟩ ∧ q ≠ p ∧ B ≤ q ∧ ∀ i, i < n → w.cell? ⟨q, off + i, none⟩ = some (.int .u32 (zs.getD i 0)))

theorem tape_made {B : Nat} {w1 : World} {ad : Option Addr} {m cap : Nat} {zs : List Int} (hB : B ≤ w1.heap.size) (hm : zs.length = m) (hc : m ≤ cap) (h : w1.ownsRow B 25 1 (.slice ad m cap) m (zs.map (Value.int .u32))) :
    TapeAt B (w1.alloc (.cells #[.slice ad m cap, .int .i64 0] 32)) w1.heap.size zs 0 := by
  refine ⟨hB, ad, m, cap, heap_alloc_new w1 _, hm, hc, fun hpos => ?_⟩
  obtain ⟨g, cap', hv, hb, hlt⟩ : ∃ g cap', Value.slice ad m cap = .slice (some ⟨g, 0, none⟩) m cap' ∧ B ≤ g ∧ g < w1.heap.size := by
    rcases h.2 with ⟨_, h0⟩ | ⟨g, cap', cur, hv, hb, hg, _⟩
    · omega
    · exact ⟨g, cap', hv, hb, lt_of_block hg⟩
  cases hv
  refine ⟨g, 0, rfl, by omega, hb, fun i hi => ?_⟩
  have hcell := h.cells (g := g) rfl i (.int .u32 (zs.getD i 0)) (by rw [List.getElem?_map, List.getElem?_eq_getElem (by omega)]; simp [List.getD, List.getElem?_eq_getElem (show i < zs.length by omega)])
  rw [World.cell?_of_block (w := w1) (Below.heap_alloc _ _ _ hlt)]
  simpa [Addr.add_lit] using hcell

set_option maxHeartbeats 400000 in
theorem new_any (B : Nat) (a : Option Addr) (m c : Nat) (zs : List Int) (w : World) (hB : B ≤ w.heap.size) (hsrc : FromRow w a m c (zs.map (Value.int .u32))) (hm : zs.length = m) (h5 : m ≤ 500) :
    Calls Try.prog 5 #[.slice a m c] w fun e w' => ∃ p, e = .returned (.pointer (some ⟨p, 0, none⟩)) ∧ TapeAt B w' p zs 0 ∧ Below B w w' := by
  obtain ⟨i0, hi, hz0, hz1, hz2⟩ := info_parts Try.info25
  go_enter Try.func5, Try.ntmps5
  go_wp2_with (at_builtin; refine wpList_append_from _ rfl _ _ 22 rfl B 25 i0 (.int .u32 0) 4 Try.underlying22 hi hz0 hz1 hz2 rfl (.slice none 0 0) 0 [] rfl (World.ownsRow_nil _ _ _ _) a m c _ rfl hsrc (by unfold maxLen; omega) (by omega) hB ?_; intro ad' cap' w1 hc1 hown hgrow hat; rw [Nat.zero_add] at hc1 hown hat ⊢; rw [List.nil_append] at hown; clear hsrc hi hz0 hz1 hz2)
  go_ret
  refine ⟨_, rfl, tape_made (by have := hgrow.size; omega) hm hc1 hown, ?_⟩
  exact ((Below.refl B w).grown hgrow hB (by intro k hk; cases hk)).alloc (by have := hgrow.size; omega) _

/-! ### a nil tape -/
theorem left_nil (w : World) : Calls Try.prog 6 #[.pointer none] w fun e w' => e = .returned (.int .i64 0) ∧ w' = w := by
  go_enter Try.func6, Try.ntmps6
  go_wp2
  go_ret
  exact ⟨rfl, rfl⟩
theorem taken_nil (w : World) : Calls Try.prog 7 #[.pointer none] w fun e w' => e = .returned (.int .i64 0) ∧ w' = w := by
  go_enter Try.func7, Try.ntmps7
  go_wp2
  go_ret
  exact ⟨rfl, rfl⟩
theorem next_nil (w : World) : Calls Try.prog 8 #[.pointer none] w fun e w' => e = .returned (.int .u32 0) ∧ w' = w := by
  go_enter Try.func8, Try.ntmps8
  go_wp2
  go_ret
  exact ⟨rfl, rfl⟩

/-! ### a tape -/
theorem cells_of_two {w : World} {p : Nat} {u v : Value} {t : TypeId} (h : w.heap[p]? = some (.cells #[u, v] t (0, 0))) :
    w.cell? ⟨p, 0, none⟩ = some u ∧ w.cell? ⟨p, 1, none⟩ = some v ∧ w.frozen? ⟨p, 0, none⟩ = false ∧ w.frozen? ⟨p, 1, none⟩ = false := by
  simp [World.cell?, World.frozen?, h]
theorem left_any {B : Nat} {w : World} {p : Nat} {zs : List Int} {t : Int} (h : TapeAt B w p zs t) :
    Calls Try.prog 6 #[.pointer (some ⟨p, 0, none⟩)] w fun e w' => e = .returned (.int .i64 zs.length) ∧ w' = w := by
  obtain ⟨_, ad, n, cap, hh, hn, _⟩ := h
  subst hn
  obtain ⟨c0, c1, f0, f1⟩ := cells_of_two hh
  clear hh
  go_enter Try.func6, Try.ntmps6
  go_wp2
  go_ret
  exact ⟨rfl, rfl⟩
theorem taken_any {B : Nat} {w : World} {p : Nat} {zs : List Int} {t : Int} (h : TapeAt B w p zs t) :
    Calls Try.prog 7 #[.pointer (some ⟨p, 0, none⟩)] w fun e w' => e = .returned (.int .i64 t) ∧ w' = w := by
  obtain ⟨_, ad, n, cap, hh, hn, _⟩ := h
  obtain ⟨c0, c1, f0, f1⟩ := cells_of_two hh
  clear hh
  go_enter Try.func7, Try.ntmps7
  go_wp2
  go_ret
  exact ⟨rfl, rfl⟩
theorem block_setCell {w : World} {p j : Nat} {cs : Array Value} {t : TypeId} {u : Value} (h : w.heap[p]? = some (.cells cs t (0, 0))) :
    (w.setCell ⟨p, j, none⟩ u).heap[p]? = some (.cells (cs.set! j u) t (0, 0)) := by
  have hlt := lt_of_block h
  have h' : w.heap[p] = .cells cs t (0, 0) := by simpa [Array.getElem?_eq_getElem hlt] using h
  show (w.heap.modify p _)[p]? = _
  rw [Array.getElem?_eq_getElem (by simpa using hlt), Array.getElem_modify_self, h']
  rfl
theorem cell_setCell_far {w : World} {a b : Addr} {u : Value} (h : b.block ≠ a.block) : (w.setCell a u).cell? b = w.cell? b :=
  World.cell?_of_block (w := w) (Below.heap_setCell _ _ _ _ h)
/-- a tape behind a store into its own struct that makes it another one -/
theorem tape_end {B : Nat} {w : World} {p cap : Nat} {t : Int} {ad : Option Addr} (hB : B ≤ p) (hh : w.heap[p]? = some (.cells #[.slice ad 0 cap, .int .i64 t] 32 (0, 0))) :
    TapeAt B (w.setCell ⟨p, 1, none⟩ (.int .i64 (t + 1))) p [] (t + 1) :=
  ⟨hB, ad, 0, cap, block_setCell hh, rfl, Nat.zero_le _, fun h => absurd h (by omega)⟩
theorem tape_step {B : Nat} {w : World} {p cap cap' q off : Nat} {t : Int} {ad : Option Addr} {z : Int} {zs : List Int} (hB : B ≤ p) (hqp : q ≠ p) (hBq : B ≤ q)
    (hh : w.heap[p]? = some (.cells #[.slice (some ⟨q, off, none⟩) (zs.length + 1) cap, .int .i64 t] 32 (0, 0)))
    (hc : ∀ i, i < zs.length + 1 → w.cell? ⟨q, off + i, none⟩ = some (.int .u32 ((z :: zs).getD i 0))) (hcap : zs.length ≤ cap') (had : 0 < zs.length → ad = some ⟨q, off + 1, none⟩) :
    TapeAt B ((w.setCell ⟨p, 1, none⟩ (.int .i64 (t + 1))).setCell ⟨p, 0, none⟩ (.slice ad zs.length cap')) p zs (t + 1) := by
  refine ⟨hB, ad, _, cap', block_setCell (block_setCell hh), rfl, hcap, fun h => ⟨q, off + 1, had h, hqp, hBq, fun i hi => ?_⟩⟩
  rw [cell_setCell_far (by exact hqp), cell_setCell_far (by exact hqp), Nat.add_assoc, Nat.add_comm 1 i, hc (i + 1) (by omega)]
  simp
theorem next_any {B : Nat} {w : World} {p : Nat} {zs : List Int} {t : Int} (h : TapeAt B w p zs t) (t0 : 0 ≤ t) (t1 : t ≤ 1000000) :
    Calls Try.prog 8 #[.pointer (some ⟨p, 0, none⟩)] w fun e w' => e = .returned (.int .u32 (zs.headD 0)) ∧ TapeAt B w' p zs.tail (t + 1) ∧ Below B w w' := by
  obtain ⟨hB, ad, n, cap, hh, hn, hcap, hrest⟩ := h
  obtain ⟨c0, c1, f0, f1⟩ := cells_of_two hh
  cases zs with
  | nil =>
    have hn0 : n = 0 := by simpa using hn.symm
    subst hn0
    clear hrest hn
    have HH : Hid _ := hh
    clear hh
    go_enter Try.func8, Try.ntmps8
    go_wp2
    go_ret
    exact ⟨rfl, tape_end hB HH, (Below.refl B w).setCell hB _⟩
  | cons z zs =>
    have hn0 : n = zs.length + 1 := by simpa using hn.symm
    subst hn0
    obtain ⟨q, off, rfl, hqp, hBq, hc⟩ := hrest (by omega)
    clear hrest hn
    have HH : Hid _ := hh
    have HC : Hid _ := hc
    have hz := hc 0 (by omega)
    simp only [Nat.add_zero, List.getD_cons_zero] at hz
    clear hh hc
    go_enter Try.func8, Try.ntmps8
    go_wp2
    all_goals
      go_ret
      refine ⟨rfl, tape_step hB hqp hBq HH HC ?_ ?_, ((Below.refl B w).setCell hB _).setCell hB _⟩
    · omega
    · intro h; omega
    · omega
    · intro h; rfl
end Go.Proofs.Ytdjbcjiobcpghaa
