/- The document's answer (hoardref4), in memory: its row of cells, its free handles; what at, place, Front, Back, Get, Set, Next, Prev, All answer. -/
import Derived.Test.YtgpjdcoikbmciaaPushed
import Derived.Deep.RegionLaw
namespace Go.Proofs.Ytgpjdcoikbmciaa
open Go.RowKit

theorem step_append_from {P : Program} {ops : Array Oper} {o : Oper} {a : Act} {w : World} {K : Act → World → Prop} {Q : Exit → Act → World → Prop} {E : Prop}
    (hg : o.guard = none) (s x : Operand) (t : TypeId) (hop : o.op = Op.call { callee := Callee.builtin Builtin.append, args := #[s, x], argTypes := #[t, t] })
    (base : Nat) (e : TypeId) (i : TypeInfo) (z : Value) (size bytes : Nat) (ht : P.underlying t = some (.slice e)) (hi : P.info? e = some i) (hz : i.zero = some z)
    (hsize : i.size = size) (hby : i.bytes = bytes) (hzs : z.cells.size = size) (hsz : 0 < size)
    (v : Value) (n : Nat) (xs : List Value) (hs : a.eval s = v) (hown : w.ownsRow base e size v n xs) (ad : Option Addr) (m c : Nat) (news : List Value) (hx : a.eval x = .slice ad m c) (hsrc : FromRow w size ad m c news)
    (h63 : n + m ≤ maxLen) (hbytes : (n + m) * bytes ≤ 140737488355328) (hbase : base ≤ w.heap.size)
    (hK : ∀ ad' cap' w', n + m ≤ cap' → w'.ownsRow base e size (.slice ad' (n + m) cap') (n + m) (xs ++ news) → w.grownBy w' v.ownBlock → ((Value.slice ad' (n + m) cap').ownBlock = v.ownBlock ∨ (Value.slice ad' (n + m) cap').ownBlock = some w.heap.size) →
      K (a.put o.dst (.slice ad' (n + m) cap')) w') :
    if Region.wanted o (yielded ops a.tmps) = true then Oper.wp P o a w K Q else E := by
  have hw : Region.wanted o (yielded ops a.tmps) = true := by simp [Region.wanted, hg]
  rw [if_pos hw]
  obtain ⟨v', w', hrun, h2, h3, h4⟩ := run_append_from (P := P) w base t o.type e i z size bytes ht hi hz hsize hby hzs hsz v n xs hown ad m c news hsrc h63 hbytes hbase
  obtain ⟨ad', cap', rfl, hc⟩ := ownsRow_shape h2
  unfold Oper.wp
  simp [execOp, hop, resolve, invoke, builtin, hs, hx, hrun, Result.andThen]
  exact hK ad' cap' w' hc h2 h3 h4

def flat (row : List Nat) (va : Nat → ByteArray) : List Value := row.flatMap fun h : Nat => [Value.int .i64 ((h : Nat) : Int), Value.string (va h)]
theorem flat_length (row : List Nat) (va : Nat → ByteArray) : (flat row va).length = row.length * 2 := by
  induction row with
  | nil => rfl
  | cons x r ih =>
    have : flat (x :: r) va = [Value.int .i64 x, Value.string (va x)] ++ flat r va := rfl
    rw [this, List.length_append, ih]
    simp
    omega
theorem flat_append (l r : List Nat) (va : Nat → ByteArray) : flat (l ++ r) va = flat l va ++ flat r va := by simp [flat]
theorem flat_at {row : List Nat} {va : Nat → ByteArray} {i h : Nat} (hi : row[i]? = some h) : (flat row va)[i * 2]? = some (.int .i64 h) ∧ (flat row va)[i * 2 + 1]? = some (.string (va h)) := by
  induction row generalizing i with
  | nil => simp at hi
  | cons x r ih =>
    have e : flat (x :: r) va = Value.int .i64 x :: Value.string (va x) :: flat r va := rfl
    cases i with
    | zero => simp at hi; subst hi; rw [e]; exact ⟨rfl, rfl⟩
    | succ j =>
      have hi' : r[j]? = some h := by simpa using hi
      have := ih hi'
      rw [e, show (j + 1) * 2 = j * 2 + 1 + 1 by omega]
      simpa using this
theorem flat_one {row : List Nat} {va : Nat → ByteArray} : ∀ u ∈ flat row va, u.oneCell' = true := by
  intro u hu
  simp [flat] at hu
  obtain ⟨h, _, rfl | rfl⟩ := hu <;> rfl
theorem flat_congr {row : List Nat} {va va' : Nat → ByteArray} (h : ∀ x ∈ row, va x = va' x) : flat row va = flat row va' := by
  induction row with
  | nil => rfl
  | cons x r ih =>
    show Value.int .i64 x :: Value.string (va x) :: flat r va = Value.int .i64 x :: Value.string (va' x) :: flat r va'
    rw [h x (by simp), ih (fun y hy => h y (by simp [hy]))]

def RefIn (D : Nat → Prop) (w : World) (x : Nat) (row free : List Nat) (va : Nat → ByteArray) (n : Nat) (a1 : Option Addr) (c1 : Nat) (a2 : Option Addr) (c2 : Nat) : Prop :=
  D x ∧ w.heap[x]? = some (.cells #[.slice a1 row.length c1, .slice a2 free.length c2, .int .i64 n] 30 (0, 0)) ∧
  w.ownsRow 0 62 2 (.slice a1 row.length c1) row.length (flat row va) ∧ w.ownsRow 0 3 1 (.slice a2 free.length c2) free.length (free.reverse.map fun h => Value.int .i64 (h : Nat)) ∧
  (Value.slice a1 row.length c1).ownBlock ≠ some x ∧ (Value.slice a2 free.length c2).ownBlock ≠ some x ∧ (∀ g, (Value.slice a1 row.length c1).ownBlock = some g → (Value.slice a2 free.length c2).ownBlock ≠ some g) ∧
  (∀ g, (Value.slice a1 row.length c1).ownBlock = some g → D g) ∧ (∀ g, (Value.slice a2 free.length c2).ownBlock = some g → D g)
def RA (D : Nat → Prop) (w : World) (x : Nat) (row free : List Nat) (va : Nat → ByteArray) (n : Nat) : Prop := ∃ a1 c1 a2 c2, RefIn D w x row free va n a1 c1 a2 c2

section
variable {D : Nat → Prop} {w w' : World} {x : Nat} {row free : List Nat} {va : Nat → ByteArray} {n : Nat} {a1 : Option Addr} {c1 : Nat} {a2 : Option Addr} {c2 : Nat}
theorem RefIn.narrow (h : RefIn D w x row free va n a1 c1 a2 c2) : RefIn (fun k => D k ∧ k < w.heap.size) w x row free va n a1 c1 a2 c2 := by
  obtain ⟨h1, h2, h3, h4, h5, h6, h7, h8, h9⟩ := h
  exact ⟨⟨h1, lt_of_block h2⟩, h2, h3, h4, h5, h6, h7, fun g e => ⟨h8 g e, (h3.lt g e).2⟩, fun g e => ⟨h9 g e, (h4.lt g e).2⟩⟩
theorem RefIn.wide {D' : Nat → Prop} (h : RefIn D w x row free va n a1 c1 a2 c2) (hD : ∀ k, D k → D' k) : RefIn D' w x row free va n a1 c1 a2 c2 := by
  obtain ⟨h1, h2, h3, h4, h5, h6, h7, h8, h9⟩ := h
  exact ⟨hD _ h1, h2, h3, h4, h5, h6, h7, fun g e => hD _ (h8 g e), fun g e => hD _ (h9 g e)⟩
theorem ownsRow_same {base : Nat} {e : TypeId} {size m : Nat} {v : Value} {xs : List Value} (h : w.ownsRow base e size v m xs) (hk : ∀ g, v.ownBlock = some g → w'.heap[g]? = w.heap[g]?) : w'.ownsRow base e size v m xs := by
  refine ⟨h.1, ?_⟩
  rcases h.2 with h0 | ⟨g, c, cur, hv, hb, hg, rest⟩
  · exact .inl h0
  · exact .inr ⟨g, c, cur, hv, hb, by rw [hk g (by rw [hv]; rfl)]; exact hg, rest⟩
theorem RefIn.kept {D' : Nat → Prop} (h : RefIn D w x row free va n a1 c1 a2 c2) (hk : Keeps D' w w') (hd : ∀ k, D k → ¬ D' k) : RefIn D w' x row free va n a1 c1 a2 c2 := by
  obtain ⟨h1, h2, h3, h4, h5, h6, h7, h8, h9⟩ := h
  exact ⟨h1, (hk.block x (lt_of_block h2) (hd _ h1)).trans h2, ownsRow_same h3 (fun g e => hk.block g (h3.lt g e).2 (hd _ (h8 g e))), ownsRow_same h4 (fun g e => hk.block g (h4.lt g e).2 (hd _ (h9 g e))), h5, h6, h7, h8, h9⟩
theorem RA.narrow (h : RA D w x row free va n) : RA (fun k => D k ∧ k < w.heap.size) w x row free va n := by
  obtain ⟨_, _, _, _, h⟩ := h; exact ⟨_, _, _, _, h.narrow⟩
theorem RA.wide {D' : Nat → Prop} (h : RA D w x row free va n) (hD : ∀ k, D k → D' k) : RA D' w x row free va n := by
  obtain ⟨_, _, _, _, h⟩ := h; exact ⟨_, _, _, _, h.wide hD⟩
theorem RA.kept {D' : Nat → Prop} (h : RA D w x row free va n) (hk : Keeps D' w w') (hd : ∀ k, D k → ¬ D' k) : RA D w' x row free va n := by
  obtain ⟨_, _, _, _, h⟩ := h; exact ⟨_, _, _, _, h.kept hk hd⟩
theorem RA.congr {va' : Nat → ByteArray} (h : RA D w x row free va n) (hv : ∀ y ∈ row, va y = va' y) : RA D w x row free va' n := by
  obtain ⟨_, _, _, _, h⟩ := h
  refine ⟨_, _, _, _, h.1, h.2.1, ?_, h.2.2.2⟩
  rw [← flat_congr hv]
  exact h.2.2.1
theorem RefIn.top (h : RefIn D w x row free va n a1 c1 a2 c2) : w.cell? ⟨x, 0, none⟩ = some (.slice a1 row.length c1) ∧ w.cell? ⟨x, 1, none⟩ = some (.slice a2 free.length c2) ∧ w.cell? ⟨x, 2, none⟩ = some (.int .i64 n) ∧
    w.frozen? ⟨x, 0, none⟩ = false ∧ w.frozen? ⟨x, 1, none⟩ = false ∧ w.frozen? ⟨x, 2, none⟩ = false := by
  have := h.2.1
  simp [World.cell?, World.frozen?, this]
theorem RefIn.cell (h : RefIn D w x row free va n a1 c1 a2 c2) {i hd : Nat} (hi : row[i]? = some hd) : ∃ g, a1 = some ⟨g, 0, none⟩ ∧ D g ∧ w.cell? ⟨g, i * 2, none⟩ = some (.int .i64 hd) ∧ w.cell? ⟨g, i * 2 + 1, none⟩ = some (.string (va hd)) ∧ w.frozen? ⟨g, i * 2 + 1, none⟩ = false := by
  have hlt : i < row.length := by
    rcases Nat.lt_or_ge i row.length with h | h
    · exact h
    · rw [List.getElem?_eq_none h] at hi; cases hi
  obtain ⟨g, cur, rfl, _, hg, hc⟩ := ownsRow_block h.2.2.1 (by omega)
  obtain ⟨e1, e2⟩ := flat_at (va := va) hi
  exact ⟨g, rfl, h.2.2.2.2.2.2.2.1 g rfl, hc _ _ e1, hc _ _ e2, frozen_of_block hg⟩
theorem split_at {l r : List Nat} {hd : Nat} : (l ++ hd :: r)[l.length]? = some hd := by simp

/-- where a handle stands -/
theorem rat_out (H : RA D w x row free va n) (hd : Int) (ho : ∀ k ∈ row, hd ≠ (k : Nat)) (hn : row.length ≤ 1000000) :
    Calls Try.prog 58 #[.pointer (some ⟨x, 0, none⟩), .int .i64 hd] w fun e w' => e = .returned (.int .i64 (-1)) ∧ w' = w := by
  obtain ⟨a1, c1, a2, c2, H⟩ := H
  obtain ⟨t0, -, -, -⟩ := H.top
  have HO : Hid _ := ho
  clear ho
  go_enter Try.func58, Try.ntmps58
  go_wp2
  go_loop [5] (fun i => ∃ k : Nat, k ≤ row.length ∧ i = .int .i64 k) (fun i => row.length - (intOf i).toNat)
  case atStart => exact ⟨0, Nat.zero_le _, rfl⟩
  case round =>
    obtain ⟨k, hk, rfl⟩ := hrel
    rcases Nat.lt_or_ge k row.length with hlt | hge
    · obtain ⟨y, hy⟩ : ∃ y, row[k]? = some y := ⟨_, List.getElem?_eq_getElem hlt⟩
      obtain ⟨g, rfl, _, d0, -, -⟩ := H.cell hy
      have hne : ¬ ((y : Int) = hd) := fun e => HO.out y (List.mem_of_getElem? hy) e.symm
      clear hy
      go_wp2
      go_round
      case rel => exact ⟨k + 1, hlt, by go_num⟩
      case measure => simp [intOf]; omega
    · go_wp2
      go_ret
      exact ⟨rfl, rfl⟩
theorem rat_in {l r : List Nat} (hd : Nat) (H : RA D w x (l ++ hd :: r) free va n) (ho : hd ∉ l) (hn : (l ++ hd :: r).length ≤ 1000000) :
    Calls Try.prog 58 #[.pointer (some ⟨x, 0, none⟩), .int .i64 hd] w fun e w' => e = .returned (.int .i64 (l.length : Nat)) ∧ w' = w := by
  obtain ⟨a1, c1, a2, c2, H⟩ := H
  obtain ⟨t0, -, -, -⟩ := H.top
  have HO : Hid _ := ho
  obtain ⟨m, hm⟩ : ∃ m, m = (l ++ hd :: r).length := ⟨_, rfl⟩
  rw [← hm] at t0 hn
  have hlm : l.length < m := by rw [hm, List.length_append, List.length_cons]; omega
  clear ho hm
  go_enter Try.func58, Try.ntmps58
  go_wp2
  go_loop [5] (fun i => ∃ k : Nat, k ≤ l.length ∧ i = .int .i64 k) (fun i => l.length - (intOf i).toNat)
  case atStart => exact ⟨0, Nat.zero_le _, rfl⟩
  case round =>
    obtain ⟨k, hk, rfl⟩ := hrel
    rcases Nat.lt_or_ge k l.length with hlt | hge
    · obtain ⟨y, hy⟩ : ∃ y, l[k]? = some y := ⟨_, List.getElem?_eq_getElem hlt⟩
      obtain ⟨g, rfl, _, d0, -, -⟩ := H.cell (i := k) (hd := y) (by rw [List.getElem?_append_left hlt]; exact hy)
      have hne : ¬ ((y : Int) = hd) := fun e => HO.out (by have : y = hd := by omega
                                                           rw [← this]; exact List.mem_of_getElem? hy)
      clear hy
      go_wp2
      go_round
      case rel => exact ⟨k + 1, hlt, by go_num⟩
      case measure => simp [intOf]; omega
    · have hk' : k = l.length := by omega
      subst hk'
      obtain ⟨g, rfl, _, d0, -, -⟩ := H.cell (split_at (l := l) (r := r) (hd := hd))
      go_wp2
      go_ret
      exact ⟨rfl, rfl⟩
theorem place_out (H : RA D w x row free va n) (i : Int) (ho : i < 0 ∨ (row.length : Int) ≤ i) (hn : row.length ≤ 1000000) :
    Calls Try.prog 49 #[.pointer (some ⟨x, 0, none⟩), .int .i64 i] w fun e w' => e = .returned (.int .i64 0) ∧ w' = w := by
  obtain ⟨a1, c1, a2, c2, H⟩ := H
  obtain ⟨t0, -, -, -⟩ := H.top
  clear H
  rcases ho with ho | ho
  · go_enter Try.func49, Try.ntmps49
    go_wp2
    go_ret
    exact ⟨rfl, rfl⟩
  · have h0 : ¬ i < 0 := by omega
    go_enter Try.func49, Try.ntmps49
    go_wp2
    go_ret
    exact ⟨rfl, rfl⟩
theorem place_in (H : RA D w x row free va n) (i : Nat) {hd : Nat} (hi : row[i]? = some hd) :
    Calls Try.prog 49 #[.pointer (some ⟨x, 0, none⟩), .int .i64 i] w fun e w' => e = .returned (.int .i64 hd) ∧ w' = w := by
  have hlt : i < row.length := by
    rcases Nat.lt_or_ge i row.length with h | h
    · exact h
    · rw [List.getElem?_eq_none h] at hi; cases hi
  obtain ⟨a1, c1, a2, c2, H⟩ := H
  obtain ⟨t0, -, -, -⟩ := H.top
  obtain ⟨g, rfl, _, d0, -, -⟩ := H.cell hi
  clear H hi
  go_enter Try.func49, Try.ntmps49
  go_wp2
  go_ret
  exact ⟨rfl, rfl⟩
def plc (row : List Nat) (j : Int) : Nat := if j < 0 then 0 else row.getD j.toNat 0
theorem place_any (H : RA D w x row free va n) (j : Int) (hn : row.length ≤ 1000000) :
    Calls Try.prog 49 #[.pointer (some ⟨x, 0, none⟩), .int .i64 j] w fun e w' => e = .returned (.int .i64 (plc row j : Nat)) ∧ w' = w := by
  by_cases h0 : j < 0
  · rw [show plc row j = 0 by simp [plc, h0]]
    exact place_out H j (.inl h0) hn
  · by_cases h1 : (row.length : Int) ≤ j
    · rw [show plc row j = 0 by simp only [plc, h0, if_false, List.getD, List.getElem?_eq_none (show row.length ≤ j.toNat by omega), Option.getD_none]]
      exact place_out H j (.inr h1) hn
    · obtain ⟨i, rfl⟩ : ∃ i : Nat, j = i := ⟨j.toNat, by omega⟩
      have hi : row[i]? = some (row[i]'(by omega)) := List.getElem?_eq_getElem (by omega)
      have e : plc row (i : Int) = row[i]'(by omega) := by
        have : ¬ ((i : Int) < 0) := by omega
        simp only [plc, this, if_false, Int.toNat_natCast, List.getD, hi, Option.getD_some]
      rw [e]
      exact place_in H i hi
theorem plc_front (row : List Nat) : plc row 0 = hdOf row := by
  cases row <;> simp [plc, hdOf]
theorem plc_back (row : List Nat) : plc row ((row.length : Int) - 1) = lsOf row := by
  rcases List.eq_nil_or_concat row with e | ⟨l', y, e⟩
  · subst e; rfl
  · subst e
    rw [List.concat_eq_append, lsOf_concat]
    have h : ¬ (((l' ++ [y]).length : Int) - 1 < 0) := by simp
    have h2 : (((l' ++ [y]).length : Int) - 1).toNat = l'.length := by simp
    simp only [plc, h, if_false, h2]
    simp
theorem plc_next (l r : List Nat) (hd : Nat) : plc (l ++ hd :: r) ((l.length : Int) + 1) = hdOf r := by
  have h : ¬ ((l.length : Int) + 1 < 0) := by omega
  have h2 : ((l.length : Int) + 1).toNat = l.length + 1 := by omega
  simp only [plc, h, if_false, h2]
  cases r <;> simp [hdOf, List.getD]
theorem plc_prev (l r : List Nat) (hd : Nat) : plc (l ++ hd :: r) ((l.length : Int) - 1) = lsOf l := by
  rcases List.eq_nil_or_concat l with e | ⟨l', y, e⟩
  · subst e; rfl
  · subst e
    rw [List.concat_eq_append, lsOf_concat]
    have h : ¬ (((l' ++ [y]).length : Int) - 1 < 0) := by simp
    have h2 : (((l' ++ [y]).length : Int) - 1).toNat = l'.length := by simp
    simp only [plc, h, if_false, h2, List.append_assoc]
    simp
theorem rfront_any (H : RA D w x row free va n) (hn : row.length ≤ 1000000) : Calls Try.prog 13 #[.pointer (some ⟨x, 0, none⟩)] w fun e w' => e = .returned (.int .i64 (hdOf row : Nat)) ∧ w' = w := by
  rw [← plc_front]
  go_enter Try.func13, Try.ntmps13
  go_wp2_with (go_at_call 49; refine (place_any H 0 hn).mono ?_; rintro e w1 ⟨rfl, rfl⟩)
  go_ret
  exact ⟨rfl, rfl⟩
theorem rback_any (H : RA D w x row free va n) (hn : row.length ≤ 1000000) : Calls Try.prog 15 #[.pointer (some ⟨x, 0, none⟩)] w fun e w' => e = .returned (.int .i64 (lsOf row : Nat)) ∧ w' = w := by
  rw [← plc_back]
  have H0 := H
  obtain ⟨a1, c1, a2, c2, H1⟩ := H0
  obtain ⟨t0, -, -, -⟩ := H1.top
  clear H1
  go_enter Try.func15, Try.ntmps15
  go_wp2_with (go_at_call 49; refine (place_any H ((row.length : Int) - 1) hn).mono ?_; rintro e w1 ⟨rfl, rfl⟩)
  go_ret
  exact ⟨rfl, rfl⟩
theorem rnext_out (H : RA D w x row free va n) (hd : Int) (ho : ∀ k ∈ row, hd ≠ (k : Nat)) (hn : row.length ≤ 1000000) :
    Calls Try.prog 47 #[.pointer (some ⟨x, 0, none⟩), .int .i64 hd] w fun e w' => e = .returned (.int .i64 0) ∧ w' = w := by
  have ha := rat_out H hd ho hn
  clear H ho
  go_enter Try.func47, Try.ntmps47
  go_wp2_with (go_at_call 58; refine ha.mono ?_; rintro e w1 ⟨rfl, rfl⟩; clear ha)
  go_ret
  exact ⟨rfl, rfl⟩
theorem rprev_out (H : RA D w x row free va n) (hd : Int) (ho : ∀ k ∈ row, hd ≠ (k : Nat)) (hn : row.length ≤ 1000000) :
    Calls Try.prog 48 #[.pointer (some ⟨x, 0, none⟩), .int .i64 hd] w fun e w' => e = .returned (.int .i64 0) ∧ w' = w := by
  have ha := rat_out H hd ho hn
  clear H ho
  go_enter Try.func48, Try.ntmps48
  go_wp2_with (go_at_call 58; refine ha.mono ?_; rintro e w1 ⟨rfl, rfl⟩; clear ha)
  go_ret
  exact ⟨rfl, rfl⟩
theorem rget_out (H : RA D w x row free va n) (hd : Int) (ho : ∀ k ∈ row, hd ≠ (k : Nat)) (hn : row.length ≤ 1000000) :
    Calls Try.prog 46 #[.pointer (some ⟨x, 0, none⟩), .int .i64 hd] w fun e w' => e = .returned (.tuple #[.string ⟨#[]⟩, .bool false]) ∧ w' = w := by
  have ha := rat_out H hd ho hn
  clear H ho
  go_enter Try.func46, Try.ntmps46
  go_wp2_with (go_at_call 58; refine ha.mono ?_; rintro e w1 ⟨rfl, rfl⟩; clear ha)
  go_ret2
  exact ⟨rfl, rfl⟩
theorem rset_out (H : RA D w x row free va n) (hd : Int) (v : ByteArray) (ho : ∀ k ∈ row, hd ≠ (k : Nat)) (hn : row.length ≤ 1000000) :
    Calls Try.prog 43 #[.pointer (some ⟨x, 0, none⟩), .int .i64 hd, .string v] w fun e w' => e = .returned (.bool false) ∧ w' = w := by
  have ha := rat_out H hd ho hn
  clear H ho
  go_enter Try.func43, Try.ntmps43
  go_wp2_with (go_at_call 58; refine ha.mono ?_; rintro e w1 ⟨rfl, rfl⟩; clear ha)
  go_ret
  exact ⟨rfl, rfl⟩
theorem rremove_out (H : RA D w x row free va n) (hd : Int) (ho : ∀ k ∈ row, hd ≠ (k : Nat)) (hn : row.length ≤ 1000000) :
    Calls Try.prog 42 #[.pointer (some ⟨x, 0, none⟩), .int .i64 hd] w fun e w' => e = .returned (.tuple #[.string ⟨#[]⟩, .bool false]) ∧ w' = w := by
  have ha := rat_out H hd ho hn
  clear H ho
  go_enter Try.func42, Try.ntmps42
  go_wp2_with (go_at_call 58; refine ha.mono ?_; rintro e w1 ⟨rfl, rfl⟩; clear ha)
  go_ret2
  exact ⟨rfl, rfl⟩
theorem rtoFront_out (H : RA D w x row free va n) (hd : Int) (ho : ∀ k ∈ row, hd ≠ (k : Nat)) (hn : row.length ≤ 1000000) :
    Calls Try.prog 44 #[.pointer (some ⟨x, 0, none⟩), .int .i64 hd] w fun e w' => e = .returned (.bool false) ∧ w' = w := by
  have ha := rat_out H hd ho hn
  clear H ho
  go_enter Try.func44, Try.ntmps44
  go_wp2_with (go_at_call 58; refine ha.mono ?_; rintro e w1 ⟨rfl, rfl⟩; clear ha)
  go_ret
  exact ⟨rfl, rfl⟩
theorem rtoBack_out (H : RA D w x row free va n) (hd : Int) (ho : ∀ k ∈ row, hd ≠ (k : Nat)) (hn : row.length ≤ 1000000) :
    Calls Try.prog 45 #[.pointer (some ⟨x, 0, none⟩), .int .i64 hd] w fun e w' => e = .returned (.bool false) ∧ w' = w := by
  have ha := rat_out H hd ho hn
  clear H ho
  go_enter Try.func45, Try.ntmps45
  go_wp2_with (go_at_call 58; refine ha.mono ?_; rintro e w1 ⟨rfl, rfl⟩; clear ha)
  go_ret
  exact ⟨rfl, rfl⟩
theorem rnext_in {l r : List Nat} (hd : Nat) (H : RA D w x (l ++ hd :: r) free va n) (ho : hd ∉ l) (hn : (l ++ hd :: r).length ≤ 1000000) :
    Calls Try.prog 47 #[.pointer (some ⟨x, 0, none⟩), .int .i64 hd] w fun e w' => e = .returned (.int .i64 (hdOf r : Nat)) ∧ w' = w := by
  have hl : l.length ≤ 1000000 := by rw [List.length_append] at hn; omega
  rw [← plc_next l r hd]
  go_enter Try.func47, Try.ntmps47
  go_wp2_with (first
    | (go_at_call 58; refine (rat_in hd H ho hn).mono ?_; rintro e w1 ⟨rfl, rfl⟩)
    | (go_at_call 49; refine (place_any H ((l.length : Int) + 1) hn).mono ?_; rintro e w1 ⟨rfl, rfl⟩))
  go_ret
  exact ⟨rfl, rfl⟩
theorem rprev_in {l r : List Nat} (hd : Nat) (H : RA D w x (l ++ hd :: r) free va n) (ho : hd ∉ l) (hn : (l ++ hd :: r).length ≤ 1000000) :
    Calls Try.prog 48 #[.pointer (some ⟨x, 0, none⟩), .int .i64 hd] w fun e w' => e = .returned (.int .i64 (lsOf l : Nat)) ∧ w' = w := by
  have hl : l.length ≤ 1000000 := by rw [List.length_append] at hn; omega
  rw [← plc_prev l r hd]
  go_enter Try.func48, Try.ntmps48
  go_wp2_with (first
    | (go_at_call 58; refine (rat_in hd H ho hn).mono ?_; rintro e w1 ⟨rfl, rfl⟩)
    | (go_at_call 49; refine (place_any H ((l.length : Int) - 1) hn).mono ?_; rintro e w1 ⟨rfl, rfl⟩))
  go_ret
  exact ⟨rfl, rfl⟩
theorem rget_in {l r : List Nat} (hd : Nat) (H : RA D w x (l ++ hd :: r) free va n) (ho : hd ∉ l) (hn : (l ++ hd :: r).length ≤ 1000000) :
    Calls Try.prog 46 #[.pointer (some ⟨x, 0, none⟩), .int .i64 hd] w fun e w' => e = .returned (.tuple #[.string (va hd), .bool true]) ∧ w' = w := by
  have hl : l.length ≤ 1000000 := by rw [List.length_append] at hn; omega
  have hlt : l.length < (l ++ hd :: r).length := by rw [List.length_append, List.length_cons]; omega
  have ha := rat_in hd H ho hn
  obtain ⟨a1, c1, a2, c2, H⟩ := H
  obtain ⟨t0, -, -, -⟩ := H.top
  obtain ⟨g, rfl, _, d0, d1, d2⟩ := H.cell (split_at (l := l) (r := r) (hd := hd))
  clear H
  generalize (l ++ hd :: r).length = m at *
  go_enter Try.func46, Try.ntmps46
  go_wp2_with (go_at_call 58; refine ha.mono ?_; rintro e w1 ⟨rfl, rfl⟩; clear ha)
  go_ret2
  exact ⟨rfl, rfl⟩
/-- a store into its row -/
theorem flat_set {row : List Nat} {va : Nat → ByteArray} {i hd : Nat} {v : ByteArray} (hnd : row.Nodup) (hi : row[i]? = some hd) : (flat row va).set (i * 2 + 1) (.string v) = flat row (upd va hd v) := by
  induction row generalizing i with
  | nil => simp at hi
  | cons y r ih =>
    have e : ∀ va, flat (y :: r) va = Value.int .i64 (y : Nat) :: Value.string (va y) :: flat r va := fun _ => rfl
    rw [List.nodup_cons] at hnd
    cases i with
    | zero =>
      simp at hi
      subst hi
      rw [e, e, upd_same, flat_congr (va' := upd va y v) (fun z hz => (upd_far _ _ (by rintro rfl; exact hnd.1 hz)).symm)]
      rfl
    | succ j =>
      have hi' : r[j]? = some hd := by simpa using hi
      have hne : y ≠ hd := by rintro rfl; exact hnd.1 (List.mem_of_getElem? hi')
      rw [e, e, upd_far _ _ hne, ← ih hnd.2 hi', show (j + 1) * 2 + 1 = j * 2 + 1 + 1 + 1 by omega]
      rfl
theorem RefIn.setCell {g i hd : Nat} (h : RefIn D w x row free va n (some ⟨g, 0, none⟩) c1 a2 c2) (hnd : row.Nodup) (hi : row[i]? = some hd) (v : ByteArray) :
    RefIn D (w.setCell ⟨g, i * 2 + 1, none⟩ (.string v)) x row free (upd va hd v) n (some ⟨g, 0, none⟩) c1 a2 c2 := by
  obtain ⟨h1, h2, h3, h4, h5, h6, h7, h8, h9⟩ := h
  refine ⟨h1, ?_, ?_, ?_, h5, h6, h7, h8, h9⟩
  · rw [Below.heap_setCell _ _ _ _ (by rintro rfl; exact h5 rfl)]
    exact h2
  · rw [← flat_set hnd hi]
    exact ownsRow_setCell h3
  · exact ownsRow_setCell_far h4 (h7 g rfl)
theorem rset_in {l r : List Nat} (hd : Nat) (v : ByteArray) (H : RA D w x (l ++ hd :: r) free va n) (hnd : (l ++ hd :: r).Nodup) (hn : (l ++ hd :: r).length ≤ 1000000) :
    Calls Try.prog 43 #[.pointer (some ⟨x, 0, none⟩), .int .i64 hd, .string v] w fun e w' => e = .returned (.bool true) ∧ RA D w' x (l ++ hd :: r) free (upd va hd v) n ∧ Keeps D w w' := by
  have ho : hd ∉ l := by
    rw [nodup_middle, List.nodup_cons] at hnd
    intro e
    exact hnd.1 (by simp [e])
  have hl : l.length ≤ 1000000 := by rw [List.length_append] at hn; omega
  have hlt : l.length < (l ++ hd :: r).length := by rw [List.length_append, List.length_cons]; omega
  have ha := rat_in hd H ho hn
  obtain ⟨a1, c1, a2, c2, H⟩ := H
  obtain ⟨t0, -, -, -⟩ := H.top
  obtain ⟨g, rfl, hg, d0, d1, d2⟩ := H.cell (split_at (l := l) (r := r) (hd := hd))
  have H2 := H.setCell hnd (split_at (l := l) (r := r) (hd := hd)) v
  clear H hnd ho
  generalize hm : (l ++ hd :: r).length = m at t0 hlt hn
  clear hm
  go_enter Try.func43, Try.ntmps43
  go_wp2_with (go_at_call 58; refine ha.mono ?_; rintro e w1 ⟨rfl, rfl⟩; clear ha)
  go_ret
  exact ⟨rfl, ⟨_, _, _, _, H2⟩, (Keeps.refl D _).setCell hg _⟩
set_option maxHeartbeats 1000000 in
theorem rall_any (H : RA D w x row free va n) (hn : row.length ≤ 1000000) :
    Calls Try.prog 18 #[.pointer (some ⟨x, 0, none⟩)] w fun e w' => ∃ ad cap, e = .returned (.slice ad row.length cap) ∧ TextsAt w' ad (row.map va) ∧ Below w.heap.size w w' := by
  obtain ⟨i0, hi, hz0, hz1, hz2⟩ := info_parts Try.info9
  obtain ⟨a1, c1, a2, c2, H⟩ := H
  go_enter Try.func18, Try.ntmps18
  go_wp2
  go_loopw [3, 4] (fun v i wr => ∃ k ad cap, k ≤ row.length ∧ v = .slice ad k cap ∧ i = .int .i64 (k : Nat) ∧ wr.ownsRow w.heap.size 9 1 (.slice ad k cap) k (((row.take k).map va).map Value.string) ∧ Below w.heap.size w wr) (fun _ i _ => row.length - (intOf i).toNat)
  case atStart => exact ⟨0, none, 0, Nat.zero_le _, rfl, rfl, World.ownsRow_nil _ _ _ _, Below.refl _ _⟩
  case round =>
    obtain ⟨k, ad1, cap1, hk, rfl, rfl, hown, hb⟩ := hrel
    have Hr := H.kept (D' := fun _ => False) (Keeps.of_below hb) (fun _ _ h => h)
    obtain ⟨t0, -, -, -⟩ := Hr.top
    have hW := hb.size
    rcases Nat.lt_or_ge k row.length with hlt | hge
    · obtain ⟨y, hy⟩ : ∃ y, row[k]? = some y := ⟨_, List.getElem?_eq_getElem hlt⟩
      obtain ⟨g, rfl, _, d0, d1, d2⟩ := Hr.cell hy
      have ht : row.take (k + 1) = row.take k ++ [y] := by rw [List.take_add_one, hy]; rfl
      have HT : Hid _ := ht
      clear Hr hy ht
      go_wp2_with (at_builtin; go_must (refine wpList_append_from _ rfl _ _ 36 rfl w.heap.size 9 i0 _ 1 16 Try.underlying36 hi hz0 hz1 hz2 rfl (by omega) (.slice ad1 k cap1) k _ rfl (hown.alloc _) _ 1 1 _ rfl (one_new _ _ 9 rfl) (by unfold maxLen; omega) (by omega) (by simp <;> omega) ?_); intro ad2 cap2 w2 hc2 hown2 hgrow2 hat2)
      go_roundw
      case rel =>
        refine ⟨k + 1, ad2, cap2, hlt, rfl, by go_num, ?_, (hb.alloc hW _).grown hgrow2 (by simp <;> omega) (fun k e => (hown.lt k e).1)⟩
        rw [HT.out, List.map_append, List.map_append]
        exact hown2
      case measure => simp [intOf]; omega
    · have hk' : k = row.length := by omega
      subst hk'
      rw [List.take_length] at hown
      go_wp2
      go_ret
      exact ⟨_, _, rfl, TextsAt.own hown, hb⟩
end
end Go.Proofs.Ytgpjdcoikbmciaa
