/- The document's rows: where a key stands, a row without a key. The document's machine in memory: its struct, its four rows, each in blocks of its own. The document's machine: Len, Room, Has, goes. The document's machine: who goes; replace. -/
import Derived.Test.YtfbdmoineahfgaaDoorTx
import Derived.Test.YtfbdmoineahfgaaDoorPure
import Derived.Test.YtfbdmoineahfgaaDoorBs
namespace Go.Proofs.YtfbdmoineahfgaaDoor
open Go.RowKit

theorem bytes_beq (x y : ByteArray) : (x.toList == y.toList) = decide (x = y) := by
  by_cases h : x = y
  · subst h; simp
  · have : ¬ x.toList = y.toList := by
      intro e
      rw [ByteArray.toList_eq, ByteArray.toList_eq] at e
      apply h
      cases x
      cases y
      congr
      exact Array.toList_inj.1 e
    simp [h, this]
/-- where a key stands; -1: nowhere -/
def idx (zs : List ByteArray) (k : ByteArray) : Int := match zs.findIdx? (fun z => decide (z = k)) with
  | some i => (i : Nat)
  | none => -1
theorem idx_yes {zs : List ByteArray} {k : ByteArray} {i : Nat} (h : zs[i]? = some k) (hn : ∀ j, j < i → zs[j]? ≠ some k) : idx zs k = (i : Nat) := by
  have hi := lt_of_at h
  have : zs.findIdx? (fun z => decide (z = k)) = some i := by
    rw [List.findIdx?_eq_some_iff_getElem]
    refine ⟨hi, ?_, ?_⟩
    · rw [List.getElem?_eq_getElem hi] at h
      simpa using h
    · intro j hj
      have := hn j hj
      rw [List.getElem?_eq_getElem (by omega)] at this
      simpa using this
  unfold idx
  rw [this]
theorem idx_no {zs : List ByteArray} {k : ByteArray} (h : k ∉ zs) : idx zs k = -1 := by
  have : zs.findIdx? (fun z => decide (z = k)) = none := by
    rw [List.findIdx?_eq_none_iff]
    intro z hz
    simp
    rintro rfl
    exact h hz
  unfold idx
  rw [this]
theorem idx_mem {zs : List ByteArray} {k : ByteArray} (h : k ∈ zs) : 0 ≤ idx zs k := by
  have : (zs.findIdx? (fun z => decide (z = k))).isSome = true := by
    rw [List.findIdx?_isSome]
    simpa using h
  obtain ⟨i, hi⟩ := Option.isSome_iff_exists.1 this
  unfold idx
  rw [hi]
  simp
theorem idx_le (zs : List ByteArray) (k : ByteArray) : -1 ≤ idx zs k := by
  unfold idx
  split <;> omega
theorem rrow_old {B : Nat} {w w' : World} {ad : Option Addr} {cap : Nat} {zs : List ByteArray} (h : Row (fun g => B ≤ g ∨ w.heap.size ≤ g) w' ad cap zs) (hB : B ≤ w.heap.size) : Row (B ≤ ·) w' ad cap zs := h.wide (fun g _ h => by
  show B ≤ g
  rcases h with h | h
  · exact h
  · omega)
section
variable {D : Nat → Prop} {w : World} {ad : Option Addr} {cap : Nat} {zs : List ByteArray}
set_option maxHeartbeats 1000000 in
theorem rhas_any (H : Row D w ad cap zs) (hn : zs.length ≤ 1000000) (k : ByteArray) :
    Calls Tryd.prog 60 #[.slice ad zs.length cap, .string k] w fun e w' => e = .returned (.int .i64 (idx zs k)) ∧ w' = w := by
  have HH : Hid (Row D w ad cap zs) := H
  clear H
  go_enter Tryd.func60, Tryd.ntmps60
  go_wp2
  go_loop [5] (fun i => ∃ j : Nat, j ≤ zs.length ∧ i = .int .i64 j ∧ Hid (∀ m, m < j → zs[m]? ≠ some k)) (fun i => zs.length - (intOf i).toNat)
  case atStart => exact ⟨0, Nat.zero_le _, rfl, fun m hm => by omega⟩
  case round =>
    obtain ⟨j, hj, rfl, hno⟩ := hrel
    rcases Nat.lt_or_ge j zs.length with hlt | hge
    · obtain ⟨z, hz⟩ : ∃ z, zs[j]? = some z := ⟨_, List.getElem?_eq_getElem hlt⟩
      obtain ⟨g, off, rfl, -, c0, -⟩ := HH.out.at hz
      have HZ : Hid (zs[j]? = some z) := hz
      clear hz
      by_cases he : z = k
      · have hE : (z.toList == k.toList) = true := by rw [bytes_beq, decide_eq_true he]
        have HE : Hid (z = k) := he
        clear he
        go_wp2
        go_ret
        exact ⟨ret_int (idx_yes (by rw [← HE.out]; exact HZ.out) hno.out).symm, rfl⟩
      · have hE : (z.toList == k.toList) = false := by rw [bytes_beq, decide_eq_false he]
        have HE : Hid (¬ z = k) := he
        clear he
        go_wp2
        go_round
        case rel =>
          refine ⟨j + 1, hlt, by go_num, fun m hm => ?_⟩
          rcases Nat.lt_or_ge m j with h | h
          · exact hno.out m h
          · rw [show m = j by omega, HZ.out]
            exact fun e => HE.out (by cases e; rfl)
        case measure => simp [intOf]; omega
    · have hj' : j = zs.length := by omega
      subst hj'
      go_wp2
      go_ret
      refine ⟨ret_int (idx_no (fun hm => ?_)).symm, rfl⟩
      obtain ⟨m, hm1, hm2⟩ := List.getElem_of_mem hm
      exact hno.out m hm1 (by rw [List.getElem?_eq_getElem hm1, hm2])
theorem rcut_no {zs : List ByteArray} {k : ByteArray} {j : Nat} (h : zs[j]? = some k) : A.cut (zs.take (j + 1)) k = A.cut (zs.take j) k := by
  rw [List.take_add_one, h]
  simp [A.cut]
theorem rcut_yes {zs : List ByteArray} {k z : ByteArray} {j : Nat} (h : zs[j]? = some z) (hz : z ≠ k) : A.cut (zs.take (j + 1)) k = A.cut (zs.take j) k ++ [z] := by
  rw [List.take_add_one, h]
  simp [A.cut, hz]
theorem rcut_len (zs : List ByteArray) (k : ByteArray) (j : Nat) : (A.cut (zs.take j) k).length ≤ zs.length := by
  have h1 := A.length_cut_le (zs.take j) k
  have h2 : (zs.take j).length ≤ zs.length := by simp; omega
  omega
set_option maxHeartbeats 2000000 in
theorem rcut_any (H : Row D w ad cap zs) (hn : zs.length ≤ 10000) (k : ByteArray) :
    Calls Tryd.prog 59 #[.slice ad zs.length cap, .string k] w fun e w' => ∃ ad' cap', e = .returned (.slice ad' (A.cut zs k).length cap') ∧ Row (w.heap.size ≤ ·) w' ad' cap' (A.cut zs k) ∧ Below w.heap.size w w' := by
  have HH : Hid (Row D w ad cap zs) := H
  clear H
  go_enter Tryd.func59, Tryd.ntmps59
  go_wp2
  go_loopw [5, 6] (fun v i wr => ∃ (j : Nat) (a2 : Option Addr) (c2 : Nat), j ≤ zs.length ∧ i = .int .i64 j ∧ v = .slice a2 (A.cut (zs.take j) k).length c2 ∧ Row (w.heap.size ≤ ·) wr a2 c2 (A.cut (zs.take j) k) ∧ Below w.heap.size w wr) (fun _ i _ => zs.length - (intOf i).toNat)
  case atStart => exact ⟨0, none, 0, Nat.zero_le _, rfl, rfl, Row.nil, Below.refl _ _⟩
  case round =>
    obtain ⟨j, a2, c2, hj, rfl, rfl, hrow, hb⟩ := hrel
    have hs := hb.size
    have hcl := rcut_len zs k j
    rcases Nat.lt_or_ge j zs.length with hlt | hge
    · obtain ⟨z, hz⟩ : ∃ z, zs[j]? = some z := ⟨_, List.getElem?_eq_getElem hlt⟩
      obtain ⟨g, off, rfl, -, c0, -⟩ := (HH.out.below hb).at hz
      have HY : Hid (z ≠ k → A.cut (zs.take (j + 1)) k = A.cut (zs.take j) k ++ [z]) := rcut_yes hz
      have HX : Hid (z = k → A.cut (zs.take (j + 1)) k = A.cut (zs.take j) k) := fun e => rcut_no (e ▸ hz)
      clear hz
      generalize A.cut (zs.take j) k = m at *
      by_cases he : z = k
      · have hE : (z.toList == k.toList) = true := by rw [bytes_beq, decide_eq_true he]
        have HE := HX.out he
        have HF : Hid (A.cut (zs.take (j + 1)) k = m) := HE
        clear HX HY he HE
        go_wp2_with fail
        go_roundw
        case rel => exact ⟨j + 1, a2, c2, hlt, by go_num, by rw [HF.out], by rw [HF.out]; exact hrow, hb⟩
        case measure => simp [intOf]; omega
      · have hE : (z.toList == k.toList) = false := by rw [bytes_beq, decide_eq_false he]
        have HE := HY.out he
        have HF : Hid (A.cut (zs.take (j + 1)) k = m ++ [z]) := HE
        clear HX HY he HE
        go_wp2_with (at_builtin; go_must (refine wpList_append_row (ks := [z]) rfl _ _ rfl rfl (hrow.below ((Below.refl _ wr).alloc (Nat.le_refl _) _)) rfl (src_one _ z) (by simp; omega) ?_); intro a3 c3 w3 hrow3 hk3; have hb3 : Below w.heap.size w w3 := (hb.alloc hs _).trans (hk3.below (by simp; omega) (fun _ h => h)); have hrow3' : Row (w.heap.size ≤ ·) w3 a3 c3 (m ++ [z]) := rrow_old hrow3 (by simp; omega); clear hrow3 hk3)
        go_roundw
        case rel => exact ⟨j + 1, a3, c3, hlt, by go_num, by rw [HF.out]; simp, by rw [HF.out]; exact hrow3', hb3⟩
        case measure => simp [intOf]; omega
    · have hj' : j = zs.length := by omega
      subst hj'
      rw [List.take_length] at *
      go_wp2_with fail
      go_ret
      exact ⟨_, _, rfl, hrow, hb⟩
end
end Go.Proofs.YtfbdmoineahfgaaDoor
namespace Go.Proofs.YtfbdmoineahfgaaDoor
open Go.RowKit

/-- the struct's cells -/
def eng (s : Stt) (a1 : Option Addr) (c1 : Nat) (a2 : Option Addr) (c2 : Nat) (a3 : Option Addr) (c3 : Nat) (a4 : Option Addr) (c4 : Nat) : Array Value :=
  #[.slice a1 s.t1.length c1, .slice a2 s.t2.length c2, .slice a3 s.b1.length c3, .slice a4 s.b2.length c4, .int .i64 (s.p : Nat), .int .i64 (s.c : Nat)]
/-- the struct at x and its rows; L tells whose a block is: 0 the struct's, 1 to 4 the rows' -/
structure ReIn (D : Nat → Prop) (L : Nat → Nat) (w : World) (x : Nat) (s : Stt) (a1 : Option Addr) (c1 : Nat) (a2 : Option Addr) (c2 : Nat) (a3 : Option Addr) (c3 : Nat) (a4 : Option Addr) (c4 : Nat) : Prop where
  dx : D x
  lx : L x = 0
  top : w.heap[x]? = some (.cells (eng s a1 c1 a2 c2 a3 c3 a4 c4) 61 (0, 0))
  r1 : Row (fun g => D g ∧ L g = 1) w a1 c1 s.t1
  r2 : Row (fun g => D g ∧ L g = 2) w a2 c2 s.t2
  r3 : Row (fun g => D g ∧ L g = 3) w a3 c3 s.b1
  r4 : Row (fun g => D g ∧ L g = 4) w a4 c4 s.b2
/-- new blocks are row i's -/
def lab (L : Nat → Nat) (n i : Nat) : Nat → Nat := fun g => if g < n then L g else i
theorem lab_old {L : Nat → Nat} {n i g : Nat} (h : g < n) : lab L n i g = L g := by simp [lab, h]
theorem lab_new {L : Nat → Nat} {n i g : Nat} (h : n ≤ g) : lab L n i g = i := by simp [lab, show ¬ g < n by omega]
theorem Row.kept2 {D D' : Nat → Prop} {w w' : World} {ad : Option Addr} {cap : Nat} {zs : List ByteArray} (h : Row D w ad cap zs) (hk : Keeps D' w w') (hd : ∀ k, k < w.heap.size → D k → ¬ D' k) : Row D w' ad cap zs :=
  (h.narrow.kept hk (fun k e => hd k e.2 e.1)).wide (fun _ _ e => e.1)
section
variable {D D' : Nat → Prop} {L : Nat → Nat} {w w' : World} {x : Nat} {s : Stt} {a1 a2 a3 a4 a : Option Addr} {c1 c2 c3 c4 c : Nat} {zs : List ByteArray}
theorem ReIn.cells (H : ReIn D L w x s a1 c1 a2 c2 a3 c3 a4 c4) :
    w.cell? ⟨x, 0, none⟩ = some (.slice a1 s.t1.length c1) ∧ w.cell? ⟨x, 1, none⟩ = some (.slice a2 s.t2.length c2) ∧ w.cell? ⟨x, 2, none⟩ = some (.slice a3 s.b1.length c3) ∧ w.cell? ⟨x, 3, none⟩ = some (.slice a4 s.b2.length c4) ∧
    w.cell? ⟨x, 4, none⟩ = some (.int .i64 (s.p : Nat)) ∧ w.cell? ⟨x, 5, none⟩ = some (.int .i64 (s.c : Nat)) := by
  have h := H.top
  refine ⟨?_, ?_, ?_, ?_, ?_, ?_⟩ <;> (rw [cell_of_block h]; rfl)
theorem ReIn.thaw (H : ReIn D L w x s a1 c1 a2 c2 a3 c3 a4 c4) :
    w.frozen? ⟨x, 0, none⟩ = false ∧ w.frozen? ⟨x, 1, none⟩ = false ∧ w.frozen? ⟨x, 2, none⟩ = false ∧ w.frozen? ⟨x, 3, none⟩ = false ∧ w.frozen? ⟨x, 4, none⟩ = false ∧ w.frozen? ⟨x, 5, none⟩ = false :=
  ⟨frozen_of_block H.top, frozen_of_block H.top, frozen_of_block H.top, frozen_of_block H.top, frozen_of_block H.top, frozen_of_block H.top⟩
theorem ReIn.kept (H : ReIn D L w x s a1 c1 a2 c2 a3 c3 a4 c4) (hk : Keeps D' w w') (hd : ∀ k, D k → ¬ D' k) : ReIn D L w' x s a1 c1 a2 c2 a3 c3 a4 c4 :=
  ⟨H.dx, H.lx, (hk.block x (lt_of_block H.top) (hd _ H.dx)).trans H.top, H.r1.kept hk (fun k h => hd k h.1), H.r2.kept hk (fun k h => hd k h.1), H.r3.kept hk (fun k h => hd k h.1), H.r4.kept hk (fun k h => hd k h.1)⟩
theorem ReIn.below (H : ReIn D L w x s a1 c1 a2 c2 a3 c3 a4 c4) (hb : Below w.heap.size w w') : ReIn D L w' x s a1 c1 a2 c2 a3 c3 a4 c4 := H.kept (D' := fun _ => False) (.of_below hb) (fun _ _ e => e)
theorem ReIn.wide (H : ReIn D L w x s a1 c1 a2 c2 a3 c3 a4 c4) (hD : ∀ k, k < w.heap.size → D k → D' k) : ReIn D' L w x s a1 c1 a2 c2 a3 c3 a4 c4 :=
  ⟨hD _ (lt_of_block H.top) H.dx, H.lx, H.top, H.r1.wide (fun k a h => ⟨hD k a h.1, h.2⟩), H.r2.wide (fun k a h => ⟨hD k a h.1, h.2⟩), H.r3.wide (fun k a h => ⟨hD k a h.1, h.2⟩), H.r4.wide (fun k a h => ⟨hD k a h.1, h.2⟩)⟩
/-- p is another number -/
theorem ReIn.setP (H : ReIn D L w x s a1 c1 a2 c2 a3 c3 a4 c4) (p : Nat) : ReIn D L (w.setCell ⟨x, 4, none⟩ (.int .i64 (p : Nat))) x { s with p := p } a1 c1 a2 c2 a3 c3 a4 c4 := by
  have hk : Keeps (fun k => k = x) w (w.setCell ⟨x, 4, none⟩ (.int .i64 (p : Nat))) := Keeps.setCell (D := fun k => k = x) (Keeps.refl _ w) (p := ⟨x, 4, none⟩) rfl _
  have ne : ∀ i : Nat, i ≠ 0 → ∀ k, (D k ∧ L k = i) → ¬ k = x := fun i hi k h e => by subst e; have := H.lx; omega
  exact ⟨H.dx, H.lx, by rw [block_setCell H.top]; rfl, H.r1.kept hk (ne 1 (by omega)), H.r2.kept hk (ne 2 (by omega)), H.r3.kept hk (ne 3 (by omega)), H.r4.kept hk (ne 4 (by omega))⟩
/-- row 1 is another one -/
theorem ReIn.put1 (H : ReIn D L w x s a1 c1 a2 c2 a3 c3 a4 c4) (hD : ∀ k, w.heap.size ≤ k → D k) (hk : Keeps (fun g => D g ∧ L g = 1) w w') (hr : Row (fun g => (D g ∧ L g = 1) ∨ w.heap.size ≤ g) w' a c zs) :
    ReIn D (lab L w.heap.size 1) (w'.setCell ⟨x, 0, none⟩ (.slice a zs.length c)) x { s with t1 := zs } a c a2 c2 a3 c3 a4 c4 := by
  have hxl := lt_of_block H.top
  have lx : lab L w.heap.size 1 x = 0 := by rw [lab_old hxl]; exact H.lx
  have hx : Keeps (fun k => k = x) w' (w'.setCell ⟨x, 0, none⟩ (.slice a zs.length c)) := Keeps.setCell (D := fun k => k = x) (Keeps.refl _ w') (p := ⟨x, 0, none⟩) rfl _
  have ne : ∀ i' : Nat, i' ≠ 0 → ∀ k, (D k ∧ lab L w.heap.size 1 k = i') → ¬ k = x := fun i' hi k h e => by subst e; omega
  have top := (hk.block x hxl (fun h => by have := H.lx; omega)).trans H.top
  have hr2 : Row (fun g => D g ∧ lab L w.heap.size 1 g = 1) (w'.setCell ⟨x, 0, none⟩ (.slice a zs.length c)) a c zs := (hr.wide (D' := fun g => D g ∧ lab L w.heap.size 1 g = 1) (fun g _ h => by
    rcases Nat.lt_or_ge g w.heap.size with hg | hg
    · rw [lab_old hg]
      rcases h with h | h
      · exact h
      · omega
    · rw [lab_new hg]
      exact ⟨hD g hg, rfl⟩)).kept hx (ne 1 (by omega))
  exact ⟨H.dx, lx, by rw [block_setCell top]; rfl, hr2, (((H.r2.wide (D' := fun g => D g ∧ lab L w.heap.size 1 g = 2) (fun g hg h => ⟨h.1, by rw [lab_old hg]; exact h.2⟩)).kept2 hk (fun g hg h e => by have := e.2; rw [lab_old hg] at h; omega)).kept hx (ne 2 (by omega))), (((H.r3.wide (D' := fun g => D g ∧ lab L w.heap.size 1 g = 3) (fun g hg h => ⟨h.1, by rw [lab_old hg]; exact h.2⟩)).kept2 hk (fun g hg h e => by have := e.2; rw [lab_old hg] at h; omega)).kept hx (ne 3 (by omega))), (((H.r4.wide (D' := fun g => D g ∧ lab L w.heap.size 1 g = 4) (fun g hg h => ⟨h.1, by rw [lab_old hg]; exact h.2⟩)).kept2 hk (fun g hg h e => by have := e.2; rw [lab_old hg] at h; omega)).kept hx (ne 4 (by omega)))⟩
/-- row 2 is another one -/
theorem ReIn.put2 (H : ReIn D L w x s a1 c1 a2 c2 a3 c3 a4 c4) (hD : ∀ k, w.heap.size ≤ k → D k) (hk : Keeps (fun g => D g ∧ L g = 2) w w') (hr : Row (fun g => (D g ∧ L g = 2) ∨ w.heap.size ≤ g) w' a c zs) :
    ReIn D (lab L w.heap.size 2) (w'.setCell ⟨x, 1, none⟩ (.slice a zs.length c)) x { s with t2 := zs } a1 c1 a c a3 c3 a4 c4 := by
  have hxl := lt_of_block H.top
  have lx : lab L w.heap.size 2 x = 0 := by rw [lab_old hxl]; exact H.lx
  have hx : Keeps (fun k => k = x) w' (w'.setCell ⟨x, 1, none⟩ (.slice a zs.length c)) := Keeps.setCell (D := fun k => k = x) (Keeps.refl _ w') (p := ⟨x, 1, none⟩) rfl _
  have ne : ∀ i' : Nat, i' ≠ 0 → ∀ k, (D k ∧ lab L w.heap.size 2 k = i') → ¬ k = x := fun i' hi k h e => by subst e; omega
  have top := (hk.block x hxl (fun h => by have := H.lx; omega)).trans H.top
  have hr2 : Row (fun g => D g ∧ lab L w.heap.size 2 g = 2) (w'.setCell ⟨x, 1, none⟩ (.slice a zs.length c)) a c zs := (hr.wide (D' := fun g => D g ∧ lab L w.heap.size 2 g = 2) (fun g _ h => by
    rcases Nat.lt_or_ge g w.heap.size with hg | hg
    · rw [lab_old hg]
      rcases h with h | h
      · exact h
      · omega
    · rw [lab_new hg]
      exact ⟨hD g hg, rfl⟩)).kept hx (ne 2 (by omega))
  exact ⟨H.dx, lx, by rw [block_setCell top]; rfl, (((H.r1.wide (D' := fun g => D g ∧ lab L w.heap.size 2 g = 1) (fun g hg h => ⟨h.1, by rw [lab_old hg]; exact h.2⟩)).kept2 hk (fun g hg h e => by have := e.2; rw [lab_old hg] at h; omega)).kept hx (ne 1 (by omega))), hr2, (((H.r3.wide (D' := fun g => D g ∧ lab L w.heap.size 2 g = 3) (fun g hg h => ⟨h.1, by rw [lab_old hg]; exact h.2⟩)).kept2 hk (fun g hg h e => by have := e.2; rw [lab_old hg] at h; omega)).kept hx (ne 3 (by omega))), (((H.r4.wide (D' := fun g => D g ∧ lab L w.heap.size 2 g = 4) (fun g hg h => ⟨h.1, by rw [lab_old hg]; exact h.2⟩)).kept2 hk (fun g hg h e => by have := e.2; rw [lab_old hg] at h; omega)).kept hx (ne 4 (by omega)))⟩
/-- row 3 is another one -/
theorem ReIn.put3 (H : ReIn D L w x s a1 c1 a2 c2 a3 c3 a4 c4) (hD : ∀ k, w.heap.size ≤ k → D k) (hk : Keeps (fun g => D g ∧ L g = 3) w w') (hr : Row (fun g => (D g ∧ L g = 3) ∨ w.heap.size ≤ g) w' a c zs) :
    ReIn D (lab L w.heap.size 3) (w'.setCell ⟨x, 2, none⟩ (.slice a zs.length c)) x { s with b1 := zs } a1 c1 a2 c2 a c a4 c4 := by
  have hxl := lt_of_block H.top
  have lx : lab L w.heap.size 3 x = 0 := by rw [lab_old hxl]; exact H.lx
  have hx : Keeps (fun k => k = x) w' (w'.setCell ⟨x, 2, none⟩ (.slice a zs.length c)) := Keeps.setCell (D := fun k => k = x) (Keeps.refl _ w') (p := ⟨x, 2, none⟩) rfl _
  have ne : ∀ i' : Nat, i' ≠ 0 → ∀ k, (D k ∧ lab L w.heap.size 3 k = i') → ¬ k = x := fun i' hi k h e => by subst e; omega
  have top := (hk.block x hxl (fun h => by have := H.lx; omega)).trans H.top
  have hr2 : Row (fun g => D g ∧ lab L w.heap.size 3 g = 3) (w'.setCell ⟨x, 2, none⟩ (.slice a zs.length c)) a c zs := (hr.wide (D' := fun g => D g ∧ lab L w.heap.size 3 g = 3) (fun g _ h => by
    rcases Nat.lt_or_ge g w.heap.size with hg | hg
    · rw [lab_old hg]
      rcases h with h | h
      · exact h
      · omega
    · rw [lab_new hg]
      exact ⟨hD g hg, rfl⟩)).kept hx (ne 3 (by omega))
  exact ⟨H.dx, lx, by rw [block_setCell top]; rfl, (((H.r1.wide (D' := fun g => D g ∧ lab L w.heap.size 3 g = 1) (fun g hg h => ⟨h.1, by rw [lab_old hg]; exact h.2⟩)).kept2 hk (fun g hg h e => by have := e.2; rw [lab_old hg] at h; omega)).kept hx (ne 1 (by omega))), (((H.r2.wide (D' := fun g => D g ∧ lab L w.heap.size 3 g = 2) (fun g hg h => ⟨h.1, by rw [lab_old hg]; exact h.2⟩)).kept2 hk (fun g hg h e => by have := e.2; rw [lab_old hg] at h; omega)).kept hx (ne 2 (by omega))), hr2, (((H.r4.wide (D' := fun g => D g ∧ lab L w.heap.size 3 g = 4) (fun g hg h => ⟨h.1, by rw [lab_old hg]; exact h.2⟩)).kept2 hk (fun g hg h e => by have := e.2; rw [lab_old hg] at h; omega)).kept hx (ne 4 (by omega)))⟩
/-- row 4 is another one -/
theorem ReIn.put4 (H : ReIn D L w x s a1 c1 a2 c2 a3 c3 a4 c4) (hD : ∀ k, w.heap.size ≤ k → D k) (hk : Keeps (fun g => D g ∧ L g = 4) w w') (hr : Row (fun g => (D g ∧ L g = 4) ∨ w.heap.size ≤ g) w' a c zs) :
    ReIn D (lab L w.heap.size 4) (w'.setCell ⟨x, 3, none⟩ (.slice a zs.length c)) x { s with b2 := zs } a1 c1 a2 c2 a3 c3 a c := by
  have hxl := lt_of_block H.top
  have lx : lab L w.heap.size 4 x = 0 := by rw [lab_old hxl]; exact H.lx
  have hx : Keeps (fun k => k = x) w' (w'.setCell ⟨x, 3, none⟩ (.slice a zs.length c)) := Keeps.setCell (D := fun k => k = x) (Keeps.refl _ w') (p := ⟨x, 3, none⟩) rfl _
  have ne : ∀ i' : Nat, i' ≠ 0 → ∀ k, (D k ∧ lab L w.heap.size 4 k = i') → ¬ k = x := fun i' hi k h e => by subst e; omega
  have top := (hk.block x hxl (fun h => by have := H.lx; omega)).trans H.top
  have hr2 : Row (fun g => D g ∧ lab L w.heap.size 4 g = 4) (w'.setCell ⟨x, 3, none⟩ (.slice a zs.length c)) a c zs := (hr.wide (D' := fun g => D g ∧ lab L w.heap.size 4 g = 4) (fun g _ h => by
    rcases Nat.lt_or_ge g w.heap.size with hg | hg
    · rw [lab_old hg]
      rcases h with h | h
      · exact h
      · omega
    · rw [lab_new hg]
      exact ⟨hD g hg, rfl⟩)).kept hx (ne 4 (by omega))
  exact ⟨H.dx, lx, by rw [block_setCell top]; rfl, (((H.r1.wide (D' := fun g => D g ∧ lab L w.heap.size 4 g = 1) (fun g hg h => ⟨h.1, by rw [lab_old hg]; exact h.2⟩)).kept2 hk (fun g hg h e => by have := e.2; rw [lab_old hg] at h; omega)).kept hx (ne 1 (by omega))), (((H.r2.wide (D' := fun g => D g ∧ lab L w.heap.size 4 g = 2) (fun g hg h => ⟨h.1, by rw [lab_old hg]; exact h.2⟩)).kept2 hk (fun g hg h e => by have := e.2; rw [lab_old hg] at h; omega)).kept hx (ne 2 (by omega))), (((H.r3.wide (D' := fun g => D g ∧ lab L w.heap.size 4 g = 3) (fun g hg h => ⟨h.1, by rw [lab_old hg]; exact h.2⟩)).kept2 hk (fun g hg h e => by have := e.2; rw [lab_old hg] at h; omega)).kept hx (ne 3 (by omega))), hr2⟩
/-- the struct's cells stay while a row's blocks change -/
theorem ReIn.still (H : ReIn D L w x s a1 c1 a2 c2 a3 c3 a4 c4) {i : Nat} (hi : i ≠ 0) (hk : Keeps (fun g => D g ∧ L g = i) w w') :
    (w'.cell? ⟨x, 0, none⟩ = some (.slice a1 s.t1.length c1) ∧ w'.cell? ⟨x, 1, none⟩ = some (.slice a2 s.t2.length c2) ∧ w'.cell? ⟨x, 2, none⟩ = some (.slice a3 s.b1.length c3) ∧ w'.cell? ⟨x, 3, none⟩ = some (.slice a4 s.b2.length c4) ∧
    w'.cell? ⟨x, 4, none⟩ = some (.int .i64 (s.p : Nat)) ∧ w'.cell? ⟨x, 5, none⟩ = some (.int .i64 (s.c : Nat))) ∧
    w'.frozen? ⟨x, 0, none⟩ = false ∧ w'.frozen? ⟨x, 1, none⟩ = false ∧ w'.frozen? ⟨x, 2, none⟩ = false ∧ w'.frozen? ⟨x, 3, none⟩ = false ∧ w'.frozen? ⟨x, 4, none⟩ = false ∧ w'.frozen? ⟨x, 5, none⟩ = false := by
  have h := (hk.block x (lt_of_block H.top) (fun e => by have := H.lx; omega)).trans H.top
  refine ⟨⟨?_, ?_, ?_, ?_, ?_, ?_⟩, frozen_of_block h, frozen_of_block h, frozen_of_block h, frozen_of_block h, frozen_of_block h, frozen_of_block h⟩ <;> (rw [cell_of_block h]; rfl)
end
end Go.Proofs.YtfbdmoineahfgaaDoor
namespace Go.Proofs.YtfbdmoineahfgaaDoor
open Go.RowKit

/-- the document's machine at x -/
def RE (x : Nat) (s : Stt) (D : Nat → Prop) (w : World) : Prop := ∃ L a1 c1 a2 c2 a3 c3 a4 c4, ReIn D L w x s a1 c1 a2 c2 a3 c3 a4 c4
/-- no row is long -/
structure Small (s : Stt) : Prop where
  t1 : s.t1.length ≤ 2100
  t2 : s.t2.length ≤ 2100
  b1 : s.b1.length ≤ 2100
  b2 : s.b2.length ≤ 2100
  p : s.p ≤ 1024
  lo : 1 ≤ s.c
  hi : s.c ≤ 1024
theorem Small.of {s : Stt} (h : A.Ok s) : Small s := by
  have := h.lo; have := h.hi; have := h.pc; have := h.all
  exact ⟨by omega, by omega, by omega, by omega, by omega, by omega, by omega⟩
section
variable {D D' : Nat → Prop} {w w' : World} {x : Nat} {s : Stt}
theorem RE.below (H : RE x s D w) (hb : Below w.heap.size w w') : RE x s D w' := by
  obtain ⟨L, a1, c1, a2, c2, a3, c3, a4, c4, H⟩ := H
  exact ⟨L, a1, c1, a2, c2, a3, c3, a4, c4, H.below hb⟩
theorem RE.kept (H : RE x s D w) (hk : Keeps D' w w') (hd : ∀ k, D k → ¬ D' k) : RE x s D w' := by
  obtain ⟨L, a1, c1, a2, c2, a3, c3, a4, c4, H⟩ := H
  exact ⟨L, a1, c1, a2, c2, a3, c3, a4, c4, H.kept hk hd⟩
theorem RE.wide (H : RE x s D w) (hD : ∀ k, k < w.heap.size → D k → D' k) : RE x s D' w := by
  obtain ⟨L, a1, c1, a2, c2, a3, c3, a4, c4, H⟩ := H
  exact ⟨L, a1, c1, a2, c2, a3, c3, a4, c4, H.wide hD⟩
theorem rlen_any (H : RE x s D w) (hs : Small s) : Calls Tryd.prog 16 #[.pointer (some ⟨x, 0, none⟩)] w fun e w' => e = .returned (.int .i64 ((A.keys s).length : Nat)) ∧ ∃ q, w' = w.drewN q := by
  obtain ⟨L, a1, c1, a2, c2, a3, c3, a4, c4, H⟩ := H
  obtain ⟨d0, d1, -⟩ := H.cells
  have h1 := hs.t1
  have h2 := hs.t2
  rw [A.keys_length]
  generalize s.t1.length = n at *
  generalize s.t2.length = m at *
  clear H hs
  go_enter Tryd.func16, Tryd.ntmps16
  go_wp2_with fail
  go_quiet (fail)
  go_wp2_with fail
  go_ret
  exact ⟨ret_int (by omega), _, rfl⟩
theorem rroom_any (H : RE x s D w) : Calls Tryd.prog 23 #[.pointer (some ⟨x, 0, none⟩)] w fun e w' => e = .returned (.int .i64 (s.c : Nat)) ∧ w' = w := by
  obtain ⟨L, a1, c1, a2, c2, a3, c3, a4, c4, H⟩ := H
  obtain ⟨d0, d1, d2, d3, d4, d5⟩ := H.cells
  clear H
  go_enter Tryd.func23, Tryd.ntmps23
  go_wp2_with fail
  go_ret
  exact ⟨rfl, rfl⟩
theorem idx_false {zs : List ByteArray} {k : ByteArray} (h : k ∉ zs) : decide (0 ≤ idx zs k) = false := by rw [idx_no h]; decide
theorem idx_true {zs : List ByteArray} {k : ByteArray} (h : k ∈ zs) : decide (0 ≤ idx zs k) = true := decide_eq_true (idx_mem h)
/-- is it there? -/
def inn (k : ByteArray) (zs : List ByteArray) : Bool := decide (0 ≤ idx zs k)
theorem inn_yes {zs : List ByteArray} {k : ByteArray} (h : k ∈ zs) : inn k zs = true := idx_true h
theorem inn_no {zs : List ByteArray} {k : ByteArray} (h : k ∉ zs) : inn k zs = false := idx_false h
theorem inn_iff {zs : List ByteArray} {k : ByteArray} : inn k zs = true ↔ k ∈ zs := by
  by_cases h : k ∈ zs
  · simp [inn_yes h, h]
  · simp [inn_no h, h]
theorem inn_keys (s : Stt) (k : ByteArray) : inn k (A.keys s) = (inn k s.t1 || inn k s.t2) := by
  by_cases h1 : k ∈ s.t1
  · rw [inn_yes h1, inn_yes (by simp [A.keys, h1])]; rfl
  · by_cases h2 : k ∈ s.t2
    · rw [inn_yes h2, inn_yes (by simp [A.keys, h2])]; simp
    · rw [inn_no h1, inn_no h2, inn_no (by simp [A.keys, h1, h2])]; rfl
theorem rhas_key (H : RE x s D w) (hs : Small s) (k : ByteArray) : Calls Tryd.prog 40 #[.pointer (some ⟨x, 0, none⟩), .string k] w fun e w' => e = .returned (.bool (inn k (A.keys s))) ∧ w' = w := by
  obtain ⟨L, a1, c1, a2, c2, a3, c3, a4, c4, H⟩ := H
  obtain ⟨d0, d1, -⟩ := H.cells
  have e1 := rhas_any H.r1 (by have := hs.t1; omega) k
  have e2 := rhas_any H.r2 (by have := hs.t2; omega) k
  rw [inn_keys]
  by_cases h1 : k ∈ s.t1
  · have hi := idx_mem h1
    rw [inn_yes h1]
    generalize idx s.t1 k = j1 at *
    clear H hs
    go_enter Tryd.func40, Tryd.ntmps40
    go_wp2_with (go_at_call 60; refine e1.mono ?_; rintro e w1 ⟨rfl, rfl⟩; clear e1)
    go_ret
    exact ⟨by simp, rfl⟩
  · rw [inn_no h1]
    rw [idx_no h1] at e1
    unfold inn
    generalize idx s.t2 k = j2 at *
    clear H hs
    go_enter Tryd.func40, Tryd.ntmps40
    go_wp2_with (first | (go_at_call 60; refine e1.mono ?_; rintro e w1 ⟨rfl, rfl⟩; clear e1) | (go_at_call 60; refine e2.mono ?_; rintro e w2 ⟨rfl, rfl⟩; clear e2))
    go_ret
    exact ⟨by simp, rfl⟩
set_option maxHeartbeats 2000000 in
theorem rgoes1 (H : RE x s D w) (hs : Small s) (hD : ∀ k, w.heap.size ≤ k → D k) {k : ByteArray} {r : List ByteArray} (ht : s.t1 = k :: r) (hk : A.cut (k :: r) k = r) :
    Calls Tryd.prog 63 #[.pointer (some ⟨x, 0, none⟩), .bool true] w fun e w' => e = .returned (.string k) ∧ RE x { s with t1 := r, b1 := s.b1 ++ [k] } D w' ∧ Keeps D w w' := by
  obtain ⟨L, a1, c1, a2, c2, a3, c3, a4, c4, H⟩ := H
  obtain ⟨d0, d1, d2, d3, d4, d5⟩ := H.cells
  have hl1 := hs.t1
  have hl3 := hs.b1
  have hcut := rcut_any H.r1 (by omega) k
  rw [ht] at d0 hl1 hcut
  rw [hk] at hcut
  obtain ⟨g, off, rfl, -, c0, -⟩ := H.r1.at (i := 0) (z := k) (by rw [ht]; rfl)
  rw [Nat.add_zero] at c0
  have HH : Hid _ := H
  simp only [List.length_cons] at d0 hcut
  clear H hs hk
  go_enter Tryd.func63, Tryd.ntmps63
  go_wp2_with (first
    | (go_at_call 59; refine hcut.mono ?_; rintro e w1 ⟨b1, n1, rfl, hr1, hb1⟩; obtain ⟨u0, u1, u2, u3, u4, u5⟩ := (HH.out.below hb1).cells; obtain ⟨v0, v1, v2, v3, v4, v5⟩ := (HH.out.below hb1).thaw; have H2 := HH.out.put1 hD (.of_below hb1) (hr1.wide (fun _ _ h => .inr h)); have hk1 : Keeps D w (w1.setCell ⟨x, 0, none⟩ (.slice b1 r.length n1)) := (Keeps.of_below hb1).setCell (p := ⟨x, 0, none⟩) HH.out.dx _; clear hcut d0 d1 d2 d3 d4 d5 c0 hb1 hr1)
    | (at_builtin; go_must (refine wpList_append_row (ks := [k]) rfl _ _ rfl rfl (H2.r3.below ((Below.refl _ _).alloc (Nat.le_refl _) _)) rfl (src_at k (by simp [World.setCell])) (by simp; omega) ?_); intro a5 n5 w5 hr5 hk5; obtain ⟨⟨p0, p1, p2, p3, p4, p5⟩, q0, q1, q2, q3, q4, q5⟩ := (H2.below ((Below.refl _ _).alloc (Nat.le_refl _) _)).still (by omega) hk5; have H5 := (H2.below ((Below.refl _ _).alloc (Nat.le_refl _) _)).put3 (fun k h => hD k (Nat.le_trans (Nat.le_trans hk1.size (by simp)) h)) hk5 hr5; have hk5' : Keeps D w w5 := (hk1.alloc _).trans (hk5.mono (fun _ _ h => h.1)); clear hr5 hk5 hk1 H2))
  go_ret
  simp only [List.length_append, List.length_cons, List.length_nil] at *
  exact ⟨rfl, ⟨_, _, _, _, _, _, _, _, _, H5⟩, hk5'.setCell (p := ⟨x, 2, none⟩) HH.out.dx _⟩
set_option maxHeartbeats 2000000 in
theorem rgoes2 (H : RE x s D w) (hs : Small s) (hD : ∀ k, w.heap.size ≤ k → D k) {k : ByteArray} {r : List ByteArray} (ht : s.t2 = k :: r) (hk : A.cut (k :: r) k = r) :
    Calls Tryd.prog 63 #[.pointer (some ⟨x, 0, none⟩), .bool false] w fun e w' => e = .returned (.string k) ∧ RE x { s with t2 := r, b2 := s.b2 ++ [k] } D w' ∧ Keeps D w w' := by
  obtain ⟨L, a1, c1, a2, c2, a3, c3, a4, c4, H⟩ := H
  obtain ⟨d0, d1, d2, d3, d4, d5⟩ := H.cells
  have hl1 := hs.t2
  have hl3 := hs.b2
  have hcut := rcut_any H.r2 (by omega) k
  rw [ht] at d1 hl1 hcut
  rw [hk] at hcut
  obtain ⟨g, off, rfl, -, c0, -⟩ := H.r2.at (i := 0) (z := k) (by rw [ht]; rfl)
  rw [Nat.add_zero] at c0
  have HH : Hid _ := H
  simp only [List.length_cons] at d1 hcut
  clear H hs hk
  go_enter Tryd.func63, Tryd.ntmps63
  go_wp2_with (first
    | (go_at_call 59; refine hcut.mono ?_; rintro e w1 ⟨b1, n1, rfl, hr1, hb1⟩; obtain ⟨u0, u1, u2, u3, u4, u5⟩ := (HH.out.below hb1).cells; obtain ⟨v0, v1, v2, v3, v4, v5⟩ := (HH.out.below hb1).thaw; have H2 := HH.out.put2 hD (.of_below hb1) (hr1.wide (fun _ _ h => .inr h)); have hk1 : Keeps D w (w1.setCell ⟨x, 1, none⟩ (.slice b1 r.length n1)) := (Keeps.of_below hb1).setCell (p := ⟨x, 1, none⟩) HH.out.dx _; clear hcut d0 d1 d2 d3 d4 d5 c0 hb1 hr1)
    | (at_builtin; go_must (refine wpList_append_row (ks := [k]) rfl _ _ rfl rfl (H2.r4.below ((Below.refl _ _).alloc (Nat.le_refl _) _)) rfl (src_at k (by simp [World.setCell])) (by simp; omega) ?_); intro a5 n5 w5 hr5 hk5; obtain ⟨⟨p0, p1, p2, p3, p4, p5⟩, q0, q1, q2, q3, q4, q5⟩ := (H2.below ((Below.refl _ _).alloc (Nat.le_refl _) _)).still (by omega) hk5; have H5 := (H2.below ((Below.refl _ _).alloc (Nat.le_refl _) _)).put4 (fun k h => hD k (Nat.le_trans (Nat.le_trans hk1.size (by simp)) h)) hk5 hr5; have hk5' : Keeps D w w5 := (hk1.alloc _).trans (hk5.mono (fun _ _ h => h.1)); clear hr5 hk5 hk1 H2))
  go_ret
  simp only [List.length_append, List.length_cons, List.length_nil] at *
  exact ⟨rfl, ⟨_, _, _, _, _, _, _, _, _, H5⟩, hk5'.setCell (p := ⟨x, 3, none⟩) HH.out.dx _⟩
end
end Go.Proofs.YtfbdmoineahfgaaDoor
namespace Go.Proofs.YtfbdmoineahfgaaDoor
open Go.RowKit

section
variable {D D' : Nat → Prop} {w w' : World} {x : Nat} {s : Stt}
theorem RE.narrow (H : RE x s D w) : RE x s (fun k => D k ∧ k < w.heap.size) w := H.wide (fun _ a b => ⟨b, a⟩)
theorem rgoes_any (H : RE x s D w) (hs : Small s) (ho : Single s) (hD : ∀ k, w.heap.size ≤ k → D k) (b : Bool) (h1 : b = true → 0 < s.t1.length) (h2 : b = false → 0 < s.t2.length) :
    Calls Tryd.prog 63 #[.pointer (some ⟨x, 0, none⟩), .bool b] w fun e w' => ∃ g s', A.goes s b = ([g], s') ∧ e = .returned (.string g) ∧ RE x s' D w' ∧ Keeps D w w' := by
  cases b with
  | true =>
    cases ht : s.t1 with
    | nil => have := h1 rfl; rw [ht] at this; simp at this
    | cons k r =>
      have hc : A.cut (k :: r) k = r := A.cut_head (fun j => by have := ho j; rw [ht] at this; omega)
      refine (rgoes1 H hs hD ht hc).mono ?_
      rintro e w' ⟨rfl, h, hk⟩
      exact ⟨k, _, by simp [A.goes, ht], rfl, h, hk⟩
  | false =>
    cases ht : s.t2 with
    | nil => have := h2 rfl; rw [ht] at this; simp at this
    | cons k r =>
      have hc : A.cut (k :: r) k = r := A.cut_head (fun j => by have := ho j; rw [ht] at this; omega)
      refine (rgoes2 H hs hD ht hc).mono ?_
      rintro e w' ⟨rfl, h, hk⟩
      exact ⟨k, _, by simp [A.goes, ht], rfl, h, hk⟩
set_option maxHeartbeats 2000000 in
theorem rreplace_room (H : RE x s D w) (hs : Small s) (key : ByteArray) (hl : s.t1.length + s.t2.length < s.c) :
    Calls Tryd.prog 74 #[.pointer (some ⟨x, 0, none⟩), .string key] w fun e w' => e = .returned (.slice none 0 0) ∧ ∃ q, w' = w.drewN q := by
  have hlen := fun q => rlen_any (H.below (below_drewN (Below.refl _ w) q)) hs
  rw [A.keys_length] at hlen
  obtain ⟨L, a1, c1, a2, c2, a3, c3, a4, c4, H⟩ := H
  obtain ⟨d0, d1, d2, d3, d4, d5⟩ := H.cells
  have hhi := hs.hi
  generalize s.t1.length + s.t2.length = n at *
  generalize s.c = c at *
  have hlI : (n : Int) < (c : Int) := by omega
  clear H hs
  go_enter Tryd.func74, Tryd.ntmps74
  go_wp2_with fail
  go_quiet (first | (go_at_call 16; refine Calls.quiet_of (hlen _)))
  go_wp2_with fail
  go_ret
  exact ⟨rfl, _, rfl⟩
theorem first_parts (s : Stt) (b : Bool) : A.first s b = (decide (0 < s.t1.length) && (decide (s.p < s.t1.length) || (decide (s.t1.length = s.p) && b) || decide (s.t2.length = 0))) := rfl
set_option maxHeartbeats 4000000 in
theorem rreplace_full (H : RE x s D w) (hs : Small s) (ho : Single s) (hD : ∀ k, w.heap.size ≤ k → D k) (key : ByteArray) (hl : s.c ≤ s.t1.length + s.t2.length) :
    Calls Tryd.prog 74 #[.pointer (some ⟨x, 0, none⟩), .string key] w fun e w' => ∃ g s' ad cap, A.goes s (A.first s (inn key s.b2)) = ([g], s') ∧ e = .returned (.slice ad 1 cap) ∧ Beside (RE x s') ad cap [g] D w' ∧ Keeps D w w' := by
  have hlen := fun q => rlen_any (H.below (below_drewN (Below.refl _ w) q)) hs
  rw [A.keys_length] at hlen
  have hgo := fun q => rgoes_any (H.below (below_drewN (Below.refl _ w) q)) hs ho hD
  obtain ⟨L, a1, c1, a2, c2, a3, c3, a4, c4, H⟩ := H
  obtain ⟨d0, d1, d2, d3, d4, d5⟩ := H.cells
  have hhas := fun q => rhas_any (H.r4.below (below_drewN (Below.refl _ w) q)) (by have := hs.b2; omega) key
  have hhi := hs.hi
  have ht1 := hs.t1
  have ht2 := hs.t2
  have hp := hs.p
  have hlo := hs.lo
  have HS : Hid (Small s) := hs
  rw [first_parts]
  unfold inn
  generalize idx s.b2 key = j at *
  obtain ⟨m, hm⟩ : ∃ m, m = s.t1.length + s.t2.length := ⟨_, rfl⟩
  rw [← hm] at hlen hl
  generalize s.t1.length = n1 at *
  generalize s.t2.length = n2 at *
  have HM : Hid (m = n1 + n2) := hm
  have hlI : ¬ ((m : Int) < (s.c : Int)) := by omega
  have hm2 : m ≤ 4200 := by omega
  clear H hs hm
  go_enter Tryd.func74, Tryd.ntmps74
  go_wp2_with fail
  go_quiet (first | (go_at_call 16; refine Calls.quiet_of (hlen _)))
  go_wp2_with (first
    | (go_at_call 60; refine (hhas _).mono ?_; rintro e w1 ⟨rfl, rfl⟩)
    | (go_at_call 63; refine (hgo _ _ (by intro hb; first | omega | (simp at hb; done) | (simp at hb; omega)) (by intro hb; have := HM.out; first | omega | (simp at hb; done) | (simp at hb; omega))).mono ?_; rintro e w2 ⟨g, s', hgs, rfl, H2, hk2⟩; clear hgo hhas hlen))
  all_goals
    go_ret
    refine ⟨g, s', _, _, ?_, rfl, ⟨_, fun g h => ⟨h.1, by simp; have := h.2; omega⟩, (RE.narrow H2).below ((Below.refl _ _).alloc (Nat.le_refl _) _), ?_⟩, ?_⟩
    · rw [← hgs]
      congr 1
      rw [Bool.eq_iff_iff]
      simp
      omega
    · refine row_lit g ⟨hD _ ?_, fun e => by have := e.2; omega⟩
      have := hk2.size
      exact this
    · exact ((Keeps.refl D w).drewN _).trans (hk2.alloc _)
/-- replace, of whatever machine -/
theorem inn_decide (k : ByteArray) (zs : List ByteArray) {inst : Decidable (k ∈ zs)} : inn k zs = @decide (k ∈ zs) inst := by
  by_cases h : k ∈ zs
  · rw [inn_yes h, decide_eq_true h]
  · rw [inn_no h, decide_eq_false h]
theorem rreplace_any (H : RE x s D w) (hs : Small s) (ho : Single s) (hD : ∀ k, w.heap.size ≤ k → D k) (key : ByteArray) (hr : s.t1.length + s.t2.length ≤ s.c) :
    Calls Tryd.prog 74 #[.pointer (some ⟨x, 0, none⟩), .string key] w fun e w' => ∃ ad cap, e = .returned (.slice ad (A.replace s key).1.length cap) ∧ Beside (RE x (A.replace s key).2) ad cap (A.replace s key).1 D w' ∧ Keeps D w w' := by
  rcases Nat.lt_or_ge (s.t1.length + s.t2.length) s.c with hl | hl
  · refine (rreplace_room H hs key hl).mono ?_
    rintro e w' ⟨rfl, q, rfl⟩
    rw [A.rep_room key hl]
    exact ⟨none, 0, rfl, ⟨_, fun g h => h, (H.below (below_drewN (Below.refl _ w) q)).narrow, Row.nil⟩, (Keeps.refl D w).drewN q⟩
  · refine (rreplace_full H hs ho hD key hl).mono ?_
    rintro e w' ⟨g, s', ad, cap, hg, rfl, hb, hk⟩
    have e : A.replace s key = ([g], s') := by
      unfold A.replace
      rw [if_neg (by omega), ← hg, ← inn_decide]
    rw [e]
    exact ⟨ad, cap, rfl, hb, hk⟩
end
end Go.Proofs.YtfbdmoineahfgaaDoor
