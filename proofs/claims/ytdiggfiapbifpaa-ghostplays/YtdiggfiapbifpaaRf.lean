/- The document's ghost in memory: New, Has, Take. -/
import Derived.Test.YtdiggfiapbifpaaRw
import Derived.Test.YtdiggfiapbifpaaGp
namespace Go.Proofs.Ytdiggfiapbifpaa
open Go.RowKit

/-- its struct in x, its row in a block of its own -/
structure RXIn (D : Nat → Prop) (w : World) (x c : Nat) (ad : Option Addr) (cap : Nat) (Q : List ByteArray) : Prop where
  de : D x
  top : w.heap[x]? = some (.cells #[.slice ad Q.length cap, .int .i64 (c : Nat)] 36 (0, 0))
  row : Row (fun g => D g ∧ g ≠ x) w ad cap Q
section
variable {D D' : Nat → Prop} {w w' : World} {x c cap : Nat} {ad : Option Addr} {Q : List ByteArray}
theorem RXIn.cells (H : RXIn D w x c ad cap Q) : w.cell? ⟨x, 0, none⟩ = some (.slice ad Q.length cap) ∧ w.cell? ⟨x, 1, none⟩ = some (.int .i64 (c : Nat)) ∧ w.frozen? ⟨x, 0, none⟩ = false ∧ x < w.heap.size := by
  have h := H.top
  refine ⟨?_, ?_, frozen_of_block h, lt_of_block h⟩ <;> (rw [cell_of_block h]; rfl)
theorem RXIn.kept (H : RXIn D w x c ad cap Q) (hk : Keeps D' w w') (hd : ∀ k, k < w.heap.size → D k → ¬ D' k) : RXIn D w' x c ad cap Q :=
  ⟨H.de, (hk.block x (lt_of_block H.top) (hd _ (lt_of_block H.top) H.de)).trans H.top, (H.row.narrow.kept hk (fun k h => hd k h.2 h.1.1)).wide (fun _ _ h => h.1)⟩
theorem RXIn.below (H : RXIn D w x c ad cap Q) (hb : Below w.heap.size w w') : RXIn D w' x c ad cap Q := H.kept (D' := fun _ => False) (.of_below hb) (fun _ _ _ e => e)
theorem RXIn.wide (H : RXIn D w x c ad cap Q) (hD : ∀ k, k < w.heap.size → D k → D' k) : RXIn D' w x c ad cap Q :=
  ⟨hD _ (lt_of_block H.top) H.de, H.top, H.row.wide (fun k hk h => ⟨hD k hk h.1, h.2⟩)⟩
/-- the row is another one -/
theorem RXIn.put {ad' : Option Addr} {cap' n : Nat} {Q' : List ByteArray} (H : RXIn D w x c ad cap Q) (hn : n = Q'.length) (hr : Row (fun g => D g ∧ g ≠ x) w ad' cap' Q') : RXIn D (w.setCell ⟨x, 0, none⟩ (.slice ad' n cap')) x c ad' cap' Q' := by
  subst hn
  refine ⟨H.de, ?_, hr.kept (Keeps.setCell (D := fun k => k = x) (Keeps.refl _ w) rfl _) (fun k h e => h.2 e)⟩
  rw [block_setCell H.top]
  rfl
theorem RXIn.rowIn (H : RXIn D w x c ad cap Q) : RowIn Value.string w ad Q := row_rowIn H.row
end
def RX (x c : Nat) (Q : List ByteArray) (D : Nat → Prop) (w : World) : Prop := ∃ ad cap, RXIn D w x c ad cap Q
section
variable {D D' : Nat → Prop} {w w' : World} {x c : Nat} {Q : List ByteArray}
theorem RX.kept (H : RX x c Q D w) (hk : Keeps D' w w') (hd : ∀ k, k < w.heap.size → D k → ¬ D' k) : RX x c Q D w' := by
  obtain ⟨ad, cap, h⟩ := H; exact ⟨ad, cap, h.kept hk hd⟩
theorem RX.below (H : RX x c Q D w) (hb : Below w.heap.size w w') : RX x c Q D w' := by
  obtain ⟨ad, cap, h⟩ := H; exact ⟨ad, cap, h.below hb⟩
theorem RX.wide (H : RX x c Q D w) (hD : ∀ k, k < w.heap.size → D k → D' k) : RX x c Q D' w := by
  obtain ⟨ad, cap, h⟩ := H; exact ⟨ad, cap, h.wide hD⟩
theorem rnew_any (w : World) (n : Int) :
    Calls Try.prog 9 #[.int .i64 n] w fun ee w' => ∃ x, ee = .returned (.pointer (some ⟨x, 0, none⟩)) ∧ RX x (G.heldC n) [] (fun k => w.heap.size ≤ k) w' ∧ Keeps (fun k => w.heap.size ≤ k) w w' := by
  have HC : Hid (min (max n 1) 1024 = ((G.heldC n : Nat) : Int)) := G.heldC_eq n
  go_enter Try.func9, Try.ntmps9
  go_wp2_with fail
  go_ret
  rw [HC.out]
  exact ⟨_, rfl, ⟨none, 0, Nat.le_refl _, heap_alloc_new w _, Row.nil⟩, (Keeps.refl _ w).alloc _⟩
theorem has_end {Q : List ByteArray} {k : ByteArray} (h : ∀ (j : Nat) (z : ByteArray), Q[j]? = some z → z ≠ k) : G.has Q k = false := G.has_no (fun hm => by
  obtain ⟨j, hj⟩ := List.mem_iff_getElem?.1 hm
  exact h j k hj rfl)
theorem rhas_any (H : RX x c Q D w) (hl : Q.length ≤ 100000) (k : ByteArray) : Calls Try.prog 15 #[.pointer (some ⟨x, 0, none⟩), .string k] w fun ee w' => ee = .returned (.bool (G.has Q k)) ∧ Below w.heap.size w w' := by
  obtain ⟨ad, cap, H⟩ := H
  have HE : Hid (RXIn D w x c ad cap Q) := H
  clear H
  go_enter Try.func15, Try.ntmps15
  go_wp2_with fail
  go_loopw [5] (fun i wr => ∃ j : Nat, j ≤ Q.length ∧ i = .int .i64 j ∧ (∀ (i : Nat) (z : ByteArray), i < j → Q[i]? = some z → z ≠ k) ∧ Below w.heap.size w wr) (fun i _ => Q.length - (intOf i).toNat)
  case atStart => exact ⟨0, Nat.zero_le _, rfl, fun i z h => by omega, Below.refl _ _⟩
  case round =>
    obtain ⟨j, hj, rfl, hN, hB⟩ := hrel
    have HN : Hid (∀ (i : Nat) (z : ByteArray), i < j → Q[i]? = some z → z ≠ k) := hN
    have HB : Hid (Below w.heap.size w wr) := hB
    have H2 := HE.out.below hB
    have hrow := H2.rowIn
    obtain ⟨c0, c1, c2, c3⟩ := H2.cells
    clear hN hB H2
    rcases Nat.lt_or_ge j Q.length with hlt | hge
    · obtain ⟨z, hz⟩ : ∃ z, Q[j]? = some z := ⟨_, List.getElem?_eq_getElem hlt⟩
      obtain ⟨g, off, rfl, cz⟩ := hrow.at hz
      have HZ : Hid (Q[j]? = some z) := hz
      clear hz hrow
      by_cases he : z = k
      · have hE : (z.toList == k.toList) = true := by rw [texts_beq, decide_eq_true he]
        have HE1 : Hid (z = k) := he
        clear he
        go_wp2_with fail
        go_ret
        exact ⟨by rw [G.has_yes (by rw [← HE1.out]; exact List.mem_of_getElem? HZ.out)]; rfl, HB.out⟩
      · have hE : (z.toList == k.toList) = false := by rw [texts_beq, decide_eq_false he]
        have HE1 : Hid (z ≠ k) := he
        clear he
        go_wp2_with fail
        go_roundw
        case rel => exact ⟨j + 1, hlt, by go_num, fun i y hi hy => by
          by_cases e : i = j
          · subst e
            have := HZ.out
            rw [hy] at this
            cases this
            exact HE1.out
          · exact HN.out i y (by omega) hy, HB.out⟩
        case measure => simp [intOf]; omega
    · have hj' : j = Q.length := by omega
      subst hj'
      clear hrow
      go_wp2_with fail
      go_ret
      exact ⟨by rw [has_end (fun i z h => HN.out i z (lt_of_at h) h)]; rfl, HB.out⟩
theorem cut_no {zs : List ByteArray} {k : ByteArray} {j : Nat} (h : zs[j]? = some k) : G.cut (zs.take (j + 1)) k = G.cut (zs.take j) k := by
  rw [List.take_add_one, h]
  simp [G.cut]
theorem cut_yes {zs : List ByteArray} {k z : ByteArray} {j : Nat} (h : zs[j]? = some z) (hz : z ≠ k) : G.cut (zs.take (j + 1)) k = G.cut (zs.take j) k ++ [z] := by
  rw [List.take_add_one, h]
  simp [G.cut, hz]
theorem cut_len (zs : List ByteArray) (k : ByteArray) (j : Nat) : (G.cut (zs.take j) k).length ≤ zs.length := by
  have h1 := G.cut_le (zs.take j) k
  have h2 : (zs.take j).length ≤ zs.length := by simp; omega
  omega
theorem row_old {w' : World} {ad : Option Addr} {cap : Nat} {zs : List ByteArray} {n m : Nat} (h : Row (fun g => n ≤ g ∨ m ≤ g) w' ad cap zs) (hm : n ≤ m) : Row (n ≤ ·) w' ad cap zs := h.wide (fun k _ hk => by rcases hk with h | h <;> omega)
set_option maxHeartbeats 2000000 in
theorem rtake_any (H : RX x c Q D w) (hD : ∀ k, w.heap.size ≤ k → D k) (hl : Q.length ≤ 100000) (k : ByteArray) :
    Calls Try.prog 13 #[.pointer (some ⟨x, 0, none⟩), .string k] w fun ee w' => ee = .returned (.bool (G.has Q k)) ∧ RX x c (G.cut Q k) D w' ∧ Keeps D w w' := by
  have hhas := rhas_any H hl k
  obtain ⟨ad, cap, H⟩ := H
  have HE : Hid (RXIn D w x c ad cap Q) := H
  have HD : Hid (∀ k, w.heap.size ≤ k → D k) := hD
  clear H hD
  generalize G.has Q k = was at *
  go_enter Try.func13, Try.ntmps13
  go_wp2_with (go_at_call 15; refine Calls.mono hhas ?_; clear hhas; rintro ee w1 ⟨rfl, hb1⟩)
  go_loopw [6, 7] (fun v i wr => ∃ (j : Nat) (a2 : Option Addr) (c2 : Nat), j ≤ Q.length ∧ i = .int .i64 j ∧ v = .slice a2 (G.cut (Q.take j) k).length c2 ∧ Row (w.heap.size ≤ ·) wr a2 c2 (G.cut (Q.take j) k) ∧ Below w.heap.size w wr) (fun _ i _ => Q.length - (intOf i).toNat)
  case atStart => exact ⟨0, none, 0, Nat.zero_le _, rfl, rfl, Row.nil, hb1⟩
  case round =>
    obtain ⟨j, a2, c2, hj, rfl, rfl, hrow, hb⟩ := hrel
    have hs := hb.size
    have HRow : Hid (Row (w.heap.size ≤ ·) wr a2 c2 (G.cut (Q.take j) k)) := hrow
    clear hrow hb1
    have hcl := cut_len Q k j
    have HE2 : Hid (RXIn D wr x c ad cap Q) := HE.out.below hb
    obtain ⟨c0, c1, f0, xl⟩ := HE2.out.cells
    have HB : Hid (Below w.heap.size w wr) := hb
    clear hb
    rcases Nat.lt_or_ge j Q.length with hlt | hge
    · obtain ⟨z, hz⟩ : ∃ z, Q[j]? = some z := ⟨_, List.getElem?_eq_getElem hlt⟩
      obtain ⟨g, off, rfl, cz⟩ := HE2.out.rowIn.at hz
      have HY : Hid (z ≠ k → G.cut (Q.take (j + 1)) k = G.cut (Q.take j) k ++ [z]) := cut_yes hz
      have HX : Hid (z = k → G.cut (Q.take (j + 1)) k = G.cut (Q.take j) k) := fun e => cut_no (e ▸ hz)
      clear hz
      generalize G.cut (Q.take j) k = m at *
      by_cases he : z = k
      · have hE : (z.toList == k.toList) = true := by rw [texts_beq, decide_eq_true he]
        have HE := HX.out he
        have HF : Hid (G.cut (Q.take (j + 1)) k = m) := HE
        clear HX HY he HE
        go_wp2_with fail
        go_roundw
        case rel => exact ⟨j + 1, a2, c2, hlt, by go_num, by rw [HF.out], by rw [HF.out]; exact HRow.out, HB.out⟩
        case measure => simp [intOf]; omega
      · have hE : (z.toList == k.toList) = false := by rw [texts_beq, decide_eq_false he]
        have HE := HY.out he
        have HF : Hid (G.cut (Q.take (j + 1)) k = m ++ [z]) := HE
        clear HX HY he HE
        go_wp2_with (at_builtin; go_must (refine wpList_append_row (ks := [z]) rfl _ _ rfl rfl (HRow.out.below ((Below.refl _ wr).alloc (Nat.le_refl _) _)) rfl (src_one _ z) (by simp; omega) ?_); intro a3 c3 w3 hrow3 hk3; have HB3 : Hid (Below w.heap.size w w3) := (HB.out.alloc hs _).trans (hk3.below (by simp; omega) (fun _ h => h)); have HR3 : Hid (Row (w.heap.size ≤ ·) w3 a3 c3 (m ++ [z])) := row_old hrow3 (by simp; omega); clear hrow3 hk3)
        go_roundw
        case rel => exact ⟨j + 1, a3, c3, hlt, by go_num, by rw [HF.out]; simp, by rw [HF.out]; exact HR3.out, HB3.out⟩
        case measure => simp [intOf]; omega
    · have hj' : j = Q.length := by omega
      subst hj'
      rw [List.take_length] at *
      have HX : Hid (x < w.heap.size) := HE.out.cells.2.2.2
      go_wp2_with fail
      go_ret
      exact ⟨rfl, ⟨_, _, HE2.out.put rfl (HRow.out.wide (fun g _ h => ⟨HD.out g h, fun e => by have := HX.out; omega⟩))⟩, (Keeps.of_below HB.out).setCell (p := ⟨x, 0, none⟩) HE.out.de _⟩
end
end Go.Proofs.Ytdiggfiapbifpaa
