/- The document's rows: where a key stands, a row without a key. -/
import Derived.Test.YtcphhlfbjkeikabGreatTx
import Derived.Test.YtcphhlfbjkeikabGreatPure
namespace Go.Proofs.YtcphhlfbjkeikabGreat
open Go.RowKit

theorem bytes_beq (x y : ByteArray) : (x.toList == y.toList) = decide (x = y) := by
  by_cases h : x = y
  · subst h; simp
  · have : ¬ x.toList = y.toList := by
      intro e
      rw [ByteArray.toList_eq, ByteArray.toList_eq] at e
      apply h
      cases x
      cases y
      congr
      exact Array.toList_inj.1 e
    simp [h, this]
/-- where a key stands; -1: nowhere -/
def idx (zs : List ByteArray) (k : ByteArray) : Int := match zs.findIdx? (fun z => decide (z = k)) with
  | some i => (i : Nat)
  | none => -1
theorem idx_yes {zs : List ByteArray} {k : ByteArray} {i : Nat} (h : zs[i]? = some k) (hn : ∀ j, j < i → zs[j]? ≠ some k) : idx zs k = (i : Nat) := by
  have hi := lt_of_at h
  have : zs.findIdx? (fun z => decide (z = k)) = some i := by
    rw [List.findIdx?_eq_some_iff_getElem]
    refine ⟨hi, ?_, ?_⟩
    · rw [List.getElem?_eq_getElem hi] at h
      simpa using h
    · intro j hj
      have := hn j hj
      rw [List.getElem?_eq_getElem (by omega)] at this
      simpa using this
  unfold idx
  rw [this]
theorem idx_no {zs : List ByteArray} {k : ByteArray} (h : k ∉ zs) : idx zs k = -1 := by
  have : zs.findIdx? (fun z => decide (z = k)) = none := by
    rw [List.findIdx?_eq_none_iff]
    intro z hz
    simp
    rintro rfl
    exact h hz
  unfold idx
  rw [this]
theorem idx_mem {zs : List ByteArray} {k : ByteArray} (h : k ∈ zs) : 0 ≤ idx zs k := by
  have : (zs.findIdx? (fun z => decide (z = k))).isSome = true := by
    rw [List.findIdx?_isSome]
    simpa using h
  obtain ⟨i, hi⟩ := Option.isSome_iff_exists.1 this
  unfold idx
  rw [hi]
  simp
theorem idx_le (zs : List ByteArray) (k : ByteArray) : -1 ≤ idx zs k := by
  unfold idx
  split <;> omega
theorem rrow_old {B : Nat} {w w' : World} {ad : Option Addr} {cap : Nat} {zs : List ByteArray} (h : Row (fun g => B ≤ g ∨ w.heap.size ≤ g) w' ad cap zs) (hB : B ≤ w.heap.size) : Row (B ≤ ·) w' ad cap zs := h.wide (fun g _ h => by
  show B ≤ g
  rcases h with h | h
  · exact h
  · omega)
section
variable {D : Nat → Prop} {w : World} {ad : Option Addr} {cap : Nat} {zs : List ByteArray}
set_option maxHeartbeats 1000000 in
theorem rhas_any (H : Row D w ad cap zs) (hn : zs.length ≤ 1000000) (k : ByteArray) :
    Calls Tryz.prog 36 #[.slice ad zs.length cap, .string k] w fun e w' => e = .returned (.int .i64 (idx zs k)) ∧ w' = w := by
  have HH : Hid (Row D w ad cap zs) := H
  clear H
  go_enter Tryz.func36, Tryz.ntmps36
  go_wp2
  go_loop [5] (fun i => ∃ j : Nat, j ≤ zs.length ∧ i = .int .i64 j ∧ Hid (∀ m, m < j → zs[m]? ≠ some k)) (fun i => zs.length - (intOf i).toNat)
  case atStart => exact ⟨0, Nat.zero_le _, rfl, fun m hm => by omega⟩
  case round =>
    obtain ⟨j, hj, rfl, hno⟩ := hrel
    rcases Nat.lt_or_ge j zs.length with hlt | hge
    · obtain ⟨z, hz⟩ : ∃ z, zs[j]? = some z := ⟨_, List.getElem?_eq_getElem hlt⟩
      obtain ⟨g, off, rfl, -, c0, -⟩ := HH.out.at hz
      have HZ : Hid (zs[j]? = some z) := hz
      clear hz
      by_cases he : z = k
      · have hE : (z.toList == k.toList) = true := by rw [bytes_beq, decide_eq_true he]
        have HE : Hid (z = k) := he
        clear he
        go_wp2
        go_ret
        exact ⟨ret_int (idx_yes (by rw [← HE.out]; exact HZ.out) hno.out).symm, rfl⟩
      · have hE : (z.toList == k.toList) = false := by rw [bytes_beq, decide_eq_false he]
        have HE : Hid (¬ z = k) := he
        clear he
        go_wp2
        go_round
        case rel =>
          refine ⟨j + 1, hlt, by go_num, fun m hm => ?_⟩
          rcases Nat.lt_or_ge m j with h | h
          · exact hno.out m h
          · rw [show m = j by omega, HZ.out]
            exact fun e => HE.out (by cases e; rfl)
        case measure => simp [intOf]; omega
    · have hj' : j = zs.length := by omega
      subst hj'
      go_wp2
      go_ret
      refine ⟨ret_int (idx_no (fun hm => ?_)).symm, rfl⟩
      obtain ⟨m, hm1, hm2⟩ := List.getElem_of_mem hm
      exact hno.out m hm1 (by rw [List.getElem?_eq_getElem hm1, hm2])
theorem rcut_no {zs : List ByteArray} {k : ByteArray} {j : Nat} (h : zs[j]? = some k) : A.cut (zs.take (j + 1)) k = A.cut (zs.take j) k := by
  rw [List.take_add_one, h]
  simp [A.cut]
theorem rcut_yes {zs : List ByteArray} {k z : ByteArray} {j : Nat} (h : zs[j]? = some z) (hz : z ≠ k) : A.cut (zs.take (j + 1)) k = A.cut (zs.take j) k ++ [z] := by
  rw [List.take_add_one, h]
  simp [A.cut, hz]
theorem rcut_len (zs : List ByteArray) (k : ByteArray) (j : Nat) : (A.cut (zs.take j) k).length ≤ zs.length := by
  have h1 := A.length_cut_le (zs.take j) k
  have h2 : (zs.take j).length ≤ zs.length := by simp; omega
  omega
set_option maxHeartbeats 2000000 in
theorem rcut_any (H : Row D w ad cap zs) (hn : zs.length ≤ 10000) (k : ByteArray) :
    Calls Tryz.prog 54 #[.slice ad zs.length cap, .string k] w fun e w' => ∃ ad' cap', e = .returned (.slice ad' (A.cut zs k).length cap') ∧ Row (w.heap.size ≤ ·) w' ad' cap' (A.cut zs k) ∧ Below w.heap.size w w' := by
  have HH : Hid (Row D w ad cap zs) := H
  clear H
  go_enter Tryz.func54, Tryz.ntmps54
  go_wp2
  go_loopw [5, 6] (fun v i wr => ∃ (j : Nat) (a2 : Option Addr) (c2 : Nat), j ≤ zs.length ∧ i = .int .i64 j ∧ v = .slice a2 (A.cut (zs.take j) k).length c2 ∧ Row (w.heap.size ≤ ·) wr a2 c2 (A.cut (zs.take j) k) ∧ Below w.heap.size w wr) (fun _ i _ => zs.length - (intOf i).toNat)
  case atStart => exact ⟨0, none, 0, Nat.zero_le _, rfl, rfl, Row.nil, Below.refl _ _⟩
  case round =>
    obtain ⟨j, a2, c2, hj, rfl, rfl, hrow, hb⟩ := hrel
    have hs := hb.size
    have hcl := rcut_len zs k j
    rcases Nat.lt_or_ge j zs.length with hlt | hge
    · obtain ⟨z, hz⟩ : ∃ z, zs[j]? = some z := ⟨_, List.getElem?_eq_getElem hlt⟩
      obtain ⟨g, off, rfl, -, c0, -⟩ := (HH.out.below hb).at hz
      have HY : Hid (z ≠ k → A.cut (zs.take (j + 1)) k = A.cut (zs.take j) k ++ [z]) := rcut_yes hz
      have HX : Hid (z = k → A.cut (zs.take (j + 1)) k = A.cut (zs.take j) k) := fun e => rcut_no (e ▸ hz)
      clear hz
      generalize A.cut (zs.take j) k = m at *
      by_cases he : z = k
      · have hE : (z.toList == k.toList) = true := by rw [bytes_beq, decide_eq_true he]
        have HE := HX.out he
        have HF : Hid (A.cut (zs.take (j + 1)) k = m) := HE
        clear HX HY he HE
        go_wp2_with fail
        go_roundw
        case rel => exact ⟨j + 1, a2, c2, hlt, by go_num, by rw [HF.out], by rw [HF.out]; exact hrow, hb⟩
        case measure => simp [intOf]; omega
      · have hE : (z.toList == k.toList) = false := by rw [bytes_beq, decide_eq_false he]
        have HE := HY.out he
        have HF : Hid (A.cut (zs.take (j + 1)) k = m ++ [z]) := HE
        clear HX HY he HE
        go_wp2_with (at_builtin; go_must (refine wpList_append_row (ks := [z]) rfl _ _ rfl rfl (hrow.below ((Below.refl _ wr).alloc (Nat.le_refl _) _)) rfl (src_one _ z) (by simp; omega) ?_); intro a3 c3 w3 hrow3 hk3; have hb3 : Below w.heap.size w w3 := (hb.alloc hs _).trans (hk3.below (by simp; omega) (fun _ h => h)); have hrow3' : Row (w.heap.size ≤ ·) w3 a3 c3 (m ++ [z]) := rrow_old hrow3 (by simp; omega); clear hrow3 hk3)
        go_roundw
        case rel => exact ⟨j + 1, a3, c3, hlt, by go_num, by rw [HF.out]; simp, by rw [HF.out]; exact hrow3', hb3⟩
        case measure => simp [intOf]; omega
    · have hj' : j = zs.length := by omega
      subst hj'
      rw [List.take_length] at *
      go_wp2_with fail
      go_ret
      exact ⟨_, _, rfl, hrow, hb⟩
end
end Go.Proofs.YtcphhlfbjkeikabGreat
