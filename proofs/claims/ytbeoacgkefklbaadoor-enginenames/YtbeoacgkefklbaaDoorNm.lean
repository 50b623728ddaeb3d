/- The five names, as the program's variable holds them; Name and Kind, the program's and the document's. -/
import Derived.Test.YtbeoacgkefklbaaDoorRows
import Derived.WalkKit
import Derived.WalkSpells
import Derived.WalkSmall
import Derived.ProofKit
import Derived.OpenShut
import Derived.LaidMore
import Derived.Lay
import Derived.SevenTiedAt
import Derived.Stop.Joined
namespace Go.Proofs.YtbeoacgkefklbaaDoor
open Go.ChangeShapes Go.WideShapes Go.ChangeAt Go.RowKit

/-- the name of a kind -/
def nm (k : Nat) : ByteArray := if k = 0 then ⟨#[97, 114, 99]⟩ else if k = 1 then ⟨#[108, 105, 114, 115]⟩ else if k = 2 then ⟨#[50, 113]⟩ else if k = 3 then ⟨#[116, 105, 110, 121, 108, 102, 117]⟩ else ⟨#[115, 51, 102, 105, 102, 111]⟩
/-- the variable's cells -/
def Names (w : World) : Prop := ∀ r, r < 5 → w.cell? ⟨0, r, none⟩ = some (.string (nm r))
theorem names_of {W : World} (h : laidMetH Tryd.prog Rows.engineNamesRow.laid W) : Names W := by
  rw [MakeChecks.laidMetH_plain _ _ _ (by kernel_rfl)] at h
  obtain ⟨ps, ⟨g, t, cs, fuel, p, q, hg, ht, hv, hd, _, _⟩, _, _⟩ := h
  obtain rfl := Option.some.inj ((show Tryd.prog.globalNamed "hoard/engine.names" = some 0 by kernel_rfl).symm.trans hg)
  obtain rfl := Option.some.inj ((show (Tryd.prog.globals[0]?).map (·.type) = some 27 by kernel_rfl).symm.trans ht)
  obtain ⟨xs, m, _, ex, _, hl, hel⟩ := DataW.trod_array Tryd.underlying27 hd
  have c5 : Tryd.prog.cellsOf 9 = 1 := by kernel_rfl
  intro r hr
  have hE := hel r hr
  rw [c5, Nat.mul_one, List.getElem?_eq_getElem (by omega)] at hE
  obtain ⟨z, e1, e2, _⟩ := DataW.trod_string Tryd.underlying9 hE
  have e3 : (xs.map (·.1)) = [.lit (.string [97, 114, 99]), .lit (.string [108, 105, 114, 115]), .lit (.string [50, 113]), .lit (.string [116, 105, 110, 121, 108, 102, 117]), .lit (.string [115, 51, 102, 105, 102, 111])] := (DataW.agg.inj (Prod.mk.inj ex).1).symm
  have e4 : (xs.map (·.1))[r]? = some (DataW.lit (.string z.data.toList)) := by rw [List.getElem?_map, List.getElem?_eq_getElem (by omega : r < xs.length), Option.map_some, e2]
  rw [e3] at e4
  have hz : z = nm r := by
    have : r = 0 ∨ r = 1 ∨ r = 2 ∨ r = 3 ∨ r = 4 := by omega
    rcases this with e | e | e | e | e <;> subst e <;> simp at e4 <;> (have e5 := e4.symm) <;> (apply ByteArray.ext; apply Array.toList_inj.1; rw [e5]; rfl)
  rw [World.var?_cell hg hv r, ← hz]
  have : cs.toList[r]? = some (.string z) := by
    have h0 : ((cs.toList.drop r).take 1)[0]? = some (.string z) := by rw [e1]; rfl
    simpa using h0
  simpa using this
/-- Name -/
def nmI (k : Int) : ByteArray := if 0 ≤ k ∧ k < 5 then nm k.toNat else ⟨#[]⟩
theorem name_any {w : World} (H : Names w) (k : Int) (h0 : -9223372036854775808 ≤ k) (h1 : k ≤ 9223372036854775807) :
    Calls Tryd.prog 6 #[.int .i64 k] w fun e w' => e = .returned (.string (nmI k)) ∧ w' = w := by
  by_cases hk : 0 ≤ k ∧ k < 5
  · obtain ⟨n, rfl⟩ := Int.eq_ofNat_of_zero_le hk.1
    have hn : n < 5 := by omega
    have e1 : nmI (n : Nat) = nm n := by unfold nmI; rw [if_pos hk]; rfl
    rw [e1]
    have c := H n hn
    clear h0 h1
    go_enter Tryd.func6, Tryd.ntmps6
    go_wp2
    go_ret
    exact ⟨rfl, rfl⟩
  · have e1 : nmI k = ⟨#[]⟩ := by unfold nmI; rw [if_neg hk]
    rw [e1]
    have hc : k < 0 ∨ 5 ≤ k := by omega
    clear hk e1
    rcases hc with h | h
    · go_enter Tryd.func6, Tryd.ntmps6
      go_wp2
      go_ret
      exact ⟨rfl, rfl⟩
    · go_enter Tryd.func6, Tryd.ntmps6
      go_wp2
      go_ret
      exact ⟨rfl, rfl⟩
theorem rname_any (w : World) (k : Int) (h0 : -9223372036854775808 ≤ k) (h1 : k ≤ 9223372036854775807) :
    Calls Tryd.prog 7 #[.int .i64 k] w fun e w' => e = .returned (.string (nmI k)) ∧ w' = w := by
  by_cases hk : 0 ≤ k ∧ k < 5
  · have : k = 0 ∨ k = 1 ∨ k = 2 ∨ k = 3 ∨ k = 4 := by omega
    rcases this with e | e | e | e | e <;> subst e <;>
      (go_enter Tryd.func7, Tryd.ntmps7
       go_wp2
       go_ret
       exact ⟨rfl, rfl⟩)
  · have e1 : nmI k = ⟨#[]⟩ := by unfold nmI; rw [if_neg hk]
    rw [e1]
    have n0 : ¬ k = 0 := by omega
    have n1 : ¬ k = 1 := by omega
    have n2 : ¬ k = 2 := by omega
    have n3 : ¬ k = 3 := by omega
    have n4 : ¬ k = 4 := by omega
    clear hk e1
    go_enter Tryd.func7, Tryd.ntmps7
    go_wp2
    go_ret
    exact ⟨rfl, rfl⟩
/-- the place of a name: 5, if it is none -/
def pos (name : ByteArray) : Nat := if name = nm 0 then 0 else if name = nm 1 then 1 else if name = nm 2 then 2 else if name = nm 3 then 3 else if name = nm 4 then 4 else 5
theorem pos_le (name : ByteArray) : pos name ≤ 5 := by unfold pos; split <;> (try split) <;> (try split) <;> (try split) <;> (try split) <;> omega
theorem nm_ne : ∀ i j : Fin 5, i ≠ j → nm i ≠ nm j := by decide
theorem pos_far {name : ByteArray} {j : Nat} (h : j < pos name) : nm j ≠ name := by
  have hle := pos_le name
  unfold pos at h
  intro e
  subst e
  have : j = 0 ∨ j = 1 ∨ j = 2 ∨ j = 3 ∨ j = 4 := by have := pos_le (nm j); unfold pos at this; omega
  rcases this with e | e | e | e | e <;> subst e <;> revert h <;> decide
theorem pos_here {name : ByteArray} (h : pos name < 5) : nm (pos name) = name := by
  unfold pos at h ⊢
  split
  · rename_i e; exact e.symm
  · split
    · rename_i e; exact e.symm
    · split
      · rename_i e; exact e.symm
      · split
        · rename_i e; exact e.symm
        · split
          · rename_i e; exact e.symm
          · rename_i n0 n1 n2 n3 n4
            rw [if_neg n0, if_neg n1, if_neg n2, if_neg n3, if_neg n4] at h
            omega
theorem pos_nm : ∀ j : Fin 5, pos (nm j) = j := by decide
/-- Kind -/
def kdV (name : ByteArray) : Value := .tuple #[.int .i64 ((if pos name < 5 then pos name else 0 : Nat) : Int), .bool (decide (pos name < 5))]
theorem index_0 (W : World) : (Instr.index 27 (.agg #[.string (nm 0), .string (nm 1), .string (nm 2), .string (nm 3), .string (nm 4)]) (.int .i64 0)).run Tryd.prog W = .ok (.string (nm 0)) W := by kernel_rfl
theorem index_1 (W : World) : (Instr.index 27 (.agg #[.string (nm 0), .string (nm 1), .string (nm 2), .string (nm 3), .string (nm 4)]) (.int .i64 1)).run Tryd.prog W = .ok (.string (nm 1)) W := by kernel_rfl
theorem index_2 (W : World) : (Instr.index 27 (.agg #[.string (nm 0), .string (nm 1), .string (nm 2), .string (nm 3), .string (nm 4)]) (.int .i64 2)).run Tryd.prog W = .ok (.string (nm 2)) W := by kernel_rfl
theorem index_3 (W : World) : (Instr.index 27 (.agg #[.string (nm 0), .string (nm 1), .string (nm 2), .string (nm 3), .string (nm 4)]) (.int .i64 3)).run Tryd.prog W = .ok (.string (nm 3)) W := by kernel_rfl
theorem index_4 (W : World) : (Instr.index 27 (.agg #[.string (nm 0), .string (nm 1), .string (nm 2), .string (nm 3), .string (nm 4)]) (.int .i64 4)).run Tryd.prog W = .ok (.string (nm 4)) W := by kernel_rfl
theorem index_nm {k : Nat} (h : k < 5) (W : World) : (Instr.index 27 (.agg #[.string (nm 0), .string (nm 1), .string (nm 2), .string (nm 3), .string (nm 4)]) (.int .i64 (k : Nat))).run Tryd.prog W = .ok (.string (nm k)) W := by
  have : k = 0 ∨ k = 1 ∨ k = 2 ∨ k = 3 ∨ k = 4 := by omega
  rcases this with e | e | e | e | e <;> subst e
  · exact index_0 W
  · exact index_1 W
  · exact index_2 W
  · exact index_3 W
  · exact index_4 W
theorem texts_beq (x y : ByteArray) : (x.toList == y.toList) = decide (x = y) := by
  by_cases h : x = y
  · subst h; simp
  · have : ¬ x.toList = y.toList := by
      intro e
      rw [ByteArray.toList_eq, ByteArray.toList_eq] at e
      exact h (Go.WideShapes.bytes_inj e)
    simp [h, this]
set_option maxHeartbeats 1000000 in
theorem kind_any {w : World} (H : Names w) (name : ByteArray) :
    Calls Tryd.prog 4 #[.string name] w fun e w' => e = .returned (kdV name) ∧ w' = w := by
  have c0 := H 0 (by omega)
  have c1 := H 1 (by omega)
  have c2 := H 2 (by omega)
  have c3 := H 3 (by omega)
  have c4 := H 4 (by omega)
  have hle := pos_le name
  have HFar : Hid (∀ j, j < pos name → nm j ≠ name) := fun j h => pos_far h
  have HHere : Hid (pos name < 5 → nm (pos name) = name) := pos_here
  unfold kdV
  generalize pos name = t at *
  go_enter Tryd.func4, Tryd.ntmps4
  go_wp2_with fail
  go_loop [7] (fun i => ∃ k : Nat, k ≤ t ∧ i = .int .i64 k) (fun i => t - (intOf i).toNat)
  case atStart => exact ⟨0, Nat.zero_le _, rfl⟩
  case round =>
    obtain ⟨k, hk, rfl⟩ := hrel
    rcases Nat.lt_or_ge k 5 with h5 | h5
    · have hI := index_nm h5
      rcases Nat.lt_or_ge k t with hlt | hge
      · have hne : ((nm k).toList == name.toList) = false := by rw [texts_beq]; simpa using HFar.out k hlt
        generalize nm k = x at *
        go_wp2_with fail
        go_round
        case rel => exact ⟨k + 1, hlt, by go_num⟩
        case measure => simp [intOf]; omega
      · have hkt : k = t := by omega
        subst hkt
        have he : nm k = name := HHere.out h5
        have heq : (name.toList == name.toList) = true := by simp
        rw [he] at hI
        go_wp2_with fail
        go_ret2
        exact ⟨rfl, rfl⟩
    · have hk5 : k = 5 := by omega
      have ht : t = 5 := by omega
      subst hk5 ht
      go_wp2_with fail
      go_ret2
      exact ⟨rfl, rfl⟩
theorem nmI_nm {k : Nat} (h : k < 5) : nmI (k : Nat) = nm k := by unfold nmI; rw [if_pos (by omega)]; rfl
set_option maxHeartbeats 1000000 in
theorem rkind_any (name : ByteArray) (w : World) :
    Calls Tryd.prog 5 #[.string name] w fun e w' => e = .returned (kdV name) ∧ w' = w := by
  have hle := pos_le name
  have HFar : Hid (∀ j, j < pos name → nm j ≠ name) := fun j h => pos_far h
  have HHere : Hid (pos name < 5 → nm (pos name) = name) := pos_here
  unfold kdV
  generalize pos name = t at *
  go_enter Tryd.func5, Tryd.ntmps5
  go_wp2_with fail
  go_loop [4] (fun i => ∃ k : Nat, k ≤ t ∧ i = .int .i64 k) (fun i => t - (intOf i).toNat)
  case atStart => exact ⟨0, Nat.zero_le _, rfl⟩
  case round =>
    obtain ⟨k, hk, rfl⟩ := hrel
    rcases Nat.lt_or_ge k 5 with h5 | h5
    · have hnm := rname_any w (k : Nat) (by omega) (by omega)
      rw [nmI_nm h5] at hnm
      rcases Nat.lt_or_ge k t with hlt | hge
      · have hne : ((nm k).toList == name.toList) = false := by rw [texts_beq]; simpa using HFar.out k hlt
        generalize nm k = x at *
        go_wp2_with (go_at_call 7; refine Calls.mono hnm ?_; clear hnm; rintro ee w1 ⟨rfl, rfl⟩)
        go_round
        case rel => exact ⟨k + 1, hlt, by go_num⟩
        case measure => simp [intOf]; omega
      · have hkt : k = t := by omega
        subst hkt
        have he : nm k = name := HHere.out h5
        have heq : (name.toList == name.toList) = true := by simp
        rw [he] at hnm
        go_wp2_with (go_at_call 7; refine Calls.mono hnm ?_; clear hnm; rintro ee w1 ⟨rfl, rfl⟩)
        go_ret2
        exact ⟨rfl, rfl⟩
    · have hk5 : k = 5 := by omega
      have ht : t = 5 := by omega
      subst hk5 ht
      go_wp2_with fail
      go_ret2
      exact ⟨rfl, rfl⟩
theorem known_any {w : World} (H : Names w) : Calls Tryd.prog 8 #[] w fun e w' => e = .returned (.bool true) ∧ w' = w := by
  have hk := kind_any H ⟨#[50, 113]⟩
  have hn := name_any H 4 (by omega) (by omega)
  have e1 : kdV ⟨#[50, 113]⟩ = .tuple #[.int .i64 2, .bool true] := by
    have : pos ⟨#[50, 113]⟩ = 2 := by decide
    unfold kdV
    rw [this]
    rfl
  have e2 : nmI 4 = ⟨#[115, 51, 102, 105, 102, 111]⟩ := by decide
  rw [e1] at hk
  rw [e2] at hn
  go_enter Tryd.func8, Tryd.ntmps8
  go_wp2_with (first
    | (go_at_call 4; refine Calls.mono hk ?_; clear hk; rintro ee w1 ⟨rfl, rfl⟩)
    | (go_at_call 6; refine Calls.mono hn ?_; clear hn; rintro ee w1 ⟨rfl, rfl⟩))
  go_ret
  exact ⟨rfl, rfl⟩
end Go.Proofs.YtbeoacgkefklbaaDoor
