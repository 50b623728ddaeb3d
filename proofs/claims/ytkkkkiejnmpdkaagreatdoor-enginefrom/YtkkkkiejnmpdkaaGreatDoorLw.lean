/- EngineFrom, whichever of the five: the names' variable; an engine as one of the five; From of both; the law. -/
import Derived.Test.YtkkkkiejnmpdkaaGreatDoorRows
import Derived.WalkKit
import Derived.WalkSpells
import Derived.WalkSmall
import Derived.ProofKit
import Derived.OpenShut
import Derived.LaidMore
import Derived.Lay
import Derived.SevenTiedAt
import Derived.Stop.Joined
import Derived.Test.YtkkkkiejnmpdkaaGreatDoorAg
/- The five names, as the program's variable holds them; Name and Kind, the program's and the document's. -/
namespace Go.Proofs.YtkkkkiejnmpdkaaGreatDoor
open Go.ChangeShapes Go.WideShapes Go.ChangeAt Go.RowKit

/-- the name of a kind -/
def nm (k : Nat) : ByteArray := if k = 0 then ⟨#[97, 114, 99]⟩ else if k = 1 then ⟨#[108, 105, 114, 115]⟩ else if k = 2 then ⟨#[50, 113]⟩ else if k = 3 then ⟨#[116, 105, 110, 121, 108, 102, 117]⟩ else ⟨#[115, 51, 102, 105, 102, 111]⟩
/-- the variable's cells -/
def Names (w : World) : Prop := ∀ r, r < 5 → w.cell? ⟨0, r, none⟩ = some (.string (nm r))
theorem names_of {W : World} (h : laidMetH Tryz.prog Rows.engineFromRow.laid W) : Names W := by
  rw [MakeChecks.laidMetH_plain _ _ _ (by kernel_rfl)] at h
  obtain ⟨ps, ⟨g, t, cs, fuel, p, q, hg, ht, hv, hd, _, _⟩, _, _⟩ := h
  obtain rfl := Option.some.inj ((show Tryz.prog.globalNamed "hoard/engine.names" = some 0 by kernel_rfl).symm.trans hg)
  obtain rfl := Option.some.inj ((show (Tryz.prog.globals[0]?).map (·.type) = some 144 by kernel_rfl).symm.trans ht)
  obtain ⟨xs, m, _, ex, _, hl, hel⟩ := DataW.trod_array Tryz.underlying144 hd
  have c5 : Tryz.prog.cellsOf 9 = 1 := by kernel_rfl
  intro r hr
  have hE := hel r hr
  rw [c5, Nat.mul_one, List.getElem?_eq_getElem (by omega)] at hE
  obtain ⟨z, e1, e2, _⟩ := DataW.trod_string Tryz.underlying9 hE
  have e3 : (xs.map (·.1)) = [.lit (.string [97, 114, 99]), .lit (.string [108, 105, 114, 115]), .lit (.string [50, 113]), .lit (.string [116, 105, 110, 121, 108, 102, 117]), .lit (.string [115, 51, 102, 105, 102, 111])] := (DataW.agg.inj (Prod.mk.inj ex).1).symm
  have e4 : (xs.map (·.1))[r]? = some (DataW.lit (.string z.data.toList)) := by rw [List.getElem?_map, List.getElem?_eq_getElem (by omega : r < xs.length), Option.map_some, e2]
  rw [e3] at e4
  have hz : z = nm r := by
    have : r = 0 ∨ r = 1 ∨ r = 2 ∨ r = 3 ∨ r = 4 := by omega
    rcases this with e | e | e | e | e <;> subst e <;> simp at e4 <;> (have e5 := e4.symm) <;> (apply ByteArray.ext; apply Array.toList_inj.1; rw [e5]; rfl)
  rw [World.var?_cell hg hv r, ← hz]
  have : cs.toList[r]? = some (.string z) := by
    have h0 : ((cs.toList.drop r).take 1)[0]? = some (.string z) := by rw [e1]; rfl
    simpa using h0
  simpa using this
/-- Name -/
def nmI (k : Int) : ByteArray := if 0 ≤ k ∧ k < 5 then nm k.toNat else ⟨#[]⟩
theorem name_any {w : World} (H : Names w) (k : Int) (h0 : -9223372036854775808 ≤ k) (h1 : k ≤ 9223372036854775807) :
    Calls Tryz.prog 55 #[.int .i64 k] w fun e w' => e = .returned (.string (nmI k)) ∧ w' = w := by
  by_cases hk : 0 ≤ k ∧ k < 5
  · obtain ⟨n, rfl⟩ := Int.eq_ofNat_of_zero_le hk.1
    have hn : n < 5 := by omega
    have e1 : nmI (n : Nat) = nm n := by unfold nmI; rw [if_pos hk]; rfl
    rw [e1]
    have c := H n hn
    clear h0 h1
    go_enter Tryz.func55, Tryz.ntmps55
    go_wp2
    go_ret
    exact ⟨rfl, rfl⟩
  · have e1 : nmI k = ⟨#[]⟩ := by unfold nmI; rw [if_neg hk]
    rw [e1]
    have hc : k < 0 ∨ 5 ≤ k := by omega
    clear hk e1
    rcases hc with h | h
    · go_enter Tryz.func55, Tryz.ntmps55
      go_wp2
      go_ret
      exact ⟨rfl, rfl⟩
    · go_enter Tryz.func55, Tryz.ntmps55
      go_wp2
      go_ret
      exact ⟨rfl, rfl⟩
/-- the place of a name: 5, if it is none -/
def pos (name : ByteArray) : Nat := if name = nm 0 then 0 else if name = nm 1 then 1 else if name = nm 2 then 2 else if name = nm 3 then 3 else if name = nm 4 then 4 else 5
theorem pos_le (name : ByteArray) : pos name ≤ 5 := by unfold pos; split <;> (try split) <;> (try split) <;> (try split) <;> (try split) <;> omega
theorem nm_ne : ∀ i j : Fin 5, i ≠ j → nm i ≠ nm j := by decide
theorem pos_far {name : ByteArray} {j : Nat} (h : j < pos name) : nm j ≠ name := by
  have hle := pos_le name
  unfold pos at h
  intro e
  subst e
  have : j = 0 ∨ j = 1 ∨ j = 2 ∨ j = 3 ∨ j = 4 := by have := pos_le (nm j); unfold pos at this; omega
  rcases this with e | e | e | e | e <;> subst e <;> revert h <;> decide
theorem pos_here {name : ByteArray} (h : pos name < 5) : nm (pos name) = name := by
  unfold pos at h ⊢
  split
  · rename_i e; exact e.symm
  · split
    · rename_i e; exact e.symm
    · split
      · rename_i e; exact e.symm
      · split
        · rename_i e; exact e.symm
        · split
          · rename_i e; exact e.symm
          · rename_i n0 n1 n2 n3 n4
            rw [if_neg n0, if_neg n1, if_neg n2, if_neg n3, if_neg n4] at h
            omega
theorem pos_nm : ∀ j : Fin 5, pos (nm j) = j := by decide
/-- Kind -/
def kdV (name : ByteArray) : Value := .tuple #[.int .i64 ((if pos name < 5 then pos name else 0 : Nat) : Int), .bool (decide (pos name < 5))]
theorem index_0 (W : World) : (Instr.index 144 (.agg #[.string (nm 0), .string (nm 1), .string (nm 2), .string (nm 3), .string (nm 4)]) (.int .i64 0)).run Tryz.prog W = .ok (.string (nm 0)) W := by kernel_rfl
theorem index_1 (W : World) : (Instr.index 144 (.agg #[.string (nm 0), .string (nm 1), .string (nm 2), .string (nm 3), .string (nm 4)]) (.int .i64 1)).run Tryz.prog W = .ok (.string (nm 1)) W := by kernel_rfl
theorem index_2 (W : World) : (Instr.index 144 (.agg #[.string (nm 0), .string (nm 1), .string (nm 2), .string (nm 3), .string (nm 4)]) (.int .i64 2)).run Tryz.prog W = .ok (.string (nm 2)) W := by kernel_rfl
theorem index_3 (W : World) : (Instr.index 144 (.agg #[.string (nm 0), .string (nm 1), .string (nm 2), .string (nm 3), .string (nm 4)]) (.int .i64 3)).run Tryz.prog W = .ok (.string (nm 3)) W := by kernel_rfl
theorem index_4 (W : World) : (Instr.index 144 (.agg #[.string (nm 0), .string (nm 1), .string (nm 2), .string (nm 3), .string (nm 4)]) (.int .i64 4)).run Tryz.prog W = .ok (.string (nm 4)) W := by kernel_rfl
theorem index_nm {k : Nat} (h : k < 5) (W : World) : (Instr.index 144 (.agg #[.string (nm 0), .string (nm 1), .string (nm 2), .string (nm 3), .string (nm 4)]) (.int .i64 (k : Nat))).run Tryz.prog W = .ok (.string (nm k)) W := by
  have : k = 0 ∨ k = 1 ∨ k = 2 ∨ k = 3 ∨ k = 4 := by omega
  rcases this with e | e | e | e | e <;> subst e
  · exact index_0 W
  · exact index_1 W
  · exact index_2 W
  · exact index_3 W
  · exact index_4 W
theorem textsN_beq (x y : ByteArray) : (x.toList == y.toList) = decide (x = y) := by
  by_cases h : x = y
  · subst h; simp
  · have : ¬ x.toList = y.toList := by
      intro e
      rw [ByteArray.toList_eq, ByteArray.toList_eq] at e
      exact h (Go.WideShapes.bytes_inj e)
    simp [h, this]
set_option maxHeartbeats 1000000 in
theorem kind_any {w : World} (H : Names w) (name : ByteArray) :
    Calls Tryz.prog 54 #[.string name] w fun e w' => e = .returned (kdV name) ∧ w' = w := by
  have c0 := H 0 (by omega)
  have c1 := H 1 (by omega)
  have c2 := H 2 (by omega)
  have c3 := H 3 (by omega)
  have c4 := H 4 (by omega)
  have hle := pos_le name
  have HFar : Hid (∀ j, j < pos name → nm j ≠ name) := fun j h => pos_far h
  have HHere : Hid (pos name < 5 → nm (pos name) = name) := pos_here
  unfold kdV
  generalize pos name = t at *
  go_enter Tryz.func54, Tryz.ntmps54
  go_wp2_with fail
  go_loop [7] (fun i => ∃ k : Nat, k ≤ t ∧ i = .int .i64 k) (fun i => t - (intOf i).toNat)
  case atStart => exact ⟨0, Nat.zero_le _, rfl⟩
  case round =>
    obtain ⟨k, hk, rfl⟩ := hrel
    rcases Nat.lt_or_ge k 5 with h5 | h5
    · have hI := index_nm h5
      rcases Nat.lt_or_ge k t with hlt | hge
      · have hne : ((nm k).toList == name.toList) = false := by rw [textsN_beq]; simpa using HFar.out k hlt
        generalize nm k = x at *
        go_wp2_with fail
        go_round
        case rel => exact ⟨k + 1, hlt, by go_num⟩
        case measure => simp [intOf]; omega
      · have hkt : k = t := by omega
        subst hkt
        have he : nm k = name := HHere.out h5
        have heq : (name.toList == name.toList) = true := by simp
        rw [he] at hI
        go_wp2_with fail
        go_ret2
        exact ⟨rfl, rfl⟩
    · have hk5 : k = 5 := by omega
      have ht : t = 5 := by omega
      subst hk5 ht
      go_wp2_with fail
      go_ret2
      exact ⟨rfl, rfl⟩
theorem nmI_nm {k : Nat} (h : k < 5) : nmI (k : Nat) = nm k := by unfold nmI; rw [if_pos (by omega)]; rfl
theorem known_any {w : World} (H : Names w) : Calls Tryz.prog 16 #[] w fun e w' => e = .returned (.bool true) ∧ w' = w := by
  have hk := kind_any H ⟨#[50, 113]⟩
  have hn := name_any H 4 (by omega) (by omega)
  have e1 : kdV ⟨#[50, 113]⟩ = .tuple #[.int .i64 2, .bool true] := by
    have : pos ⟨#[50, 113]⟩ = 2 := by decide
    unfold kdV
    rw [this]
    rfl
  have e2 : nmI 4 = ⟨#[115, 51, 102, 105, 102, 111]⟩ := by decide
  rw [e1] at hk
  rw [e2] at hn
  go_enter Tryz.func16, Tryz.ntmps16
  go_wp2_with (first
    | (go_at_call 54; refine Calls.mono hk ?_; clear hk; rintro ee w1 ⟨rfl, rfl⟩)
    | (go_at_call 55; refine Calls.mono hn ?_; clear hn; rintro ee w1 ⟨rfl, rfl⟩))
  go_ret
  exact ⟨rfl, rfl⟩
end Go.Proofs.YtkkkkiejnmpdkaaGreatDoor
/- What an engine is, whichever of the five: the program's behind the interface, the document's behind its kind; From of both: the keys loaded one after the other. -/
namespace Go.Proofs.YtkkkkiejnmpdkaaGreatDoor
open Go.RowKit

/-- one of the five: what it holds, the program's in memory, the document's in memory, and what the calls on both answer -/
structure Mach where
  St : Type
  K : Nat
  T : TypeId
  fLoad : FuncId
  fState : FuncId
  fLen : FuncId
  fGhosts : FuncId
  AE : Nat → Nat → St → (Nat → Prop) → World → Prop
  RX : Nat → St → (Nat → Prop) → World → Prop
  start : Int → St
  ok : St → Prop
  bare : St → Prop
  small : St → Prop
  step : St → ByteArray → St
  kl : St → Nat
  text : St → ByteArray
  start_ok : ∀ n, ok (start n) ∧ bare (start n)
  step_ok : ∀ {s} k, ok s → bare s → ok (step s k) ∧ bare (step s k)
  below : ∀ {e b s D} {w w' : World}, AE e b s D w → Below w.heap.size w w' → AE e b s D w'
  rbelow : ∀ {p s D} {w w' : World}, RX p s D w → Below w.heap.size w w' → RX p s D w'
  sized : ∀ {e b s D} {w : World}, AE e b s D w → small s
  eLoad : ∀ (args : Array Value) (w : World), (callFunc fLoad args).run Tryz.prog w = .ok (.enter fLoad args) w
  mLoad : ∀ (a : Option Addr) (w : World), (method 422 T (.pointer a) "Load").run Tryz.prog w = .ok (fLoad, .pointer a) w
  eState : ∀ (args : Array Value) (w : World), (callFunc fState args).run Tryz.prog w = .ok (.enter fState args) w
  mState : ∀ (a : Option Addr) (w : World), (method 422 T (.pointer a) "State").run Tryz.prog w = .ok (fState, .pointer a) w
  eLen : ∀ (args : Array Value) (w : World), (callFunc fLen args).run Tryz.prog w = .ok (.enter fLen args) w
  mLen : ∀ (a : Option Addr) (w : World), (method 422 T (.pointer a) "Len").run Tryz.prog w = .ok (fLen, .pointer a) w
  eGhosts : ∀ (args : Array Value) (w : World), (callFunc fGhosts args).run Tryz.prog w = .ok (.enter fGhosts args) w
  mGhosts : ∀ (a : Option Addr) (w : World), (method 422 T (.pointer a) "Ghosts").run Tryz.prog w = .ok (fGhosts, .pointer a) w
  new : ∀ (w : World) (n : Int), Calls Tryz.prog 7 #[.int .i64 (K : Nat), .int .i64 n] w fun ee w' => ∃ e, ee = .returned (.tuple #[.iface T (.pointer (some ⟨e, 0, none⟩)), .int .i64 0]) ∧ AE e 0 (start n) (fun k => w.heap.size ≤ k) w' ∧ Below w.heap.size w w'
  load : ∀ {e b s D} {w : World}, AE e b s D w → ok s → (∀ k, w.heap.size ≤ k → D k) → b ≤ 600000 → ∀ key : ByteArray, key.size ≤ 1000 →
    Calls Tryz.prog fLoad #[.pointer (some ⟨e, 0, none⟩), .string key] w fun ee w' => (∃ r, ee = .returned (.bool r)) ∧ AE e (b + 1) (step s key) D w' ∧ Keeps D w w'
  state : ∀ {e b s D} {w : World}, AE e b s D w → ok s → bare s → b ≤ 1000 → Calls Tryz.prog fState #[.pointer (some ⟨e, 0, none⟩)] w fun ee w' => ee = .returned (.string (text s)) ∧ Below w.heap.size w w'
  len : ∀ {e b s D} {w : World}, AE e b s D w → ok s → b ≤ 1000 → Calls Tryz.prog fLen #[.pointer (some ⟨e, 0, none⟩)] w fun ee w' => ee = .returned (.int .i64 (kl s : Nat)) ∧ Below w.heap.size w w'
  ghosts : ∀ {e b s D} {w : World}, AE e b s D w → bare s → b ≤ 1000 → Calls Tryz.prog fGhosts #[.pointer (some ⟨e, 0, none⟩)] w fun ee w' => ∃ ad cap, ee = .returned (.slice ad 0 cap) ∧ Below w.heap.size w w'
  rnew : ∀ (w : World) (n : Int), Calls Tryz.prog 8 #[.int .i64 (K : Nat), .int .i64 n] w fun ee w' => ∃ p, ee = .returned (.tuple #[.pointer (some ⟨p, 0, none⟩), .int .i64 0]) ∧ RX p (start n) (fun k => w.heap.size ≤ k) w' ∧ Below w.heap.size w w'
  rload : ∀ {p s D} {w : World}, RX p s D w → ok s → (∀ k, w.heap.size ≤ k → D k) → ∀ key : ByteArray, key.size ≤ 1000 →
    Calls Tryz.prog 30 #[.pointer (some ⟨p, 0, none⟩), .string key] w fun ee w' => (∃ r, ee = .returned (.bool r)) ∧ RX p (step s key) D w' ∧ Keeps D w w'
  rstate : ∀ {p s D} {w : World}, RX p s D w → ok s → small s → Calls Tryz.prog 11 #[.pointer (some ⟨p, 0, none⟩)] w fun ee w' => ee = .returned (.string (text s)) ∧ Below w.heap.size w w'
  rlen : ∀ {p s D} {w : World}, RX p s D w → ok s → Calls Tryz.prog 10 #[.pointer (some ⟨p, 0, none⟩)] w fun ee w' => ee = .returned (.int .i64 (kl s : Nat)) ∧ Below w.heap.size w w'

namespace Mach
variable (M : Mach)
/-- the keys loaded, one after the other -/
def loads (s : M.St) (zs : List ByteArray) : M.St := zs.foldl M.step s
theorem loads_more (s : M.St) (zs : List ByteArray) (k : ByteArray) : M.loads s (zs ++ [k]) = M.step (M.loads s zs) k := by simp [loads, List.foldl_append]
theorem loads_ok {s : M.St} (zs : List ByteArray) (h : M.ok s) (h2 : M.bare s) : M.ok (M.loads s zs) ∧ M.bare (M.loads s zs) := by
  induction zs generalizing s with
  | nil => exact ⟨h, h2⟩
  | cons z zs ih =>
    obtain ⟨a, b⟩ := M.step_ok z h h2
    exact ih a b
theorem take_more {zs : List ByteArray} {j : Nat} {z : ByteArray} (h : zs[j]? = some z) : zs.take (j + 1) = zs.take j ++ [z] := by
  rw [List.take_add_one, h]; rfl
section
variable {w : World} {ad : Option Addr} {cap : Nat} {zs : List ByteArray}
set_option maxRecDepth 20000 in
set_option maxHeartbeats 2000000 in
/-- From, of one of the five kinds -/
theorem from_any (n : Int) (H : RowIn Value.string w ad zs) (hl : zs.length ≤ 150) (hz : ∀ z ∈ zs, z.size ≤ 40) :
    Calls Tryz.prog 17 #[.int .i64 (M.K : Nat), .int .i64 n, .slice ad zs.length cap] w fun ee w' => ∃ e, ee = .returned (.tuple #[.iface M.T (.pointer (some ⟨e, 0, none⟩)), .int .i64 0]) ∧
      M.AE e zs.length (M.loads (M.start n) zs) (fun k => w.heap.size ≤ k) w' ∧ Below w.heap.size w w' := by
  have hnew := M.new w n
  have HM := M.mLoad
  have he := M.eLoad
  generalize M.T = T at *
  generalize M.K = K at *
  have HZ : Hid (∀ z ∈ zs, z.size ≤ 40) := hz
  have HR : Hid (RowIn Value.string w ad zs) := H
  clear hz H
  go_enter Tryz.func17, Tryz.ntmps17
  go_wp2_with (go_at_call 7; refine Calls.mono hnew ?_; clear hnew; rintro ee w1 ⟨e, rfl, h1, hb1⟩; have H1 : Hid (M.AE e 0 (M.start n) (fun k => w.heap.size ≤ k) w1) := h1; have HB1 : Hid (Below w.heap.size w w1) := hb1; clear h1 hb1)
  go_loopw [23] (fun i wr => ∃ j : Nat, j ≤ zs.length ∧ i = .int .i64 j ∧ M.AE e j (M.loads (M.start n) (zs.take j)) (fun k => w.heap.size ≤ k) wr ∧ Below w.heap.size w wr) (fun i _ => zs.length - (intOf i).toNat)
  case atStart => exact ⟨0, Nat.zero_le _, rfl, H1.out, HB1.out⟩
  case round =>
    clear H1 HB1
    obtain ⟨j, hj, rfl, hA, hB⟩ := hrel
    rcases Nat.lt_or_ge j zs.length with hlt | hge
    · obtain ⟨z, hzj⟩ : ∃ z, zs[j]? = some z := ⟨_, List.getElem?_eq_getElem hlt⟩
      obtain ⟨gg, off, rfl, cz⟩ := (HR.out.later hB).at hzj
      have hzs := HZ.out z (List.mem_of_getElem? hzj)
      have hok := (M.loads_ok (zs.take j) (M.start_ok n).1 (M.start_ok n).2).1
      have hld := M.load hA hok (fun k hk => Nat.le_trans hB.size hk) (by omega) z (by omega)
      rw [← M.loads_more, ← take_more hzj] at hld
      have HB : Hid (Below w.heap.size w wr) := hB
      have hm := HM (some ⟨e, 0, none⟩)
      clear hzj hok hA hB
      generalize M.fLoad = fl at *
      go_wp2_with (with_reducible refine Calls.mono hld ?_; clear hld; rintro ee w2 ⟨⟨r, rfl⟩, h2, hk2⟩)
      have H2 : Hid (M.AE e (j + 1) (M.loads (M.start n) (zs.take (j + 1))) (fun k => w.heap.size ≤ k) w2) := h2
      have HB2 : Hid (Below w.heap.size w w2) := (HB.out.trans (hk2.below HB.out.size (fun _ h => h)))
      clear h2 hk2
      go_roundw
      case rel => exact ⟨j + 1, hlt, by go_num, H2.out, HB2.out⟩
      case measure => simp [intOf]; omega
    · obtain rfl : j = zs.length := by omega
      rw [List.take_length] at hA
      have HA : Hid _ := hA
      have HB : Hid _ := hB
      clear hA hB
      go_wp2_with fail
      go_ret2
      exact ⟨e, rfl, HA.out, HB.out⟩
set_option maxRecDepth 20000 in
set_option maxHeartbeats 2000000 in
/-- the document's From, of one of the five kinds -/
theorem rfrom_any (n : Int) (H : RowIn Value.string w ad zs) (hl : zs.length ≤ 150) (hz : ∀ z ∈ zs, z.size ≤ 40) :
    Calls Tryz.prog 18 #[.int .i64 (M.K : Nat), .int .i64 n, .slice ad zs.length cap] w fun ee w' => ∃ p, ee = .returned (.tuple #[.pointer (some ⟨p, 0, none⟩), .int .i64 0]) ∧
      M.RX p (M.loads (M.start n) zs) (fun k => w.heap.size ≤ k) w' ∧ Below w.heap.size w w' := by
  have hnew := M.rnew w n
  generalize M.K = K at *
  have HZ : Hid (∀ z ∈ zs, z.size ≤ 40) := hz
  have HR : Hid (RowIn Value.string w ad zs) := H
  clear hz H
  go_enter Tryz.func18, Tryz.ntmps18
  go_wp2_with (go_at_call 8; refine Calls.mono hnew ?_; clear hnew; rintro ee w1 ⟨p, rfl, h1, hb1⟩)
  have H1 : Hid (M.RX p (M.start n) (fun k => w.heap.size ≤ k) w1) := h1
  have HB1 : Hid (Below w.heap.size w w1) := hb1
  clear h1 hb1
  go_loopw [10] (fun i wr => ∃ j : Nat, j ≤ zs.length ∧ i = .int .i64 j ∧ M.RX p (M.loads (M.start n) (zs.take j)) (fun k => w.heap.size ≤ k) wr ∧ Below w.heap.size w wr) (fun i _ => zs.length - (intOf i).toNat)
  case atStart => exact ⟨0, Nat.zero_le _, rfl, H1.out, HB1.out⟩
  case round =>
    clear H1 HB1
    obtain ⟨j, hj, rfl, hA, hB⟩ := hrel
    rcases Nat.lt_or_ge j zs.length with hlt | hge
    · obtain ⟨z, hzj⟩ : ∃ z, zs[j]? = some z := ⟨_, List.getElem?_eq_getElem hlt⟩
      obtain ⟨gg, off, rfl, cz⟩ := (HR.out.later hB).at hzj
      have hzs := HZ.out z (List.mem_of_getElem? hzj)
      have hok := (M.loads_ok (zs.take j) (M.start_ok n).1 (M.start_ok n).2).1
      have hld := M.rload hA hok (fun k hk => Nat.le_trans hB.size hk) z (by omega)
      rw [← M.loads_more, ← take_more hzj] at hld
      have HB : Hid (Below w.heap.size w wr) := hB
      clear hzj hok hA hB
      go_wp2_with (go_at_call 30; refine Calls.mono hld ?_; clear hld; rintro ee w2 ⟨⟨r, rfl⟩, h2, hk2⟩)
      have H2 : Hid (M.RX p (M.loads (M.start n) (zs.take (j + 1))) (fun k => w.heap.size ≤ k) w2) := h2
      have HB2 : Hid (Below w.heap.size w w2) := (HB.out.trans (hk2.below HB.out.size (fun _ h => h)))
      clear h2 hk2
      go_roundw
      case rel => exact ⟨j + 1, hlt, by go_num, H2.out, HB2.out⟩
      case measure => simp [intOf]; omega
    · obtain rfl : j = zs.length := by omega
      rw [List.take_length] at hA
      have HA : Hid _ := hA
      have HB : Hid _ := hB
      clear hA hB
      go_wp2_with fail
      go_ret2
      exact ⟨p, rfl, HA.out, HB.out⟩
end
end Mach
end Go.Proofs.YtkkkkiejnmpdkaaGreatDoor
/- EngineFrom, of one of the five kinds. -/
namespace Go.Proofs.YtkkkkiejnmpdkaaGreatDoor
open Go.RowKit

theorem Names.later {w w' : World} (h : Names w) (hb : Below w.heap.size w w') : Names w' := fun r hr => cell_later hb (h r hr)
section
variable {w : World} {ad : Option Addr} {len cap : Nat}
theorem new_bad (K n : Int) (hK : K < 0 ∨ 5 ≤ K) : Calls Tryz.prog 7 #[.int .i64 K, .int .i64 n] w fun ee w' => ee = .returned (.tuple #[.nilIface, .int .i64 4]) ∧ w' = w := by
  have n0 : ¬ K = 0 := by omega
  have n1 : ¬ K = 1 := by omega
  have n2 : ¬ K = 2 := by omega
  have n3 : ¬ K = 3 := by omega
  have n4 : ¬ K = 4 := by omega
  clear hK
  go_enter Tryz.func7, Tryz.ntmps7
  go_wp2_with fail
  go_ret2
  exact ⟨rfl, rfl⟩
theorem rnew_bad (K n : Int) (hK : K < 0 ∨ 5 ≤ K) : Calls Tryz.prog 8 #[.int .i64 K, .int .i64 n] w fun ee w' => ee = .returned (.tuple #[.pointer none, .int .i64 4]) ∧ Below w.heap.size w w' := by
  have n0 : ¬ K = 0 := by omega
  have n1 : ¬ K = 1 := by omega
  have n2 : ¬ K = 2 := by omega
  have n3 : ¬ K = 3 := by omega
  have n4 : ¬ K = 4 := by omega
  clear hK
  go_enter Tryz.func8, Tryz.ntmps8
  go_wp2_with fail
  go_ret2
  exact ⟨rfl, (Below.refl _ _).alloc (Nat.le_refl _) _⟩
set_option maxRecDepth 20000 in
theorem from_bad (K n : Int) (hK : K < 0 ∨ 5 ≤ K) : Calls Tryz.prog 17 #[.int .i64 K, .int .i64 n, .slice ad len cap] w fun ee w' => ee = .returned (.tuple #[.nilIface, .int .i64 4]) ∧ w' = w := by
  have hnew := new_bad (w := w) K n hK
  clear hK
  go_enter Tryz.func17, Tryz.ntmps17
  go_wp2_with (go_at_call 7; refine Calls.mono hnew ?_; clear hnew; rintro ee w1 ⟨rfl, rfl⟩)
  go_ret2
  exact ⟨rfl, rfl⟩
set_option maxRecDepth 20000 in
theorem rfrom_bad (K n : Int) (hK : K < 0 ∨ 5 ≤ K) : Calls Tryz.prog 18 #[.int .i64 K, .int .i64 n, .slice ad len cap] w fun ee w' => ee = .returned (.tuple #[.pointer none, .int .i64 4]) ∧ Below w.heap.size w w' := by
  have hnew := rnew_bad (w := w) K n hK
  clear hK
  go_enter Tryz.func18, Tryz.ntmps18
  go_wp2_with (go_at_call 8; refine Calls.mono hnew ?_; clear hnew; rintro ee w1 ⟨rfl, hb⟩; have HB : Hid _ := hb; clear hb)
  go_ret2
  exact ⟨rfl, HB.out⟩
end
section
variable {w : World} {ad : Option Addr} {cap : Nat} {zs : List ByteArray}
set_option maxRecDepth 20000 in
set_option maxHeartbeats 4000000 in
theorem law_bad (HN : Names w) (K n : Int) (hK : K < 0 ∨ 5 ≤ K) (H : RowIn Value.string w ad zs) (hm : zs.length ≤ maxLen) (hx : ∀ z ∈ zs, z.size ≤ 140737488351232) :
    Calls Tryz.prog 4 #[.int .i64 K, .int .i64 n, .slice ad zs.length cap] w fun ee w' => ee = .returned (.bool true) ∧ Below w.heap.size w w' := by
  have HR : Hid (RowIn Value.string w ad zs) := H
  have HX : Hid (∀ z ∈ zs, z.size ≤ 140737488351232) := hx
  have HNa : Hid (Names w) := HN
  have hm2 : zs.length ≤ 9223372036854775807 := by unfold maxLen at hm; omega
  have HK : Hid (K < 0 ∨ 5 ≤ K) := hK
  clear H hx HN hm hK
  rcases Nat.lt_or_ge 150 zs.length with hlong | hshort
  · have : (150 : Int) < zs.length := by omega
    go_enter Tryz.func4, Tryz.ntmps4
    go_wp2_with fail
    go_ret
    exact ⟨rfl, Below.refl _ _⟩
  have : ¬ (150 : Int) < zs.length := by omega
  go_enter Tryz.func4, Tryz.ntmps4
  go_wp2_with fail
  go_loopw [7] (fun i wr => ∃ j : Nat, j ≤ zs.length ∧ i = .int .i64 j ∧ (∀ (q : Nat) (z : ByteArray), q < j → zs[q]? = some z → z.size ≤ 40) ∧ wr = w) (fun i _ => zs.length - (intOf i).toNat)
  case atStart => exact ⟨0, Nat.zero_le _, rfl, fun q z h => by omega, rfl⟩
  case round =>
    obtain ⟨j, hj, rfl, hN, rfl⟩ := hrel
    have HNo : Hid (∀ (q : Nat) (z : ByteArray), q < j → zs[q]? = some z → z.size ≤ 40) := hN
    clear hN
    rcases Nat.lt_or_ge j zs.length with hlt | hge
    · obtain ⟨z, hzj⟩ : ∃ z, zs[j]? = some z := ⟨_, List.getElem?_eq_getElem hlt⟩
      obtain ⟨gg, off, rfl, cz⟩ := HR.out.at hzj
      have hzs := HX.out z (List.mem_of_getElem? hzj)
      have HZj : Hid (zs[j]? = some z) := hzj
      clear hzj
      rcases Nat.lt_or_ge 40 z.size with hbig | hsm
      · have hb40 : (40 : Int) < z.size := by omega
        go_wp2_with fail
        go_ret
        exact ⟨rfl, Below.refl _ _⟩
      · have hb40 : ¬ (40 : Int) < z.size := by omega
        go_wp2_with fail
        go_roundw
        case rel =>
          refine ⟨j + 1, hlt, by go_num, fun q y hq hy => ?_, by first | rfl | trivial⟩
          by_cases e : q = j
          · subst e
            rw [HZj.out] at hy
            cases hy
            exact hsm
          · exact HNo.out q y (by omega) hy
        case measure => simp [intOf]; omega
    · have hfr := from_bad (w := wr) (ad := ad) (cap := cap) (len := zs.length) K n HK.out
      have HRF : Hid _ := rfrom_bad (w := wr) (ad := ad) (cap := cap) (len := zs.length) K n HK.out
      have HKn : Hid (∀ W, Below wr.heap.size wr W → Calls Tryz.prog 16 #[] W fun e w' => e = .returned (.bool true) ∧ w' = W) := fun W hW => known_any (HNa.out.later hW)
      clear HNo HX
      go_wp2_with (first
        | (go_at_call 17; refine Calls.mono hfr ?_; clear hfr; rintro ee w1 ⟨rfl, rfl⟩; have hrf := HRF.out)
        | (go_at_call 18; refine Calls.mono hrf ?_; clear hrf; rintro ee w2 ⟨rfl, hb2⟩; have HB2 : Hid (Below _ _ w2) := hb2; have hkn := HKn.out w2 hb2; clear hb2)
        | (go_at_call 16; refine Calls.mono hkn ?_; clear hkn; rintro ee w8 ⟨rfl, rfl⟩))
      go_ret
      exact ⟨rfl, HB2.out⟩
end
namespace Mach
variable (M : Mach)
section
variable {w : World} {ad : Option Addr} {cap : Nat} {zs : List ByteArray}
set_option maxRecDepth 20000 in
set_option maxHeartbeats 4000000 in
theorem law (HN : Names w) (n : Int) (H : RowIn Value.string w ad zs) (hm : zs.length ≤ maxLen) (hx : ∀ z ∈ zs, z.size ≤ 140737488351232) :
    Calls Tryz.prog 4 #[.int .i64 (M.K : Nat), .int .i64 n, .slice ad zs.length cap] w fun ee w' => ee = .returned (.bool true) ∧ Below w.heap.size w w' := by
  have HR : Hid (RowIn Value.string w ad zs) := H
  have HX : Hid (∀ z ∈ zs, z.size ≤ 140737488351232) := hx
  have HNa : Hid (Names w) := HN
  have hm2 : zs.length ≤ 9223372036854775807 := by unfold maxLen at hm; omega
  obtain ⟨K, hK⟩ : ∃ K, K = M.K := ⟨_, rfl⟩
  have HK : Hid (K = M.K) := hK
  rw [← hK]
  clear H hx HN hm hK
  rcases Nat.lt_or_ge 150 zs.length with hlong | hshort
  · have : (150 : Int) < zs.length := by omega
    go_enter Tryz.func4, Tryz.ntmps4
    go_wp2_with fail
    go_ret
    exact ⟨rfl, Below.refl _ _⟩
  have : ¬ (150 : Int) < zs.length := by omega
  go_enter Tryz.func4, Tryz.ntmps4
  go_wp2_with fail
  go_loopw [7] (fun i wr => ∃ j : Nat, j ≤ zs.length ∧ i = .int .i64 j ∧ (∀ (q : Nat) (z : ByteArray), q < j → zs[q]? = some z → z.size ≤ 40) ∧ wr = w) (fun i _ => zs.length - (intOf i).toNat)
  case atStart => exact ⟨0, Nat.zero_le _, rfl, fun q z h => by omega, rfl⟩
  case round =>
    obtain ⟨j, hj, rfl, hN, rfl⟩ := hrel
    have HNo : Hid (∀ (q : Nat) (z : ByteArray), q < j → zs[q]? = some z → z.size ≤ 40) := hN
    clear hN
    rcases Nat.lt_or_ge j zs.length with hlt | hge
    · obtain ⟨z, hzj⟩ : ∃ z, zs[j]? = some z := ⟨_, List.getElem?_eq_getElem hlt⟩
      obtain ⟨gg, off, rfl, cz⟩ := HR.out.at hzj
      have hzs := HX.out z (List.mem_of_getElem? hzj)
      have HZj : Hid (zs[j]? = some z) := hzj
      clear hzj
      rcases Nat.lt_or_ge 40 z.size with hbig | hsm
      · have hb40 : (40 : Int) < z.size := by omega
        go_wp2_with fail
        go_ret
        exact ⟨rfl, Below.refl _ _⟩
      · have hb40 : ¬ (40 : Int) < z.size := by omega
        go_wp2_with fail
        go_roundw
        case rel =>
          refine ⟨j + 1, hlt, by go_num, fun q y hq hy => ?_, by first | rfl | trivial⟩
          by_cases e : q = j
          · subst e
            rw [HZj.out] at hy
            cases hy
            exact hsm
          · exact HNo.out q y (by omega) hy
        case measure => simp [intOf]; omega
    · have hz : ∀ z ∈ zs, z.size ≤ 40 := fun z hz => by
        obtain ⟨q, hq⟩ := List.mem_iff_getElem?.1 hz
        have : q < zs.length := by
          rcases Nat.lt_or_ge q zs.length with h | h
          · exact h
          · rw [List.getElem?_eq_none h] at hq; cases hq
        exact HNo.out q z (by omega) hq
      have hok := M.loads_ok zs (M.start_ok n).1 (M.start_ok n).2
      have hfr := M.from_any (cap := cap) n HR.out hshort hz
      have HRF : Hid (∀ W, Below wr.heap.size wr W → Calls Tryz.prog 18 #[.int .i64 (K : Nat), .int .i64 n, .slice ad zs.length cap] W fun ee w' => ∃ p, ee = .returned (.tuple #[.pointer (some ⟨p, 0, none⟩), .int .i64 0]) ∧ M.RX p (M.loads (M.start n) zs) (fun k => W.heap.size ≤ k) w' ∧ Below W.heap.size W w') := fun W hW => by
        rw [HK.out]
        exact M.rfrom_any (cap := cap) n (HR.out.later hW) hshort hz
      rw [← HK.out] at hfr
      have HOk : Hid _ := hok
      have HKn : Hid (∀ W, Below wr.heap.size wr W → Calls Tryz.prog 16 #[] W fun e w' => e = .returned (.bool true) ∧ w' = W) := fun W hW => known_any (HNa.out.later hW)
      have HMs : Hid _ := M.mState
      have HMl : Hid _ := M.mLen
      have HMg : Hid _ := M.mGhosts
      have h4 := M.eState
      have h5 := M.eLen
      have h6 := M.eGhosts
      have htt : ((M.text (M.loads (M.start n) zs)).toList == (M.text (M.loads (M.start n) zs)).toList) = true := by simp
      have HSt : Hid (∀ (e b p : Nat) (D D' : Nat → Prop) (W W' : World), M.AE e b (M.loads (M.start n) zs) D' W' → M.RX p (M.loads (M.start n) zs) D W → Calls Tryz.prog 11 #[.pointer (some ⟨p, 0, none⟩)] W fun ee w' => ee = .returned (.string (M.text (M.loads (M.start n) zs))) ∧ Below W.heap.size W w') := fun _ _ _ _ _ _ _ hA hX => M.rstate hX hok.1 (M.sized hA)
      have HSe : Hid (∀ (e b : Nat) (D : Nat → Prop) (W : World), M.AE e b (M.loads (M.start n) zs) D W → b ≤ 1000 → Calls Tryz.prog M.fState #[.pointer (some ⟨e, 0, none⟩)] W fun ee w' => ee = .returned (.string (M.text (M.loads (M.start n) zs))) ∧ Below W.heap.size W w') := fun _ _ _ _ hA hb => M.state hA hok.1 hok.2 hb
      have HLe : Hid (∀ (e b : Nat) (D : Nat → Prop) (W : World), M.AE e b (M.loads (M.start n) zs) D W → b ≤ 1000 → Calls Tryz.prog M.fLen #[.pointer (some ⟨e, 0, none⟩)] W fun ee w' => ee = .returned (.int .i64 (M.kl (M.loads (M.start n) zs) : Nat)) ∧ Below W.heap.size W w') := fun _ _ _ _ hA hb => M.len hA hok.1 hb
      have HRl : Hid (∀ (p : Nat) (D : Nat → Prop) (W : World), M.RX p (M.loads (M.start n) zs) D W → Calls Tryz.prog 10 #[.pointer (some ⟨p, 0, none⟩)] W fun ee w' => ee = .returned (.int .i64 (M.kl (M.loads (M.start n) zs) : Nat)) ∧ Below W.heap.size W w') := fun _ _ _ hX => M.rlen hX hok.1
      have HGh : Hid (∀ (e b : Nat) (D : Nat → Prop) (W : World), M.AE e b (M.loads (M.start n) zs) D W → b ≤ 1000 → Calls Tryz.prog M.fGhosts #[.pointer (some ⟨e, 0, none⟩)] W fun ee w' => ∃ ad cap, ee = .returned (.slice ad 0 cap) ∧ Below W.heap.size W w') := fun _ _ _ _ hA hb => M.ghosts hA hok.2 hb
      clear hz HNo HX hok HOk
      generalize M.loads (M.start n) zs = s at *
      generalize M.T = T at *
      generalize M.fState = fs at *
      generalize M.fLen = fl at *
      generalize M.fGhosts = fg at *
      generalize M.text s = tx at *
      generalize M.kl s = kl at *
      go_wp2_with (first
        | (go_at_call 17; refine Calls.mono hfr ?_; clear hfr; rintro ee w1 ⟨e, rfl, he, hb1⟩; have HE : Hid (M.AE e zs.length s (fun k => wr.heap.size ≤ k) w1) := he; have HB1 : Hid (Below wr.heap.size wr w1) := hb1; have hrf := HRF.out w1 hb1; have hms := HMs.out (some ⟨e, 0, none⟩); have hml := HMl.out (some ⟨e, 0, none⟩); have hmg := HMg.out (some ⟨e, 0, none⟩); clear he hb1)
        | (go_at_call 18; refine Calls.mono hrf ?_; clear hrf; rintro ee w2 ⟨p, rfl, hx2, hb2⟩; have HE2 : Hid (M.AE e zs.length s (fun k => wr.heap.size ≤ k) w2) := M.below HE.out hb2; have HX2 : Hid (M.RX p s (fun k => w1.heap.size ≤ k) w2) := hx2; have HB2 : Hid (Below wr.heap.size wr w2) := HB1.out.trans (hb2.mono HB1.out.size); have hst := HSe.out _ _ _ _ HE2.out (by omega); clear hx2 hb2)
        | ((with_reducible refine Calls.mono hst ?_); clear hst; rintro ee w3 ⟨rfl, hb3⟩; have HE3 : Hid (M.AE e zs.length s (fun k => wr.heap.size ≤ k) w3) := M.below HE2.out hb3; have HX3 : Hid (M.RX p s (fun k => w1.heap.size ≤ k) w3) := M.rbelow HX2.out hb3; have HB3 : Hid (Below wr.heap.size wr w3) := HB2.out.trans (hb3.mono HB2.out.size); have hrs := HSt.out _ _ _ _ _ _ _ HE3.out HX3.out; clear hb3)
        | (go_at_call 11; refine Calls.mono hrs ?_; clear hrs; rintro ee w4 ⟨rfl, hb4⟩; have HE4 : Hid (M.AE e zs.length s (fun k => wr.heap.size ≤ k) w4) := M.below HE3.out hb4; have HX4 : Hid (M.RX p s (fun k => w1.heap.size ≤ k) w4) := M.rbelow HX3.out hb4; have HB4 : Hid (Below wr.heap.size wr w4) := HB3.out.trans (hb4.mono HB3.out.size); have hle := HLe.out _ _ _ _ HE4.out (by omega); clear hb4)
        | ((with_reducible refine Calls.mono hle ?_); clear hle; rintro ee w5 ⟨rfl, hb5⟩; have HE5 : Hid (M.AE e zs.length s (fun k => wr.heap.size ≤ k) w5) := M.below HE4.out hb5; have HB5 : Hid (Below wr.heap.size wr w5) := HB4.out.trans (hb5.mono HB4.out.size); have hrl := HRl.out _ _ _ (M.rbelow HX4.out hb5); clear hb5)
        | (go_at_call 10; refine Calls.mono hrl ?_; clear hrl; rintro ee w6 ⟨rfl, hb6⟩; have HB6 : Hid (Below wr.heap.size wr w6) := HB5.out.trans (hb6.mono HB5.out.size); have hgh := HGh.out _ _ _ _ (M.below HE5.out hb6) (by omega); clear hb6)
        | ((with_reducible refine Calls.mono hgh ?_); clear hgh; rintro ee w7 ⟨ad7, cap7, rfl, hb7⟩; have HB7 : Hid (Below wr.heap.size wr w7) := HB6.out.trans (hb7.mono HB6.out.size); have hkn := HKn.out w7 HB7.out; clear hb7)
        | (go_at_call 16; refine Calls.mono hkn ?_; clear hkn; rintro ee w8 ⟨rfl, rfl⟩))
      go_ret
      exact ⟨by simp, HB7.out⟩
end
end Mach
end Go.Proofs.YtkkkkiejnmpdkaaGreatDoor
