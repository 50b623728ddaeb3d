/- The document's machine: State. The document's machine: digits. The document's machine: State. The document's machine: Evict. -/
import Derived.Test.YtfbdmoineahfgaaDoorRgd
import Derived.Laws.BytesString
import Derived.Test.YtfbdmoineahfgaaDoorEo
import Derived.Laws.Concat
import Derived.Test.YtfbdmoineahfgaaDoorEvy
import Derived.StillTailTactics
namespace Go.Proofs.YtfbdmoineahfgaaDoor
open Go.RowKit

/-- a row as a text -/
def txt (nm : ByteArray) (zs : List ByteArray) : ByteArray := zs.foldl (fun t z => t ++ ⟨#[32]⟩ ++ z) (nm ++ ⟨#[58]⟩)
theorem txt_snoc (nm : ByteArray) (zs : List ByteArray) (z : ByteArray) : txt nm (zs ++ [z]) = txt nm zs ++ ⟨#[32]⟩ ++ z := by simp [txt]
theorem size_snoc (a b : ByteArray) : (a ++ b).size = a.size + b.size := by simp
theorem txt_size (nm : ByteArray) : ∀ (zs : List ByteArray), (∀ z ∈ zs, z.size ≤ 1000) → (txt nm zs).size ≤ nm.size + 1 + 1001 * zs.length := by
  intro zs
  suffices h : ∀ (t : ByteArray), (∀ z ∈ zs, z.size ≤ 1000) → (zs.foldl (fun t z => t ++ ⟨#[32]⟩ ++ z) t).size ≤ t.size + 1001 * zs.length by
    intro hz
    have h2 := h (nm ++ ⟨#[58]⟩) hz
    rw [size_snoc] at h2
    exact h2
  induction zs with
  | nil => intro t _; simp
  | cons a l ih =>
    intro t hz
    rw [List.foldl_cons]
    have h1 := ih (t ++ ⟨#[32]⟩ ++ a) (fun z h => hz z (List.mem_cons_of_mem _ h))
    have h2 := hz a List.mem_cons_self
    rw [size_snoc, size_snoc] at h1
    have h3 : (⟨#[32]⟩ : ByteArray).size = 1 := rfl
    rw [List.length_cons]
    omega
section
variable {D D' : Nat → Prop} {w w' : World} {ad : Option Addr} {cap : Nat} {zs : List ByteArray}
set_option maxHeartbeats 1000000 in
theorem rtext_any (H : Row D w ad cap zs) (hn : zs.length ≤ 10000) (hz : ∀ z ∈ zs, z.size ≤ 1000) (nm : ByteArray) (hnm : nm.size ≤ 100) :
    Calls Tryd.prog 46 #[.string nm, .slice ad zs.length cap] w fun e w' => e = .returned (.string (txt nm zs)) ∧ w' = w := by
  have HH : Hid (Row D w ad cap zs) := H
  have HZ : Hid (∀ z ∈ zs, z.size ≤ 1000) := hz
  clear H hz
  go_enter Tryd.func46, Tryd.ntmps46
  go_wp2
  go_loop [5, 6] (fun t i => ∃ j : Nat, j ≤ zs.length ∧ i = .int .i64 j ∧ t = .string (txt nm (zs.take j))) (fun _ i => zs.length - (intOf i).toNat)
  case atStart => exact ⟨0, Nat.zero_le _, rfl, rfl⟩
  case round =>
    obtain ⟨j, hj, rfl, rfl⟩ := hrel
    rcases Nat.lt_or_ge j zs.length with hlt | hge
    · obtain ⟨z, hz⟩ : ∃ z, zs[j]? = some z := ⟨_, List.getElem?_eq_getElem hlt⟩
      obtain ⟨g, off, rfl, -, c0, -⟩ := HH.out.at hz
      have hzs := HZ.out z (List.mem_of_getElem? hz)
      have hts := txt_size nm (zs.take j) (fun y hy => HZ.out y (List.mem_of_mem_take hy))
      have htl : (zs.take j).length ≤ 10000 := by simp; omega
      have HS : Hid (txt nm (zs.take (j + 1)) = txt nm (zs.take j) ++ ⟨#[32]⟩ ++ z) := by
        show txt nm (zs.take (j + 1)) = _
        rw [List.take_add_one, hz]
        exact txt_snoc _ _ _
      clear hz
      generalize txt nm (zs.take j) = t at *
      have ht : t.size ≤ 20000000 := by omega
      clear hts htl
      go_wp2
      go_round
      case rel => exact ⟨j + 1, hlt, by go_num, by rw [HS.out]⟩
      case measure => simp [intOf]; omega
    · have hj' : j = zs.length := by omega
      subst hj'
      go_wp2
      go_ret
      exact ⟨rfl, rfl⟩
end
end Go.Proofs.YtfbdmoineahfgaaDoor
namespace Go.Proofs.YtfbdmoineahfgaaDoor
open Go.RowKit

/-- one digit, as a text -/
def chr (n : Nat) : ByteArray := ⟨#[UInt8.ofNat (48 + n)]⟩
/-- a number's digits -/
def dig (n : Nat) : ByteArray := if n < 10 then chr n else dig (n / 10) ++ chr (n % 10)
decreasing_by omega
theorem dig_one {n : Nat} (h : n < 10) : dig n = chr n := by rw [dig, if_pos h]
theorem dig_more {n : Nat} (h : ¬ n < 10) : dig n = dig (n / 10) ++ chr (n % 10) := by rw [dig, if_neg h]
theorem chr_size (n : Nat) : (chr n).size = 1 := rfl
theorem dig_size : ∀ n : Nat, (dig n).size ≤ n + 1 := by
  intro n
  induction n using Nat.strongRecOn with
  | ind n ih =>
    by_cases h : n < 10
    · rw [dig_one h, chr_size]; omega
    · rw [dig_more h, size_snoc, chr_size]
      have := ih (n / 10) (by omega)
      omega
theorem conv_at {W : World} {a : Nat} {v : Nat} (h : W.cell? ⟨a, 0, none⟩ = some (.int .u8 (48 + (v : Int)))) : (convert 63 9 (.slice (some ⟨a, 0, none⟩) 1 1)).run Tryd.prog W = .ok (.string (chr v)) W := by
  rw [run_convert_bytes_string _ 63 9 5 _ 1 1 Tryd.underlying63 Tryd.underlying5 Tryd.underlying9, run_bytesToString _ _ 1 1 [48 + (v : Int)]]
  · show _ = Result.ok (Value.string ⟨#[UInt8.ofNat (48 + v)]⟩) W
    have : (48 + (v : Int)).toNat = 48 + v := by omega
    simp only [List.foldl_cons, List.foldl_nil, this]
    rfl
  · simp [loadCells, loadCellsFrom, Addr.add_lit, h]
theorem lit_later {R : Nat} {w Wc w2 : World} (hb : Below Wc.heap.size Wc w2) (h : Wc.cell? ⟨w.heap.size, 0, none⟩ = some (.int .u8 (48 + (R : Int)))) : w2.cell? ⟨w.heap.size, 0, none⟩ = some (.int .u8 (48 + (R : Int))) := cell_later hb h
set_option maxHeartbeats 1000000 in
theorem rdigits_any : ∀ (n : Nat), n ≤ 100000 → ∀ (w : World), Calls Tryd.prog 47 #[.int .i64 (n : Nat)] w fun e w' => e = .returned (.string (dig n)) ∧ Below w.heap.size w w' := by
  intro n
  induction n using Nat.strongRecOn with
  | ind n ih =>
    intro hn w
    by_cases h : n < 10
    · have hcv := fun W : World => conv_at (W := W.alloc (.cells #[.int .u8 (48 + (n : Int))] 5)) (a := W.heap.size) (v := n) (by rw [cell_of_block (heap_alloc_new W _)]; rfl)
      rw [dig_one h]
      generalize chr n = ch at *
      clear ih
      go_enter Tryd.func47, Tryd.ntmps47
      go_wp2
      go_ret
      exact ⟨rfl, (Below.refl _ _).alloc (Nat.le_refl _) _⟩
    · have hcv := fun W : World => conv_at (W := W.alloc (.cells #[.int .u8 (48 + ((n % 10 : Nat) : Int))] 5)) (a := W.heap.size) (v := n % 10) (by rw [cell_of_block (heap_alloc_new W _)]; rfl)
      have hcw := fun (W : World) (a : Nat) (h : W.cell? ⟨a, 0, none⟩ = some (.int .u8 (48 + ((n % 10 : Nat) : Int)))) => conv_at h
      have hlit : (w.alloc (.cells #[.int .u8 (48 + ((n % 10 : Nat) : Int))] 5)).cell? ⟨w.heap.size, 0, none⟩ = some (.int .u8 (48 + ((n % 10 : Nat) : Int))) := by rw [cell_of_block (heap_alloc_new w _)]; rfl
      have hrec := fun W => ih (n / 10) (by omega) (by omega) W
      have hds := dig_size (n / 10)
      have hcs := chr_size (n % 10)
      rw [dig_more h]
      have hq : (n : Int) / 10 = ((n / 10 : Nat) : Int) := by omega
      have hr : (n : Int).tmod 10 = ((n % 10 : Nat) : Int) := by rw [Int.tmod_eq_emod_of_nonneg (by omega)]; omega
      have hr9 : n % 10 ≤ 9 := by omega
      have hQ9 : n / 10 ≤ 10000 := by omega
      have hdl : (dig (n / 10)).size ≤ 100001 := by omega
      generalize dig (n / 10) = dg at *
      generalize chr (n % 10) = ch at *
      generalize n / 10 = Q at *
      generalize n % 10 = R at *
      have hw8 : IntKind.u8.wrap (48 + (R : Int)) = 48 + (R : Int) := by rw [IntKind.wrap_u8]; omega
      have hw64 : IntKind.i64.wrap (48 + (R : Int)) = 48 + (R : Int) := by rw [IntKind.wrap_i64]; omega
      have hwq : IntKind.i64.wrap (Q : Int) = (Q : Int) := by rw [IntKind.wrap_i64]; omega
      clear ih hds
      go_enter Tryd.func47, Tryd.ntmps47
      go_wp2_with fail
      go_region_with (first
        | (go_at_call 47; refine (hrec _).mono ?_; rintro e w2 ⟨rfl, hb2⟩; have hl := lit_later (R := R) (w := w) hb2))
      all_goals
        go_wp2_with fail
        go_ret
        refine ⟨rfl, ?_⟩
        first
          | exact (((Below.refl _ w).alloc (Nat.le_refl _) _).drew).trans (hb2.mono (by show w.heap.size ≤ (w.alloc _).heap.size; simp))
          | exact (((Below.refl _ w).drew).trans hb2).alloc (Nat.le_trans (Nat.le_refl w.heap.size) hb2.size) _
end Go.Proofs.YtfbdmoineahfgaaDoor
namespace Go.Proofs.YtfbdmoineahfgaaDoor
open Go.RowKit

theorem bytes_app (a b : ByteArray) : (a ++ b).data.toList = a.data.toList ++ b.data.toList := by simp
theorem txt_bytes (nm : ByteArray) : ∀ (zs : List ByteArray), (txt nm zs).data.toList = nm.data.toList ++ [58] ++ rowB zs := by
  intro zs
  unfold txt
  suffices h : ∀ (t : ByteArray), (zs.foldl (fun t z => t ++ ⟨#[32]⟩ ++ z) t).data.toList = t.data.toList ++ rowB zs by
    rw [h, bytes_app]
  induction zs with
  | nil => intro t; simp [rowB]
  | cons z l ih =>
    intro t
    rw [List.foldl_cons, ih, bytes_app, bytes_app]
    simp [rowB]
theorem dig_bytes : ∀ n : Nat, (dig n).data.toList = Lib.decDigits n := by
  intro n
  induction n using Nat.strongRecOn with
  | ind n ih =>
    by_cases h : n < 10
    · rw [dig_one h, Lib.decDigits, dif_pos h]
      rfl
    · rw [dig_more h, Lib.decDigits, dif_neg h, bytes_app, ih (n / 10) (by omega)]
      rfl
/-- the machine's text -/
def stT (s : Stt) : ByteArray := txt ⟨#[84, 49]⟩ s.t1 ++ ⟨#[59]⟩ ++ txt ⟨#[84, 50]⟩ s.t2 ++ ⟨#[59]⟩ ++ txt ⟨#[66, 49]⟩ s.b1 ++ ⟨#[59]⟩ ++ txt ⟨#[66, 50]⟩ s.b2 ++ ⟨#[59, 112, 58, 32]⟩ ++ dig s.p
theorem stT_eq (s : Stt) : stT s = ⟨(stB (qs s) 4 ++ [112, 58, 32] ++ Lib.decDigits s.p).toArray⟩ := by
  have h : (stT s).data.toList = stB (qs s) 4 ++ [112, 58, 32] ++ Lib.decDigits s.p := by
    unfold stT
    simp only [bytes_app, txt_bytes, dig_bytes]
    simp [stB, List.range, List.range.loop, oneB, nameB, qs]
  rw [← h]
section
variable {D D' : Nat → Prop} {w w' : World} {x : Nat} {s : Stt}
set_option maxRecDepth 20000 in
set_option maxHeartbeats 4000000 in
theorem rstate_any (H : RE x s D w) (hs : Small s) (hz : ∀ k, k ∈ s.t1 ∨ k ∈ s.t2 ∨ k ∈ s.b1 ∨ k ∈ s.b2 → k.size ≤ 1000) :
    Calls Tryd.prog 14 #[.pointer (some ⟨x, 0, none⟩)] w fun e w' => e = .returned (.string (stT s)) ∧ Below w.heap.size w w' := by
  obtain ⟨L, a1, c1, a2, c2, a3, c3, a4, c4, H⟩ := H
  obtain ⟨d0, d1, d2, d3, d4, d5⟩ := H.cells
  have l1 := hs.t1
  have l2 := hs.t2
  have l3 := hs.b1
  have l4 := hs.b2
  have hp := hs.p
  have t1 := fun (_ : Unit) => rtext_any (H.below ((Below.refl _ w)).drew).r1 (by omega) (fun z h => hz z (.inl h)) ⟨#[84, 49]⟩ (by decide)
  have t2 := fun (_ : Unit) => rtext_any (H.below ((Below.refl _ w)).drew).r2 (by omega) (fun z h => hz z (.inr (.inl h))) ⟨#[84, 50]⟩ (by decide)
  have t3 := fun (_ : Unit) => rtext_any (H.below ((Below.refl _ w)).drew).r3 (by omega) (fun z h => hz z (.inr (.inr (.inl h)))) ⟨#[66, 49]⟩ (by decide)
  have t4 := fun (_ : Unit) => rtext_any (H.below ((Below.refl _ w)).drew).r4 (by omega) (fun z h => hz z (.inr (.inr (.inr h)))) ⟨#[66, 50]⟩ (by decide)
  have k5 := rdigits_any s.p (by omega) w.drew
  have z1 := txt_size ⟨#[84, 49]⟩ s.t1 (fun z h => hz z (.inl h))
  have z2 := txt_size ⟨#[84, 50]⟩ s.t2 (fun z h => hz z (.inr (.inl h)))
  have z3 := txt_size ⟨#[66, 49]⟩ s.b1 (fun z h => hz z (.inr (.inr (.inl h))))
  have z4 := txt_size ⟨#[66, 50]⟩ s.b2 (fun z h => hz z (.inr (.inr (.inr h))))
  have z5 := dig_size s.p
  have e1 : (⟨#[84, 49]⟩ : ByteArray).size = 2 := rfl
  have e2 : (⟨#[84, 50]⟩ : ByteArray).size = 2 := rfl
  have e3 : (⟨#[66, 49]⟩ : ByteArray).size = 2 := rfl
  have e4 : (⟨#[66, 50]⟩ : ByteArray).size = 2 := rfl
  have HC : Hid (∀ W, Below w.heap.size w W → W.cell? ⟨x, 0, none⟩ = some (.slice a1 s.t1.length c1) ∧ W.cell? ⟨x, 1, none⟩ = some (.slice a2 s.t2.length c2) ∧ W.cell? ⟨x, 2, none⟩ = some (.slice a3 s.b1.length c3) ∧ W.cell? ⟨x, 3, none⟩ = some (.slice a4 s.b2.length c4) ∧ W.cell? ⟨x, 4, none⟩ = some (.int .i64 (s.p : Nat))) := fun W hb => by
    obtain ⟨p0, p1, p2, p3, p4, p5⟩ := (H.below hb).cells
    exact ⟨p0, p1, p2, p3, p4⟩
  unfold stT
  generalize txt ⟨#[84, 49]⟩ s.t1 = x1 at *
  generalize txt ⟨#[84, 50]⟩ s.t2 = x2 at *
  generalize txt ⟨#[66, 49]⟩ s.b1 = x3 at *
  generalize txt ⟨#[66, 50]⟩ s.b2 = x4 at *
  generalize dig s.p = x5 at *
  have y1 : x1.size ≤ 5000000 := by omega
  have y2 : x2.size ≤ 5000000 := by omega
  have y3 : x3.size ≤ 5000000 := by omega
  have y4 : x4.size ≤ 5000000 := by omega
  have y5 : x5.size ≤ 5000000 := by omega
  clear z1 z2 z3 z4 z5 e1 e2 e3 e4 H hs hz
  have sz : (⟨#[59]⟩ : ByteArray).size = 1 := rfl
  have sp : (⟨#[59, 112, 58, 32]⟩ : ByteArray).size = 4 := rfl
  have p1 : ∀ W : World, (Op.stringOp .add x1 (⟨#[59]⟩ : ByteArray)).run Tryd.prog W = .ok (.string (x1 ++ (⟨#[59]⟩ : ByteArray))) W := fun W => run_string_add_sum W _ _ (by omega)
  have s1 : (x1 ++ (⟨#[59]⟩ : ByteArray)).size ≤ 5000001 := by rw [size_snoc]; omega
  generalize hc1 : x1 ++ (⟨#[59]⟩ : ByteArray) = c1' at *
  have p2 : ∀ W : World, (Op.stringOp .add c1' x2).run Tryd.prog W = .ok (.string (c1' ++ x2)) W := fun W => run_string_add_sum W _ _ (by omega)
  have s2 : (c1' ++ x2).size ≤ 10000001 := by rw [size_snoc]; omega
  generalize hc2 : c1' ++ x2 = c2' at *
  have p3 : ∀ W : World, (Op.stringOp .add c2' (⟨#[59]⟩ : ByteArray)).run Tryd.prog W = .ok (.string (c2' ++ (⟨#[59]⟩ : ByteArray))) W := fun W => run_string_add_sum W _ _ (by omega)
  have s3 : (c2' ++ (⟨#[59]⟩ : ByteArray)).size ≤ 10000002 := by rw [size_snoc]; omega
  generalize hc3 : c2' ++ (⟨#[59]⟩ : ByteArray) = c3' at *
  have p4 : ∀ W : World, (Op.stringOp .add c3' x3).run Tryd.prog W = .ok (.string (c3' ++ x3)) W := fun W => run_string_add_sum W _ _ (by omega)
  have s4 : (c3' ++ x3).size ≤ 15000002 := by rw [size_snoc]; omega
  generalize hc4 : c3' ++ x3 = c4' at *
  have p5 : ∀ W : World, (Op.stringOp .add c4' (⟨#[59]⟩ : ByteArray)).run Tryd.prog W = .ok (.string (c4' ++ (⟨#[59]⟩ : ByteArray))) W := fun W => run_string_add_sum W _ _ (by omega)
  have s5 : (c4' ++ (⟨#[59]⟩ : ByteArray)).size ≤ 15000003 := by rw [size_snoc]; omega
  generalize hc5 : c4' ++ (⟨#[59]⟩ : ByteArray) = c5' at *
  have p6 : ∀ W : World, (Op.stringOp .add c5' x4).run Tryd.prog W = .ok (.string (c5' ++ x4)) W := fun W => run_string_add_sum W _ _ (by omega)
  have s6 : (c5' ++ x4).size ≤ 20000003 := by rw [size_snoc]; omega
  generalize hc6 : c5' ++ x4 = c6' at *
  have p7 : ∀ W : World, (Op.stringOp .add c6' (⟨#[59, 112, 58, 32]⟩ : ByteArray)).run Tryd.prog W = .ok (.string (c6' ++ (⟨#[59, 112, 58, 32]⟩ : ByteArray))) W := fun W => run_string_add_sum W _ _ (by omega)
  have s7 : (c6' ++ (⟨#[59, 112, 58, 32]⟩ : ByteArray)).size ≤ 20000007 := by rw [size_snoc]; omega
  generalize hc7 : c6' ++ (⟨#[59, 112, 58, 32]⟩ : ByteArray) = c7' at *
  have p8 : ∀ W : World, (Op.stringOp .add c7' x5).run Tryd.prog W = .ok (.string (c7' ++ x5)) W := fun W => run_string_add_sum W _ _ (by omega)
  generalize hc8 : c7' ++ x5 = c8' at *
  clear hc1 hc2 hc3 hc4 hc5 hc6 hc7 hc8 s1 s2 s3 s4 s5 s6 s7 sz sp y1 y2 y3 y4 y5
  go_enter Tryd.func14, Tryd.ntmps14
  go_wp2_with fail
  go_region_held3 (fun w' => w'.cell? ⟨x, 0, none⟩ = some (.slice a1 s.t1.length c1) ∧ w'.cell? ⟨x, 1, none⟩ = some (.slice a2 s.t2.length c2) ∧ w'.cell? ⟨x, 2, none⟩ = some (.slice a3 s.b1.length c3) ∧ w'.cell? ⟨x, 3, none⟩ = some (.slice a4 s.b2.length c4) ∧ w'.cell? ⟨x, 4, none⟩ = some (.int .i64 (s.p : Nat))) (first | exact q9 | exact ⟨d0, d1, d2, d3, d4⟩ | go_keep)
    (first
    | (go_at_call 46; refine (t1 ()).mono ?_; clear t1; rintro e w1 ⟨rfl, rfl⟩)
    | (go_at_call 46; refine (t2 ()).mono ?_; clear t2; rintro e w1 ⟨rfl, rfl⟩)
    | (go_at_call 46; refine (t3 ()).mono ?_; clear t3; rintro e w1 ⟨rfl, rfl⟩)
    | (go_at_call 46; refine (t4 ()).mono ?_; clear t4; rintro e w1 ⟨rfl, rfl⟩)
    | (go_at_call 47; refine k5.mono ?_; clear k5; rintro e w5 ⟨rfl, hb5⟩; have hb6 : Below w.heap.size w w5 := ((Below.refl _ w).drew).trans hb5; have q9 := HC.out _ hb6; clear hb5))
  all_goals
    go_wp2_with fail
    go_ret
    exact ⟨rfl, hb6⟩
end
end Go.Proofs.YtfbdmoineahfgaaDoor
namespace Go.Proofs.YtfbdmoineahfgaaDoor
open Go.RowKit

/-- a row of operations that leave the world as it is, one behind the other -/
structure WS (P : Program) (ops : Array Oper) (w : World) (Q : Act → Prop) (l : List Oper) (a : Act) : Prop where
  out : wpStill P ops w Q l a
section
variable {P : Program} {ops : Array Oper} {w : World} {Q : Act → Prop} {a : Act} {o oj : Oper} {rest : List Oper} {j d di : Nat} {b : Bool}
theorem WS.step (h : ∀ K : Act → Prop, (∀ a, WS P ops w Q rest a → K a) → if Region.wanted o (yielded ops a.tmps) then o.still P a w K else K (a.put o.dst undef)) : WS P ops w Q (o :: rest) a :=
  ⟨wpStill_step (fun K hK => h K (fun a h => hK a h.out))⟩
theorem WS.skip (hw : Region.wanted o (yielded ops a.tmps) = false) (h : WS P ops w Q rest (a.put o.dst undef)) : WS P ops w Q (o :: rest) a :=
  WS.step (fun K hK => by rw [hw]; exact hK _ h)
theorem WS.off (hg : o.guard = some (j, b)) (hj : ops[j]? = some oj) (hd : oj.dst = some d) (hv : a.tmps.getD d undef = .bool (!b)) (h : WS P ops w Q rest (a.put o.dst undef)) : WS P ops w Q (o :: rest) a := by
  refine WS.skip ?_ h
  simp only [Region.wanted, hg, yielded, hj, hd, Option.bind_some]
  cases hx : a.tmps[d]? with
  | none => rw [Array.getD_eq_getD_getElem?, hx] at hv; cases hv
  | some v => rw [Array.getD_eq_getD_getElem?, hx] at hv; simp at hv; subst hv; cases b <;> simp
theorem WS.offu (hg : o.guard = some (j, b)) (hj : ops[j]? = some oj) (hd : oj.dst = some d) (hv : a.tmps.getD d undef = undef) (h : WS P ops w Q rest (a.put o.dst undef)) : WS P ops w Q (o :: rest) a := by
  refine WS.skip ?_ h
  simp only [Region.wanted, hg, yielded, hj, hd, Option.bind_some]
  cases hx : a.tmps[d]? with
  | none => simp
  | some v => rw [Array.getD_eq_getD_getElem?, hx] at hv; simp at hv; subst hv; simp [undef]
end
section
variable {D : Nat → Prop} {w w' : World} {x : Nat} {s : Stt}
set_option maxRecDepth 20000 in
set_option maxHeartbeats 4000000 in
theorem revi_yes (H : RE x s D w) (hok : A.Ok s) (hD : ∀ k, w.heap.size ≤ k → D k) (hl : (A.keys s).length ≠ 0) :
    Calls Tryd.prog 39 #[.pointer (some ⟨x, 0, none⟩)] w fun e w' => ∃ g s', A.goes s (A.first s false) = ([g], s') ∧ e = .returned (.tuple #[.string g, .bool true]) ∧ RE x s' D w' ∧ Keeps D w w' := by
  have hs := Small.of hok
  have hlen := rlen_any H hs
  obtain ⟨m, hm⟩ : ∃ m, m = (A.keys s).length := ⟨_, rfl⟩
  rw [← hm] at hlen hl
  rw [A.keys_length] at hm
  have hgo : ∀ W : World, Below w.heap.size w W → Calls Tryd.prog 63 #[.pointer (some ⟨x, 0, none⟩), .bool (A.first s false)] W fun e w' => ∃ g s', A.goes s (A.first s false) = ([g], s') ∧ e = .returned (.string g) ∧ RE x s' D w' ∧ Keeps D W w' := fun W hW => by
    refine rgoes_any (H.below hW) hs (Single.of hok) (fun k h => hD k (Nat.le_trans hW.size h)) _ ?_ ?_
    · intro hb
      rw [first_parts] at hb
      simp at hb
      omega
    · intro hb
      rcases Nat.eq_zero_or_pos s.t2.length with h0 | h0
      · exfalso
        rw [first_parts, h0] at hb
        have h1 : 0 < s.t1.length := by omega
        simp [h1] at hb
      · exact h0
  have HGo : Hid (∀ W : World, Below w.heap.size w W → Calls Tryd.prog 63 #[.pointer (some ⟨x, 0, none⟩), .bool (A.first s false)] W fun e w' => ∃ g s', A.goes s (A.first s false) = ([g], s') ∧ e = .returned (.string g) ∧ RE x s' D w' ∧ Keeps D W w') := hgo
  have HC : Hid (∀ W : World, Below w.heap.size w W → ∃ a1 c1 a2 c2, W.cell? ⟨x, 0, none⟩ = some (.slice a1 s.t1.length c1) ∧ W.cell? ⟨x, 1, none⟩ = some (.slice a2 s.t2.length c2) ∧ W.cell? ⟨x, 4, none⟩ = some (.int .i64 (s.p : Nat)) ∧ x < W.heap.size) := fun W hW => by
    obtain ⟨L, a1, c1, a2, c2, a3, c3, a4, c4, H⟩ := H
    obtain ⟨d0, d1, d2, d3, d4, d5⟩ := (H.below hW).cells
    exact ⟨_, _, _, _, d0, d1, d4, Nat.lt_of_lt_of_le (lt_of_block H.top) hW.size⟩
  have hf := first_parts s false
  simp only [Bool.and_false, Bool.or_false] at hf
  obtain ⟨ff, hff⟩ : ∃ ff, ff = A.first s false := ⟨_, rfl⟩
  rw [← hff] at HGo hf
  rw [← hff]
  clear hff hgo H hD
  have hlI : ((m : Int) == 0) = false := by simp; omega
  have ht1 := hs.t1
  have ht2 := hs.t2
  have hp := hs.p
  generalize s.t1.length = n1 at *
  generalize s.t2.length = n2 at *
  generalize s.p = p at *
  clear hs hok
  have hcase : (n1 = 0 ∧ ff = false) ∨ (0 < n1 ∧ p < n1 ∧ ff = true) ∨ (0 < n1 ∧ ¬ p < n1 ∧ n2 = 0 ∧ ff = true) ∨ (0 < n1 ∧ ¬ p < n1 ∧ 0 < n2 ∧ ff = false) := by
    by_cases z1 : 0 < n1
    · by_cases z2 : p < n1
      · exact .inr (.inl ⟨z1, z2, by rw [hf]; simp [z1, z2]⟩)
      · by_cases z3 : n2 = 0
        · exact .inr (.inr (.inl ⟨z1, z2, z3, by rw [hf]; simp [z1, z2, z3]⟩))
        · exact .inr (.inr (.inr ⟨z1, z2, by omega, by rw [hf]; simp [z1, z2, z3]⟩))
    · exact .inl ⟨by omega, by rw [hf]; simp [z1]⟩
  clear hf hm hl
  rcases hcase with ⟨rfl, rfl⟩ | ⟨z1, z2, rfl⟩ | ⟨z1, z2, rfl, rfl⟩ | ⟨z1, z2, z3, rfl⟩
  · go_enter Tryd.func39, Tryd.ntmps39
    go_wp2_with (first | (go_at_call 16; refine Calls.mono hlen ?_; clear hlen; rintro e w1 ⟨rfl, q, hw1⟩; have HB1 : Hid (Below w.heap.size w w1.drew) := (by rw [hw1]; exact (below_drewN (Below.refl _ w) q).drew); clear hw1))
    obtain ⟨a1, c1, a2, c2, d0, d1, d4, hx⟩ := HC.out _ HB1.out
    refine wp_region_still_tail 27 (by kernel_rfl) (by kernel_rfl) ?_
    simp only [List.take_succ_cons, List.take_zero, List.drop_succ_cons, List.drop_zero]
    change wpStill Tryd.prog _ w1.drew (fun a' => wpList Tryd.prog _ _ _ a' w1.drew) _ _
    refine WS.out ?_
    iterate 8
      refine WS.step (fun K hK => ?_)
      go_simp
      refine hK _ ?_
      clear hK K
    iterate 11
      refine WS.off rfl rfl rfl rfl ?_
      simp only [Act.put, List.setIfInBounds_toArray, List.set_cons_succ, List.set_cons_zero]
    iterate 6
      refine WS.offu rfl rfl rfl rfl ?_
      simp only [Act.put, List.setIfInBounds_toArray, List.set_cons_succ, List.set_cons_zero]
    iterate 1
      refine WS.off rfl rfl rfl rfl ?_
      simp only [Act.put, List.setIfInBounds_toArray, List.set_cons_succ, List.set_cons_zero]
    iterate 1
      refine WS.step (fun K hK => ?_)
      go_simp
      refine hK _ ?_
      clear hK K
    refine ⟨?_⟩
    refine wpStill_nil ?_
    go_wp2_with (go_at_call 63; refine Calls.mono (HGo.out _ HB1.out) ?_; rintro e w2 ⟨g, s', hgs, rfl, H2, hk2⟩; have HG : Hid (A.goes s _ = ([g], s')) := hgs; clear hgs)
    go_ret2
    exact ⟨g, s', HG.out, rfl, H2, (Keeps.of_below HB1.out).trans hk2⟩
  · have f1 : decide ((0 : Int) < (n1 : Int)) = true := decide_eq_true (by omega)
    have f6 : decide (0 < n1) = true := decide_eq_true (by omega)
    have f2 : decide ((p : Int) < (n1 : Int)) = true := decide_eq_true (by omega)
    have f4 : decide (p < n1) = true := decide_eq_true (by omega)
    go_enter Tryd.func39, Tryd.ntmps39
    go_wp2_with (first | (go_at_call 16; refine Calls.mono hlen ?_; clear hlen; rintro e w1 ⟨rfl, q, hw1⟩; have HB1 : Hid (Below w.heap.size w w1.drew) := (by rw [hw1]; exact (below_drewN (Below.refl _ w) q).drew); clear hw1))
    obtain ⟨a1, c1, a2, c2, d0, d1, d4, hx⟩ := HC.out _ HB1.out
    refine wp_region_still_tail 27 (by kernel_rfl) (by kernel_rfl) ?_
    simp only [List.take_succ_cons, List.take_zero, List.drop_succ_cons, List.drop_zero]
    change wpStill Tryd.prog _ w1.drew (fun a' => wpList Tryd.prog _ _ _ a' w1.drew) _ _
    refine WS.out ?_
    iterate 19
      refine WS.step (fun K hK => ?_)
      go_simp
      refine hK _ ?_
      clear hK K
    iterate 6
      refine WS.off rfl rfl rfl rfl ?_
      simp only [Act.put, List.setIfInBounds_toArray, List.set_cons_succ, List.set_cons_zero]
    iterate 2
      refine WS.step (fun K hK => ?_)
      go_simp
      refine hK _ ?_
      clear hK K
    refine ⟨?_⟩
    refine wpStill_nil ?_
    go_wp2_with (go_at_call 63; refine Calls.mono (HGo.out _ HB1.out) ?_; rintro e w2 ⟨g, s', hgs, rfl, H2, hk2⟩; have HG : Hid (A.goes s _ = ([g], s')) := hgs; clear hgs)
    go_ret2
    exact ⟨g, s', HG.out, rfl, H2, (Keeps.of_below HB1.out).trans hk2⟩
  · have f1 : decide ((0 : Int) < (n1 : Int)) = true := decide_eq_true (by omega)
    have f6 : decide (0 < n1) = true := decide_eq_true (by omega)
    have f2 : decide ((p : Int) < (n1 : Int)) = false := decide_eq_false (by omega)
    have f4 : decide (p < n1) = false := decide_eq_false (by omega)
    go_enter Tryd.func39, Tryd.ntmps39
    go_wp2_with (first | (go_at_call 16; refine Calls.mono hlen ?_; clear hlen; rintro e w1 ⟨rfl, q, hw1⟩; have HB1 : Hid (Below w.heap.size w w1.drew) := (by rw [hw1]; exact (below_drewN (Below.refl _ w) q).drew); clear hw1))
    obtain ⟨a1, c1, a2, c2, d0, d1, d4, hx⟩ := HC.out _ HB1.out
    refine wp_region_still_tail 27 (by kernel_rfl) (by kernel_rfl) ?_
    simp only [List.take_succ_cons, List.take_zero, List.drop_succ_cons, List.drop_zero]
    change wpStill Tryd.prog _ w1.drew (fun a' => wpList Tryd.prog _ _ _ a' w1.drew) _ _
    refine WS.out ?_
    iterate 27
      refine WS.step (fun K hK => ?_)
      go_simp
      refine hK _ ?_
      clear hK K
    refine ⟨?_⟩
    refine wpStill_nil ?_
    go_wp2_with (go_at_call 63; refine Calls.mono (HGo.out _ HB1.out) ?_; rintro e w2 ⟨g, s', hgs, rfl, H2, hk2⟩; have HG : Hid (A.goes s _ = ([g], s')) := hgs; clear hgs)
    go_ret2
    exact ⟨g, s', HG.out, rfl, H2, (Keeps.of_below HB1.out).trans hk2⟩
  · have f1 : decide ((0 : Int) < (n1 : Int)) = true := decide_eq_true (by omega)
    have f6 : decide (0 < n1) = true := decide_eq_true (by omega)
    have f2 : decide ((p : Int) < (n1 : Int)) = false := decide_eq_false (by omega)
    have f4 : decide (p < n1) = false := decide_eq_false (by omega)
    have f3 : ((n2 : Int) == 0) = false := by simp; omega
    go_enter Tryd.func39, Tryd.ntmps39
    go_wp2_with (first | (go_at_call 16; refine Calls.mono hlen ?_; clear hlen; rintro e w1 ⟨rfl, q, hw1⟩; have HB1 : Hid (Below w.heap.size w w1.drew) := (by rw [hw1]; exact (below_drewN (Below.refl _ w) q).drew); clear hw1))
    obtain ⟨a1, c1, a2, c2, d0, d1, d4, hx⟩ := HC.out _ HB1.out
    refine wp_region_still_tail 27 (by kernel_rfl) (by kernel_rfl) ?_
    simp only [List.take_succ_cons, List.take_zero, List.drop_succ_cons, List.drop_zero]
    change wpStill Tryd.prog _ w1.drew (fun a' => wpList Tryd.prog _ _ _ a' w1.drew) _ _
    refine WS.out ?_
    iterate 27
      refine WS.step (fun K hK => ?_)
      go_simp
      refine hK _ ?_
      clear hK K
    refine ⟨?_⟩
    refine wpStill_nil ?_
    go_wp2_with (go_at_call 63; refine Calls.mono (HGo.out _ HB1.out) ?_; rintro e w2 ⟨g, s', hgs, rfl, H2, hk2⟩; have HG : Hid (A.goes s _ = ([g], s')) := hgs; clear hgs)
    go_ret2
    exact ⟨g, s', HG.out, rfl, H2, (Keeps.of_below HB1.out).trans hk2⟩
theorem revict_any (H : RE x s D w) (hok : A.Ok s) (hD : ∀ k, w.heap.size ≤ k → D k) :
    Calls Tryd.prog 39 #[.pointer (some ⟨x, 0, none⟩)] w fun e w' => e = .returned (wentV (A.evict s).1) ∧ RE x (A.evict s).2 D w' ∧ Keeps D w w' := by
  by_cases h0 : (A.keys s).length = 0
  · rw [A.evi_no h0]
    refine (revi_no H (Small.of hok) h0).mono ?_
    rintro e w' ⟨rfl, q, rfl⟩
    exact ⟨rfl, H.below (below_drewN (Below.refl _ w) q), .of_below (below_drewN (Below.refl _ w) q)⟩
  · have e0 : A.evict s = A.goes s (A.first s false) := by unfold A.evict; rw [if_neg h0]
    rw [e0]
    refine (revi_yes H hok hD h0).mono ?_
    rintro e w' ⟨g, s', hg, rfl, h2, hk⟩
    rw [hg]
    exact ⟨rfl, h2, hk⟩
end
end Go.Proofs.YtfbdmoineahfgaaDoor
