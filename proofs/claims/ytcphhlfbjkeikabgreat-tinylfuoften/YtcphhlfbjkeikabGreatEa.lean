/- Of an engine: what is read: blank, count, the rooms, mainFull, first. -/
import Derived.Test.YtcphhlfbjkeikabGreatEn
import Derived.Test.YtcphhlfbjkeikabGreatBs
import Derived.BigRegion
import Derived.Deep.RegionWith
import Derived.Deep.Cut
import Derived.Deep.CutRange
import Derived.Deep.LoopGhost
import Derived.BigQuiet
import Derived.WalkSmall
namespace Go.Proofs.YtcphhlfbjkeikabGreat
open Go.RowKit

theorem undrew {w w' : World} (h : Below w.drew.heap.size w.drew w') : Below w.heap.size w w' := ⟨h.os, h.tape, h.output, h.size, h.block⟩
theorem Keeps.undrew {D : Nat → Prop} {w w' : World} (h : Keeps D w.drew w') : Keeps D w w' := ⟨h.os, h.tape, h.output, h.size, h.block⟩
theorem below_trans {a b c : World} (h : Below a.heap.size a b) (k : Below b.heap.size b c) : Below a.heap.size a c :=
  ((Keeps.of_below (D := fun _ => False) h).trans (Keeps.of_below k)).below (Nat.le_refl _) (fun _ e => e.elim)
theorem split_mem {l : List Nat} {h : Nat} (hm : h ∈ l) : ∃ a r, l = a ++ h :: r := by
  obtain ⟨a, r, e⟩ := List.append_of_mem hm
  exact ⟨a, r, e⟩
/-- a row of numbers in a block -/
def IntsAt (w : World) (g : Nat) (is : List Nat) : Prop := w.heap[g]? = some (.cells (is.map (fun i : Nat => Value.int .i64 (i : Nat))).toArray 3 (0, 0))
theorem IntsAt.at {w : World} {g : Nat} {is : List Nat} (h : IntsAt w g is) {j i : Nat} (hj : is[j]? = some i) : w.cell? ⟨g, j, none⟩ = some (.int .i64 (i : Nat)) := by
  rw [cell_of_block h, List.getElem?_toArray, List.getElem?_map, hj]
  rfl
theorem ints_three (w : World) (i j k : Nat) : IntsAt (w.alloc (.cells #[.int .i64 (i : Nat), .int .i64 (j : Nat), .int .i64 (k : Nat)] 3)) w.heap.size [i, j, k] := heap_alloc_new w _
theorem ints_two (w : World) (i j : Nat) : IntsAt (w.alloc (.cells #[.int .i64 (i : Nat), .int .i64 (j : Nat)] 3)) w.heap.size [i, j] := heap_alloc_new w _
theorem ints_one (w : World) (i : Nat) : IntsAt (w.alloc (.cells #[.int .i64 (i : Nat)] 3)) w.heap.size [i] := heap_alloc_new w _
theorem Ls.LA.pos {te tl : TypeId} {B : Nat → Prop} {w : World} {p : Nat} {row free : List Nat} {va : Nat → ByteArray} {n : Nat} (h : Ls.LA Value.string te tl B w p row free va n) : ∀ a ∈ row, 1 ≤ a := by
  obtain ⟨s, _, R, _, _⟩ := h
  intro a ha
  exact ((R.mem a).1 (by simp [ha])).1
section
variable {D : Nat → Prop} {w : World} {e c : Nat} {Q : Nat → List ByteArray} {m : ByteArray → Option Ix.Sp} {b : Nat} {z : Dk}
theorem blank_any (H : EM D w e c Q m b z) : Calls Tryz.prog 34 #[.pointer (some ⟨e, 0, none⟩)] w fun ee w' => ee = .returned (.bool false) ∧ w' = w := by
  obtain ⟨c0, c1, f1, heo, ⟨x, c6⟩, -, -⟩ := H.cells
  clear H
  go_enter Tryz.func34, Tryz.ntmps34
  go_wp2
  go_ret
  exact ⟨rfl, rfl⟩
theorem EM.len (H : EM D w e c Q m b z) {i : Nat} (hi : i < 3) : ∃ l : Li, (∀ q, LiAt (own D (fun _ => 0) 0 0) (w.drewN q) l) ∧ w.cell? ⟨e, 1 + i, none⟩ = some (.pointer (some ⟨l.pr, 0, none⟩)) ∧ l.row.length = (Q i).length ∧ l.n ≤ b := by
  obtain ⟨L, R, x, H, r1⟩ := H
  refine ⟨R i, fun q => Ls.LA.below (Ls.LA.wide (H.li i hi) (fun _ _ => .inr (Nat.zero_le _))) (below_drewN (Below.refl _ w) q), H.row hi, ?_, r1.few i hi⟩
  rw [← r1.keys i hi, List.length_map]
theorem EM.lens (H : EM D w e c Q m b z) {i : Nat} (hi : i < 3) : (Q i).length ≤ b := by
  obtain ⟨L, R, x, H, r1⟩ := H
  rw [← r1.keys i hi, List.length_map]
  obtain ⟨s, _, R', _, hn⟩ := H.li i hi
  have := R'.len
  have := r1.few i hi
  omega
set_option maxHeartbeats 1000000 in
theorem count_any (H : EM D w e c Q m b z) {i : Nat} (hi : i < 3) :
    Calls Tryz.prog 49 #[.pointer (some ⟨e, 0, none⟩), .int .i64 (i : Nat)] w fun ee w' => ee = .returned (.int .i64 ((Q i).length : Nat)) ∧ w' = w := by
  obtain ⟨l, HL, c2, hlen, hln⟩ := H.len hi
  have HLq : Hid (LiAt (own D (fun _ => 0) 0 0) w l) := HL 0
  clear H HL
  go_enter Tryz.func49, Tryz.ntmps49
  go_wp2_with (go_at_call 73; refine (Ls.len_any HLq.out).mono ?_; rintro ee w1 ⟨rfl, rfl⟩; rw [hlen])
  go_ret
  exact ⟨rfl, rfl⟩
/-- how many the window, the others, P may have -/
def wr (c : Nat) : Nat := max (c / 8) 1
def mr (c : Nat) : Nat := c - wr c
def pr (c : Nat) : Nat := mr c * 4 / 5
theorem wr_le {c : Nat} (h : 1 ≤ c) : wr c ≤ c := by unfold wr; omega
theorem window_any (H : EM D w e c Q m b z) (hc : c ≤ 1024) : Calls Tryz.prog 50 #[.pointer (some ⟨e, 0, none⟩)] w fun ee w' => ee = .returned (.int .i64 ((wr c : Nat) : Int)) ∧ w' = w := by
  obtain ⟨c0, c1, f1, heo, ⟨x, c6⟩, -, -⟩ := H.cells
  clear H
  unfold wr
  go_enter Tryz.func50, Tryz.ntmps50
  go_wp2
  go_ret
  exact ⟨by simp; omega, rfl⟩
theorem main_any (H : EM D w e c Q m b z) (h1 : 1 ≤ c) (hc : c ≤ 1024) : Calls Tryz.prog 80 #[.pointer (some ⟨e, 0, none⟩)] w fun ee w' => ee = .returned (.int .i64 ((mr c : Nat) : Int)) ∧ Below w.heap.size w w' := by
  obtain ⟨c0, c1, f1, heo, ⟨x, c6⟩, -, -⟩ := H.cells
  have hw := window_any H hc
  have hw2 := fun q => window_any (EM.drewN H q) hc
  have HW2 : Hid _ := hw2
  have hle := wr_le h1
  have hm : ((mr c : Nat) : Int) = (c : Int) - (wr c : Nat) := by unfold mr; omega
  rw [hm]
  clear H hw2 hm
  generalize wr c = n at *
  go_enter Tryz.func80, Tryz.ntmps80
  go_wp2_with fail
  go_quiet (first | (go_at_call 50; exact Calls.quiet_of_same (HW2.out _)))
  go_wp2
  go_ret
  exact ⟨by go_num, below_drewN (Below.refl _ w) _⟩
theorem prot_any (H : EM D w e c Q m b z) (h1 : 1 ≤ c) (hc : c ≤ 1024) : Calls Tryz.prog 71 #[.pointer (some ⟨e, 0, none⟩)] w fun ee w' => ee = .returned (.int .i64 ((pr c : Nat) : Int)) ∧ Below w.heap.size w w' := by
  have hm := main_any H h1 hc
  have hl : mr c ≤ 1024 := by unfold mr; omega
  have hp : ((pr c : Nat) : Int) = (mr c : Nat) * 4 / 5 := by unfold pr; omega
  rw [hp]
  clear H hp
  generalize mr c = n at *
  go_enter Tryz.func71, Tryz.ntmps71
  go_wp2_with (go_at_call 80; refine Calls.mono hm ?_; clear hm; rintro ee w1 ⟨rfl, hb1⟩)
  go_ret
  exact ⟨by go_num, hb1⟩
theorem full_any (H : EM D w e c Q m b z) (h1 : 1 ≤ c) (hc : c ≤ 1024) (hb : b ≤ 900000) : Calls Tryz.prog 58 #[.pointer (some ⟨e, 0, none⟩)] w fun ee w' => ee = .returned (.bool (decide (mr c ≤ (Q 1).length + (Q 2).length))) ∧ Below w.heap.size w w' := by
  have hm := main_any H h1 hc
  have hc1 := count_any H (i := 1) (by omega)
  have hc2 := count_any H (i := 2) (by omega)
  have l1 := H.lens (i := 1) (by omega)
  have l2 := H.lens (i := 2) (by omega)
  have HX : Hid (decide (((mr c : Nat) : Int) ≤ ((Q 1).length : Int) + ((Q 2).length : Int)) = decide (mr c ≤ (Q 1).length + (Q 2).length)) := decide_eq_decide.2 (by omega)
  clear H
  generalize (Q 1).length = n1 at *
  generalize (Q 2).length = n2 at *
  have hmr : mr c ≤ 1024 := by unfold mr; omega
  generalize mr c = n at *
  go_enter Tryz.func58, Tryz.ntmps58
  go_wp2_with (first
    | (go_at_call 49; refine Calls.mono hc1 ?_; clear hc1; rintro ee w1 ⟨rfl, rfl⟩)
    | (go_at_call 49; refine Calls.mono hc2 ?_; clear hc2; rintro ee w1 ⟨rfl, rfl⟩)
    | (go_at_call 80; refine Calls.mono hm ?_; clear hm; rintro ee w1 ⟨rfl, hb1⟩))
  go_ret
  exact ⟨congrArg (fun x => Ending.returned (Value.bool x)) HX.out, hb1⟩
/-- a row's front, as the lists tell it in whatever world that is as w was -/
theorem EM.front (H : EM D w e c Q m b z) {i : Nat} (hi : i < 3) :
    ∃ l : Li, (∀ W, Below w.heap.size w W → LiAt (own D (fun _ => 0) 0 0) W l ∧ W.cell? ⟨e, 1 + i, none⟩ = some (.pointer (some ⟨l.pr, 0, none⟩))) ∧ (Q i = [] → Ls.hdOf l.row = 0) ∧ (∀ k r, Q i = k :: r → 1 ≤ Ls.hdOf l.row ∧ m k = some (i, Ls.hdOf l.row)) := by
  obtain ⟨L, R, x, H, r1⟩ := H
  refine ⟨R i, fun W hW => ⟨Ls.LA.wide ((H.below hW).li i hi) (fun _ _ => .inr (Nat.zero_le _)), (H.below hW).row hi⟩, fun h => ?_, fun k r h => ?_⟩
  · have h2 := r1.keys i hi
    rw [h] at h2
    cases hrow : (R i).row with
    | nil => rfl
    | cons a t => rw [hrow] at h2; cases h2
  · have h2 := r1.keys i hi
    rw [h] at h2
    cases hrow : (R i).row with
    | nil => rw [hrow] at h2; cases h2
    | cons a t =>
      rw [hrow] at h2
      simp at h2
      have ha : a ∈ (R i).row := by rw [hrow]; simp
      exact ⟨Ls.LA.pos (H.li i hi) a ha, (r1.spot k i a).2 ⟨hi, ha, h2.1⟩⟩
theorem at_split {p q : List Nat} {i : Nat} : (p ++ i :: q)[p.length]? = some i := by simp
set_option maxHeartbeats 1000000 in
theorem first_at (H : EM D w e c Q m b z) {g : Nat} {p q : List Nat} {i : Nat} {k : ByteArray} {r : List ByteArray} (hg : IntsAt w g (p ++ i :: q)) (h3 : ∀ j ∈ p ++ i :: q, j < 3) (hl : (p ++ i :: q).length ≤ 4) (hp : ∀ j ∈ p, Q j = []) (hq : Q i = k :: r) :
    ∃ h, m k = some (i, h) ∧ Calls Tryz.prog 51 #[.pointer (some ⟨e, 0, none⟩), .slice (some ⟨g, 0, none⟩) (p ++ i :: q).length (p ++ i :: q).length] w fun ee w' => ee = .returned (.tuple #[Ix.V (i, h), .bool true]) ∧ Below w.heap.size w w' := by
  have hi : i < 3 := h3 i (by simp)
  obtain ⟨l, hl2, -, hl3⟩ := H.front hi
  obtain ⟨hpos, hm⟩ := hl3 k r hq
  refine ⟨_, hm, ?_⟩
  have HE : Hid (EM D w e c Q m b z) := H
  have HG : Hid (IntsAt w g (p ++ i :: q)) := hg
  have HL2 : Hid (∀ W, Below w.heap.size w W → LiAt (own D (fun _ => 0) 0 0) W l ∧ W.cell? ⟨e, 1 + i, none⟩ = some (.pointer (some ⟨l.pr, 0, none⟩))) := hl2
  have H3 : Hid (∀ j ∈ p ++ i :: q, j < 3) := h3
  have HP : Hid (∀ j ∈ p, Q j = []) := hp
  have HAt : Hid ((p ++ i :: q)[p.length]? = some i) := at_split
  obtain ⟨is, his⟩ : ∃ is, is = p ++ i :: q := ⟨_, rfl⟩
  have HIs : Hid (is = p ++ i :: q) := his
  have hlen : p.length < is.length := by rw [his]; simp
  rw [← his] at HG H3 HAt hl ⊢
  clear H hg hl2 h3 hp hl3 hm hq his
  go_enter Tryz.func51, Tryz.ntmps51
  go_wp2_with fail
  obtain ⟨W0, hW0⟩ : ∃ W0, W0 = w.alloc (.cells #[.int .i64 0, .int .i64 0] 44) := ⟨_, rfl⟩
  have hbox : W0.heap[w.heap.size]? = some (.cells #[.int .i64 0, .int .i64 0] 44 (0, 0)) := by rw [hW0]; exact heap_alloc_new w _
  have HB0 : Hid (Below w.heap.size w W0) := by show Below w.heap.size w W0; rw [hW0]; exact (Below.refl _ w).alloc (Nat.le_refl _) _
  have HI0 : Hid (IntsAt W0 g is) := (HB0.out.block g (lt_of_block HG.out)).trans HG.out
  rw [← hW0]
  clear hW0 HG
  go_loop [11] (fun i => ∃ k : Nat, k ≤ p.length ∧ i = .int .i64 k) (fun i => p.length - (intOf i).toNat)
  case atStart => exact ⟨0, Nat.zero_le _, rfl⟩
  case round =>
    obtain ⟨j, hj, rfl⟩ := hrel
    rcases Nat.lt_or_ge j p.length with hlt | hge
    · obtain ⟨i', hi'⟩ : ∃ i', p[j]? = some i' := ⟨_, List.getElem?_eq_getElem hlt⟩
      have hi2 : is[j]? = some i' := by rw [HIs.out, List.getElem?_append_left hlt]; exact hi'
      have hi3 := H3.out i' (List.mem_of_getElem? hi2)
      have ci := HI0.out.at hi2
      obtain ⟨l', hf1, hf2, -⟩ := HE.out.front hi3
      obtain ⟨hf3, hf4⟩ := hf1 W0 HB0.out
      have hz := hf2 (HP.out i' (List.mem_of_getElem? hi'))
      have HLf : Hid (LiAt (own D (fun _ => 0) 0 0) W0 l') := hf3
      have heo := (HE.out.below HB0.out).cells.2.2.2.1
      clear hf1 hf2 hf3 hi2 hi'
      go_wp2_with (go_at_call 74; refine (Ls.front_any HLf.out).mono ?_; rw [hz]; rintro ee w1 ⟨rfl, rfl⟩)
      go_round
      case rel => exact ⟨j + 1, hlt, by go_num⟩
      case measure => simp [intOf]; omega
    · have hjp : j = p.length := by omega
      subst hjp
      have ci := HI0.out.at HAt.out
      obtain ⟨hf3, hf4⟩ := HL2.out W0 HB0.out
      have HLf : Hid (LiAt (own D (fun _ => 0) 0 0) W0 l) := hf3
      have heo := (HE.out.below HB0.out).cells.2.2.2.1
      have hne : ((Ls.hdOf l.row : Nat) : Int) ≠ 0 := by omega
      clear hf3
      have r0 := cell_of_block (j := 0) hbox
      have r1 := cell_of_block (j := 1) hbox
      have x0 := frozen_of_block (j := 0) hbox
      have x1 := frozen_of_block (j := 1) hbox
      simp at r0 r1
      have hnw2 := lt_of_block hbox
      have HB : Hid (∀ u v : Value, Below w.heap.size w ((W0.setCell ⟨w.heap.size, 0, none⟩ u).setCell ⟨w.heap.size, 1, none⟩ v)) := fun u v => (((Keeps.of_below (D := fun k => w.heap.size ≤ k) HB0.out).setCell (p := ⟨w.heap.size, 0, none⟩) (Nat.le_refl _) u).setCell (p := ⟨w.heap.size, 1, none⟩) (Nat.le_refl _) v).below (Nat.le_refl _) (fun _ h => h)
      clear HB0 HI0
      go_wp2_with (go_at_call 74; refine (Ls.front_any HLf.out).mono ?_; rintro ee w1 ⟨rfl, rfl⟩)
      exact bodyPost_ret (v := .tuple #[.agg #[.int .i64 (i : Nat), .int .i64 (Ls.hdOf l.row : Nat)], .bool true]) (by simp [results, Tryz.results51, go_sem, r0, r1]) rfl ⟨rfl, HB.out _ _⟩
set_option maxHeartbeats 1000000 in
theorem first_none (H : EM D w e c Q m b z) {g : Nat} {is : List Nat} (hg : IntsAt w g is) (h3 : ∀ j ∈ is, j < 3) (hl : is.length ≤ 4) (hp : ∀ j ∈ is, Q j = []) :
    Calls Tryz.prog 51 #[.pointer (some ⟨e, 0, none⟩), .slice (some ⟨g, 0, none⟩) is.length is.length] w fun ee w' => ee = .returned (.tuple #[Ix.V (0, 0), .bool false]) ∧ Below w.heap.size w w' := by
  have HE : Hid (EM D w e c Q m b z) := H
  have HG : Hid (IntsAt w g is) := hg
  have H3 : Hid (∀ j ∈ is, j < 3) := h3
  have HP : Hid (∀ j ∈ is, Q j = []) := hp
  clear H hg h3 hp
  go_enter Tryz.func51, Tryz.ntmps51
  go_wp2_with fail
  obtain ⟨W0, hW0⟩ : ∃ W0, W0 = w.alloc (.cells #[.int .i64 0, .int .i64 0] 44) := ⟨_, rfl⟩
  have hbox : W0.heap[w.heap.size]? = some (.cells #[.int .i64 0, .int .i64 0] 44 (0, 0)) := by rw [hW0]; exact heap_alloc_new w _
  have HB0 : Hid (Below w.heap.size w W0) := by show Below w.heap.size w W0; rw [hW0]; exact (Below.refl _ w).alloc (Nat.le_refl _) _
  have HI0 : Hid (IntsAt W0 g is) := (HB0.out.block g (lt_of_block HG.out)).trans HG.out
  rw [← hW0]
  clear hW0 HG
  go_loop [11] (fun i => ∃ k : Nat, k ≤ is.length ∧ i = .int .i64 k) (fun i => is.length - (intOf i).toNat)
  case atStart => exact ⟨0, Nat.zero_le _, rfl⟩
  case round =>
    obtain ⟨j, hj, rfl⟩ := hrel
    rcases Nat.lt_or_ge j is.length with hlt | hge
    · obtain ⟨i', hi'⟩ : ∃ i', is[j]? = some i' := ⟨_, List.getElem?_eq_getElem hlt⟩
      have hi3 := H3.out i' (List.mem_of_getElem? hi')
      have ci := HI0.out.at hi'
      obtain ⟨l', hf1, hf2, -⟩ := HE.out.front hi3
      obtain ⟨hf3, hf4⟩ := hf1 W0 HB0.out
      have hz := hf2 (HP.out i' (List.mem_of_getElem? hi'))
      have HLf : Hid (LiAt (own D (fun _ => 0) 0 0) W0 l') := hf3
      have heo := (HE.out.below HB0.out).cells.2.2.2.1
      clear hf1 hf2 hf3 hi'
      go_wp2_with (go_at_call 74; refine (Ls.front_any HLf.out).mono ?_; rw [hz]; rintro ee w1 ⟨rfl, rfl⟩)
      go_round
      case rel => exact ⟨j + 1, hlt, by go_num⟩
      case measure => simp [intOf]; omega
    · have hjp : j = is.length := by omega
      subst hjp
      have r0 := cell_of_block (j := 0) hbox
      have r1 := cell_of_block (j := 1) hbox
      have x0 := frozen_of_block (j := 0) hbox
      have x1 := frozen_of_block (j := 1) hbox
      simp at r0 r1
      have hnw2 := lt_of_block hbox
      have HB : Hid (∀ u v : Value, Below w.heap.size w ((W0.setCell ⟨w.heap.size, 0, none⟩ u).setCell ⟨w.heap.size, 1, none⟩ v)) := fun u v => (((Keeps.of_below (D := fun k => w.heap.size ≤ k) HB0.out).setCell (p := ⟨w.heap.size, 0, none⟩) (Nat.le_refl _) u).setCell (p := ⟨w.heap.size, 1, none⟩) (Nat.le_refl _) v).below (Nat.le_refl _) (fun _ h => h)
      clear HB0 HI0
      go_wp2_with fail
      exact bodyPost_ret (v := .tuple #[.agg #[.int .i64 0, .int .i64 0], .bool false]) (by simp [results, Tryz.results51, go_sem, r0, r1]) rfl ⟨rfl, HB.out _ _⟩
end
end Go.Proofs.YtcphhlfbjkeikabGreat
