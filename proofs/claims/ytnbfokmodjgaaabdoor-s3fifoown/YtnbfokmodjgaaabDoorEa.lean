/- Of an engine: take, lay, oldest, drop. -/
import Derived.Test.YtnbfokmodjgaaabDoorEn
import Derived.BigRegion
import Derived.Deep.RegionWith
namespace Go.Proofs.YtnbfokmodjgaaabDoor
open Go.RowKit

section
variable {D : Nat → Prop} {w : World} {e c : Nat} {Q : Nat → List Ls.It} {b : Nat}
theorem split_mem {l : List Nat} {h : Nat} (hm : h ∈ l) : ∃ a r, l = a ++ h :: r := by
  obtain ⟨a, r, e⟩ := List.append_of_mem hm
  exact ⟨a, r, e⟩
theorem take_end {L : Nat → Nat} {R : Nat → Li} {x : Nat} {m : ByteArray → Option Ix.Sp} {w1 w2 : World} {k : ByteArray} {i h : Nat} {l r : List Nat} (hD : ∀ k, w.heap.size ≤ k → D k) (Hr : Rel R m Q b) (hm : m k = some (i, h)) (hr : (R i).row = l ++ h :: r)
    (H1 : EnIn D (nlab L w.heap.size 4) w1 e c R x (Ix.put m k none) b) (hs : w.heap.size ≤ w1.heap.size) (hl : LiAt (own D (nlab L w.heap.size 4) w1.heap.size i) w2 { R i with row := l ++ r, free := h :: (R i).free, va := Ls.upd (R i).va h Ls.It.none }) (hk : Keeps (own D (nlab L w.heap.size 4) w1.heap.size i) w1 w2) (hi : i < 3) :
    EN D w2 e c (fun i => A.less (Q i) k) b ∧ Keeps D w1 w2 := by
  have hD1 : ∀ k, w1.heap.size ≤ k → D k := fun k hk => hD k (by omega)
  exact ⟨⟨_, _, _, _, H1.putL hD1 hi hk hl rfl, Hr.take hm hr⟩, own_keeps hD1 hk⟩
set_option maxHeartbeats 1000000 in
theorem take_any (H : EN D w e c Q b) (hD : ∀ k, w.heap.size ≤ k → D k) (hb : b ≤ 900000) (k : ByteArray) (hk : k.size ≤ 1000) :
    Calls Tryd.prog 37 #[.pointer (some ⟨e, 0, none⟩), .string k] w fun ee w' => ee = .returned (.tuple #[]) ∧ EN D w' e c (fun i => A.less (Q i) k) b ∧ Keeps D w w' := by
  have HE : Hid (EN D w e c Q b) := H
  obtain ⟨L, R, x, m, H, r⟩ := H
  obtain ⟨c0, c1, c6, f1, heo⟩ := H.cells
  have HH : Hid (EnIn D L w e c R x m b) := H
  have HR : Hid (Rel R m Q b) := r
  have HD : Hid (∀ k, w.heap.size ≤ k → D k) := hD
  clear H r hD
  cases hm : m k with
  | none =>
    have HM : Hid (m k = none) := hm
    clear hm
    go_enter Tryd.func37, Tryd.ntmps37
    go_wp2_with (go_at_call 63; refine (Ix.delete_miss HH.out.index (by omega) k (by unfold maxLen; omega) HM.out).mono ?_; rintro ee w1 ⟨rfl, hb1⟩)
    go_end0
    have hb2 := hb1.alloc hb1.size (.cells #[.int .i64 0, .int .i64 0] 47)
    exact ⟨rfl, (HE.out.below hb2).congr (fun i hi => less_same (HR.out.none.1 HM.out i hi)), .of_below hb2⟩
  | some v =>
    obtain ⟨i, h⟩ := v
    obtain ⟨hi, hin, hv⟩ := (HR.out.spot k i h).1 hm
    obtain ⟨l, r, hr⟩ := split_mem hin
    have HM : Hid (m k = some (i, h)) := hm
    have HL : Hid ((R i).row = l ++ h :: r) := hr
    have hn : (R i).n ≤ 1000000 := by have := HR.out.few i hi; omega
    clear hm hin hv hr
    go_enter Tryd.func37, Tryd.ntmps37
    go_wp2_with (go_at_call 63; refine (Ix.delete_hit HH.out.index (by omega) k (by unfold maxLen; omega) HM.out).mono ?_; rintro ee w1 ⟨rfl, hx1, hk1⟩; have HE1 : Hid (EnIn D (nlab L w.heap.size 4) w1 e c R x (Ix.put m k none) b) := HH.out.putX HD.out hk1 hx1; have hr1 := HE1.out.row hi; have heo1 := lt_of_block HE1.out.top; have hK1 : Hid (Keeps D w w1) := own_keeps HD.out hk1; clear hx1 hk1 c0 c1 c6 f1 heo)
    have HE2 : Hid (EnIn D (nlab L w.heap.size 4) (w1.alloc (.cells #[.int .i64 (i : Nat), .int .i64 (h : Nat)] 47)) e c R x (Ix.put m k none) b) := HE1.out.below ((Below.refl _ w1).alloc (Nat.le_refl _) _)
    have HLi : Hid (Ls.LA 105 103 (own D (nlab L w.heap.size 4) (w1.alloc (.cells #[.int .i64 (i : Nat), .int .i64 (h : Nat)] 47)).heap.size i) (w1.alloc (.cells #[.int .i64 (i : Nat), .int .i64 (h : Nat)] 47)) (R i).pr (l ++ h :: r) (R i).free (R i).va (R i).n) := by
      have := HE2.out.list hi
      rw [LiAt, HL.out] at this
      exact this
    have hK2 : Hid (Keeps D w (w1.alloc (.cells #[.int .i64 (i : Nat), .int .i64 (h : Nat)] 47))) := hK1.out.alloc _
    go_region_with (go_at_call 64; refine (Ls.remove_in (w := (w1.alloc (.cells #[.int .i64 (i : Nat), .int .i64 (h : Nat)] 47)).drew) h HLi.out hn).mono ?_; rintro ee w2 ⟨rfl, hl2, hk2⟩)
    all_goals
      go_wp2_with fail
      go_end0
      have h9 := take_end HD.out HR.out HM.out HL.out HE2.out hK2.out.size hl2 ((Keeps.refl _ _).drew.trans hk2) hi
      exact ⟨rfl, h9.1, hK2.out.trans h9.2⟩
end
end Go.Proofs.YtnbfokmodjgaaabDoor
