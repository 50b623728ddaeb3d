/- Of an engine: lay, oldest, drop. -/
import Derived.Test.YtnbfokmodjgaaabDoorEa
import Derived.Deep.Cut
import Derived.Deep.CutRange
namespace Go.Proofs.YtnbfokmodjgaaabDoor
open Go.RowKit

/-- three rows, when a key becomes the newest of one -/
def laid (Q : Nat → List Ls.It) (k : ByteArray) (i : Nat) : Nat → List Ls.It := fun j => if j = i then A.less (Q j) k ++ [⟨k, 0⟩] else A.less (Q j) k
section
variable {D : Nat → Prop} {w : World} {e c : Nat} {Q : Nat → List Ls.It} {b : Nat}
theorem undrew {w w' : World} (h : Below w.drew.heap.size w.drew w') : Below w.heap.size w w' := ⟨h.os, h.tape, h.output, h.size, h.block⟩
theorem Keeps.undrew {D : Nat → Prop} {w w' : World} (h : Keeps D w.drew w') : Keeps D w w' := ⟨h.os, h.tape, h.output, h.size, h.block⟩
theorem cut_none (l : List Ls.It) (k : ByteArray) : k ∉ A.ks (A.less l k) := by
  rw [A.ks_less]
  unfold A.cut
  simp
theorem push_end {L : Nat → Nat} {R : Nat → Li} {x : Nat} {m : ByteArray → Option Ix.Sp} {w2 : World} {k : ByteArray} {i : Nat} (hi : i < 3) (hD : ∀ k, w.heap.size ≤ k → D k) (H : EnIn D L w e c R x m b)
    (hl : Ls.LA 105 103 (own D L w.heap.size i) w2 (R i).pr ((R i).row ++ [Ls.handOf (R i).free (R i).n]) (R i).free.tail (Ls.upd (R i).va (Ls.handOf (R i).free (R i).n) ⟨k, 0⟩) (Ls.moreOf (R i).free (R i).n)) (hk : Keeps (own D L w.heap.size i) w w2) :
    EnIn D (nlab L w.heap.size i) w2 e c (fun j => if j = i then { R i with row := (R i).row ++ [Ls.handOf (R i).free (R i).n], free := (R i).free.tail, va := Ls.upd (R i).va (Ls.handOf (R i).free (R i).n) ⟨k, 0⟩, n := Ls.moreOf (R i).free (R i).n } else R j) x m b ∧ Keeps D w w2 :=
  ⟨H.putL hD hi hk hl rfl, own_keeps hD hk⟩
theorem _root_.Go.Proofs.YtnbfokmodjgaaabDoor.Ls.LA.lens {te tl : TypeId} {B : Nat → Prop} {w : World} {p : Nat} {row free : List Nat} {va : Nat → Ls.It} {n : Nat} (h : Ls.LA te tl B w p row free va n) : row.length + free.length = n := by
  obtain ⟨s, _, R, _, rfl⟩ := h
  exact R.len
theorem nodup_len : ∀ {l m : List ByteArray}, l.Nodup → (∀ k ∈ l, k ∈ m) → l.length ≤ m.length
  | [], _, _, _ => Nat.zero_le _
  | x :: l, m, hn, hs => by
    rw [List.nodup_cons] at hn
    obtain ⟨a, b, rfl⟩ := List.append_of_mem (hs x (by simp))
    have := nodup_len (l := l) (m := a ++ b) hn.2 (fun k hk => by
      have h1 := hs k (by simp [hk])
      simp only [List.mem_append, List.mem_cons] at h1 ⊢
      rcases h1 with h1 | h1 | h1
      · exact .inl h1
      · subst h1; exact absurd hk hn.1
      · exact .inr h1)
    simp at this ⊢
    omega
theorem Rel.fits {R : Nat → Li} {m : ByteArray → Option Ix.Sp} {Q : Nat → List Ls.It} (H : Rel R m Q b) (l : List ByteArray) (hn : l.Nodup) (hs : ∀ k ∈ l, m k ≠ Option.none) : l.length ≤ (Q 0).length + (Q 1).length + (Q 2).length := by
  have := nodup_len (m := A.ks (Q 0) ++ A.ks (Q 1) ++ A.ks (Q 2)) hn (fun k hk => by
    have h1 := hs k hk
    cases hm : m k with
    | none => exact absurd hm h1
    | some v =>
      obtain ⟨i, h⟩ := v
      obtain ⟨h2, h3, -⟩ := H.some hm
      have : i = 0 ∨ i = 1 ∨ i = 2 := by omega
      rcases this with e | e | e <;> subst e <;> simp [h3])
  simp [A.ks_len] at this
  omega
theorem Rel.tight {R : Nat → Li} {m : ByteArray → Option Ix.Sp} {Q : Nat → List Ls.It} {b' : Nat} (H : Rel R m Q b') (h : ∀ i, i < 3 → (R i).n ≤ b) : Rel R m Q b := ⟨H.keys, H.spot, h, H.size, H.nodup⟩
set_option maxHeartbeats 1000000 in
theorem lay_any (H : EN D w e c Q b) (hD : ∀ k, w.heap.size ≤ k → D k) (hb : b ≤ 800000) (k : ByteArray) (hk : k.size ≤ 1000) (i : Nat) (hi : i < 3) (hl : (A.less (Q 0) k).length + (A.less (Q 1) k).length + (A.less (Q 2) k).length + 1 ≤ b) :
    Calls Tryd.prog 34 #[.pointer (some ⟨e, 0, none⟩), .string k, .int .i64 (i : Nat)] w fun ee w' => ee = .returned (.tuple #[]) ∧ EN D w' e c (laid Q k i) b ∧ Keeps D w w' := by
  have HE : Hid (EN D w e c Q b) := H
  have HD : Hid (∀ k, w.heap.size ≤ k → D k) := hD
  clear H hD
  go_enter Tryd.func34, Tryd.ntmps34
  go_wp2_with (go_at_call 37; refine (take_any HE.out HD.out (by omega) k hk).mono ?_; rintro ee w1 ⟨rfl, ⟨L, R, x, m, h1, r1⟩, hk1⟩; have H1 : Hid (EnIn D L w1 e c R x m b) := h1; have R1 : Hid (Rel R m (fun i => A.less (Q i) k) b) := r1; have HK1 : Hid (Keeps D w w1) := hk1; have hD1 : ∀ k, w1.heap.size ≤ k → D k := (fun k h => HD.out k (Nat.le_trans hk1.size h)); have HD1 : Hid (∀ k, w1.heap.size ≤ k → D k) := hD1; have hn : (R i).n ≤ 900000 := (Nat.le_trans (R1.out.few i hi) (by omega)); have hr1 := h1.row hi; obtain ⟨c0, c1, c6, f1, heo⟩ := h1.cells; clear h1 r1 hk1 hD1)
  go_cut [6] from 10 (fun hv wx => hv = .int .i64 (Ls.handOf (R i).free (R i).n : Nat) ∧ (∃ L, EnIn D L wx e c (fun j => if j = i then { R i with row := (R i).row ++ [Ls.handOf (R i).free (R i).n], free := (R i).free.tail, va := Ls.upd (R i).va (Ls.handOf (R i).free (R i).n) ⟨k, 0⟩, n := Ls.moreOf (R i).free (R i).n } else R j) x m b) ∧ Keeps D w wx)
  case first =>
    go_region_with (first
      | (go_at_call 58; refine (Ix.clone_any k hk _).mono ?_; rintro ee w2 ⟨rfl, hb2⟩; have hb2' := undrew hb2; have H2 : Hid (EnIn D L w2 e c R x m b) := H1.out.below hb2'; have HK2 : Hid (Keeps D w w2) := HK1.out.trans (.of_below hb2'); have HD2 : Hid (∀ k, w2.heap.size ≤ k → D k) := (fun k h => HD1.out k (Nat.le_trans hb2'.size h)); have hr2 := H2.out.row hi; clear hb2 hb2')
      | (go_at_call 57; refine (Ls.pushBack_any (H2.out.list hi) (own_new _ _ _ _) ⟨k, 0⟩ hn).mono ?_; rintro ee w3 ⟨rfl, hl3, hk3⟩; have h3 := push_end hi HD2.out H2.out hl3 hk3; have H3 : Hid (EnIn D _ w3 e c _ x m b) := h3.1; have HK3 : Hid (Keeps D w w3) := HK2.out.trans h3.2; clear hl3 hk3 h3))
    all_goals (go_wp2_with fail; go_meet; case rel => exact ⟨rfl, ⟨_, H3.out⟩, HK3.out⟩)
  case rest =>
    obtain ⟨rfl, ⟨L3, h3⟩, HK3⟩ := hcut
    have H3 : Hid (EnIn D L3 wc e c _ x m b) := h3
    have HK3' : Hid (Keeps D w wc) := HK3
    have HD3 : Hid (∀ k, wc.heap.size ≤ k → D k) := fun k h => HD.out k (Nat.le_trans HK3.size h)
    obtain ⟨_, _, c63, _, heo3⟩ := h3.cells
    have hnone : Hid (m k = none) := R1.out.none.2 (fun j _ => cut_none _ _)
    have hfw : Hid (∀ j, j < 3 → (if j = i then Ls.moreOf (R i).free (R i).n else (R j).n) ≤ b) := by
      show ∀ j, j < 3 → (if j = i then Ls.moreOf (R i).free (R i).n else (R j).n) ≤ b
      intro j hj
      split
      · have h1 := Ls.LA.lens (H1.out.li i hi)
        have h2 := R1.out.few i hi
        have h3 : (R i).row.length = (A.less (Q i) k).length := by rw [← R1.out.keys i hi, List.length_map]
        have h4 : i = 0 ∨ i = 1 ∨ i = 2 := by omega
        unfold Ls.moreOf
        split
        · rename_i hf
          rw [hf] at h1
          simp at h1
          rcases h4 with e | e | e <;> subst e <;> omega
        · exact h2
      · exact R1.out.few j hj
    have hhand : Hid (Ls.handOf (R i).free (R i).n ∉ (R i).row) := (Ls.LA.hand (H1.out.li i hi)).1
    clear h3 HK3 hr1 c0 c1 c6 f1 heo hn
    go_wp2_with (go_at_call 59; refine (Ix.put_fit H3.out.index (own_new _ _ _ _) k hk (i, Ls.handOf (R i).free (R i).n) (by omega) (fun l h1 h2 => by have h9 : l.length ≤ (A.less (Q 0) k).length + (A.less (Q 1) k).length + (A.less (Q 2) k).length := R1.out.fits l h1 h2; omega)).mono ?_; rintro ee w4 ⟨rfl, hx4, hk4⟩)
    all_goals
      go_end0
      have h4 := H3.out.putX HD3.out hk4 hx4
      refine ⟨rfl, ⟨_, _, _, _, h4, ?_⟩, HK3'.out.trans (own_keeps HD3.out hk4)⟩
      have h5 := R1.out.lay hnone.out hi hk hhand.out
      exact h5.tight (fun j hj => by have := hfw.out j hj; by_cases e : j = i <;> simp [e] at this ⊢ <;> assumption)
end
end Go.Proofs.YtnbfokmodjgaaabDoor
