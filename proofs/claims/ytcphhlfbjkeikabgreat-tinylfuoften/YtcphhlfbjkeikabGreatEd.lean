/- Of an engine: howOften; lay, move, drop, admit. -/
import Derived.Test.YtcphhlfbjkeikabGreatEc
namespace Go.Proofs.YtcphhlfbjkeikabGreat
open Go.RowKit

section
variable {D : Nat → Prop} {L : Nat → Nat} {w : World} {e c x : Nat} {R : Nat → Li} {Q : Nat → List ByteArray} {m : ByteArray → Option Ix.Sp} {b : Nat} {z : Dk}
/-- what a lay leaves, where the lists and the index need say nothing together -/
def Laid (D : Nat → Prop) (w : World) (e c : Nat) (R : Nat → Li) (x : Nat) (m : ByteArray → Option Ix.Sp) (b : Nat) (z : Dk) : Prop := ∃ L, EnIn D L w e c R x m b z
theorem push_end {w2 : World} {k : ByteArray} {i : Nat} (hi : i < 3) (hD : ∀ k, w.heap.size ≤ k → D k) (H : EnIn D L w e c R x m b z)
    (hl : Ls.LA Value.string 113 93 (own D L w.heap.size i) w2 (R i).pr ((R i).row ++ [Ls.handOf (R i).free (R i).n]) (R i).free.tail (Ls.upd (R i).va (Ls.handOf (R i).free (R i).n) k) (Ls.moreOf (R i).free (R i).n)) (hk : Keeps (own D L w.heap.size i) w w2) :
    EnIn D (nlab L w.heap.size i) w2 e c (pushR R i k) x m b z ∧ Keeps D w w2 :=
  ⟨H.putL hD hi hk hl rfl, own_keeps hD hk⟩
theorem EnIn.drew (H : EnIn D L w e c R x m b z) : EnIn D L w.drew e c R x m b z := H.kept (D' := fun _ => False) (Keeps.refl _ w).drew (fun _ _ _ e => e)
set_option maxHeartbeats 1000000 in
theorem lay_in (H : EnIn D L w e c R x m b z) (hD : ∀ k, w.heap.size ≤ k → D k) (hb : b ≤ 900000) (k : ByteArray) (hk : k.size ≤ 1000) (i : Nat) (hi : i < 3) (hn : (R i).n ≤ 900000) (hfit : ∀ l : List ByteArray, l.Nodup → (∀ k ∈ l, m k ≠ none) → l.length + 1 ≤ b) :
    Calls Tryz.prog 72 #[.pointer (some ⟨e, 0, none⟩), .string k, .int .i64 (i : Nat)] w fun ee w' => ee = .returned (.tuple #[]) ∧ Laid D w' e c (pushR R i k) x (Ix.put m k (some (i, Ls.handOf (R i).free (R i).n))) b z ∧ Keeps D w w' := by
  have HH : Hid (EnIn D L w e c R x m b z) := H
  have HD : Hid (∀ k, w.heap.size ≤ k → D k) := hD
  have HF : Hid (∀ l : List ByteArray, l.Nodup → (∀ k ∈ l, m k ≠ none) → l.length + 1 ≤ b) := hfit
  obtain ⟨c0, c1, c4, f1, heo⟩ := H.cells
  have hr := H.row hi
  clear H hD hfit
  go_enter Tryz.func72, Tryz.ntmps72
  go_wp2_with fail
  go_region_with (first
    | (go_at_call 98; refine (Ls.pushBack_any (HH.out.drew.list hi) (own_new _ _ _ _) k hn).mono ?_; rintro ee w3 ⟨rfl, hl3, hk3⟩; have h3 := push_end hi (w := w.drew) HD.out HH.out.drew hl3 hk3; have H3 : Hid (EnIn D _ w3 e c (pushR R i k) x m b z) := h3.1; have HK3 : Hid (Keeps D w w3) := (Keeps.undrew h3.2); have c43 := h3.1.cells.2.2.1; have heo3 := lt_of_block h3.1.top; clear hl3 hk3 h3 c0 c1 f1)
    | (go_at_call 97; refine (Ix.put_fit H3.out.index (own_new _ _ _ _) k hk (i, Ls.handOf (R i).free (R i).n) (by omega) HF.out).mono ?_; rintro ee w4 ⟨rfl, hx4, hk4⟩))
  all_goals
    go_end0
    have HD3 : ∀ k, w3.heap.size ≤ k → D k := fun k h => HD.out k (Nat.le_trans HK3.out.size h)
    exact ⟨rfl, ⟨_, H3.out.putX HD3 hk4 hx4⟩, HK3.out.trans (own_keeps HD3 hk4)⟩
end
end Go.Proofs.YtcphhlfbjkeikabGreat
