/- A ring of numbers: Pop. -/
import Derived.Test.YtpjeehdgdhbhdaaNum2
namespace Go.Proofs.Ytpjeehdgdhbhdaa.Num
open Go.RowKit

section
variable {D : Nat → Prop} {w : World} {p : Nat} {sl xs : List Int} {first count room : Nat} {ad : Option Addr}
theorem pop_nil (H : RG V 3 47 D w p [] room) :
    Calls Try.prog 8 #[.pointer (some ⟨p, 0, none⟩)] w fun e w' => e = .returned (.tuple #[V 0, .bool false]) ∧ ∃ q, w' = w.drewN q := by
  have h0 := at_out H 0 (.inr (by simp))
  clear H
  go_enter Try.func8, Try.ntmps8
  go_wp2_with (go_at_call 12; refine h0.mono ?_; rintro e w1 ⟨rfl, q, rfl⟩; clear h0)
  go_ret2
  exact ⟨rfl, _, rfl⟩
theorem pop_end {x : Int} {g j : Nat} (H : RingIn V 3 47 D w p sl first (xs.length + 1) room (some ⟨g, 0, none⟩)) (o : Ok sl first room (x :: xs)) (hj : j = (first + 1) % sl.length) (hg : D g) (q r : Nat) (W : World) (hW : W = ((w.drewN q).setCell ⟨g, first, none⟩ (V 0)).drewN r) :
    RG V 3 47 D ((W.setCell ⟨p, 1, none⟩ (.int .i64 (j : Nat))).setCell ⟨p, 2, none⟩ (.int .i64 (xs.length : Nat))) p xs room ∧ Keeps D w ((W.setCell ⟨p, 1, none⟩ (.int .i64 (j : Nat))).setCell ⟨p, 2, none⟩ (.int .i64 (xs.length : Nat))) := by
  subst hj hW
  have hl := o.le
  simp at hl
  have h2 := (((((H.drewN q).setSlot (by omega) first 0).drewN r).setFirst ((first + 1) % sl.length)).setCount xs.length)
  exact ⟨⟨_, _, _, h2, (o.pop 0).2⟩, (((((Keeps.refl D w).drewN q).setCell hg _).drewN r).setCell H.1 _).setCell H.1 _⟩
set_option maxHeartbeats 1000000 in
theorem pop_cons {x : Int} (H : RG V 3 47 D w p (x :: xs) room) :
    Calls Try.prog 8 #[.pointer (some ⟨p, 0, none⟩)] w fun e w' => e = .returned (.tuple #[V x, .bool true]) ∧ RG V 3 47 D w' p xs room ∧ Keeps D w w' := by
  have ha := at_in H 0 (x := x) rfl
  obtain ⟨sl, f, ad, H, o⟩ := H
  have hle := o.le
  have hfit := o.fits
  have hbig := o.big
  rw [List.length_cons] at H hle
  have hf : f < sl.length := by rcases o.fst with h | ⟨_, h⟩
                                · exact h
                                · subst h; simp at hle
  obtain ⟨g, rfl, hgp, hDg, hc, hfr⟩ := H.slot (o.pop 0).1
  obtain ⟨j, hj⟩ : ∃ j, j = (f + 1) % sl.length := ⟨_, rfl⟩
  have hsl : ∀ W : World, RingIn V 3 47 D W p (sl.set f 0) f (xs.length + 1) room (some ⟨g, 0, none⟩) → Calls Try.prog 24 #[.pointer (some ⟨p, 0, none⟩), .int .i64 1] W fun e w' => e = .returned (.int .i64 (j : Nat)) ∧ ∃ q, w' = W.drewN q := fun W h => by
    have := slot_in h 1 (by simp; omega) (by simp; omega) (by omega) (by omega)
    rw [List.length_set, ← hj] at this
    exact this
  obtain ⟨c0, c1, c2, c3, f0, f1, f2, f3⟩ := H.top
  have HO : Hid (Ok sl f room (x :: xs)) := o
  have HH : Hid (RingIn V 3 47 D w p sl f (xs.length + 1) room (some ⟨g, 0, none⟩)) := H
  have HJ : Hid (j = (f + 1) % sl.length) := hj
  clear H o hj
  go_enter Try.func8, Try.ntmps8
  go_wp2_with (go_at_call 12; refine ha.mono ?_; rintro e w1 ⟨rfl, q, rfl⟩; clear ha)
  go_region
  all_goals
    go_wp2_with (go_at_call 24; refine (hsl _ ((HH.out.drewN _).setSlot (by omega) f 0)).mono ?_; rintro e w1 ⟨rfl, q2, rfl⟩)
    go_ret2
    refine ⟨rfl, ?_⟩
    refine pop_end HH.out HO.out HJ.out hDg _ _ _ rfl
theorem pop_any (H : RG V 3 47 D w p xs room) :
    Calls Try.prog 8 #[.pointer (some ⟨p, 0, none⟩)] w fun e w' => e = .returned (.tuple #[V (xs.headD 0), .bool (decide (0 < xs.length))]) ∧ RG V 3 47 D w' p xs.tail room ∧ Keeps D w w' := by
  cases xs with
  | nil => exact (pop_nil H).mono fun e w' ⟨he, q, hw⟩ => ⟨he, by rw [hw]; exact H.drewN q, by rw [hw]; exact (Keeps.refl D w).drewN q⟩
  | cons x xs => exact (pop_cons H).mono fun e w' ⟨he, h⟩ => ⟨by simpa using he, h⟩
def atOf {β : Type} (z : β) (xs : List β) (i : Int) : β := if 0 ≤ i ∧ i < xs.length then xs.getD i.toNat z else z
theorem at_any (H : RG V 3 47 D w p xs room) (i : Int) :
    Calls Try.prog 12 #[.pointer (some ⟨p, 0, none⟩), .int .i64 i] w fun e w' => e = .returned (.tuple #[V (atOf 0 xs i), .bool (decide (0 ≤ i ∧ i < xs.length))]) ∧ ∃ q, w' = w.drewN q := by
  by_cases h : 0 ≤ i ∧ i < xs.length
  · obtain ⟨n, rfl⟩ : ∃ n : Nat, i = n := ⟨i.toNat, by omega⟩
    have hn : n < xs.length := by omega
    have hx : xs[n]? = some (atOf 0 xs n) := by
      rw [atOf, if_pos h, Int.toNat_natCast, List.getElem?_eq_getElem hn]
      simp [List.getD, List.getElem?_eq_getElem hn]
    rw [show decide (0 ≤ (n : Int) ∧ (n : Int) < xs.length) = true by simpa using h]
    exact at_in H n hx
  · rw [show decide (0 ≤ i ∧ i < (xs.length : Int)) = false by simpa using h, show atOf 0 xs i = 0 by rw [atOf, if_neg h]]
    exact at_out H i (by omega)

/-! ### a ring that isn't there -/
theorem len_nil (w : World) : Calls Try.prog 16 #[.pointer none] w fun e w' => e = .returned (.int .i64 0) ∧ w' = w := by
  go_enter Try.func16, Try.ntmps16
  go_wp2
  go_ret
  exact ⟨rfl, rfl⟩
theorem room_nil (w : World) : Calls Try.prog 17 #[.pointer none] w fun e w' => e = .returned (.int .i64 0) ∧ w' = w := by
  go_enter Try.func17, Try.ntmps17
  go_wp2
  go_ret
  exact ⟨rfl, rfl⟩
theorem at_nil (i : Int) (w : World) : Calls Try.prog 12 #[.pointer none, .int .i64 i] w fun e w' => e = .returned (.tuple #[V 0, .bool false]) ∧ w' = w := by
  rcases Int.lt_or_le i 0 with h | h
  · go_enter Try.func12, Try.ntmps12
    go_wp2
    go_ret2
    exact ⟨rfl, rfl⟩
  · have h0 : ¬ i < 0 := by omega
    go_enter Try.func12, Try.ntmps12
    go_wp2_with (go_at_call 16; refine (len_nil w).mono ?_; rintro e w1 ⟨rfl, rfl⟩)
    go_ret2
    exact ⟨rfl, rfl⟩
theorem popn_nil (w : World) : Calls Try.prog 8 #[.pointer none] w fun e w' => e = .returned (.tuple #[V 0, .bool false]) ∧ w' = w := by
  go_enter Try.func8, Try.ntmps8
  go_wp2_with (go_at_call 12; refine (at_nil 0 w).mono ?_; rintro e w1 ⟨rfl, rfl⟩)
  go_ret2
  exact ⟨rfl, rfl⟩
theorem push_nil (v : Int) (w : World) : Calls Try.prog 10 #[.pointer none, V v] w fun e w' => e = .returned (.bool false) ∧ w' = w := by
  go_enter Try.func10, Try.ntmps10
  go_wp2_with (first
    | (go_at_call 16; refine (len_nil _).mono ?_; rintro e w1 ⟨rfl, rfl⟩)
    | (go_at_call 17; refine (room_nil _).mono ?_; rintro e w1 ⟨rfl, rfl⟩))
  go_ret
  exact ⟨rfl, rfl⟩
theorem all_nil (w : World) : Calls Try.prog 15 #[.pointer none] w fun e w' => ∃ ad, e = .returned (.slice ad 0 0) ∧ Below w.heap.size w w' := by
  have hmk := run_make_row' (P := Try.prog) 22 3 (.int .i64 0) 8 Try.underlying22 infoE rfl .i64 .i64 0 (by omega) (by omega)
  simp only [Int.natCast_zero] at hmk
  go_enter Try.func15, Try.ntmps15
  go_wp2_with (go_at_call 16; refine (len_nil _).mono ?_; rintro e w1 ⟨rfl, rfl⟩)
  go_loopw [10] (fun i wr => i = .int .i64 0 ∧ Below w1.heap.size w1 wr) (fun _ _ => 0)
  case atStart => exact ⟨rfl, (Below.refl _ w1).alloc (Nat.le_refl _) _⟩
  case round =>
    obtain ⟨rfl, hb⟩ := hrel
    go_wp2
    go_ret
    exact ⟨_, rfl, hb⟩
end
end Go.Proofs.Ytpjeehdgdhbhdaa.Num
