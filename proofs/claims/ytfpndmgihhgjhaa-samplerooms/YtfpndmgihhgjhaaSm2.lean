/- The program's sample: Room; known. -/
import Derived.Test.YtfpndmgihhgjhaaSm
namespace Go.Proofs.Ytfpndmgihhgjhaa
open Go.RowKit

/-- a room, scaled -/
def room (R : Nat) (c : Int) : Nat := max (held 1024 c * R / 16777216) 1
theorem part_le (R : Nat) (hR : R ≤ 16777216) (c : Int) : held 1024 c * R / 16777216 ≤ held 1024 c := by
  have h : held 1024 c * R ≤ held 1024 c * 16777216 := Nat.mul_le_mul_left _ hR
  omega
theorem room_le (R : Nat) (hR : R ≤ 16777216) (c : Int) : room R c ≤ 1024 := by
  have := part_le R hR c
  have := held_le 1024 c
  unfold room
  omega
theorem room_pos (R : Nat) (c : Int) : 1 ≤ room R c := by unfold room; omega
theorem room_in (R : Nat) (hR : R ≤ 16777216) {c : Int} (hc : 1 ≤ c) : (room R c : Int) ≤ c := by
  have h := part_le R hR c
  have e := held_cast 1024 c
  unfold room
  omega
theorem room_rate {R S : Nat} (h : R ≤ S) (c : Int) : room R c ≤ room S c := by
  have : held 1024 c * R / 16777216 ≤ held 1024 c * S / 16777216 := Nat.div_le_div_right (Nat.mul_le_mul_left _ h)
  unfold room
  omega
theorem room_up (R : Nat) {c d : Int} (h : c ≤ d) : room R c ≤ room R d := by
  have h1 : held 1024 c ≤ held 1024 d := by unfold held; omega
  have : held 1024 c * R / 16777216 ≤ held 1024 d * R / 16777216 := Nat.div_le_div_right (Nat.mul_le_mul_right _ h1)
  unfold room
  omega
theorem room_all (c : Int) : (room 16777216 c : Int) = max 1 (min c 1024) := by
  have e := held_cast 1024 c
  unfold room
  rw [Nat.mul_div_cancel _ (by decide)]
  omega
theorem room_none (c : Int) : room 0 c = 1 := by unfold room; simp
section
variable {D : Nat → Prop} {w : World} {p R A T : Nat}
theorem room_any (H : SM 42 p R A T D w) (c : Int) :
    Calls Try.prog 15 #[.pointer (some ⟨p, 0, none⟩), .int .i64 c] w fun e w' => e = .returned (.int .i64 (room R c : Nat)) ∧ Below w.heap.size w w' := by
  obtain ⟨c0, -⟩ := H.at
  have hR := H.1.1
  have hc := fun W => clamp_any 1024 c W
  have h1 := held_le 1024 c
  have h2 := part_le R hR c
  have hsc := fun W => scale_any (held 1024 c) R h1 hR W
  unfold room
  generalize held 1024 c = C at *
  generalize C * R / 16777216 = P at *
  clear H
  go_enter Try.func15, Try.ntmps15
  go_wp2_with (first
    | (go_at_call 18; refine (hc _).mono ?_; rintro e w1 ⟨rfl, rfl⟩)
    | (go_at_call 26; refine (hsc _).mono ?_; rintro e w2 ⟨rfl, hb⟩))
  all_goals
    go_ret
    exact ⟨ret_int (by omega), hb⟩
end
theorem half_held : held 16777216 8388608 = 8388608 := by decide
theorem half_100 : room 8388608 100 = 50 := by decide
theorem half_1 : room 8388608 1 = 1 := by decide
theorem known_any (w : World) : Calls Try.prog 17 #[] w fun e w' => e = .returned (.bool true) ∧ Below w.heap.size w w' := by
  have HN := new_any (w := w) (D := (w.heap.size ≤ ·)) 8388608 (fun k h => h)
  rw [half_held] at HN
  have HA := fun {D : Nat → Prop} {w : World} {p : Nat} (H : SM 42 p 8388608 0 0 D w) => room_any H 100
  have HB := fun {D : Nat → Prop} {w : World} {p : Nat} (H : SM 42 p 8388608 0 0 D w) => room_any H 1
  rw [half_100] at HA
  rw [half_1] at HB
  go_enter Try.func17, Try.ntmps17
  go_wp2_with (first
    | (go_at_call 9; refine HN.mono ?_; rintro e w1 ⟨p, rfl, H1, hk1⟩; have hb1 := hk1.below (Nat.le_refl _) (fun k h => h); have s1 := hk1.size; clear HN hk1)
    | (go_at_call 15; refine (HA H1).mono ?_; rintro e w2 ⟨rfl, hb2⟩; have H2 := H1.below hb2; have hb2' := hb1.trans (hb2.mono s1); have s2 := hb2'.size; clear H1 hb1 HA)
    | (go_at_call 15; refine (HB H2).mono ?_; rintro e w3 ⟨rfl, hb3⟩; have H3 := H2.below hb3; have hb3' := hb2'.trans (hb3.mono s2); clear H2 HB)
    | (go_at_call 14; refine (rate_any H3).mono ?_; rintro e w4 ⟨rfl, rfl⟩))
  go_ret
  exact ⟨rfl, hb3'⟩
end Go.Proofs.Ytfpndmgihhgjhaa
