/- The program's door: whether a key's bits are all set; Has. -/
import Derived.Test.YtcphhlfbjkeikabDe
namespace Go.Proofs.Ytcphhlfbjkeikab.Dr
open Go.RowKit

theorem ret_bool {a b : Bool} (h : a = b) : Ending.returned (.bool a) = .returned (.bool b) := by rw [h]
theorem index_0 (a0 a1 a2 : Int) (W : World) : (Instr.index 95 (.agg #[.int .i64 a0, .int .i64 a1, .int .i64 a2]) (.int .i64 0)).run Try.prog W = .ok (.int .i64 a0) W := by kernel_rfl
theorem index_1 (a0 a1 a2 : Int) (W : World) : (Instr.index 95 (.agg #[.int .i64 a0, .int .i64 a1, .int .i64 a2]) (.int .i64 1)).run Try.prog W = .ok (.int .i64 a1) W := by kernel_rfl
theorem index_2 (a0 a1 a2 : Int) (W : World) : (Instr.index 95 (.agg #[.int .i64 a0, .int .i64 a1, .int .i64 a2]) (.int .i64 2)).run Try.prog W = .ok (.int .i64 a2) W := by kernel_rfl
theorem index_pl (M : Nat) (k : ByteArray) {j : Nat} (hj : j < 3) (W : World) : (Instr.index 95 (.agg #[.int .i64 (hp M k 0 : Nat), .int .i64 (hp M k 1 : Nat), .int .i64 (hp M k 2 : Nat)]) (.int .i64 (j : Nat))).run Try.prog W = .ok (.int .i64 (hp M k j : Nat)) W := by
  have : j = 0 ∨ j = 1 ∨ j = 2 := by omega
  rcases this with rfl | rfl | rfl
  · exact index_0 _ _ _ W
  · exact index_1 _ _ _ W
  · exact index_2 _ _ _ W
/-- the first j of a key's bits are set -/
def Set (b : Nat → Bool) (M : Nat) (k : ByteArray) (j : Nat) : Prop := ∀ r, r < j → b (hp M k r) = true
theorem Set.more {b : Nat → Bool} {M : Nat} {k : ByteArray} {j : Nat} (h : Set b M k j) (hj : b (hp M k j) = true) : Set b M k (j + 1) := by
  intro r hr
  rcases Nat.lt_or_ge r j with c | c
  · exact h r c
  · rw [show r = j by omega]; exact hj
theorem Set.all {b : Nat → Bool} {M : Nat} {k : ByteArray} (h : Set b M k 3) : has b M k = true := by
  unfold has
  rw [h 0 (by omega), h 1 (by omega), h 2 (by omega)]
  rfl
theorem has_not {b : Nat → Bool} {M : Nat} {k : ByteArray} {j : Nat} (hj : j < 3) (h : b (hp M k j) = false) : has b M k = false := by
  have : j = 0 ∨ j = 1 ∨ j = 2 := by omega
  unfold has
  rcases this with rfl | rfl | rfl <;> simp [h]
section
variable {D : Nat → Prop} {w : World} {p g K : Nat} {v : Nat → Nat}
set_option maxHeartbeats 1000000 in
theorem all_any (H : DrIn D w p g K v) (f : Fit K v) (k : ByteArray) :
    Calls Try.prog 62 #[.pointer (some ⟨p, 0, none⟩), .agg (plAll (64 * K) k)] w fun e w' => e = .returned (.bool (has (bt v) (64 * K) k)) ∧ Below w.heap.size w w' := by
  have HH : Hid (DrIn D w p g K v) := H
  have HF : Hid (Fit K v) := f
  obtain ⟨M, hM⟩ : ∃ M, 64 * K = M := ⟨_, rfl⟩
  rw [hM]
  have hlo := f.lo
  have hhi := f.hi
  have hM1 : 64 ≤ M := by omega
  have hM2 : M ≤ 8192 := by omega
  have HI : Hid (∀ {j : Nat} (_ : j < 3) (W : World), (Instr.index 95 (.agg #[.int .i64 (hp M k 0 : Nat), .int .i64 (hp M k 1 : Nat), .int .i64 (hp M k 2 : Nat)]) (.int .i64 (j : Nat))).run Try.prog W = .ok (.int .i64 (hp M k j : Nat)) W) := fun hj W => index_pl M k hj W
  have HM : Hid (64 * K = M) := hM
  clear H f hM
  unfold plAll
  go_enter Try.func62, Try.ntmps62
  go_wp2_with fail
  go_loopw [8] (fun i wr => ∃ j : Nat, j ≤ 3 ∧ i = .int .i64 j ∧ Set (bt v) M k j ∧ Below w.heap.size w wr) (fun i _ => 3 - (intOf i).toNat)
  case atStart => exact ⟨0, by omega, rfl, fun r hr => by omega, (Below.refl _ w).alloc (Nat.le_refl _) _⟩
  case round =>
    obtain ⟨j, hj, rfl, hS, hb⟩ := hrel
    have HS : Hid (Set (bt v) M k j) := hS
    clear hS
    have hs := hb.size
    rcases Nat.lt_or_ge j 3 with hlt | hge
    · have hidx := fun W => HI.out hlt W
      obtain ⟨c0, -⟩ := (HH.out.below hb).top
      have hx := hp_lt hM1 k j
      have HMore : Hid (bt v (hp M k j) = true → Set (bt v) M k (j + 1)) := fun h => HS.out.more h
      have HNot : Hid (bt v (hp M k j) = false → has (bt v) M k = false) := fun h => has_not hlt h
      generalize hp M k j = P at hidx hx HMore HNot
      have hP6 : P ≤ 1000000 := by omega
      have hmask := fun W => mask_any P hP6 W
      have hy := two_pow_lt P
      have hab := and_bit (v (P / 64)) (P % 64)
      have hQ : P / 64 < K := by have := HM.out; omega
      obtain ⟨d0, -⟩ := (HH.out.below hb).at hQ
      have hv := HF.out.word (P / 64)
      have hbt : bt v P = (v (P / 64)).testBit (P % 64) := rfl
      have hpos : 0 < 2 ^ (P % 64) := Nat.two_pow_pos _
      rw [hbt] at HMore HNot
      have eQ : (P : Int) / 64 = ((P / 64 : Nat) : Int) := by omega
      clear hbt
      generalize v (P / 64) = V at *
      generalize 2 ^ (P % 64) = y at *
      generalize P / 64 = Q at *
      have hQ6 : Q ≤ 1000000 := by omega
      have hQI : (Q : Int) < (K : Int) := by omega
      have ha := u64_and_nat V y hv hy
      cases ht : V.testBit (P % 64)
      · rw [ht] at HNot hab
        simp only [Bool.false_eq_true, if_false] at hab
        rw [hab] at ha
        clear hab ht HMore
        go_wp2_with fail
        go_quiet ((go_at_call 63; refine Calls.quiet_of_same (hmask _)))
        go_wp2_with fail
        go_ret
        exact ⟨ret_bool (HNot.out trivial).symm, below_drewN hb _⟩
      · rw [ht] at HMore hab
        simp only [if_true] at hab
        rw [hab] at ha
        have hyB : ((y : Int) == 0) = false := by simp; omega
        clear hab ht HNot
        go_wp2_with fail
        go_quiet ((go_at_call 63; refine Calls.quiet_of_same (hmask _)))
        go_wp2_with fail
        go_roundw
        case rel => exact ⟨j + 1, hlt, by go_num, HMore.out trivial, below_drewN hb _⟩
        case measure => simp [intOf]; omega
    · have hj3 : j = 3 := by omega
      subst hj3
      go_wp2_with fail
      go_ret
      exact ⟨ret_bool HS.out.all.symm, hb⟩
theorem has_any {b : Nat → Bool} (H : DR p K b D w) (k : ByteArray) (hk : k.size ≤ 1000) :
    Calls Try.prog 77 #[.pointer (some ⟨p, 0, none⟩), .string k] w fun e w' => e = .returned (.bool (has b (64 * K) k)) ∧ Below w.heap.size w w' := by
  obtain ⟨v, f, rfl, g, H⟩ := H
  have hbl := blank_any H f.lo
  have hpl := places_any H f.lo f.hi k hk
  have HH : Hid (DrIn D w p g K v) := H
  have HF : Hid (Fit K v) := f
  clear H f
  go_enter Try.func77, Try.ntmps77
  go_wp2_with (first
    | (go_at_call 60; refine hbl.mono ?_; rintro e w1 ⟨rfl, rfl⟩; clear hbl)
    | (go_at_call 61; refine hpl.mono ?_; rintro e w2 ⟨rfl, hb2⟩; have hls := all_any (HH.out.below hb2) HF.out k; have hs2 := hb2.size; clear hpl)
    | (go_at_call 62; refine hls.mono ?_; rintro e w3 ⟨rfl, hb3⟩))
  go_ret
  exact ⟨rfl, hb2.trans (hb3.mono hs2)⟩
end
end Go.Proofs.Ytcphhlfbjkeikab.Dr
