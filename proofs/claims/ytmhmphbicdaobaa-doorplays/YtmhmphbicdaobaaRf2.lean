/- The document's door: Has, Ones, Clear. -/
import Derived.Test.YtmhmphbicdaobaaRf
namespace Go.Proofs.Ytmhmphbicdaobaa
open Go.RowKit

section
variable {D : Nat → Prop} {w : World} {p g K M : Nat} {b : Nat → Bool}
theorem bit_i (H : RfIn D w p g M b) (hM1 : 64 ≤ M) (hM2 : M ≤ 8192) (k : ByteArray) (hk : k.size ≤ 1000) (i : Int) (h0 : 0 ≤ i) (h1 : i < 3) :
    Calls Try.prog 25 #[.pointer (some ⟨p, 0, none⟩), .int .i64 i, .string k] w fun e w' => e = .returned (.int .i64 (hp M k i.toNat : Nat)) ∧ ∃ q, w' = w.drewN q := by
  obtain ⟨r, rfl⟩ : ∃ r : Nat, i = (r : Int) := ⟨i.toNat, by omega⟩
  exact bit_any H hM1 hM2 k hk (by omega)
set_option maxHeartbeats 1000000 in
theorem rhas_any (H : RF p K b D w) (k : ByteArray) (hk : k.size ≤ 1000) :
    Calls Try.prog 15 #[.pointer (some ⟨p, 0, none⟩), .string k] w fun e w' => e = .returned (.bool (has b (64 * K) k)) ∧ ∃ q, w' = w.drewN q := by
  obtain ⟨⟨f0, f1⟩, g, H⟩ := H
  obtain ⟨M, hM⟩ : ∃ M, 64 * K = M := ⟨_, rfl⟩
  rw [hM] at H ⊢
  have hM1 : 64 ≤ M := by omega
  have hM2 : M ≤ 8192 := by omega
  obtain ⟨x, hx⟩ : ∃ x : Int → Nat, ∀ i, x i = hp M k i.toNat := ⟨_, fun _ => rfl⟩
  have B0 : ∀ q i, 0 ≤ i → i < 3 → Calls Try.prog 25 #[.pointer (some ⟨p, 0, none⟩), .int .i64 i, .string k] (w.drewN q) fun e w' => e = .returned (.int .i64 (x i : Nat)) ∧ ∃ m, w' = (w.drewN q).drewN m := fun q i h0 h1 => by
    have := bit_i (H.below (below_drewN (Below.refl _ w) q)) hM1 hM2 k hk i h0 h1
    rw [← hx] at this
    exact this
  obtain ⟨c0, -⟩ := H.top
  have p0 := hp_lt hM1 k 0
  have p1 := hp_lt hM1 k 1
  have p2 := hp_lt hM1 k 2
  obtain ⟨d0, -⟩ := H.at p0
  obtain ⟨d1, -⟩ := H.at p1
  obtain ⟨d2, -⟩ := H.at p2
  have e0 : x 0 = hp M k 0 := hx 0
  have e1 : x 1 = hp M k 1 := hx 1
  have e2 : x 2 = hp M k 2 := hx 2
  have HE : Hid (has b M k = (b (hp M k 0) && b (hp M k 1) && b (hp M k 2))) := rfl
  generalize has b M k = t at HE ⊢
  generalize b (hp M k 0) = t0 at d0 HE
  generalize b (hp M k 1) = t1 at d1 HE
  generalize b (hp M k 2) = t2 at d2 HE
  clear hx
  generalize hp M k 0 = x0 at *
  generalize hp M k 1 = x1 at *
  generalize hp M k 2 = x2 at *
  have x0I : (x0 : Int) < (M : Int) := by omega
  have x1I : (x1 : Int) < (M : Int) := by omega
  have x2I : (x2 : Int) < (M : Int) := by omega
  clear H hM
  cases t0
  · go_enter Try.func15, Try.ntmps15
    go_wp2_with fail
    go_quiet (first | (go_at_call 25; exact Calls.quiet_of (B0 _ _ (by decide) (by decide))))
    go_wp2_with fail
    go_ret
    exact ⟨ret_bool (by rw [HE.out]; rfl), _, rfl⟩
  · cases t1
    · go_enter Try.func15, Try.ntmps15
      go_wp2_with fail
      go_quiet (first | (go_at_call 25; exact Calls.quiet_of (B0 _ _ (by decide) (by decide))))
      go_wp2_with fail
      go_ret
      exact ⟨ret_bool (by rw [HE.out]; rfl), _, rfl⟩
    · go_enter Try.func15, Try.ntmps15
      go_wp2_with fail
      go_quiet (first | (go_at_call 25; exact Calls.quiet_of (B0 _ _ (by decide) (by decide))))
      go_wp2_with fail
      go_ret
      exact ⟨ret_bool (by rw [HE.out]; rfl), _, rfl⟩
set_option maxHeartbeats 1000000 in
theorem rones_in (H : RF p K b D w) :
    Calls Try.prog 17 #[.pointer (some ⟨p, 0, none⟩)] w fun e w' => e = .returned (.int .i64 (cnt b (64 * K) : Nat)) ∧ w' = w := by
  obtain ⟨⟨f0, f1⟩, g, H⟩ := H
  obtain ⟨M, hM⟩ : ∃ M, 64 * K = M := ⟨_, rfl⟩
  rw [hM] at H ⊢
  have hM2 : M ≤ 8192 := by omega
  obtain ⟨c0, -⟩ := H.top
  have HH : Hid (RfIn D w p g M b) := H
  clear H hM
  go_enter Try.func17, Try.ntmps17
  go_wp2_with fail
  go_loop [3, 4] (fun n i => ∃ j : Nat, j ≤ M ∧ i = .int .i64 j ∧ n = .int .i64 (cnt b j : Nat)) (fun _ i => M - (intOf i).toNat)
  case atStart => exact ⟨0, Nat.zero_le _, rfl, rfl⟩
  case round =>
    obtain ⟨j, hj, rfl, rfl⟩ := hrel
    rcases Nat.lt_or_ge j M with hlt | hge
    · obtain ⟨d0, -⟩ := HH.out.at hlt
      have HW : Hid (cnt b (j + 1) = cnt b j + (b j).toNat) := rfl
      have hc := cnt_le b j
      generalize cnt b j = n at hc HW ⊢
      have hc' : n ≤ 8192 := by omega
      have jI : (j : Int) < (M : Int) := by omega
      clear hc
      cases ht : b j
      · rw [ht] at d0 HW
        clear ht
        go_wp2_with fail
        go_round
        case rel => exact ⟨j + 1, hlt, by go_num, by rw [HW.out]; rfl⟩
        case measure => simp [intOf]; omega
      · rw [ht] at d0 HW
        clear ht
        go_wp2_with fail
        go_round
        case rel => exact ⟨j + 1, hlt, by go_num, by rw [HW.out]; rfl⟩
        case measure => simp [intOf]; omega
    · have hj' : j = M := by omega
      subst hj'
      go_wp2_with fail
      go_ret
      exact ⟨rfl, rfl⟩
theorem rclear_end (H : RfIn D w p g M b) (hD : ∀ k, w.heap.size ≤ k → D k) :
    RfIn D ((w.alloc (.cells (bls (fun _ => false) M).toArray 4)).setCell ⟨p, 0, none⟩ (.slice (some ⟨w.heap.size, 0, none⟩) M M)) p w.heap.size M (fun _ => false) := by
  have hp := lt_of_block H.2.2.2.1
  refine ⟨H.1, hD _ (Nat.le_refl _), by omega, ?_, ?_⟩
  · rw [block_setCell ((Below.heap_alloc _ _ _ hp).trans H.2.2.2.1)]
    rfl
  · rw [Below.heap_setCell _ _ _ _ (by show w.heap.size ≠ p; omega)]
    exact heap_alloc_new _ _
set_option maxHeartbeats 1000000 in
theorem rclear_any (H : RF p K b D w) (hD : ∀ k, w.heap.size ≤ k → D k) :
    Calls Try.prog 11 #[.pointer (some ⟨p, 0, none⟩)] w fun e w' => e = .returned (.tuple #[]) ∧ RF p K (fun _ => false) D w' ∧ Keeps D w w' := by
  obtain ⟨⟨f0, f1⟩, g, H⟩ := H
  have HF : Hid (1 ≤ K ∧ K ≤ 128) := ⟨f0, f1⟩
  have hmk := run_make_row' (P := Try.prog) 37 4 (.bool false) 1 Try.underlying37 info4 rfl .i64 .i64 (64 * K) (by omega) (by omega)
  rw [bls_made] at hmk
  obtain ⟨M, hM⟩ : ∃ M, 64 * K = M := ⟨_, rfl⟩
  have HM : Hid (64 * K = M) := hM
  rw [hM] at H hmk
  have hM2 : M ≤ 8192 := by omega
  obtain ⟨c0, e0⟩ := H.top
  have HH : Hid (RfIn D w p g M b) := H
  clear H hM
  obtain ⟨c1, e1⟩ := (HH.out.below ((Below.refl _ w).alloc (Nat.le_refl _) (.cells (bls (fun _ => false) M).toArray 4))).top
  have HX := rclear_end HH.out hD
  have HXX : Hid _ := HX
  have HK : Hid (∀ u, Keeps D w ((w.alloc (.cells (bls (fun _ => false) M).toArray 4)).setCell ⟨p, 0, none⟩ u)) := fun u => ((Keeps.refl D w).alloc _).setCell HH.out.1 u
  clear HX
  go_enter Try.func11, Try.ntmps11
  go_wp2_with fail
  go_end0
  exact ⟨rfl, ⟨HF.out, _, by rw [HM.out]; exact HXX.out⟩, HK.out _⟩
end
end Go.Proofs.Ytmhmphbicdaobaa
