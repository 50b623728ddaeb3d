/- The program's door: Add. -/
import Derived.Test.YtcphhlfbjkeikabDf
namespace Go.Proofs.Ytcphhlfbjkeikab.Dr
open Go.RowKit

section
variable {D : Nat → Prop} {w : World} {p g K : Nat} {v : Nat → Nat}
theorem box_later {w2 w4 : World} {M : Nat} {k : ByteArray} (hb : Below (w2.alloc (.cells (plAll M k) 95)).heap.size (w2.alloc (.cells (plAll M k) 95)) w4) :
    w4.cell? ⟨w2.heap.size, 0, none⟩ = some (.int .i64 (hp M k 0 : Nat)) ∧ w4.cell? ⟨w2.heap.size, 1, none⟩ = some (.int .i64 (hp M k 1 : Nat)) ∧ w4.cell? ⟨w2.heap.size, 2, none⟩ = some (.int .i64 (hp M k 2 : Nat)) := by
  have h := (hb.block w2.heap.size (by simp)).trans (heap_alloc_new w2 _)
  obtain ⟨d0, d1, d2, -⟩ := cells_of_three (w := w4) h
  exact ⟨d0, d1, d2⟩
theorem Fit.set (f : Fit K v) (i : Nat) {x : Nat} (hx : x < 18446744073709551616) : Fit K (upd v i x) :=
  ⟨f.lo, f.hi, fun j => by unfold upd; have := f.word j; split <;> omega⟩
/-- one bit more in a word -/
theorem or_end {a q R : Nat} (H : DrIn D w p g K v) (e : v (a / 64) ||| 2 ^ (a % 64) = R) :
    DrIn D ((w.drewN q).setCell ⟨g, a / 64, none⟩ (.int .u64 (R : Nat))) p g K (upd v (a / 64) (v (a / 64) ||| 2 ^ (a % 64))) := by
  have h := (H.below (below_drewN (Below.refl _ _) q)).set (u64s_set v K (a / 64) R)
  rw [e]
  exact h
set_option maxHeartbeats 2000000 in
theorem add_any {b : Nat → Bool} (H : DR p K b D w) (k : ByteArray) (hk : k.size ≤ 1000) :
    Calls Try.prog 42 #[.pointer (some ⟨p, 0, none⟩), .string k] w fun e w' => e = .returned (.bool (has b (64 * K) k)) ∧ DR p K (add b (64 * K) k 3) D w' ∧ Keeps D w w' := by
  obtain ⟨v, f, rfl, g, H⟩ := H
  have hbl := blank_any H f.lo
  have hpl := places_any H f.lo f.hi k hk
  have hle := fun {w' : World} (hb : Below w.heap.size w w') => all_any (H.below hb) f k
  have HH : Hid (DrIn D w p g K v) := H
  have HF : Hid (Fit K v) := f
  obtain ⟨M, hM⟩ : ∃ M, 64 * K = M := ⟨_, rfl⟩
  rw [hM] at hpl hle ⊢
  have hlo := f.lo
  have hhi := f.hi
  have hM1 : 64 ≤ M := by omega
  have hM2 : M ≤ 8192 := by omega
  have HI : Hid (∀ {j : Nat} (_ : j < 3) (W : World), (Instr.index 95 (.agg #[.int .i64 (hp M k 0 : Nat), .int .i64 (hp M k 1 : Nat), .int .i64 (hp M k 2 : Nat)]) (.int .i64 (j : Nat))).run Try.prog W = .ok (.int .i64 (hp M k j : Nat)) W) := fun hj W => index_pl M k hj W
  have HM : Hid (64 * K = M) := hM
  clear H f hM
  generalize has (bt v) M k = was at hle ⊢
  go_enter Try.func42, Try.ntmps42
  go_wp2_with (first
    | (go_at_call 60; refine hbl.mono ?_; rintro e w1 ⟨rfl, rfl⟩; clear hbl)
    | (go_at_call 61; refine hpl.mono ?_; unfold plAll; rintro e w2 ⟨rfl, hb2⟩; have hs2 := hb2.size; have hb3 := hb2.alloc hs2 (.cells (plAll M k) 95); have hls := hle hb3; clear hpl)
    | (go_at_call 62; refine hls.mono ?_; rintro e w4 ⟨rfl, hb4⟩; obtain ⟨d0, d1, d2⟩ := box_later hb4; clear hls))
  have hb5 : Below w1.heap.size w1 w4 := hb3.trans (hb4.mono (by have := hb3.size; omega))
  have h4 := HH.out.below hb5
  clear hb2 hb3 hb4 d0 d1 d2 hle hs2
  go_loopw [18] (fun i wr => ∃ (j : Nat) (u : Nat → Nat), j ≤ 3 ∧ i = .int .i64 j ∧ Fit K u ∧ bt u = add (bt v) M k j ∧ DrIn D wr p g K u ∧ Keeps D w1 wr) (fun i _ => 3 - (intOf i).toNat)
  case atStart => exact ⟨0, v, by omega, rfl, HF.out, rfl, h4, .of_below hb5⟩
  case round =>
    clear h4 hb5
    obtain ⟨j, u, hj, rfl, hf, hbu, HJ, hk5⟩ := hrel
    have HFU : Hid (Fit K u) := hf
    have HBU : Hid (bt u = add (bt v) M k j) := hbu
    have HR : Hid (DrIn D wr p g K u) := HJ
    have HK : Hid (Keeps D w1 wr) := hk5
    clear hf hbu
    rcases Nat.lt_or_ge j 3 with hlt | hge
    · have hidx := fun W => HI.out hlt W
      obtain ⟨c0, -⟩ := HJ.top
      have hx := hp_lt hM1 k j
      have HE : Hid (add (bt v) M k (j + 1) = on (bt u) (hp M k j)) := by
        show Hid (on (add (bt v) M k j) (hp M k j) = _)
        rw [← HBU.out]
        exact rfl
      generalize hp M k j = P at hidx hx HE
      have hP6 : P ≤ 1000000 := by omega
      have hmask := fun W => mask_any P hP6 W
      have hy := two_pow_lt P
      have hQ : P / 64 < K := by have := HM.out; omega
      obtain ⟨d0, e0⟩ := HJ.at hQ
      have hv := HFU.out.word (P / 64)
      have hor := or_lt hv hy
      have ho := u64_or_nat (u (P / 64)) (2 ^ (P % 64)) hv hy
      obtain ⟨R, hR⟩ : ∃ R, u (P / 64) ||| 2 ^ (P % 64) = R := ⟨_, rfl⟩
      have HX : Hid (∀ q, DrIn D ((wr.drewN q).setCell ⟨g, P / 64, none⟩ (.int .u64 (R : Nat))) p g K (upd u (P / 64) (u (P / 64) ||| 2 ^ (P % 64)))) := fun q => or_end HR.out hR
      have HFX : Hid (Fit K (upd u (P / 64) (u (P / 64) ||| 2 ^ (P % 64)))) := HFU.out.set _ hor
      have HBX : Hid (bt (upd u (P / 64) (u (P / 64) ||| 2 ^ (P % 64))) = on (bt u) P) := funext (bt_on u P)
      have HKX : Hid (∀ q x, Keeps D w1 ((wr.drewN q).setCell ⟨g, P / 64, none⟩ x)) := fun q x => (HK.out.drewN q).setCell HR.out.2.1 x
      have eQ : (P : Int) / 64 = ((P / 64 : Nat) : Int) := by omega
      rw [hR] at ho
      generalize upd u (P / 64) (u (P / 64) ||| 2 ^ (P % 64)) = u' at HX HFX HBX
      rw [hR] at hor
      generalize u (P / 64) = V at d0 hv ho
      generalize 2 ^ (P % 64) = y at hmask ho hy
      generalize P / 64 = Q at *
      have hQI : (Q : Int) < (K : Int) := by omega
      have hQ0 : (0 : Int) ≤ (Q : Int) := by omega
      have hwr : IntKind.i64.wrap (Q : Int) = (Q : Int) := by rw [IntKind.wrap_i64]; omega
      clear HJ hk5 hR
      go_wp2_with fail
      go_region_with (go_at_call 63; refine (hmask _).mono ?_; rintro e w5 ⟨rfl, rfl⟩)
      all_goals
        go_wp2_with fail
        go_roundw
        case rel => exact ⟨j + 1, _, hlt, by go_num, HFX.out, by rw [HE.out]; exact HBX.out, HX.out _, HKX.out _ _⟩
        case measure => simp [intOf]; omega
    · have hj3 : j = 3 := by omega
      subst hj3
      clear HJ hk5
      go_wp2_with fail
      go_ret
      exact ⟨rfl, ⟨u, HFU.out, HBU.out, g, HR.out⟩, HK.out⟩
end
end Go.Proofs.Ytcphhlfbjkeikab.Dr
