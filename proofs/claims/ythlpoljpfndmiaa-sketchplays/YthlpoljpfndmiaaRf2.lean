/- The document's sketch: Count, Halve. -/
import Derived.Test.YthlpoljpfndmiaaRf
namespace Go.Proofs.Ythlpoljpfndmiaa
open Go.RowKit

/-- the least of four -/
theorem run_min_four {P : Program} (ts : Array TypeId) (t : TypeId) (a b c d : Nat) (W : World) : (Builtin.min_ ts t #[.int .i64 (a : Nat), .int .i64 (b : Nat), .int .i64 (c : Nat), .int .i64 (d : Nat)]).run P W = .ok (.int .i64 ((min (min (min a b) c) d : Nat) : Int)) W := by
  have e : ((min (min (min a b) c) d : Nat) : Int) = if (d : Int) < (if (c : Int) < (if (b : Int) < (a : Int) then (b : Int) else a) then (c : Int) else (if (b : Int) < (a : Int) then (b : Int) else a)) then (d : Int) else (if (c : Int) < (if (b : Int) < (a : Int) then (b : Int) else a) then (c : Int) else (if (b : Int) < (a : Int) then (b : Int) else a)) := by
    repeat' split
    all_goals omega
  rw [e]
  simp [Builtin.min_, Builtin.min2]
section
variable {D : Nat → Prop} {w : World} {p g N : Nat} {c : Nat → Nat} {s : Nat}
set_option maxHeartbeats 4000000 in
theorem rcount_any (H : RF p N c s D w) (k : ByteArray) (hk : k.size ≤ 1000) :
    Calls Try.prog 16 #[.pointer (some ⟨p, 0, none⟩), .string k] w fun e w' => e = .returned (.int .i64 (lw c N k : Nat)) ∧ Below w.heap.size w w' := by
  obtain ⟨f, g, H⟩ := H
  have hpl := rcells_any H f.lo f.hi k hk
  have HH : Hid (RfIn D w p g N c s) := H
  have hN := f.hi
  have p0 := pl_lt f.lo k (r := 0) (by omega)
  have p1 := pl_lt f.lo k (r := 1) (by omega)
  have p2 := pl_lt f.lo k (r := 2) (by omega)
  have p3 := pl_lt f.lo k (r := 3) (by omega)
  have v0 := f.cell (pl N k 0)
  have v1 := f.cell (pl N k 1)
  have v2 := f.cell (pl N k 2)
  have v3 := f.cell (pl N k 3)
  have HL : Hid (lw c N k = min (min (min (c (pl N k 0)) (c (pl N k 1))) (c (pl N k 2))) (c (pl N k 3))) := rfl
  generalize lw c N k = low at HL ⊢
  clear H f
  unfold plAll at hpl
  go_enter Try.func16, Try.ntmps16
  go_wp2_with (go_at_call 28; refine hpl.mono ?_; rintro e w2 ⟨rfl, hb2⟩; have hs2 := hb2.size; have hb3 := hb2.alloc hs2 (.cells (plAll N k) 46); have H3 := HH.out.below hb3; obtain ⟨c0, -⟩ := H3.top; obtain ⟨d0, -⟩ := H3.at p0; obtain ⟨d1, -⟩ := H3.at p1; obtain ⟨d2, -⟩ := H3.at p2; obtain ⟨d3, -⟩ := H3.at p3; obtain ⟨e0, e1, e2, e3⟩ := box_later (Below.refl _ (w2.alloc (.cells (plAll N k) 46))); unfold plAll at c0 d0 d1 d2 d3 e0 e1 e2 e3 hb3; clear hpl H3 hb2)
  generalize c (pl N k 0) = x0 at v0 d0 HL
  generalize c (pl N k 1) = x1 at v1 d1 HL
  generalize c (pl N k 2) = x2 at v2 d2 HL
  generalize c (pl N k 3) = x3 at v3 d3 HL
  generalize w2.alloc _ = w3 at *
  generalize pl N k 0 = q0 at *
  generalize pl N k 1 = q1 at *
  generalize pl N k 2 = q2 at *
  generalize pl N k 3 = q3 at *
  generalize hLL : 4 * N = L at c0
  have q0I : (q0 : Int) < (L : Int) := by omega
  have q1I : (q1 : Int) < (L : Int) := by omega
  have q2I : (q2 : Int) < (L : Int) := by omega
  have q3I : (q3 : Int) < (L : Int) := by omega
  have hmin : ∀ (ts : Array TypeId) (t : TypeId) (W : World), (Builtin.min_ ts t #[.int .i64 (x0 : Nat), .int .i64 (x1 : Nat), .int .i64 (x2 : Nat), .int .i64 (x3 : Nat)]).run Try.prog W = .ok (.int .i64 (low : Nat)) W := fun ts t W => by rw [run_min_four, HL.out]
  clear hLL
  go_quiet (fail)
  go_wp2_with fail
  go_ret
  exact ⟨rfl, below_drewN hb3 _⟩
theorem RfIn.halved (H : RfIn D w p g N (hvj c (4 * N)) s) : RfIn D w p g N (hv c) s := H.ext (fun i hi => by unfold hvj hv; rw [if_pos hi])
set_option maxHeartbeats 1000000 in
theorem rhalve_in (H : RfIn D w p g N c s) (h0 : 8 ≤ N) (h1 : N ≤ 1024) (hc : ∀ i, c i ≤ 15) (hsum : s ≤ 10 * N) :
    Calls Try.prog 12 #[.pointer (some ⟨p, 0, none⟩)] w fun e w' => e = .returned (.tuple #[]) ∧ RF p N (hv c) (s / 2) D w' ∧ Keeps D w w' := by
  have HH : Hid (RfIn D w p g N c s) := H
  have HF : Hid (Fit N (hv c) (s / 2)) := fit_halve h0 h1 hc hsum
  have HCL : Hid (∀ i, c i ≤ 15) := hc
  clear H hc
  go_enter Try.func12, Try.ntmps12
  go_wp2_with fail
  go_loopw [2] (fun i wr => ∃ j : Nat, j ≤ 4 * N ∧ i = .int .i64 j ∧ RfIn D wr p g N (hvj c j) s ∧ Keeps D w wr) (fun i _ => 4 * N - (intOf i).toNat)
  case atStart => exact ⟨0, Nat.zero_le _, rfl, by rw [hvj_zero]; exact HH.out, Keeps.refl _ _⟩
  case round =>
    obtain ⟨j, hj, rfl, HJ, hk⟩ := hrel
    obtain ⟨c0, c1, c2, f0, f1, f2⟩ := HJ.top
    have HR : Hid (RfIn D wr p g N (hvj c j) s) := HJ
    rcases Nat.lt_or_ge j (4 * N) with hlt | hge
    · obtain ⟨b0, e0⟩ := HJ.at hlt
      rw [show hvj c j j = c j by unfold hvj; rw [if_neg (by omega)]] at b0
      have hcl := HCL.out j
      have HX : Hid (∀ y : Nat, y = c j / 2 → RfIn D ((wr.drewN 1).setCell ⟨g, j, none⟩ (.int .i64 (y : Nat))) p g N (hvj c (j + 1)) s) := by
        rintro y rfl
        exact (HR.out.below (below_drewN (Below.refl _ _) 1)).set (i64s_halve c (4 * N) j)
      have HK : Hid (∀ u, Keeps D w ((wr.drewN 1).setCell ⟨g, j, none⟩ u)) := fun u => (hk.drewN 1).setCell HR.out.2.1 u
      obtain ⟨x, hx⟩ : ∃ x, x = c j / 2 := ⟨_, rfl⟩
      have HXX : Hid (x = c j / 2) := hx
      have hxI : (c j : Int) / 2 = (x : Int) := by omega
      have hxw : IntKind.i64.wrap (x : Int) = (x : Int) := by rw [IntKind.wrap_i64]; omega
      generalize c j = b at b0 hcl hxI
      generalize hLL : 4 * N = L at c0 hlt
      have jI : (j : Int) < (L : Int) := by omega
      have j0 : (0 : Int) ≤ (j : Int) := by omega
      clear HJ hx hk
      go_wp2_with fail
      go_region
      all_goals
        go_wp2_with fail
        go_roundw
        case rel => exact ⟨j + 1, hlt, by go_num, HX.out x HXX.out, HK.out _⟩
        case measure => simp [intOf]; omega
    · have hj' : j = 4 * N := by omega
      subst hj'
      have HX : Hid (∀ t : Nat, s / 2 = t → RF p N (hv c) (s / 2) D (wr.setCell ⟨p, 2, none⟩ (.int .i64 (t : Nat)))) := by
        rintro t rfl
        exact ⟨HF.out, g, HJ.halved.setSum (s / 2)⟩
      have HK : Hid (∀ u, Keeps D w (wr.setCell ⟨p, 2, none⟩ u)) := fun u => hk.setCell HR.out.1 u
      obtain ⟨t, ht⟩ : ∃ t, s / 2 = t := ⟨_, rfl⟩
      have htI : (s : Int) / 2 = (t : Int) := by omega
      have HT : Hid (s / 2 = t) := ht
      clear HJ hk ht hge
      go_wp2_with fail
      go_end0
      exact ⟨rfl, HX.out t HT.out, HK.out _⟩
end
end Go.Proofs.Ythlpoljpfndmiaa
