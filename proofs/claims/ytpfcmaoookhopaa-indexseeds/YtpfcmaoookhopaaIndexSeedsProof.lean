/- Two indexes of unlike seeds tell the same: the law returns true for all seeds and all acts, and its arguments read as they did. -/
import Derived.Test.YtpfcmaoookhopaaRows
import Derived.Test.YtpfcmaoookhopaaTwo
import Derived.Deep.RegionHeld3
import Derived.WalkKit
import Derived.ProofKit
import Derived.OpenShut
import Derived.ShutString
import Derived.ChangeOld
import Derived.Below
import Derived.Carry
import Derived.SizedLaws
namespace Go.Proofs.Ytpfcmaoookhopaa.indexSeeds
open Go.ChangeShapes Go.WideShapes Go.ChangeAt Go.RowKit
open Go.ChangeMaps (open_string shut_string)
set_option linter.unusedVariables false

theorem own : ownKnob Try.prog.godebug = none := by kernel_rfl
theorem laidOut : laidOutB Try.prog = true := by kernel_rfl
theorem few_keys {V : Int → Value} {te tl : TypeId} {D : Nat → Prop} {w : World} {p b c : Nat} {m : ByteArray → Option Int} (h : IX V te tl D w p m b) (hc : Card m c) : c ≤ b := by
  obtain ⟨seed, sl, u, n, ad, h1, h, o⟩ := h
  rw [hc.one o.card (fun _ => rfl)]
  exact o.few
theorem seeds_more {p x k : Nat} {m : ByteArray → Option Int} {O : Nat → Prop} {w : World} (h : Two (NX p m k) (NX x m k) O w) : Two (NX p m (k + 1)) (NX x m (k + 1)) O w := by
  obtain ⟨Dl, Dx, hl, hx, r⟩ := h
  exact ⟨Dl, Dx, IX.more hl (Nat.le_succ _), IX.more hx (Nat.le_succ _), r⟩
set_option maxRecDepth 20000 in
set_option maxHeartbeats 8000000 in
theorem walkA (w : World) (S : Nat) (hS : S < 18446744073709551616) (S2 : Nat) (hS2 : S2 < 18446744073709551616) (a1 : Option Addr) (cap1 : Nat) (z1 : List Deed) (r1 : DeedsIn w a1 z1) (m1 : z1.length ≤ maxLen) (x1 : ∀ z ∈ z1, z.s.size ≤ maxLen) (hle : z1.length ≤ 200) :
    Calls Try.prog 5 #[.int .u64 (S : Nat), .int .u64 (S2 : Nat), .slice a1 z1.length cap1] w fun e w' => e = .returned (.bool true) ∧ Below w.heap.size w w' := by
  have hv := heavy_any (cap := cap1) r1 m1 x1
  have hm : z1.length ≤ 9223372036854775807 := by unfold maxLen at m1; omega
  have R1 : Hid (DeedsIn w a1 z1) := r1
  have hn0 := Num.new_any w (w.heap.size ≤ ·) (Nat.le_refl _) S hS
  clear r1 x1 m1
  go_enter Try.func5, Try.ntmps5
  go_wp2_with (first
    | (go_at_call 9; refine hv.mono ?_; rintro e w0 ⟨⟨hb, rfl, hli⟩, rfl⟩; have HLI : Hid (hb = false → Light z1 200) := hli; clear hv hli; cases hb)
    | (go_at_call 10; refine hn0.mono ?_; rintro e w1 ⟨p, rfl, H1, hk1, -⟩; clear hn0)
    | (go_at_call 10; refine (Num.new_any w1 (w1.heap.size ≤ ·) (Nat.le_refl _) S2 hS2).mono ?_; rintro e w2 ⟨x, rfl, H2, hk2, -⟩))
  rotate_left
  · go_ret
    exact ⟨rfl, Below.refl _ _⟩
  have HL : Hid (Light z1 200) := HLI.out trivial
  have HA0 : Two (NX p (fun _ => none) 0) (NX x (fun _ => none) 0) (fun k => k < w0.heap.size) w2 := two_start (NX.lies _ _ _) (NX.lies _ _ _) H1 hk1.size H2 hk2
  have hb0 : Below w0.heap.size w0 w2 := (hk1.below (Nat.le_refl _) (fun k h => h)).trans ((hk2.below (Nat.le_refl _) (fun k h => h)).mono hk1.size)
  clear HLI H1 H2 hk1 hk2
  go_loopw [9] (fun i wr => ∃ (k : Nat) (m : ByteArray → Option Int), k ≤ z1.length ∧ i = .int .i64 k ∧ Two (NX p m k) (NX x m k) (fun j => j < w0.heap.size) wr ∧ Below w0.heap.size w0 wr) (fun i _ => z1.length - (intOf i).toNat)
  case atStart => exact ⟨0, _, Nat.zero_le _, rfl, HA0, hb0⟩
  case round =>
    clear HA0 hb0
    obtain ⟨k, m, hk, rfl, HA, hb⟩ := hrel
    have hs := hb.size
    rcases Nat.lt_or_ge k z1.length with hlt | hge
    · obtain ⟨z, hz⟩ : ∃ z, z1[k]? = some z := ⟨_, List.getElem?_eq_getElem (by omega)⟩
      obtain ⟨g, off, ea, -⟩ := (R1.out.later hb).at hz
      subst ea
      have hcell : ∀ wx, Below w0.heap.size w0 wx → wx.cell? ⟨g, off + k * 3, none⟩ = some (.int .i64 z.kind) ∧ wx.cell? ⟨g, off + k * 3 + 1, none⟩ = some (.int .i64 z.n) ∧ wx.cell? ⟨g, off + k * 3 + 2, none⟩ = some (.string z.s) := fun wx hx => by
        obtain ⟨g', off', ea, h⟩ := (R1.out.later hx).at hz
        cases ea
        exact h
      have HC : Hid (∀ wx, Below w0.heap.size w0 wx → wx.cell? ⟨g, off + k * 3, none⟩ = some (.int .i64 z.kind) ∧ wx.cell? ⟨g, off + k * 3 + 1, none⟩ = some (.int .i64 z.n) ∧ wx.cell? ⟨g, off + k * 3 + 2, none⟩ = some (.string z.s)) := hcell
      obtain ⟨c0, c1, c2⟩ := hcell wr hb
      have hzs := HL.out k z (by omega) hz
      have l1 : k < z1.length := by omega
      have l2 : (k : Int) < 200 := by omega
      clear hz hcell
      by_cases hk1 : z.kind = 1
      · rw [hk1] at c0
        have HAd : Two (NX p m k) (NX x m k) (fun j => j < w0.heap.size) wr.drew := HA.below (NX.lies _ _ _) (NX.lies _ _ _) ((Below.refl _ wr).drew)
        have hput := Two.onA (A' := NX p (put m z.s (some z.n)) (k + 1)) (f := 24) (args := #[.pointer (some ⟨p, 0, none⟩), .string z.s, .int .i64 z.n]) (Q := fun e => e = .returned (.bool (m z.s).isNone)) (NX.lies _ _ _) (NX.lies _ _ _) (NX.lies _ _ _) HAd (fun D H hD => Num.put_any H hD z.s (by omega) z.n (by omega))
        have hbd : Below w0.heap.size w0 wr.drew := hb.drew
        clear HA HAd
        go_wp2_with fail
        go_region_held3 (fun w' => w'.cell? ⟨g, off + k * 3 + 1, none⟩ = some (.int .i64 z.n) ∧ w'.cell? ⟨g, off + k * 3 + 2, none⟩ = some (.string z.s)) (first | go_keep | exact ⟨d3, e3⟩ | exact ⟨d4, e4⟩)
          (first
          | (go_at_call 24; refine hput.mono ?_; rintro e w3 ⟨rfl, HA3, hk3⟩; clear hput; have hb3 := hbd.trans (hk3.old hs); have hs3 := hb3.size; obtain ⟨-, d3, e3⟩ := HC.out w3 hb3; clear hk3)
          | (go_at_call 24; refine (Two.onB (B' := NX x (put m z.s (some z.n)) (k + 1)) (NX.lies _ _ _) (NX.lies _ _ _) (NX.lies _ _ _) HA3 (fun D H hD => Num.put_any H hD z.s (by omega) z.n (by omega))).mono ?_; rintro e w4 ⟨rfl, HA4, hk4⟩; have hb4 := hb3.trans (hk4.old hs3); obtain ⟨-, d4, e4⟩ := HC.out w4 hb4; clear hk4))
        go_wp2_with fail
        go_roundw
        case rel => exact ⟨k + 1, _, hlt, by go_num, HA4, hb4⟩
        case measure => simp [intOf]; omega
      · have hdel := Two.onA (A' := NX p (put m z.s none) k) (f := 25) (args := #[.pointer (some ⟨p, 0, none⟩), .string z.s]) (Q := fun e => e = .returned (.tuple #[Num.V ((m z.s).getD 0), .bool (m z.s).isSome])) (NX.lies _ _ _) (NX.lies _ _ _) (NX.lies _ _ _) HA (fun D H hD => Num.delete_any H (by omega) z.s (by unfold maxLen; omega))
        clear HA
        go_wp2_with (first
          | (go_at_call 25; refine hdel.mono ?_; rintro e w3 ⟨rfl, HA3, hk3⟩; clear hdel; have hb3 := hb.trans (hk3.old hs); have hs3 := hb3.size; obtain ⟨d3, e3, f3⟩ := HC.out w3 hb3; clear hk3)
          | (go_at_call 25; refine (Two.onB (B' := NX x (put m z.s none) k) (NX.lies _ _ _) (NX.lies _ _ _) (NX.lies _ _ _) HA3 (fun D H hD => Num.delete_any H (by omega) z.s (by unfold maxLen; omega))).mono ?_; rintro e w4 ⟨rfl, HA4, hk4⟩; have hb4 := hb3.trans (hk4.old hs3); clear hk4))
        go_roundw
        case rel => exact ⟨k + 1, _, hlt, by go_num, seeds_more HA4, hb4⟩
        case measure => simp [intOf]; omega
    · have hk' : k = z1.length := by omega
      subst hk'
      clear hge hk
      obtain ⟨DL, hL⟩ := HA.left
      obtain ⟨DX, hX⟩ := HA.right
      have hfew := fun ts (h : Keyed m ts) => few_keys hL h.card
      have hkl := Num.keys_any hL (by omega)
      have hll := Num.len_any hL
      clear HA
      go_wp2_with (first
        | (go_at_call 15; refine hkl.mono ?_; rintro e w2 ⟨ts, ad, cap, rfl, hKd, hown, hb2⟩; clear hkl; have hb2' := hb.trans (hb2.mono hs); have hs2 := hb2'.size; have hX2 := IX.below hX hb2; have hL2 := IX.below hL hb2; have hf := hfew ts hKd; have HK : Hid (Keyed m ts) := hKd; clear hKd hL hX hfew hll)
        | (go_at_call 15; refine (Num.keys_any hX2 (by omega)).mono ?_; rintro e w3 ⟨ts3, ad3, cap3, rfl, hK3, hown3, hb3⟩; obtain rfl : ts3 = ts := hK3.one HK.out (fun _ => rfl); have hb3' := hb2'.trans (hb3.mono hs2); have hs3 := hb3'.size; have hX3 := IX.below hX2 hb3; have hL3 := IX.below hL2 hb3; have hown2 := ownsRow_below hown hb3; clear hX2 hL2 hown hK3)
        | (go_at_call 14; refine (texts_same (TextsAt.own hown2) (TextsAt.own hown3) rfl rfl (by omega) (by omega) rfl).mono ?_; rintro e w4 ⟨rfl, hb4⟩; have hX4 := IX.below hX3 hb4; have hb4' := hb3'.trans (hb4.mono hs3); have hs4 := hb4'.size; have hll := Num.len_any (IX.below hL3 hb4); clear hown2 hown3 hX3 hL3)
        | (go_at_call 12; refine hll.mono ?_; rintro e w5 ⟨c, rfl, hc, rfl⟩; clear hll; have hcl : c = ts3.length := hc.one HK.out.card (fun _ => rfl); subst hcl)
        | (go_at_call 12; refine (Num.len_any hX4).mono ?_; rintro e w6 ⟨c6, rfl, hc6, rfl⟩; have hcl6 : c6 = ts3.length := hc6.one HK.out.card (fun _ => rfl); subst hcl6)
        | (go_at_call 17; refine (known_any _).mono ?_; rintro e w8 ⟨rfl, hb8⟩))
      go_ret
      exact ⟨rfl, hb4'.trans (hb8.mono hs4)⟩
set_option maxRecDepth 20000 in
set_option maxHeartbeats 8000000 in
theorem walkB (w : World) (S : Nat) (hS : S < 18446744073709551616) (S2 : Nat) (hS2 : S2 < 18446744073709551616) (a1 : Option Addr) (cap1 : Nat) (z1 : List Deed) (r1 : DeedsIn w a1 z1) (m1 : z1.length ≤ maxLen) (x1 : ∀ z ∈ z1, z.s.size ≤ maxLen) (hle : 200 < z1.length) :
    Calls Try.prog 5 #[.int .u64 (S : Nat), .int .u64 (S2 : Nat), .slice a1 z1.length cap1] w fun e w' => e = .returned (.bool true) ∧ Below w.heap.size w w' := by
  have hv := heavy_any (cap := cap1) r1 m1 x1
  have hm : z1.length ≤ 9223372036854775807 := by unfold maxLen at m1; omega
  have R1 : Hid (DeedsIn w a1 z1) := r1
  have hn0 := Num.new_any w (w.heap.size ≤ ·) (Nat.le_refl _) S hS
  clear r1 x1 m1
  go_enter Try.func5, Try.ntmps5
  go_wp2_with (first
    | (go_at_call 9; refine hv.mono ?_; rintro e w0 ⟨⟨hb, rfl, hli⟩, rfl⟩; have HLI : Hid (hb = false → Light z1 200) := hli; clear hv hli; cases hb)
    | (go_at_call 10; refine hn0.mono ?_; rintro e w1 ⟨p, rfl, H1, hk1, -⟩; clear hn0)
    | (go_at_call 10; refine (Num.new_any w1 (w1.heap.size ≤ ·) (Nat.le_refl _) S2 hS2).mono ?_; rintro e w2 ⟨x, rfl, H2, hk2, -⟩))
  rotate_left
  · go_ret
    exact ⟨rfl, Below.refl _ _⟩
  have HL : Hid (Light z1 200) := HLI.out trivial
  have HA0 : Two (NX p (fun _ => none) 0) (NX x (fun _ => none) 0) (fun k => k < w0.heap.size) w2 := two_start (NX.lies _ _ _) (NX.lies _ _ _) H1 hk1.size H2 hk2
  have hb0 : Below w0.heap.size w0 w2 := (hk1.below (Nat.le_refl _) (fun k h => h)).trans ((hk2.below (Nat.le_refl _) (fun k h => h)).mono hk1.size)
  clear HLI H1 H2 hk1 hk2
  go_loopw [9] (fun i wr => ∃ (k : Nat) (m : ByteArray → Option Int), k ≤ 200 ∧ i = .int .i64 k ∧ Two (NX p m k) (NX x m k) (fun j => j < w0.heap.size) wr ∧ Below w0.heap.size w0 wr) (fun i _ => 200 - (intOf i).toNat)
  case atStart => exact ⟨0, _, Nat.zero_le _, rfl, HA0, hb0⟩
  case round =>
    clear HA0 hb0
    obtain ⟨k, m, hk, rfl, HA, hb⟩ := hrel
    have hs := hb.size
    rcases Nat.lt_or_ge k 200 with hlt | hge
    · obtain ⟨z, hz⟩ : ∃ z, z1[k]? = some z := ⟨_, List.getElem?_eq_getElem (by omega)⟩
      obtain ⟨g, off, ea, -⟩ := (R1.out.later hb).at hz
      subst ea
      have hcell : ∀ wx, Below w0.heap.size w0 wx → wx.cell? ⟨g, off + k * 3, none⟩ = some (.int .i64 z.kind) ∧ wx.cell? ⟨g, off + k * 3 + 1, none⟩ = some (.int .i64 z.n) ∧ wx.cell? ⟨g, off + k * 3 + 2, none⟩ = some (.string z.s) := fun wx hx => by
        obtain ⟨g', off', ea, h⟩ := (R1.out.later hx).at hz
        cases ea
        exact h
      have HC : Hid (∀ wx, Below w0.heap.size w0 wx → wx.cell? ⟨g, off + k * 3, none⟩ = some (.int .i64 z.kind) ∧ wx.cell? ⟨g, off + k * 3 + 1, none⟩ = some (.int .i64 z.n) ∧ wx.cell? ⟨g, off + k * 3 + 2, none⟩ = some (.string z.s)) := hcell
      obtain ⟨c0, c1, c2⟩ := hcell wr hb
      have hzs := HL.out k z (by omega) hz
      have l1 : k < z1.length := by omega
      have l2 : (k : Int) < 200 := by omega
      clear hz hcell
      by_cases hk1 : z.kind = 1
      · rw [hk1] at c0
        have HAd : Two (NX p m k) (NX x m k) (fun j => j < w0.heap.size) wr.drew := HA.below (NX.lies _ _ _) (NX.lies _ _ _) ((Below.refl _ wr).drew)
        have hput := Two.onA (A' := NX p (put m z.s (some z.n)) (k + 1)) (f := 24) (args := #[.pointer (some ⟨p, 0, none⟩), .string z.s, .int .i64 z.n]) (Q := fun e => e = .returned (.bool (m z.s).isNone)) (NX.lies _ _ _) (NX.lies _ _ _) (NX.lies _ _ _) HAd (fun D H hD => Num.put_any H hD z.s (by omega) z.n (by omega))
        have hbd : Below w0.heap.size w0 wr.drew := hb.drew
        clear HA HAd
        go_wp2_with fail
        go_region_held3 (fun w' => w'.cell? ⟨g, off + k * 3 + 1, none⟩ = some (.int .i64 z.n) ∧ w'.cell? ⟨g, off + k * 3 + 2, none⟩ = some (.string z.s)) (first | go_keep | exact ⟨d3, e3⟩ | exact ⟨d4, e4⟩)
          (first
          | (go_at_call 24; refine hput.mono ?_; rintro e w3 ⟨rfl, HA3, hk3⟩; clear hput; have hb3 := hbd.trans (hk3.old hs); have hs3 := hb3.size; obtain ⟨-, d3, e3⟩ := HC.out w3 hb3; clear hk3)
          | (go_at_call 24; refine (Two.onB (B' := NX x (put m z.s (some z.n)) (k + 1)) (NX.lies _ _ _) (NX.lies _ _ _) (NX.lies _ _ _) HA3 (fun D H hD => Num.put_any H hD z.s (by omega) z.n (by omega))).mono ?_; rintro e w4 ⟨rfl, HA4, hk4⟩; have hb4 := hb3.trans (hk4.old hs3); obtain ⟨-, d4, e4⟩ := HC.out w4 hb4; clear hk4))
        go_wp2_with fail
        go_roundw
        case rel => exact ⟨k + 1, _, hlt, by go_num, HA4, hb4⟩
        case measure => simp [intOf]; omega
      · have hdel := Two.onA (A' := NX p (put m z.s none) k) (f := 25) (args := #[.pointer (some ⟨p, 0, none⟩), .string z.s]) (Q := fun e => e = .returned (.tuple #[Num.V ((m z.s).getD 0), .bool (m z.s).isSome])) (NX.lies _ _ _) (NX.lies _ _ _) (NX.lies _ _ _) HA (fun D H hD => Num.delete_any H (by omega) z.s (by unfold maxLen; omega))
        clear HA
        go_wp2_with (first
          | (go_at_call 25; refine hdel.mono ?_; rintro e w3 ⟨rfl, HA3, hk3⟩; clear hdel; have hb3 := hb.trans (hk3.old hs); have hs3 := hb3.size; obtain ⟨d3, e3, f3⟩ := HC.out w3 hb3; clear hk3)
          | (go_at_call 25; refine (Two.onB (B' := NX x (put m z.s none) k) (NX.lies _ _ _) (NX.lies _ _ _) (NX.lies _ _ _) HA3 (fun D H hD => Num.delete_any H (by omega) z.s (by unfold maxLen; omega))).mono ?_; rintro e w4 ⟨rfl, HA4, hk4⟩; have hb4 := hb3.trans (hk4.old hs3); clear hk4))
        go_roundw
        case rel => exact ⟨k + 1, _, hlt, by go_num, seeds_more HA4, hb4⟩
        case measure => simp [intOf]; omega
    · have hk' : k = 200 := by omega
      subst hk'
      have l1 : 200 < z1.length := hle
      clear hge hk
      obtain ⟨DL, hL⟩ := HA.left
      obtain ⟨DX, hX⟩ := HA.right
      have hfew := fun ts (h : Keyed m ts) => few_keys hL h.card
      have hkl := Num.keys_any hL (by omega)
      have hll := Num.len_any hL
      clear HA
      go_wp2_with (first
        | (go_at_call 15; refine hkl.mono ?_; rintro e w2 ⟨ts, ad, cap, rfl, hKd, hown, hb2⟩; clear hkl; have hb2' := hb.trans (hb2.mono hs); have hs2 := hb2'.size; have hX2 := IX.below hX hb2; have hL2 := IX.below hL hb2; have hf := hfew ts hKd; have HK : Hid (Keyed m ts) := hKd; clear hKd hL hX hfew hll)
        | (go_at_call 15; refine (Num.keys_any hX2 (by omega)).mono ?_; rintro e w3 ⟨ts3, ad3, cap3, rfl, hK3, hown3, hb3⟩; obtain rfl : ts3 = ts := hK3.one HK.out (fun _ => rfl); have hb3' := hb2'.trans (hb3.mono hs2); have hs3 := hb3'.size; have hX3 := IX.below hX2 hb3; have hL3 := IX.below hL2 hb3; have hown2 := ownsRow_below hown hb3; clear hX2 hL2 hown hK3)
        | (go_at_call 14; refine (texts_same (TextsAt.own hown2) (TextsAt.own hown3) rfl rfl (by omega) (by omega) rfl).mono ?_; rintro e w4 ⟨rfl, hb4⟩; have hX4 := IX.below hX3 hb4; have hb4' := hb3'.trans (hb4.mono hs3); have hs4 := hb4'.size; have hll := Num.len_any (IX.below hL3 hb4); clear hown2 hown3 hX3 hL3)
        | (go_at_call 12; refine hll.mono ?_; rintro e w5 ⟨c, rfl, hc, rfl⟩; clear hll; have hcl : c = ts3.length := hc.one HK.out.card (fun _ => rfl); subst hcl)
        | (go_at_call 12; refine (Num.len_any hX4).mono ?_; rintro e w6 ⟨c6, rfl, hc6, rfl⟩; have hcl6 : c6 = ts3.length := hc6.one HK.out.card (fun _ => rfl); subst hcl6)
        | (go_at_call 17; refine (known_any _).mono ?_; rintro e w8 ⟨rfl, hb8⟩))
      go_ret
      exact ⟨rfl, hb4'.trans (hb8.mono hs4)⟩

set_option maxRecDepth 20000 in
set_option maxHeartbeats 8000000 in
theorem walk (w : World) (a0 : Int) (w0 : (Lit.int .u64 a0).wf = true) (a1 : Int) (w1 : (Lit.int .u64 a1).wf = true) (a2 : Option Addr) (len2 cap2 : Nat) (z2 : List Deed) (e2 : z2.length = len2) (m2 : len2 ≤ maxLen) (r2 : DeedsIn w a2 z2) (x2 : ∀ z ∈ z2, (Lit.int .i64 z.kind).wf = true ∧ (Lit.int .i64 z.n).wf = true ∧ z.s.size ≤ maxLen) :
    Calls Try.prog 5 #[.int .u64 a0, .int .u64 a1, .slice a2 len2 cap2] w fun e w' => e = .returned (.bool true) ∧ Below w.heap.size w w' := by
  obtain ⟨b0, b1⟩ := bounds_u64 w0
  obtain ⟨S, rfl⟩ : ∃ S : Nat, a0 = S := ⟨a0.toNat, by omega⟩
  have hS : S < 18446744073709551616 := by omega
  obtain ⟨b2, b3⟩ := bounds_u64 w1
  obtain ⟨S2, rfl⟩ : ∃ S : Nat, a1 = S := ⟨a1.toNat, by omega⟩
  have hS2 : S2 < 18446744073709551616 := by omega
  clear w0 w1 b0 b1 b2 b3
  subst e2
  by_cases hle : z2.length ≤ 200
  · exact walkA w S hS S2 hS2 a2 cap2 z2 r2 m2 (fun z hz => (x2 z hz).2.2) hle
  · exact walkB w S hS S2 hS2 a2 cap2 z2 r2 m2 (fun z hz => (x2 z hz).2.2) (by omega)

set_option maxRecDepth 100000 in
theorem lifted (os : Os) (started : os.Started) (H : Type) (enc : TypeId × Value → H) :
    ReturnsInHanded {} Try.checked os 5 .any (Rows.indexSeedsSpec.pre6 enc Try.prog Try.f5 Rows.indexSeedsRow.domain false) (Rows.indexSeedsSpec.post enc Try.prog Try.f5 false true false false) := by
  refine returnsInHanded_of_change_sized (C := Try.checked) own started (by kernel_rfl) Try.func5
    (ChangeSpec.witness6 (enc := enc) (C := Try.checked) false ⟨#[], #[.int .u64 0, .int .u64 0, .slice none 0 0], []⟩ 8 (by kernel_rfl) (by kernel_rfl) (by kernel_rfl) (by kernel_rfl)) ?_
  intro W base args ds gs before hval0 hW hcnd hsz0 _
  have hval : ∀ (j : Nat) t v, Try.f5.params[j]? = some t → args[j]? = some v → Value.okWide Try.prog W .any base t v := hval0
  have hsz : (DataW.weightsEach Try.prog (Try.f5.params.toList ++ Rows.indexSeedsSpec.plain.varTypes Try.prog) (ds ++ gs)).all (· ≤ reachBytes) = true := hsz0
  have hW' := hW
  obtain ⟨p, q, hA0, hV, rfl, hfz, hnd⟩ := hW
  have hA : DataW.TrodAll enc Try.prog W 0 (fun _ => true) true Try.f5.params.toList args.toList ds p := hA0
  rw [Try.params5] at hA hval hsz
  obtain ⟨v0, vs0, d0, ds0, p0, q0, hargs, rfl, rfl, h0, s0⟩ := trodAll_cons hA
  obtain ⟨v1, vs1, d1, ds1, p1, q1, rfl, rfl, rfl, h1, s1⟩ := trodAll_cons s0
  obtain ⟨v2, vs2, d2, ds2, p2, q2, rfl, rfl, rfl, h2, s2⟩ := trodAll_cons s1
  obtain ⟨rfl, rfl, rfl⟩ := trodAll_nil s2
  obtain rfl : args = #[v0, v1, v2] := by cases args; simp_all
  obtain ⟨rfl, rfl⟩ := trodVars_none hV
  obtain ⟨a0, rfl, rfl, rfl, w0⟩ := open_int Try.underlying22 (hval 0 22 v0 rfl rfl) h0
  obtain ⟨a1, rfl, rfl, rfl, w1⟩ := open_int Try.underlying22 (hval 1 22 v1 rfl rfl) h1
  obtain ⟨a2, len2, cap2, rfl⟩ := okWide_slice Try.underlying23 (hval 2 23 v2 rfl rfl)
  have k2 := h2
  have lt2 : ∀ x ∈ p2, x.block < W.heap.size := by obtain ⟨m, hm⟩ := k2; exact DataW.trod_lt m _ _ _ hm
  obtain ⟨z2, e2, m2, r2, x2⟩ := open_deeds h2
  clear hA0 hval0 hsz0
  refine (walk W a0 w0 a1 w1 a2 len2 cap2 z2 e2 m2 r2 x2).mono fun e W' ⟨he, bel⟩ => ?_
  subst he
  exact ⟨_, rfl, _, _, _, [], _, [], hW', trodAll_mk1 (shut_bool Try.underlying4 _), (trodAll_cons_mk (shut_int Try.underlying22 w0) (trodAll_cons_mk (shut_int Try.underlying22 w1) (trodAll_cons_mk (Below.trod laidOut (by kernel_rfl) (of_decide_eq_true (by kernel_rfl)) k2 bel lt2) trodAll_mk0))), rfl, bel.frame _, fun h => by cases h⟩

theorem over : Rows.indexSeedsRow.holds Try.pinned (OpenSpec.ofChange Rows.indexSeedsSpec) :=
  OpenClaim.holds_of_wide 5 Try.f5 rfl rfl rfl rfl rfl rfl rfl ⟨rfl, rfl, rfl, rfl, rfl⟩ rfl rfl rfl rfl rfl (by kernel_rfl) Try.func5 (by kernel_rfl)
    (of_decide_eq_true (by kernel_rfl)) (by unfold Func.isWrapper; first | (rw [if_pos (by decide +kernel)]; kernel_rfl) | (rw [if_neg (by decide +kernel)]; exact ⟨rfl, rfl⟩))
    (fun os started H enc _ => lifted os started H enc)

end Go.Proofs.Ytpfcmaoookhopaa.indexSeeds
namespace Go.Proofs.Ytpfcmaoookhopaa
/-- the given statement -/
theorem indexSeeds_holds : Rows.IndexSeedsSaid := indexSeeds.over
#print axioms indexSeeds_holds
end Go.Proofs.Ytpfcmaoookhopaa
