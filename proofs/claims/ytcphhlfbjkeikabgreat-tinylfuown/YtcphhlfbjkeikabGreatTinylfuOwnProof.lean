/- What is answered is new memory: whatever is done with it, the engine goes on as it would: the law returns true for every room and every row of acts, and its arguments read as they did. -/
import Derived.Test.YtcphhlfbjkeikabGreatRows
import Derived.Test.YtcphhlfbjkeikabGreatAf9
import Derived.WalkKit
import Derived.ProofKit
import Derived.OpenShut
import Derived.ShutString
import Derived.ChangeOld
import Derived.Below
import Derived.Carry
import Derived.SizedLaws
namespace Go.Proofs.YtcphhlfbjkeikabGreat.tinylfuOwn
open Go.ChangeShapes Go.WideShapes Go.ChangeAt Go.RowKit
open Go.ChangeMaps (open_string shut_string)
set_option linter.unusedVariables false

theorem own : ownKnob Tryz.prog.godebug = none := by kernel_rfl
theorem laidOut : laidOutB Tryz.prog = true := by kernel_rfl
theorem eqb_self (l : List ByteArray) : eqb l l = true := by unfold eqb; simp
theorem both_sizes {e x b : Nat} {s : Stt} {O : Nat → Prop} {w : World} (h : Both e x b s O w) : ∀ k, k ∈ s.t1 ∨ k ∈ s.t2 ∨ k ∈ s.b1 → k.size ≤ 1000 := by
  obtain ⟨z, y, -, h⟩ := h
  obtain ⟨D, hA⟩ := Two.left h
  rintro k h1
  refine hA.sizes ?_
  unfold A.keys
  simp only [List.mem_append]
  rcases h1 with h1 | h1 | h1
  · exact .inl h1
  · exact .inr (.inr h1)
  · exact .inr (.inl h1)
theorem both_right {e x b : Nat} {s : Stt} {O : Nat → Prop} {w : World} (h : Both e x b s O w) : ∃ y D, RE x y s D w := by
  obtain ⟨z, y, -, h⟩ := h
  obtain ⟨D, hR⟩ := Two.right h
  exact ⟨y, D, hR⟩

/-- a store into a row -/
theorem Row.store {D : Nat → Prop} {w : World} {ad : Option Addr} {cap : Nat} {zs : List ByteArray} (h : Row D w ad cap zs) {j : Nat} (hj : j < zs.length) (v : ByteArray) :
    ∃ g off u, ad = some ⟨g, off, none⟩ ∧ D g ∧ g < w.heap.size ∧ w.cell? ⟨g, off + j, none⟩ = some u ∧ w.frozen? ⟨g, off + j, none⟩ = false ∧ Row D (w.setCell ⟨g, off + j, none⟩ (.string v)) ad cap (zs.set j v) := by
  obtain ⟨g, off, cur, rfl, hD, hg, hs, hc⟩ := h.2.2 (by have := h.1; omega)
  refine ⟨g, off, .string zs[j], rfl, hD, lt_of_block hg, ?_, frozen_of_block hg, by simpa using h.1, h.2.1, fun _ => ⟨g, off, _, rfl, hD, block_setCell hg, by simpa using hs, fun i z hi => ?_⟩⟩
  · rw [cell_of_block hg]
    exact hc j _ (List.getElem?_eq_getElem hj)
  · have h1 := h.1
    rw [List.getElem?_set] at hi
    by_cases e : j = i
    · subst e
      rw [if_pos rfl, if_pos hj] at hi
      cases hi
      simp [show off + j < cur.size by omega]
    · rw [if_neg e] at hi
      rw [Array.set!_eq_setIfInBounds, Array.getElem?_setIfInBounds_ne (by omega)]
      exact hc i z hi
theorem Row.far {D : Nat → Prop} {w : World} {ad : Option Addr} {cap : Nat} {zs : List ByteArray} (h : Row D w ad cap zs) {a : Addr} (ha : ¬ D a.block) (u : Value) : Row D (w.setCell a u) ad cap zs :=
  h.kept (Keeps.setCell (D := fun k => k = a.block) (Keeps.refl _ w) rfl u) (fun k h e => by subst e; exact ha h)
theorem below_store {w w' : World} (h : Below w.heap.size w w') {a : Addr} (ha : w.heap.size ≤ a.block) (u : Value) : Below w.heap.size w (w'.setCell a u) :=
  ((Keeps.of_below (D := fun k => w.heap.size ≤ k) h).setCell (p := a) ha u).below (Nat.le_refl _) (fun _ h => h)
/-- two rows of nobody's, n1 tells them apart, all behind n0 -/
structure Rows2 (n0 n1 : Nat) (w : World) (a1 : Option Addr) (c1 m1 : Nat) (a2 : Option Addr) (c2 m2 : Nat) : Prop where
  lt : n0 ≤ n1
  r1 : ∃ zs, zs.length = m1 ∧ Row (fun a => n0 ≤ a ∧ a < n1) w a1 c1 zs
  r2 : ∃ zs, zs.length = m2 ∧ Row (fun a => n1 ≤ a) w a2 c2 zs
theorem Rows2.store1 {n0 n1 c1 m1 c2 m2 j : Nat} {w : World} {a1 a2 : Option Addr} (h : Rows2 n0 n1 w a1 c1 m1 a2 c2 m2) (hj : j < m1) (v : ByteArray) :
    ∃ g off u, a1 = some ⟨g, off, none⟩ ∧ n0 ≤ g ∧ g < w.heap.size ∧ w.cell? ⟨g, off + j, none⟩ = some u ∧ w.frozen? ⟨g, off + j, none⟩ = false ∧ Rows2 n0 n1 (w.setCell ⟨g, off + j, none⟩ (.string v)) a1 c1 m1 a2 c2 m2 := by
  obtain ⟨hl, ⟨zs, hz, hr⟩, ⟨ys, hy, hs⟩⟩ := h
  obtain ⟨g, off, u, h1, h2, h3, h4, h5, h6⟩ := Row.store hr (j := j) (by omega) v
  exact ⟨g, off, u, h1, h2.1, h3, h4, h5, hl, ⟨_, by simpa using hz, h6⟩, ⟨ys, hy, Row.far hs (by have := h2.2; simp; omega) _⟩⟩
theorem Rows2.store2 {n0 n1 c1 m1 c2 m2 j : Nat} {w : World} {a1 a2 : Option Addr} (h : Rows2 n0 n1 w a1 c1 m1 a2 c2 m2) (hj : j < m2) (v : ByteArray) :
    ∃ g off u, a2 = some ⟨g, off, none⟩ ∧ n0 ≤ g ∧ g < w.heap.size ∧ w.cell? ⟨g, off + j, none⟩ = some u ∧ w.frozen? ⟨g, off + j, none⟩ = false ∧ Rows2 n0 n1 (w.setCell ⟨g, off + j, none⟩ (.string v)) a1 c1 m1 a2 c2 m2 := by
  obtain ⟨hl, ⟨zs, hz, hr⟩, ⟨ys, hy, hs⟩⟩ := h
  obtain ⟨g, off, u, h1, h2, h3, h4, h5, h6⟩ := Row.store hs (j := j) (by omega) v
  exact ⟨g, off, u, h1, Nat.le_trans hl h2, h3, h4, h5, hl, ⟨zs, hz, Row.far hr (by simp; omega) _⟩, ⟨_, by simpa using hy, h6⟩⟩

set_option maxRecDepth 20000 in
set_option maxHeartbeats 4000000 in
theorem walk (w : World) (a0 : Int) (w0 : (Lit.int .i64 a0).wf = true) (a1 : Option Addr) (len1 cap1 : Nat) (z1 : List Deed) (e1 : z1.length = len1) (m1 : len1 ≤ maxLen) (r1 : DeedsIn w a1 z1) (x1 : ∀ z ∈ z1, (Lit.int .i64 z.kind).wf = true ∧ z.s.size ≤ maxLen) :
    Calls Tryz.prog 4 #[.int .i64 a0, .slice a1 len1 cap1] w fun e w' => e = .returned (.bool true) ∧ Below w.heap.size w w' := by
  subst e1
  have hv := heavy_any (cap := cap1) r1 m1 (fun z hz => (x1 z hz).2)
  have HR : Hid (DeedsIn w a1 z1) := r1
  have hm1 : z1.length ≤ 9223372036854775807 := by unfold maxLen at m1; omega
  obtain ⟨b0, b1⟩ := bounds_i64 w0
  have hnew := newN_any w (fun k => w.heap.size ≤ k) (fun _ h => h) a0
  clear r1 x1 m1
  go_enter Tryz.func4, Tryz.ntmps4
  go_wp2_with (first
    | (go_at_call 13; refine Calls.mono hv ?_; clear hv; rintro ee w1 ⟨⟨hb, rfl, hli⟩, rfl⟩; have HLI : Hid (hb = false → Light z1 200) := hli; clear hli; cases hb)
    | (go_at_call 6; refine Calls.mono hnew ?_; clear hnew; rintro ee w2 ⟨e, rfl, h2, hk2⟩; have H2 : Hid (NE e (heldC a0) (fun k => w1.heap.size ≤ k) w2) := h2; have HS2 : Hid (w1.heap.size ≤ w2.heap.size) := hk2.size; have HB2 : Hid (Below w1.heap.size w1 w2) := (hk2.below (Nat.le_refl _) (fun _ h => h)); clear h2 hk2; have hrnew := rnewN_any (w := w2) (D := fun k => w2.heap.size ≤ k) a0 (fun _ h => h))
    | (go_at_call 7; refine Calls.mono hrnew ?_; clear hrnew; rintro ee w3 ⟨x, rfl, h3, hk3⟩; have H3 : Hid (Both e x 0 (A.start (heldC a0)) (fun k => k < w1.heap.size) w3) := (both_start H2.out HS2.out h3 hk3); have HB3 : Hid (Below w1.heap.size w1 w3) := (below_trans' HB2.out (hk3.below (Nat.le_refl _) (fun _ h => h))); clear h3 hk3))
  rotate_left
  · go_ret
    exact ⟨rfl, Below.refl _ _⟩
  have HL : Hid (Light z1 200) := (HLI.out (by first | rfl | trivial))
  have HC : Hid (1 ≤ heldC a0 ∧ heldC a0 ≤ 1024) := heldC_in a0
  clear HLI H2 HS2 HB2
  obtain ⟨c, hc⟩ : ∃ c, c = heldC a0 := ⟨_, rfl⟩
  rw [← hc] at H3 HC
  go_loopw [7] (fun i wr => ∃ (k : Nat) (s : Stt), k ≤ z1.length ∧ k ≤ 200 ∧ i = .int .i64 k ∧ A.Ok s ∧ s.c = c ∧ Both e x (2 * k) s (fun j => j < w1.heap.size) wr ∧ Below w1.heap.size w1 wr) (fun i _ => 200 - (intOf i).toNat)
  case atStart => exact ⟨0, A.start c, Nat.zero_le _, Nat.zero_le _, rfl, A.start_ok HC.out.1 HC.out.2, rfl, H3.out, HB3.out⟩
  case round =>
    obtain ⟨k, s, hk, hk2, rfl, hok, hsc, hA, hB⟩ := hrel
    clear H3 HB3 hc
    have HB : Hid (Below w1.heap.size w1 wr) := hB
    have HA : Hid (Both e x (2 * k) s (fun j => j < w1.heap.size) wr) := hA
    have HOk : Hid (A.Ok s) := hok
    have HSc : Hid (s.c = c) := hsc
    by_cases hin : k < z1.length ∧ k < 200
    · obtain ⟨l1, l2⟩ := hin
      obtain ⟨z, hz⟩ : ∃ z, z1[k]? = some z := ⟨_, List.getElem?_eq_getElem l1⟩
      obtain ⟨gg, off, rfl, c0, c1⟩ := (HR.out.later hB).at hz
      have hzs := HL.out k z l2 hz
      have hact := act_any hA hok (by omega) z.kind z.s (by omega)
      have l3 : (k : Int) < 200 := by omega
      clear hz hA hB hok hsc
      go_wp2_with (first
        | (go_at_call 8; refine Calls.mono hact ?_; clear hact; rintro ee w4 ⟨s', rfl, hok4, hc4, h4, hk4⟩; have HX4 : Hid (A.Ok s' ∧ s'.c = s.c) := ⟨hok4, hc4⟩; have H4 : Hid (Both e x (2 * k + 2) s' (fun j => j < w1.heap.size) w4) := h4; have HB4 : Hid (Below w1.heap.size w1 w4) := (HB.out.trans (hk4.old HB.out.size)); have hkeys := keysE_any h4.eng (by omega); obtain ⟨gs, hgs⟩ : ∃ gs : List ByteArray, gs = [] := ⟨_, rfl⟩; have HEG : Hid (∀ W, Below w4.heap.size w4 W → Calls Tryz.prog 15 #[.pointer (some ⟨e, 0, none⟩)] W fun ee w' => ∃ ad cap, ee = .returned (.slice ad (gs).length cap) ∧ Row (W.heap.size ≤ ·) w' ad cap (gs) ∧ Below W.heap.size W w') := (fun W hW => by rw [hgs]; exact (ghosts_any (h4.below hW).eng).mono (by rintro ee w' ⟨rfl, rfl⟩; exact ⟨none, 0, rfl, Row.nil, Below.refl _ _⟩)); have hkf : (A.keys s').length ≤ 4100 := (by have := keys_few hok4; omega); have hgf : (gs).length ≤ 4100 := (by rw [hgs]; simp); clear hok4 hc4 h4 hk4 hgs; generalize A.keys s' = ks at *)
        | (go_at_call 14; refine Calls.mono hkeys ?_; clear hkeys; rintro ee w5 ⟨ad5, cp5, rfl, hr5, hb5⟩; have HR5 : Hid (Row (fun a => w4.heap.size ≤ a ∧ a < w5.heap.size) w5 ad5 cp5 ks) := hr5.narrow; have HB5 : Hid (Below w4.heap.size w4 w5) := hb5; clear hr5 hb5)
        | (go_at_call 15; refine Calls.mono (HEG.out _ HB5.out) ?_; clear HEG; rintro ee w6 ⟨ad6, cp6, rfl, hr6, hb6⟩; have HB6 : Hid (Below w4.heap.size w4 w6) := below_trans' HB5.out hb6; have H6 : Hid (Rows2 w4.heap.size w5.heap.size w6 ad5 cp5 ks.length ad6 cp6 gs.length) := ⟨HB5.out.size, ⟨ks, rfl, HR5.out.below hb6⟩, ⟨gs, rfl, hr6⟩⟩; clear hr6 hb6))
      generalize ks.length = mk at *
      generalize gs.length = mg at *
      go_loopw [10] (fun i wy => ∃ j : Nat, j ≤ mk ∧ i = .int .i64 j ∧ Rows2 w4.heap.size w5.heap.size wy ad5 cp5 mk ad6 cp6 mg ∧ Below w4.heap.size w4 wy) (fun i _ => mk - (intOf i).toNat)
      case atStart => exact ⟨0, Nat.zero_le _, rfl, H6.out, HB6.out⟩
      case round =>
        clear H6 HB6
        obtain ⟨j, hj, rfl, hR, hV⟩ := hrel
        have HV : Hid (Below w4.heap.size w4 wr) := hV
        have HR2 : Hid (Rows2 w4.heap.size w5.heap.size wr ad5 cp5 mk ad6 cp6 mg) := hR
        rcases Nat.lt_or_ge j mk with hlt | hge
        · obtain ⟨g, off, u, rfl, hn0, hgl, hc, hf, hR3⟩ := hR.store1 hlt ⟨#[115, 112, 111, 105, 108, 116]⟩
          have HR3 : Hid _ := hR3
          have HN0 : Hid (w4.heap.size ≤ g) := hn0
          clear hR hV hR3 hn0
          go_wp2_with fail
          go_roundw
          case rel => exact ⟨j + 1, hlt, by go_num, HR3.out, below_store HV.out HN0.out _⟩
          case measure => simp [intOf]; omega
        · clear hR hV
          go_wp2_with fail
          go_loopw [11] (fun i wy => ∃ j : Nat, j ≤ mg ∧ i = .int .i64 j ∧ Rows2 w4.heap.size w5.heap.size wy ad5 cp5 mk ad6 cp6 mg ∧ Below w4.heap.size w4 wy) (fun i _ => mg - (intOf i).toNat)
          case atStart => exact ⟨0, Nat.zero_le _, rfl, HR2.out, HV.out⟩
          case round =>
            clear HR2 HV
            obtain ⟨q, hq, rfl, hR, hV⟩ := hrel
            have HV : Hid (Below w4.heap.size w4 wr) := hV
            rcases Nat.lt_or_ge q mg with hltq | hgeq
            · obtain ⟨g, off, u, rfl, hn0, hgl, hc, hf, hR3⟩ := hR.store2 hltq ⟨#[115, 112, 111, 105, 108, 116]⟩
              have HR3 : Hid _ := hR3
              have HN0 : Hid (w4.heap.size ≤ g) := hn0
              clear hR hV hR3 hn0
              go_wp2_with fail
              go_roundw
              case rel => exact ⟨q + 1, hltq, by go_num, HR3.out, below_store HV.out HN0.out _⟩
              case measure => simp [intOf]; omega
            · clear hR hV
              go_wp2_with fail
              go_roundw
              case rel => exact ⟨k + 1, s', l1, l2, by go_num, HX4.out.1, HX4.out.2.trans HSc.out, H4.out.below HV.out, below_trans' HB4.out HV.out⟩
              case measure => simp [intOf]; omega
    · have hend : k = z1.length ∨ (k = 200 ∧ 200 < z1.length) := by omega
      clear hin hA hB hok hsc
      have hkf := keys_few HOk.out
      have hst := stateE_any HA.out.eng
      rw [← stT_eq] at hst
      have HRS : Hid (∀ W, Below wr.heap.size wr W → Calls Tryz.prog 17 #[.pointer (some ⟨x, 0, none⟩)] W fun ee w' => ee = .returned (.string (stT s)) ∧ Below W.heap.size W w') := fun W hW => by
        obtain ⟨yy, D, hR⟩ := both_right (HA.out.below hW)
        exact rstate_any hR (Small.of HOk.out) (both_sizes HA.out)
      have HEKy : Hid (∀ W, Below wr.heap.size wr W → Calls Tryz.prog 14 #[.pointer (some ⟨e, 0, none⟩)] W fun ee w' => ∃ ad cap, ee = .returned (.slice ad (A.keys s).length cap) ∧ Row (W.heap.size ≤ ·) w' ad cap (A.keys s) ∧ Below W.heap.size W w') := fun W hW => keysE_any (HA.out.below hW).eng (by omega)
      have HRK : Hid (∀ W, Below wr.heap.size wr W → Calls Tryz.prog 19 #[.pointer (some ⟨x, 0, none⟩)] W fun e w' => ∃ ad cap, e = .returned (.slice ad (A.keys s).length cap) ∧ Row (W.heap.size ≤ ·) w' ad cap (A.keys s) ∧ Below W.heap.size W w') := fun W hW => by
        obtain ⟨yy, D, hR⟩ := both_right (HA.out.below hW)
        exact rkeys_any hR (Small.of HOk.out)
      have HEK : Hid (eqb (A.keys s) (A.keys s) = true) := eqb_self _
      have htt : ((stT s).toList == (stT s).toList) = true := by simp
      generalize stT s = tt at *
      generalize A.keys s = ks at *
      clear HA
      rcases hend with rfl | ⟨rfl, h200⟩
      all_goals
        go_wp2_with (first
          | (go_at_call 16; refine Calls.mono hst ?_; clear hst; rintro ee w4 ⟨rfl, hb4⟩; have HB4 : Hid (Below wr.heap.size wr w4) := hb4; clear hb4)
          | (go_at_call 17; refine Calls.mono (HRS.out _ HB4.out) ?_; rintro ee w5 ⟨rfl, hb5⟩; have HB5 : Hid (Below wr.heap.size wr w5) := below_trans' HB4.out hb5; clear hb5)
          | (go_at_call 14; refine Calls.mono (HEKy.out _ HB5.out) ?_; rintro ee w6 ⟨ad6, cp6, rfl, hr6, hb6⟩; have HR6 : Hid (RowIn Value.string w6 ad6 ks) := hr6.rowIn; have HB6 : Hid (Below wr.heap.size wr w6) := below_trans' HB5.out hb6; clear hr6 hb6)
          | (go_at_call 19; refine Calls.mono (HRK.out _ HB6.out) ?_; rintro ee w7 ⟨ad7, cp7, rfl, hr7, hb7⟩; have HB7 : Hid (Below wr.heap.size wr w7) := below_trans' HB6.out hb7; have htx := texts_any (c1 := cp6) (c2 := cp7) (HR6.out.later hb7) hr7.rowIn (by omega) (by omega); rw [HEK.out] at htx; clear hr7 hb7)
          | (go_at_call 18; refine Calls.mono htx ?_; clear htx; rintro ee w8 ⟨rfl, hb8⟩; have HB8 : Hid (Below wr.heap.size wr w8) := below_trans' HB7.out hb8; clear hb8)
          | (go_at_call 10; refine (known_any _).mono ?_; rintro ee w13 ⟨rfl, hb13⟩; have HB13 : Hid (Below wr.heap.size wr w13) := (below_trans' HB8.out hb13); clear hb13))
        go_ret
        exact ⟨by first | rfl | simp, below_trans' HB.out HB13.out⟩

set_option maxRecDepth 100000 in
theorem lifted (os : Os) (started : os.Started) (H : Type) (enc : TypeId × Value → H) :
    ReturnsInHanded {} Tryz.checked os 4 .any (Rows.tinylfuOwnSpec.pre6 enc Tryz.prog Tryz.f4 Rows.tinylfuOwnRow.domain false) (Rows.tinylfuOwnSpec.post enc Tryz.prog Tryz.f4 false true false false) := by
  refine returnsInHanded_of_change_sized (C := Tryz.checked) own started (by kernel_rfl) Tryz.func4
    (ChangeSpec.witness6 (enc := enc) (C := Tryz.checked) false ⟨#[], #[.int .i64 0, .slice none 0 0], []⟩ 8 (by kernel_rfl) (by kernel_rfl) (by kernel_rfl) (by kernel_rfl)) ?_
  intro W base args ds gs before hval0 hW hcnd hsz0 _
  have hval : ∀ (j : Nat) t v, Tryz.f4.params[j]? = some t → args[j]? = some v → Value.okWide Tryz.prog W .any base t v := hval0
  have hsz : (DataW.weightsEach Tryz.prog (Tryz.f4.params.toList ++ Rows.tinylfuOwnSpec.plain.varTypes Tryz.prog) (ds ++ gs)).all (· ≤ reachBytes) = true := hsz0
  have hW' := hW
  obtain ⟨p, q, hA0, hV, rfl, hfz, hnd⟩ := hW
  have hA : DataW.TrodAll enc Tryz.prog W 0 (fun _ => true) true Tryz.f4.params.toList args.toList ds p := hA0
  rw [Tryz.params4] at hA hval hsz
  obtain ⟨v0, vs0, d0, ds0, p0, q0, hargs, rfl, rfl, h0, s0⟩ := trodAll_cons hA
  obtain ⟨v1, vs1, d1, ds1, p1, q1, rfl, rfl, rfl, h1, s1⟩ := trodAll_cons s0
  obtain ⟨rfl, rfl, rfl⟩ := trodAll_nil s1
  obtain rfl : args = #[v0, v1] := by cases args; simp_all
  obtain ⟨rfl, rfl⟩ := trodVars_none hV
  obtain ⟨a0, rfl, rfl, rfl, w0⟩ := open_int Tryz.underlying3 (hval 0 3 v0 rfl rfl) h0
  obtain ⟨a1, len1, cap1, rfl⟩ := okWide_slice Tryz.underlying35 (hval 1 35 v1 rfl rfl)
  have k1 := h1
  have lt1 : ∀ x ∈ p1, x.block < W.heap.size := by obtain ⟨m, hm⟩ := k1; exact DataW.trod_lt m _ _ _ hm
  obtain ⟨z1, e1, m1, r1, x1⟩ := open_deeds h1
  clear hA0 hval0 hsz0
  refine (walk W a0 w0 a1 len1 cap1 z1 e1 m1 r1 x1).mono fun e W' ⟨he, bel⟩ => ?_
  subst he
  exact ⟨_, rfl, _, _, _, [], _, [], hW', trodAll_mk1 (shut_bool Tryz.underlying4 _), (trodAll_cons_mk (shut_int Tryz.underlying3 w0) (trodAll_cons_mk (Below.trod laidOut (by kernel_rfl) (of_decide_eq_true (by kernel_rfl)) k1 bel lt1) trodAll_mk0)), rfl, bel.frame _, fun h => by cases h⟩

theorem over : Rows.tinylfuOwnRow.holds Tryz.pinned (OpenSpec.ofChange Rows.tinylfuOwnSpec) :=
  OpenClaim.holds_of_wide 4 Tryz.f4 rfl rfl rfl rfl rfl rfl rfl ⟨rfl, rfl, rfl, rfl, rfl⟩ rfl rfl rfl rfl rfl (by kernel_rfl) Tryz.func4 (by kernel_rfl)
    (of_decide_eq_true (by kernel_rfl)) (by unfold Func.isWrapper; first | (rw [if_pos (by decide +kernel)]; kernel_rfl) | (rw [if_neg (by decide +kernel)]; exact ⟨rfl, rfl⟩))
    (fun os started H enc _ => lifted os started H enc)
end Go.Proofs.YtcphhlfbjkeikabGreat.tinylfuOwn
namespace Go.Proofs.YtcphhlfbjkeikabGreat
/-- the given statement -/
theorem tinylfuOwn_holds : Rows.TinylfuOwnSaid := tinylfuOwn.over
#print axioms tinylfuOwn_holds
end Go.Proofs.YtcphhlfbjkeikabGreat
