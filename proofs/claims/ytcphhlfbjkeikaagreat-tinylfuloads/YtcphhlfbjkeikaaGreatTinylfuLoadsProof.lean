/- Who is loaded is resident, nobody goes by it, and there is no room for more than there is room: the law returns true for every room, every row of acts and every row of keys, and its arguments read as they did. -/
import Derived.Test.YtcphhlfbjkeikaaGreatRows
import Derived.Test.YtcphhlfbjkeikaaGreatAf9
import Derived.WalkKit
import Derived.ProofKit
import Derived.OpenShut
import Derived.ShutString
import Derived.ChangeOld
import Derived.Below
import Derived.Carry
import Derived.SizedLaws
namespace Go.Proofs.YtcphhlfbjkeikaaGreat.tinylfuLoads
open Go.ChangeShapes Go.WideShapes Go.ChangeAt Go.RowKit
open Go.ChangeMaps (open_string shut_string)
set_option linter.unusedVariables false

theorem own : ownKnob Tryz.prog.godebug = none := by kernel_rfl
theorem laidOut : laidOutB Tryz.prog = true := by kernel_rfl
theorem loaded {s : Stt} (key : ByteArray) (hok : A.Ok s) : ∃ r s', A.load s key = (r, s') ∧ r = (!(inb key (A.keys s)) && decide ((A.keys s).length < s.c)) ∧ A.Ok s' ∧ s'.c = s.c ∧ (r = true → inb key (A.keys s') = true ∧ (A.keys s').length = (A.keys s).length + 1) ∧ (r = false → (A.keys s').length = (A.keys s).length) ∧ ∀ z ∈ A.keys s, inb z (A.keys s') = true := by
  by_cases hin : key ∈ A.keys s
  · rw [A.load_no (.inl hin), inb_yes hin]
    exact ⟨false, s, rfl, rfl, hok, rfl, fun h => (by cases h), fun _ => rfl, fun z hz => inb_yes hz⟩
  · rw [inb_no hin]
    rcases Nat.lt_or_ge (A.keys s).length s.c with hl | hl
    · obtain ⟨r1, r2, r3, r4, r5⟩ := A.load_yes hok hin hl
      refine ⟨true, (A.load s key).2, by rw [← r1], by simp [hl], r2, r3, fun _ => ⟨inb_yes ?_, r5⟩, fun h => (by cases h), fun z hz => inb_yes ?_⟩
      · rw [← A.cnt_pos]
        have := r4 key
        rw [A.one_self] at this
        omega
      · rw [← A.cnt_pos]
        have := r4 z
        have := A.cnt_pos.2 hz
        omega
    · rw [A.load_no (.inr hl)]
      exact ⟨false, s, rfl, by simp; omega, hok, rfl, fun h => (by cases h), fun _ => rfl, fun z hz => inb_yes hz⟩

set_option maxRecDepth 20000 in
set_option maxHeartbeats 4000000 in
theorem walk (w : World) (a0 : Int) (w0 : (Lit.int .i64 a0).wf = true) (a1 : Option Addr) (len1 cap1 : Nat) (z1 : List Deed) (e1 : z1.length = len1) (m1 : len1 ≤ maxLen) (r1 : DeedsIn w a1 z1) (x1 : ∀ z ∈ z1, (Lit.int .i64 z.kind).wf = true ∧ z.s.size ≤ maxLen) (a2 : Option Addr) (len2 cap2 : Nat) (z2 : List ByteArray) (e2 : z2.length = len2) (m2 : len2 ≤ maxLen) (r2 : RowIn Value.string w a2 z2) (x2 : ∀ z ∈ z2, z.size ≤ 140737488351232) :
    Calls Tryz.prog 6 #[.int .i64 a0, .slice a1 len1 cap1, .slice a2 len2 cap2] w fun e w' => e = .returned (.bool true) ∧ Below w.heap.size w w' := by
  subst e1
  have hv := heavy_any (cap := cap1) r1 m1 (fun z hz => (x1 z hz).2)
  have HR : Hid (DeedsIn w a1 z1) := r1
  have hm1 : z1.length ≤ 9223372036854775807 := by unfold maxLen at m1; omega
  obtain ⟨b0, b1⟩ := bounds_i64 w0
  have hnew := newN_any w (fun k => w.heap.size ≤ k) (fun _ h => h) a0
  clear r1 x1 m1
  subst e2
  have hlong := long_any (cap := cap2) r2 m2 x2
  have HR2 : Hid (RowIn Value.string w a2 z2) := r2
  have HLG : Hid (lng z2 = false → z2.length ≤ 200 ∧ ∀ z ∈ z2, z.size ≤ 40) := fun h => lng_no h
  have hm2 : z2.length ≤ 9223372036854775807 := by unfold maxLen at m2; omega
  clear r2 m2 x2
  generalize lng z2 = lg at *
  go_enter Tryz.func6, Tryz.ntmps6
  go_wp2_with (first
    | (go_at_call 8; refine Calls.mono hv ?_; clear hv; rintro ee w1 ⟨⟨hb, rfl, hli⟩, rfl⟩; have HLI : Hid (hb = false → Light z1 200) := hli; clear hli; cases hb)
    | (go_at_call 29; refine Calls.mono hlong ?_; clear hlong; rintro ee w1 ⟨rfl, rfl⟩; cases lg)
    | (go_at_call 9; refine Calls.mono hnew ?_; clear hnew; rintro ee w2 ⟨e, rfl, h2, hk2⟩; have H2 : Hid (NE e (heldC a0) (fun k => w1.heap.size ≤ k) w2) := h2; have HS2 : Hid (w1.heap.size ≤ w2.heap.size) := hk2.size; have HB2 : Hid (Below w1.heap.size w1 w2) := (hk2.below (Nat.le_refl _) (fun _ h => h)); clear h2 hk2; have hrnew := rnewN_any (w := w2) (D := fun k => w2.heap.size ≤ k) a0 (fun _ h => h))
    | (go_at_call 10; refine Calls.mono hrnew ?_; clear hrnew; rintro ee w3 ⟨x, rfl, h3, hk3⟩; have H3 : Hid (Both e x 0 (A.start (heldC a0)) (fun k => k < w1.heap.size) w3) := (both_start H2.out HS2.out h3 hk3); have HB3 : Hid (Below w1.heap.size w1 w3) := (below_trans' HB2.out (hk3.below (Nat.le_refl _) (fun _ h => h))); clear h3 hk3))
  rotate_left
  · go_ret
    exact ⟨rfl, Below.refl _ _⟩
  · go_ret
    exact ⟨rfl, Below.refl _ _⟩
  obtain ⟨hz2, hzs2⟩ := (HLG.out (by first | rfl | trivial))
  have HZS : Hid (∀ z ∈ z2, z.size ≤ 40) := hzs2
  clear hzs2
  have HL : Hid (Light z1 200) := (HLI.out (by first | rfl | trivial))
  have HC : Hid (1 ≤ heldC a0 ∧ heldC a0 ≤ 1024) := heldC_in a0
  clear HLI H2 HS2 HB2
  obtain ⟨c, hc⟩ : ∃ c, c = heldC a0 := ⟨_, rfl⟩
  rw [← hc] at H3 HC
  go_loopw [9] (fun i wr => ∃ (k : Nat) (s : Stt), k ≤ z1.length ∧ k ≤ 200 ∧ i = .int .i64 k ∧ A.Ok s ∧ s.c = c ∧ Both e x (2 * k) s (fun j => j < w1.heap.size) wr ∧ Below w1.heap.size w1 wr) (fun i _ => 200 - (intOf i).toNat)
  case atStart => exact ⟨0, A.start c, Nat.zero_le _, Nat.zero_le _, rfl, A.start_ok HC.out.1 HC.out.2, rfl, H3.out, HB3.out⟩
  case round =>
    obtain ⟨k, s, hk, hk2, rfl, hok, hsc, hA, hB⟩ := hrel
    clear H3 HB3 hc
    have HB : Hid (Below w1.heap.size w1 wr) := hB
    have HA : Hid (Both e x (2 * k) s (fun j => j < w1.heap.size) wr) := hA
    have HOk : Hid (A.Ok s) := hok
    have HSc : Hid (s.c = c) := hsc
    by_cases hin : k < z1.length ∧ k < 200
    · obtain ⟨l1, l2⟩ := hin
      obtain ⟨z, hz⟩ : ∃ z, z1[k]? = some z := ⟨_, List.getElem?_eq_getElem l1⟩
      obtain ⟨gg, off, rfl, c0, c1⟩ := (HR.out.later hB).at hz
      have hzs := HL.out k z l2 hz
      have hact := act_any hA hok (by omega) z.kind z.s (by omega)
      have l3 : (k : Int) < 200 := by omega
      clear hz hA hB hok hsc
      go_wp2_with (go_at_call 11; refine Calls.mono hact ?_; clear hact; rintro ee w4 ⟨s', rfl, hok4, hc4, h4, hk4⟩; have HX4 : Hid (A.Ok s' ∧ s'.c = s.c) := ⟨hok4, hc4⟩; have H4 : Hid (Both e x (2 * k + 2) s' (fun j => j < w1.heap.size) w4) := h4; have HB4 : Hid (Below w1.heap.size w1 w4) := (HB.out.trans (hk4.old HB.out.size)); clear hok4 hc4 h4 hk4)
      go_roundw
      case rel => exact ⟨k + 1, s', l1, l2, by go_num, HX4.out.1, HX4.out.2.trans HSc.out, H4.out, HB4.out⟩
      case measure => simp [intOf]; omega
    · have hend : k = z1.length ∨ (k = 200 ∧ 200 < z1.length) := by omega
      clear hin hA hB hok hsc
      have hE : AE e 400 s (fun j => w1.heap.size ≤ j) wr := HA.out.eng.more (by omega)
      have HE : Hid (AE e 400 s (fun j => w1.heap.size ≤ j) wr) := hE
      clear hE HA
      rcases hend with rfl | ⟨rfl, h200⟩
      all_goals
        go_wp2_with fail
        go_loopw [10] (fun i wy => ∃ (j : Nat) (s : Stt), j ≤ z2.length ∧ i = .int .i64 j ∧ A.Ok s ∧ s.c = c ∧ AE e (400 + j) s (fun q => w1.heap.size ≤ q) wy ∧ Below w1.heap.size w1 wy) (fun i _ => z2.length - (intOf i).toNat)
        case atStart => exact ⟨0, s, Nat.zero_le _, rfl, HOk.out, HSc.out, HE.out, HB.out⟩
        case round =>
          clear HE HB HOk HSc
          obtain ⟨j, s, hj, rfl, hok, hsc, hA, hB⟩ := hrel
          have HB : Hid (Below w1.heap.size w1 wr) := hB
          have HA : Hid (AE e (400 + j) s (fun q => w1.heap.size ≤ q) wr) := hA
          rcases Nat.lt_or_ge j z2.length with hlt | hge
          · obtain ⟨z, hz⟩ : ∃ z, z2[j]? = some z := ⟨_, List.getElem?_eq_getElem hlt⟩
            obtain ⟨gg, off, rfl, cz⟩ := (HR2.out.later hB).at hz
            have hzs := HZS.out z (List.mem_of_getElem? hz)
            have HCz : Hid (∀ W : World, Below w1.heap.size w1 W → W.cell? ⟨gg, off + j, none⟩ = some (.string z)) := fun W hW => by
              obtain ⟨g2, o2, e2, c2⟩ := (HR2.out.later hW).at hz
              cases e2
              exact c2
            have hhas1 := has_any hA (by omega) z (by omega)
            obtain ⟨r, s', hload, hr, hok', hc', hr1, hr0, hall⟩ := loaded z hok
            have hkl := keys_few hok
            have HK : Hid (A.Ok s' ∧ s'.c = c) := ⟨hok', hc'.trans hsc⟩
            have HAll : Hid (∀ z ∈ A.keys s, inb z (A.keys s') = true) := hall
            have HSz : Hid (∀ z ∈ A.keys s, z.size ≤ 1000) := fun z hz => key_size hA hz
            have HLd : Hid (∀ (W : World) (ad : Option Addr) (cp : Nat), Beside (AE e (400 + j) s) ad cp (A.keys s) (fun q => w1.heap.size ≤ q) W → w1.heap.size ≤ W.heap.size → Calls Tryz.prog 30 #[.pointer (some ⟨e, 0, none⟩), .string z] W fun ee w' => ee = .returned (.bool r) ∧ Beside (AE e (401 + j) s') ad cp (A.keys s) (fun q => w1.heap.size ≤ q) w' ∧ Keeps (fun q => w1.heap.size ≤ q) W w') := by
              intro W ad cp hW hs
              have h := Beside.on (b' := 400 + j + 1) (s' := (A.load s z).2) (f := 30) (args := #[.pointer (some ⟨e, 0, none⟩), .string z]) (Q := fun ee => ee = .returned (.bool (A.load s z).1)) hW (fun q hq => Nat.le_trans hs hq) (fun D1 hA1 hD1 => load_any hA1 hok hD1 (by omega) z (by omega))
              rw [hload, show 400 + j + 1 = 401 + j by omega] at h
              exact h
            obtain ⟨m, hm⟩ : ∃ m, m = (A.keys s).length := ⟨_, rfl⟩
            rw [hsc] at hr
            rw [← hm] at hr hr1 hr0 hkl
            have HM : Hid (m = (A.keys s).length) := hm
            have HSc' : Hid (s.c = c) := hsc
            have hHLen : ∀ W, AE e (400 + j) s (fun q => w1.heap.size ≤ q) W → Calls Tryz.prog 14 #[.pointer (some ⟨e, 0, none⟩)] W fun ee w' => ee = .returned (.int .i64 (m : Nat)) ∧ Below W.heap.size W w' := fun W hW => by rw [hm]; exact keys_any hW (by omega)
            have HLen : Hid _ := hHLen
            clear hz hA hB hok hsc hload hok' hc' hall hm hHLen
            cases hwas : inb z (A.keys s)
            all_goals
              rw [hwas] at hr hhas1
              clear hwas
              rcases Nat.lt_or_ge m c with hmc | hmc
            all_goals
              first
                | (have hdc : decide ((m : Int) < (c : Int)) = true := decide_eq_true (by omega); have hdn : decide (m < c) = true := decide_eq_true (by omega))
                | (have hdc : decide ((m : Int) < (c : Int)) = false := decide_eq_false (by omega); have hdn : decide (m < c) = false := decide_eq_false (by omega))
              simp [hmc, Nat.not_lt.2] at hr
              subst hr
              first
                | (obtain ⟨q1, q2⟩ := hr1 rfl; have Q1 : Hid (inb z (A.keys s') = true) := q1; clear hr0 hr1 q1)
                | (have q2 := hr0 rfl; clear hr0 hr1)
              have Q2 : Hid _ := q2
              clear q2
            all_goals
              go_wp2_with (first
                | (go_at_call 27; refine Calls.mono hhas1 ?_; clear hhas1; rintro ee w5 ⟨rfl, hb5⟩; have HA5 : Hid (AE e (400 + j) s (fun q => w1.heap.size ≤ q) w5) := HA.out.below hb5; have HB5 : Hid (Below w1.heap.size w1 w5) := (below_trans' HB.out hb5); have hlen1 := HLen.out w5 HA5.out; clear hb5)
                | (go_at_call 14; refine Calls.mono hlen1 ?_; clear hlen1; rintro ee w6 ⟨rfl, hb6⟩; have HA6 : Hid (AE e (400 + j) s (fun q => w1.heap.size ≤ q) w6) := HA5.out.below hb6; have HB6 : Hid (Below w1.heap.size w1 w6) := (below_trans' HB5.out hb6); have hkeys := keysE_any HA6.out (by omega); rw [← HM.out] at hkeys; clear hb6)
                | (go_at_call 17; refine Calls.mono hkeys ?_; clear hkeys; rintro ee w7 ⟨ad, cp, rfl, hr7, hb7⟩; have h7 := HA6.out.beside.set (fun q hq => Nat.le_trans HB6.out.size hq) hr7 hb7; have HB7 : Hid (Below w1.heap.size w1 w7) := (below_trans' HB6.out hb7); have cz7 := HCz.out w7 HB7.out; have hld := HLd.out _ _ _ h7 HB7.out.size; clear h7 hr7 hb7)
                | (go_at_call 30; refine Calls.mono hld ?_; clear hld; rintro ee w8 ⟨rfl, h8, hk8⟩; have HB8 : Hid (Below w1.heap.size w1 w8) := (((Keeps.of_below (D := fun q => w1.heap.size ≤ q) HB7.out).trans hk8).below (Nat.le_refl _) (fun _ h => h)); have H8 : Hid (Beside (AE e (401 + j) s') ad cp (A.keys s) (fun q => w1.heap.size ≤ q) w8) := h8; have cz8 := HCz.out w8 HB8.out; have hroom := room_any h8.eng; have hhas2 := h8.has (by omega) z (by omega); have hlen2 := h8.len (by omega); rw [Q2.out] at hlen2; clear h8 hk8)
                | (go_at_call 21; refine Calls.mono hroom ?_; clear hroom; rintro ee w9 ⟨rfl, rfl⟩; rw [HK.out.2])
                | (go_at_call 27; refine Calls.mono hhas2 ?_; clear hhas2 hlen2; rintro ee w10 ⟨rfl, h10, hb10⟩; rw [Q1.out]; have HB10 : Hid (Below w1.heap.size w1 w10) := (below_trans' HB8.out hb10); have hlen3 := h10.len (by omega); rw [Q2.out] at hlen3; clear h10 hb10)
                | (go_at_call 14; refine Calls.mono hlen3 ?_; clear hlen3; rintro ee w11 ⟨rfl, h11, hb11⟩; have H11 : Hid (Beside (AE e (401 + j) s') ad cp (A.keys s) (fun q => w1.heap.size ≤ q) w11) := h11; have HB11 : Hid (Below w1.heap.size w1 w11) := (below_trans' HB10.out hb11); clear h11 hb11)
                | (go_at_call 14; refine Calls.mono hlen2 ?_; clear hlen2 hhas2; rintro ee w11 ⟨rfl, h11, hb11⟩; have H11 : Hid (Beside (AE e (401 + j) s') ad cp (A.keys s) (fun q => w1.heap.size ≤ q) w11) := h11; have HB11 : Hid (Below w1.heap.size w1 w11) := (below_trans' HB8.out hb11); clear h11 hb11))
            all_goals
              go_loopw [15] (fun i wy => ∃ q : Nat, q ≤ m ∧ i = .int .i64 q ∧ Beside (AE e (401 + j) s') ad cp (A.keys s) (fun q => w1.heap.size ≤ q) wy ∧ Below w1.heap.size w1 wy) (fun i _ => m - (intOf i).toNat)
              case atStart => exact ⟨0, Nat.zero_le _, rfl, H11.out, HB11.out⟩
              case round =>
                obtain ⟨q, hq, rfl, hW, hV⟩ := hrel
                have HW : Hid (Beside (AE e (401 + j) s') ad cp (A.keys s) (fun q => w1.heap.size ≤ q) wr) := hW
                have HV : Hid (Below w1.heap.size w1 wr) := hV
                rcases Nat.lt_or_ge q m with hltq | hgeq
                · obtain ⟨y, hy⟩ : ∃ y, (A.keys s)[q]? = some y := ⟨_, List.getElem?_eq_getElem (by rw [← HM.out]; exact hltq)⟩
                  have hmy := List.mem_of_getElem? hy
                  obtain ⟨g4, off4, rfl, cy⟩ := hW.row.at hy
                  have hhas3 := hW.has (by omega) y (HSz.out y hmy)
                  rw [HAll.out y hmy] at hhas3
                  clear hW hV hy hmy
                  go_wp2_with (go_at_call 27; refine Calls.mono hhas3 ?_; clear hhas3; rintro ee w12 ⟨rfl, h12, hb12⟩; have H12 : Hid (Beside (AE e (401 + j) s') (some ⟨g4, off4, none⟩) cp (A.keys s) (fun q => w1.heap.size ≤ q) w12) := h12; have HB12 : Hid (Below w1.heap.size w1 w12) := (below_trans' HV.out hb12); clear h12 hb12)
                  go_roundw
                  case rel => exact ⟨q + 1, hltq, by go_num, H12.out, HB12.out⟩
                  case measure => simp [intOf]; omega
                · clear hW hV
                  go_wp2_with fail
                  go_roundw
                  case rel => exact ⟨j + 1, s', hlt, by go_num, HK.out.1, HK.out.2, HW.out.eng.more (by omega), HV.out⟩
                  case measure => simp [intOf]; omega
          · clear hA hB hok hsc
            go_wp2_with (go_at_call 23; refine (known_any _).mono ?_; rintro ee w13 ⟨rfl, hb13⟩; have HB13 : Hid (Below w1.heap.size w1 w13) := (below_trans' HB.out hb13); clear hb13)
            go_ret
            exact ⟨rfl, HB13.out⟩

set_option maxRecDepth 100000 in
theorem lifted (os : Os) (started : os.Started) (H : Type) (enc : TypeId × Value → H) :
    ReturnsInHanded {} Tryz.checked os 6 .any (Rows.tinylfuLoadsSpec.pre6 enc Tryz.prog Tryz.f6 Rows.tinylfuLoadsRow.domain false) (Rows.tinylfuLoadsSpec.post enc Tryz.prog Tryz.f6 false true false false) := by
  refine returnsInHanded_of_change_sized (C := Tryz.checked) own started (by kernel_rfl) Tryz.func6
    (ChangeSpec.witness6 (enc := enc) (C := Tryz.checked) false ⟨#[], #[.int .i64 0, .slice none 0 0, .slice none 0 0], []⟩ 8 (by kernel_rfl) (by kernel_rfl) (by kernel_rfl) (by kernel_rfl)) ?_
  intro W base args ds gs before hval0 hW hcnd hsz0 _
  have hval : ∀ (j : Nat) t v, Tryz.f6.params[j]? = some t → args[j]? = some v → Value.okWide Tryz.prog W .any base t v := hval0
  have hsz : (DataW.weightsEach Tryz.prog (Tryz.f6.params.toList ++ Rows.tinylfuLoadsSpec.plain.varTypes Tryz.prog) (ds ++ gs)).all (· ≤ reachBytes) = true := hsz0
  have hW' := hW
  obtain ⟨p, q, hA0, hV, rfl, hfz, hnd⟩ := hW
  have hA : DataW.TrodAll enc Tryz.prog W 0 (fun _ => true) true Tryz.f6.params.toList args.toList ds p := hA0
  rw [Tryz.params6] at hA hval hsz
  obtain ⟨v0, vs0, d0, ds0, p0, q0, hargs, rfl, rfl, h0, s0⟩ := trodAll_cons hA
  obtain ⟨v1, vs1, d1, ds1, p1, q1, rfl, rfl, rfl, h1, s1⟩ := trodAll_cons s0
  obtain ⟨v2, vs2, d2, ds2, p2, q2, rfl, rfl, rfl, h2, s2⟩ := trodAll_cons s1
  obtain ⟨rfl, rfl, rfl⟩ := trodAll_nil s2
  obtain rfl : args = #[v0, v1, v2] := by cases args; simp_all
  obtain ⟨rfl, rfl⟩ := trodVars_none hV
  obtain ⟨a0, rfl, rfl, rfl, w0⟩ := open_int Tryz.underlying3 (hval 0 3 v0 rfl rfl) h0
  obtain ⟨a1, len1, cap1, rfl⟩ := okWide_slice Tryz.underlying22 (hval 1 22 v1 rfl rfl)
  have k1 := h1
  have lt1 : ∀ x ∈ p1, x.block < W.heap.size := by obtain ⟨m, hm⟩ := k1; exact DataW.trod_lt m _ _ _ hm
  obtain ⟨z1, e1, m1, r1, x1⟩ := open_deeds h1
  obtain ⟨a2, len2, cap2, rfl⟩ := okWide_slice Tryz.underlying34 (hval 2 34 v2 rfl rfl)
  have k2 := h2
  have lt2 : ∀ x ∈ p2, x.block < W.heap.size := by obtain ⟨m, hm⟩ := k2; exact DataW.trod_lt m _ _ _ hm
  obtain ⟨z2, e2, m2, r2, x2⟩ := open_texts h2
  replace x2 : ∀ z ∈ z2, z.size ≤ 140737488351232 := fun z hz => reach_first (reach_tail (reach_tail hsz)) (x2 z hz)
  clear hA0 hval0 hsz0
  refine (walk W a0 w0 a1 len1 cap1 z1 e1 m1 r1 x1 a2 len2 cap2 z2 e2 m2 r2 x2).mono fun e W' ⟨he, bel⟩ => ?_
  subst he
  exact ⟨_, rfl, _, _, _, [], _, [], hW', trodAll_mk1 (shut_bool Tryz.underlying4 _), (trodAll_cons_mk (shut_int Tryz.underlying3 w0) (trodAll_cons_mk (Below.trod laidOut (by kernel_rfl) (of_decide_eq_true (by kernel_rfl)) k1 bel lt1) (trodAll_cons_mk (Below.trod laidOut (by kernel_rfl) (of_decide_eq_true (by kernel_rfl)) k2 bel lt2) trodAll_mk0))), rfl, bel.frame _, fun h => by cases h⟩

theorem over : Rows.tinylfuLoadsRow.holds Tryz.pinned (OpenSpec.ofChange Rows.tinylfuLoadsSpec) :=
  OpenClaim.holds_of_wide 6 Tryz.f6 rfl rfl rfl rfl rfl rfl rfl ⟨rfl, rfl, rfl, rfl, rfl⟩ rfl rfl rfl rfl rfl (by kernel_rfl) Tryz.func6 (by kernel_rfl)
    (of_decide_eq_true (by kernel_rfl)) (by unfold Func.isWrapper; first | (rw [if_pos (by decide +kernel)]; kernel_rfl) | (rw [if_neg (by decide +kernel)]; exact ⟨rfl, rfl⟩))
    (fun os started H enc _ => lifted os started H enc)
end Go.Proofs.YtcphhlfbjkeikaaGreat.tinylfuLoads
namespace Go.Proofs.YtcphhlfbjkeikaaGreat
/-- the given statement -/
theorem tinylfuLoads_holds : Rows.TinylfuLoadsSaid := tinylfuLoads.over
#print axioms tinylfuLoads_holds
end Go.Proofs.YtcphhlfbjkeikaaGreat
