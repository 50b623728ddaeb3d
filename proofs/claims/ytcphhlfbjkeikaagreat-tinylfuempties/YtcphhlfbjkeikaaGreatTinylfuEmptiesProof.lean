/- One after the other all go, each once, and then nobody is resident: the law returns true for every room and every row of acts, and its arguments read as they did. -/
import Derived.Test.YtcphhlfbjkeikaaGreatRows
import Derived.Test.YtcphhlfbjkeikaaGreatAf9
import Derived.WalkKit
import Derived.ProofKit
import Derived.OpenShut
import Derived.ShutString
import Derived.ChangeOld
import Derived.Below
import Derived.Carry
import Derived.SizedLaws
namespace Go.Proofs.YtcphhlfbjkeikaaGreat.tinylfuEmpties
open Go.ChangeShapes Go.WideShapes Go.ChangeAt Go.RowKit
open Go.ChangeMaps (open_string shut_string)
set_option linter.unusedVariables false

theorem own : ownKnob Tryz.prog.godebug = none := by kernel_rfl
theorem laidOut : laidOutB Tryz.prog = true := by kernel_rfl
theorem evicted {s : Stt} (hok : A.Ok s) {n : Nat} (hn : (A.keys s).length = n + 1) {zs : List ByteArray} (hz : ∀ k, A.cnt k zs = A.cnt k (A.keys s)) : ∃ g s', A.evict s = ([g], s') ∧ A.Ok s' ∧ s'.c = s.c ∧ (A.keys s').length = n ∧ g ∈ A.keys s ∧ inb g zs = true ∧ inb g (A.keys s') = false ∧ ∀ k, A.cnt k (A.cut zs g) = A.cnt k (A.keys s') := by
  obtain ⟨g, s', e1, e2, e3, e4, e5⟩ := A.evi_yes hok (by omega)
  have h1 := e4 g
  rw [A.one_self] at h1
  have h2 := hok.once g
  have h3 : 1 ≤ A.cnt g zs := by rw [hz]; omega
  refine ⟨g, s', e1, e2, e3, by omega, A.cnt_pos.1 (by omega), inb_yes (A.cnt_pos.1 h3), inb_no (A.cnt_zero.1 (by omega)), fun k => ?_⟩
  have h4 := A.cnt_cut_one (k := k) (j := g) (l := zs) (by rw [hz]; omega) h3
  have := e4 k
  have := hz k
  omega
theorem beside_more {D : Nat → Prop} {w : World} {e b b' : Nat} {s : Stt} {ad : Option Addr} {cap : Nat} {zs : List ByteArray} (h : Beside (AE e b s) ad cap zs D w) (hb : b ≤ b') : Beside (AE e b' s) ad cap zs D w := by
  obtain ⟨D1, h1, h2, h3⟩ := h
  exact ⟨D1, h1, h2.more hb, h3⟩
theorem same_len {zs ys : List ByteArray} (h : ∀ k, A.cnt k zs = A.cnt k ys) : zs.length = ys.length := A.length_of_cnt h

set_option maxRecDepth 20000 in
set_option maxHeartbeats 4000000 in
theorem walk (w : World) (a0 : Int) (w0 : (Lit.int .i64 a0).wf = true) (a1 : Option Addr) (len1 cap1 : Nat) (z1 : List Deed) (e1 : z1.length = len1) (m1 : len1 ≤ maxLen) (r1 : DeedsIn w a1 z1) (x1 : ∀ z ∈ z1, (Lit.int .i64 z.kind).wf = true ∧ z.s.size ≤ maxLen) :
    Calls Tryz.prog 5 #[.int .i64 a0, .slice a1 len1 cap1] w fun e w' => e = .returned (.bool true) ∧ Below w.heap.size w w' := by
  subst e1
  have hv := heavy_any (cap := cap1) r1 m1 (fun z hz => (x1 z hz).2)
  have HR : Hid (DeedsIn w a1 z1) := r1
  have hm1 : z1.length ≤ 9223372036854775807 := by unfold maxLen at m1; omega
  obtain ⟨b0, b1⟩ := bounds_i64 w0
  have hnew := newN_any w (fun k => w.heap.size ≤ k) (fun _ h => h) a0
  clear r1 x1 m1
  go_enter Tryz.func5, Tryz.ntmps5
  go_wp2_with (first
    | (go_at_call 8; refine Calls.mono hv ?_; clear hv; rintro ee w1 ⟨⟨hb, rfl, hli⟩, rfl⟩; have HLI : Hid (hb = false → Light z1 200) := hli; clear hli; cases hb)
    | (go_at_call 9; refine Calls.mono hnew ?_; clear hnew; rintro ee w2 ⟨e, rfl, h2, hk2⟩; have H2 : Hid (NE e (heldC a0) (fun k => w1.heap.size ≤ k) w2) := h2; have HS2 : Hid (w1.heap.size ≤ w2.heap.size) := hk2.size; have HB2 : Hid (Below w1.heap.size w1 w2) := (hk2.below (Nat.le_refl _) (fun _ h => h)); clear h2 hk2; have hrnew := rnewN_any (w := w2) (D := fun k => w2.heap.size ≤ k) a0 (fun _ h => h))
    | (go_at_call 10; refine Calls.mono hrnew ?_; clear hrnew; rintro ee w3 ⟨x, rfl, h3, hk3⟩; have H3 : Hid (Both e x 0 (A.start (heldC a0)) (fun k => k < w1.heap.size) w3) := (both_start H2.out HS2.out h3 hk3); have HB3 : Hid (Below w1.heap.size w1 w3) := (below_trans' HB2.out (hk3.below (Nat.le_refl _) (fun _ h => h))); clear h3 hk3))
  rotate_left
  · go_ret
    exact ⟨rfl, Below.refl _ _⟩
  have HL : Hid (Light z1 200) := (HLI.out (by first | rfl | trivial))
  have HC : Hid (1 ≤ heldC a0 ∧ heldC a0 ≤ 1024) := heldC_in a0
  clear HLI H2 HS2 HB2
  obtain ⟨c, hc⟩ : ∃ c, c = heldC a0 := ⟨_, rfl⟩
  rw [← hc] at H3 HC
  go_loopw [7] (fun i wr => ∃ (k : Nat) (s : Stt), k ≤ z1.length ∧ k ≤ 200 ∧ i = .int .i64 k ∧ A.Ok s ∧ s.c = c ∧ Both e x (2 * k) s (fun j => j < w1.heap.size) wr ∧ Below w1.heap.size w1 wr) (fun i _ => 200 - (intOf i).toNat)
  case atStart => exact ⟨0, A.start c, Nat.zero_le _, Nat.zero_le _, rfl, A.start_ok HC.out.1 HC.out.2, rfl, H3.out, HB3.out⟩
  case round =>
    obtain ⟨k, s, hk, hk2, rfl, hok, hsc, hA, hB⟩ := hrel
    clear H3 HB3 hc
    have HB : Hid (Below w1.heap.size w1 wr) := hB
    have HA : Hid (Both e x (2 * k) s (fun j => j < w1.heap.size) wr) := hA
    have HOk : Hid (A.Ok s) := hok
    have HSc : Hid (s.c = c) := hsc
    by_cases hin : k < z1.length ∧ k < 200
    · obtain ⟨l1, l2⟩ := hin
      obtain ⟨z, hz⟩ : ∃ z, z1[k]? = some z := ⟨_, List.getElem?_eq_getElem l1⟩
      obtain ⟨gg, off, rfl, c0, c1⟩ := (HR.out.later hB).at hz
      have hzs := HL.out k z l2 hz
      have hact := act_any hA hok (by omega) z.kind z.s (by omega)
      have l3 : (k : Int) < 200 := by omega
      clear hz hA hB hok hsc
      go_wp2_with (go_at_call 11; refine Calls.mono hact ?_; clear hact; rintro ee w4 ⟨s', rfl, hok4, hc4, h4, hk4⟩; have HX4 : Hid (A.Ok s' ∧ s'.c = s.c) := ⟨hok4, hc4⟩; have H4 : Hid (Both e x (2 * k + 2) s' (fun j => j < w1.heap.size) w4) := h4; have HB4 : Hid (Below w1.heap.size w1 w4) := (HB.out.trans (hk4.old HB.out.size)); clear hok4 hc4 h4 hk4)
      go_roundw
      case rel => exact ⟨k + 1, s', l1, l2, by go_num, HX4.out.1, HX4.out.2.trans HSc.out, H4.out, HB4.out⟩
      case measure => simp [intOf]; omega
    · have hend : k = z1.length ∨ (k = 200 ∧ 200 < z1.length) := by omega
      clear hin hA hB hok hsc
      have hE : AE e 400 s (fun j => w1.heap.size ≤ j) wr := HA.out.eng.more (by omega)
      have hkeys := keysE_any hE (by omega)
      have HE : Hid (AE e 400 s (fun j => w1.heap.size ≤ j) wr) := hE
      clear hE HA
      rcases hend with rfl | ⟨rfl, h200⟩
      all_goals
        go_wp2_with (go_at_call 17; refine Calls.mono hkeys ?_; clear hkeys; rintro ee w5 ⟨ad, cp, rfl, hr5, hb5⟩; have H5 : Hid (Beside (AE e 400 s) ad cp (A.keys s) (fun j => w1.heap.size ≤ j) w5) := (HE.out.beside.set (fun j hj => Nat.le_trans HB.out.size hj) hr5 hb5); have HB5 : Hid (Below w1.heap.size w1 w5) := (below_trans' HB.out hb5); clear hr5 hb5)

        go_loopw [8, 9] (fun iv nv wy => ∃ (n : Nat) (s : Stt) (ad : Option Addr) (cp : Nat) (zs : List ByteArray), nv = .int .i64 n ∧ iv = .slice ad zs.length cp ∧ A.Ok s ∧ (A.keys s).length = n ∧ (∀ y, A.cnt y zs = A.cnt y (A.keys s)) ∧ n ≤ 1024 ∧ Beside (AE e (1500 - n) s) ad cp zs (fun q => w1.heap.size ≤ q) wy ∧ Below w1.heap.size w1 wy) (fun _ nv _ => (intOf nv).toNat)
        case atStart => exact ⟨(A.keys s).length, s, ad, cp, A.keys s, rfl, rfl, HOk.out, rfl, fun _ => rfl, keys_few HOk.out, beside_more H5.out (by have := keys_few HOk.out; omega), HB5.out⟩
        case round =>
          clear HE HB HOk HSc H5 HB5
          obtain ⟨n, s, ad, cp, zs, rfl, rfl, hok, hln, hcn, hn, hA, hB⟩ := hrel
          have HB : Hid (Below w1.heap.size w1 wr) := hB
          have hzl := same_len hcn
          cases n with
          | zero =>
            have hz0 : zs = [] := List.eq_nil_of_length_eq_zero (by omega)
            subst hz0
            have hno := A.evi_no (s := s) hln
            have hev := Beside.on (b' := 1501) (s' := s) (f := 25) (args := #[.pointer (some ⟨e, 0, none⟩)]) (Q := fun ee => ee = .returned (wentV [])) hA (fun q hq => Nat.le_trans hB.size hq) (fun D1 hA1 hD1 => by have h := evictE_any hA1 hok hD1 (by omega); rw [hno] at h; exact h)
            have HL0 : Hid ((A.keys s).length = 0) := hln
            clear hA hB hok hln hcn hzl hno hn
            go_wp2_with (first
              | (go_at_call 25; refine Calls.mono hev ?_; clear hev; rintro ee w6 ⟨rfl, h6, hk6⟩; have HB6 : Hid (Below w1.heap.size w1 w6) := (((Keeps.of_below (D := fun q => w1.heap.size ≤ q) HB.out).trans hk6).below (Nat.le_refl _) (fun _ h => h)); have hlen := h6.len (by omega); rw [HL0.out] at hlen; clear h6 hk6; simp only [wentV])
              | (go_at_call 14; refine Calls.mono hlen ?_; clear hlen; rintro ee w7 ⟨rfl, h7, hb7⟩; have HB7 : Hid (Below w1.heap.size w1 w7) := (below_trans' HB6.out hb7); clear h7 hb7)
              | (go_at_call 23; refine (known_any _).mono ?_; rintro ee w13 ⟨rfl, hb13⟩; have HB13 : Hid (Below w1.heap.size w1 w13) := (below_trans' HB7.out hb13); clear hb13))
            go_ret
            exact ⟨rfl, HB13.out⟩
          | succ n =>
            obtain ⟨g, s', e1, hok', hc', hln', hgm, hgz, hgs, hcut⟩ := evicted hok hln hcn
            have hgk := key_size hA.eng hgm
            have hev := Beside.on (b' := 1500 - n) (s' := s') (f := 25) (args := #[.pointer (some ⟨e, 0, none⟩)]) (Q := fun ee => ee = .returned (wentV [g])) hA (fun q hq => Nat.le_trans hB.size hq) (fun D1 hA1 hD1 => by have h := evictE_any hA1 hok hD1 (by omega); rw [e1, show 1500 - (n + 1) + 1 = 1500 - n by omega] at h; exact h)
            have HCut : Hid (∀ k, A.cnt k (A.cut zs g) = A.cnt k (A.keys s')) := hcut
            have HOk' : Hid (A.Ok s') := hok'
            have HLn' : Hid ((A.keys s').length = n) := hln'
            have HGz : Hid (inb g zs = true) := hgz
            have HGs : Hid (inb g (A.keys s') = false) := hgs
            have hzn : zs.length ≤ 1024 := by omega
            clear hzl
            clear hA hB hok hln hcn e1 hok' hc' hln' hgm hgz hgs hcut
            go_wp2_with (first
              | (go_at_call 25; go_must (refine Calls.mono hev ?_; clear hev; rintro ee w6 ⟨rfl, h6, hk6⟩; have HB6 : Hid (Below w1.heap.size w1 w6) := (((Keeps.of_below (D := fun q => w1.heap.size ≤ q) HB.out).trans hk6).below (Nat.le_refl _) (fun _ h => h)); have H6 : Hid (Beside (AE e (1500 - n) s') ad cp zs (fun q => w1.heap.size ≤ q) w6) := h6; have hlh := lhas_any (cap := cp) h6.row (by unfold maxLen; omega) g; rw [HGz.out] at hlh; have hhas := h6.has (by omega) g hgk; rw [HGs.out] at hhas; clear h6 hk6; simp only [wentV]))
              | (go_at_call 26; refine Calls.mono hlh ?_; clear hlh; rintro ee w7 ⟨rfl, rfl⟩)
              | (go_at_call 27; refine Calls.mono hhas ?_; clear hhas; rintro ee w8 ⟨rfl, h8, hb8⟩; have HB8 : Hid (Below w1.heap.size w1 w8) := (below_trans' HB6.out hb8); have hlen := h8.len (by omega); rw [HLn'.out] at hlen; clear h8 hb8)
              | (go_at_call 14; refine Calls.mono hlen ?_; clear hlen; rintro ee w9 ⟨rfl, h9, hb9⟩; have HB9 : Hid (Below w1.heap.size w1 w9) := (below_trans' HB8.out hb9); have H9 : Hid (Beside (AE e (1500 - n) s') ad cp zs (fun q => w1.heap.size ≤ q) w9) := h9; have hlc := lcut_any (cap := cp) h9.row (by omega) g; clear h9 hb9)
              | (go_at_call 28; refine Calls.mono hlc ?_; clear hlc; rintro ee w10 ⟨ad2, cp2, rfl, hr10, hb10⟩; have H10 : Hid (Beside (AE e (1500 - n) s') ad2 cp2 (A.cut zs g) (fun q => w1.heap.size ≤ q) w10) := (H9.out.set (fun q hq => Nat.le_trans HB9.out.size hq) hr10 hb10); have HB10 : Hid (Below w1.heap.size w1 w10) := (below_trans' HB9.out hb10); clear hr10 hb10))
            go_roundw
            case rel => exact ⟨n, s', ad2, cp2, A.cut zs g, by go_num, rfl, HOk'.out, HLn'.out, HCut.out, by omega, H10.out, HB10.out⟩
            case measure => simp [intOf]

set_option maxRecDepth 100000 in
theorem lifted (os : Os) (started : os.Started) (H : Type) (enc : TypeId × Value → H) :
    ReturnsInHanded {} Tryz.checked os 5 .any (Rows.tinylfuEmptiesSpec.pre6 enc Tryz.prog Tryz.f5 Rows.tinylfuEmptiesRow.domain false) (Rows.tinylfuEmptiesSpec.post enc Tryz.prog Tryz.f5 false true false false) := by
  refine returnsInHanded_of_change_sized (C := Tryz.checked) own started (by kernel_rfl) Tryz.func5
    (ChangeSpec.witness6 (enc := enc) (C := Tryz.checked) false ⟨#[], #[.int .i64 0, .slice none 0 0], []⟩ 8 (by kernel_rfl) (by kernel_rfl) (by kernel_rfl) (by kernel_rfl)) ?_
  intro W base args ds gs before hval0 hW hcnd hsz0 _
  have hval : ∀ (j : Nat) t v, Tryz.f5.params[j]? = some t → args[j]? = some v → Value.okWide Tryz.prog W .any base t v := hval0
  have hsz : (DataW.weightsEach Tryz.prog (Tryz.f5.params.toList ++ Rows.tinylfuEmptiesSpec.plain.varTypes Tryz.prog) (ds ++ gs)).all (· ≤ reachBytes) = true := hsz0
  have hW' := hW
  obtain ⟨p, q, hA0, hV, rfl, hfz, hnd⟩ := hW
  have hA : DataW.TrodAll enc Tryz.prog W 0 (fun _ => true) true Tryz.f5.params.toList args.toList ds p := hA0
  rw [Tryz.params5] at hA hval hsz
  obtain ⟨v0, vs0, d0, ds0, p0, q0, hargs, rfl, rfl, h0, s0⟩ := trodAll_cons hA
  obtain ⟨v1, vs1, d1, ds1, p1, q1, rfl, rfl, rfl, h1, s1⟩ := trodAll_cons s0
  obtain ⟨rfl, rfl, rfl⟩ := trodAll_nil s1
  obtain rfl : args = #[v0, v1] := by cases args; simp_all
  obtain ⟨rfl, rfl⟩ := trodVars_none hV
  obtain ⟨a0, rfl, rfl, rfl, w0⟩ := open_int Tryz.underlying3 (hval 0 3 v0 rfl rfl) h0
  obtain ⟨a1, len1, cap1, rfl⟩ := okWide_slice Tryz.underlying22 (hval 1 22 v1 rfl rfl)
  have k1 := h1
  have lt1 : ∀ x ∈ p1, x.block < W.heap.size := by obtain ⟨m, hm⟩ := k1; exact DataW.trod_lt m _ _ _ hm
  obtain ⟨z1, e1, m1, r1, x1⟩ := open_deeds h1
  clear hA0 hval0 hsz0
  refine (walk W a0 w0 a1 len1 cap1 z1 e1 m1 r1 x1).mono fun e W' ⟨he, bel⟩ => ?_
  subst he
  exact ⟨_, rfl, _, _, _, [], _, [], hW', trodAll_mk1 (shut_bool Tryz.underlying4 _), (trodAll_cons_mk (shut_int Tryz.underlying3 w0) (trodAll_cons_mk (Below.trod laidOut (by kernel_rfl) (of_decide_eq_true (by kernel_rfl)) k1 bel lt1) trodAll_mk0)), rfl, bel.frame _, fun h => by cases h⟩

theorem over : Rows.tinylfuEmptiesRow.holds Tryz.pinned (OpenSpec.ofChange Rows.tinylfuEmptiesSpec) :=
  OpenClaim.holds_of_wide 5 Tryz.f5 rfl rfl rfl rfl rfl rfl rfl ⟨rfl, rfl, rfl, rfl, rfl⟩ rfl rfl rfl rfl rfl (by kernel_rfl) Tryz.func5 (by kernel_rfl)
    (of_decide_eq_true (by kernel_rfl)) (by unfold Func.isWrapper; first | (rw [if_pos (by decide +kernel)]; kernel_rfl) | (rw [if_neg (by decide +kernel)]; exact ⟨rfl, rfl⟩))
    (fun os started H enc _ => lifted os started H enc)
end Go.Proofs.YtcphhlfbjkeikaaGreat.tinylfuEmpties
namespace Go.Proofs.YtcphhlfbjkeikaaGreat
/-- the given statement -/
theorem tinylfuEmpties_holds : Rows.TinylfuEmptiesSaid := tinylfuEmpties.over
#print axioms tinylfuEmpties_holds
end Go.Proofs.YtcphhlfbjkeikaaGreat
