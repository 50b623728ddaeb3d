/- Of no more keys than there is room nobody ever goes, and whoever comes again is a hit: the law returns true for every room and every row of keys, and its arguments read as they did. -/
import Derived.Test.YtcphhlfbjkeikabRows
import Derived.Test.YtcphhlfbjkeikabAi
import Derived.WalkKit
import Derived.ProofKit
import Derived.OpenShut
import Derived.ShutString
import Derived.ChangeOld
import Derived.Below
import Derived.Carry
import Derived.SizedLaws
namespace Go.Proofs.Ytcphhlfbjkeikab.tinylfuFits
open Go.ChangeShapes Go.WideShapes Go.ChangeAt Go.RowKit
open Go.ChangeMaps (open_string shut_string)
set_option linter.unusedVariables false

theorem own : ownKnob Try.prog.godebug = none := by kernel_rfl
theorem laidOut : laidOutB Try.prog = true := by kernel_rfl
theorem has_row {w : World} {ad : Option Addr} {cap : Nat} {zs : List ByteArray} (h : RowIn Value.string w ad zs) (hm : zs.length ≤ 1000) (key : ByteArray) :
    Calls Try.prog 20 #[.slice ad zs.length cap, .string key] w fun e w' => e = .returned (.bool (inb key zs)) ∧ w' = w := lhas_any h (by unfold maxLen; omega) key
/-- what an Access does where there is room -/
theorem fits (f : ByteArray → Nat) {s : Stt} {zs : List ByteArray} {z : ByteArray} (hok : A.Ok s) (hz : ∀ k, A.cnt k zs = A.cnt k (A.keys s)) (h : inb z zs = true ∨ zs.length < s.c) :
    (A.access f s z).1 = inb z zs ∧ (A.access f s z).2.1 = [] ∧ A.Ok (A.access f s z).2.2 ∧ (A.access f s z).2.2.c = s.c ∧ (∀ k, A.cnt k (if inb z zs then zs else zs ++ [z]) = A.cnt k (A.keys (A.access f s z).2.2)) := by
  have hl : zs.length = (A.keys s).length := A.length_of_cnt hz
  have hmem : z ∈ zs ↔ z ∈ A.keys s := by rw [← A.cnt_pos, ← A.cnt_pos, hz]
  by_cases hin : z ∈ A.keys s
  · obtain ⟨h1, h2, h3, h4, h5, h6⟩ := A.acc_hit (f := f) hok hin
    rw [inb_yes (hmem.2 hin)]
    exact ⟨h1, h2, h3, h4, fun k => by simp only [if_true]; rw [hz, h5]⟩
  · obtain ⟨h1, hM⟩ := A.acc_miss (f := f) hok hin
    have hno := inb_no (fun h => hin (hmem.1 h))
    rw [hno] at h ⊢
    have hlt : zs.length < s.c := by rcases h with h | h; cases h; exact h
    rcases hM.went with ⟨h2, _, h3, h4⟩ | ⟨g, _, h4, _⟩
    · exact ⟨h1, h2, hM.ok, hM.cs, fun k => by simp only [Bool.false_eq_true, if_false]; rw [A.cnt_snoc, hz, h3]⟩
    · omega

set_option maxRecDepth 20000 in
set_option maxHeartbeats 1500000 in
theorem walk (w : World) (a0 : Int) (w0 : (Lit.int .i64 a0).wf = true) (a1 : Option Addr) (len1 cap1 : Nat) (z1 : List ByteArray) (e1 : z1.length = len1) (m1 : len1 ≤ maxLen) (r1 : RowIn Value.string w a1 z1) (x1 : ∀ z ∈ z1, z.size ≤ 140737488351232) :
    Calls Try.prog 4 #[.int .i64 a0, .slice a1 len1 cap1] w fun e w' => e = .returned (.bool true) ∧ Below w.heap.size w w' := by
  subst e1
  obtain ⟨b0, b1⟩ := bounds_i64 w0
  have hlg := long_any (cap := cap1) r1 m1 x1
  have HR : Hid (RowIn Value.string w a1 z1) := r1
  clear r1 x1
  by_cases hr1 : a0 < 1
  · go_enter Try.func4, Try.ntmps4
    go_wp2_with fail
    go_ret
    exact ⟨rfl, Below.refl _ _⟩
  by_cases hr2 : 100 < a0
  · go_enter Try.func4, Try.ntmps4
    go_wp2_with fail
    go_ret
    exact ⟨rfl, Below.refl _ _⟩
  cases hl : lng z1 with
  | true =>
    rw [hl] at hlg
    go_enter Try.func4, Try.ntmps4
    go_wp2_with (go_at_call 18; refine Calls.mono hlg ?_; clear hlg; rintro ee w1 ⟨rfl, rfl⟩)
    go_ret
    exact ⟨rfl, Below.refl _ _⟩
  | false =>
    rw [hl] at hlg
    obtain ⟨hz1, hz2⟩ := lng_no hl
    have HZ : Hid (∀ z ∈ z1, z.size ≤ 40) := hz2
    have hnew := new_any w (fun k => w.heap.size ≤ k) (fun _ h => h) a0
    have hheld : ((heldC a0 : Nat) : Int) = a0 := by unfold heldC; omega
    clear hl hz2
    go_enter Try.func4, Try.ntmps4
    go_wp2_with (first
      | (go_at_call 18; refine Calls.mono hlg ?_; clear hlg; rintro ee w1 ⟨rfl, rfl⟩)
      | (go_at_call 19; refine Calls.mono hnew ?_; clear hnew; rintro ee w2 ⟨e, rfl, h2, hk2⟩; have H2 : Hid (AE e 0 (A.start (heldC a0)) (fun k => w1.heap.size ≤ k) w2) := h2; have HB2 : Hid (Below w1.heap.size w1 w2) := (hk2.below (Nat.le_refl _) (fun _ h => h)); clear h2 hk2))
    have HH : Hid (((heldC a0 : Nat) : Int) = a0) := hheld
    have hc100 : heldC a0 ≤ 100 := by omega
    obtain ⟨c, hc⟩ : ∃ c, c = heldC a0 := ⟨_, rfl⟩
    have hca : a0 = (c : Nat) := by omega
    have HS0 : Hid (A.Ok (A.start c : Stt)) := by
      show A.Ok (A.start c : Stt)
      rw [hc]
      exact A.start_ok (heldC_in a0).1 (heldC_in a0).2
    rw [← hc] at H2 hc100
    clear hc hheld HH
    subst hca
    go_loopw [6, 7] (fun iv i wr => ∃ (k : Nat) (s : Stt) (ad : Option Addr) (cp : Nat) (zs : List ByteArray), k ≤ z1.length ∧ i = .int .i64 k ∧ iv = .slice ad zs.length cp ∧ A.Ok s ∧ s.c = c ∧ (∀ y, A.cnt y zs = A.cnt y (A.keys s)) ∧ zs.length ≤ c ∧ Beside (AE e (2 * k) s) ad cp zs (fun j => w1.heap.size ≤ j) wr ∧ Below w1.heap.size w1 wr) (fun _ i _ => z1.length - (intOf i).toNat)
    case atStart => exact ⟨0, A.start c, none, 0, [], Nat.zero_le _, rfl, rfl, HS0.out, rfl, fun y => rfl, Nat.zero_le _, H2.out.beside, HB2.out⟩
    case round =>
      obtain ⟨k, s, ad, cp, zs, hk, rfl, rfl, hok, hsc, hcnt, hzl, hA, hB⟩ := hrel
      have HB : Hid (Below w1.heap.size w1 wr) := hB
      have HA : Hid (Beside (AE e (2 * k) s) ad cp zs (fun j => w1.heap.size ≤ j) wr) := hA
      have HC : Hid (∀ y, A.cnt y zs = A.cnt y (A.keys s)) := hcnt
      have HOk : Hid (A.Ok s) := hok
      have HSc : Hid (s.c = c) := hsc
      rcases Nat.lt_or_ge k z1.length with hlt | hge
      · obtain ⟨z, hz⟩ : ∃ z, z1[k]? = some z := ⟨_, List.getElem?_eq_getElem hlt⟩
        obtain ⟨gg, off, rfl, cz⟩ := (HR.out.later hB).at hz
        have hzs := HZ.out z (List.mem_of_getElem? hz)
        have HCz : Hid (w1.cell? ⟨gg, off + k, none⟩ = some (.string z)) := by
          obtain ⟨g2, o2, e2, c2⟩ := HR.out.at hz
          cases e2
          exact c2
        have hhas := has_row (cap := cp) hA.row (by omega) z
        clear hA hB hz hcnt hok hsc
        cases hin : inb z zs with
        | true =>
          rw [hin] at hhas
          obtain ⟨f, hacc⟩ := HA.out.acc HOk.out (fun j hj => Nat.le_trans HB.out.size hj) (by omega) z (by omega)
          obtain ⟨f1, f2, f3, f4, f5⟩ := fits f HOk.out HC.out (z := z) (.inl hin)
          rw [hin] at f1 f5
          simp only [if_true] at f5
          have HX : Hid (A.Ok (A.access f s z).2.2 ∧ (A.access f s z).2.2.c = s.c ∧ ∀ y, A.cnt y zs = A.cnt y (A.keys (A.access f s z).2.2)) := ⟨f3, f4, f5⟩
          have hlen : (A.keys (A.access f s z).2.2).length = zs.length := (A.length_of_cnt f5).symm
          rw [f1, f2] at hacc
          clear f1 f2 f3 f4 f5 hin
          generalize (A.access f s z).2.2 = s' at *
          go_wp2_with (first
            | (go_at_call 20; refine Calls.mono hhas ?_; clear hhas; rintro ee w3 ⟨rfl, rfl⟩)
            | (go_at_call 7; refine Calls.mono hacc ?_; clear hacc; rintro ee w4 ⟨ad4, cap4, rfl, -, h4, hk4⟩; have H4 : Hid (Beside (AE e (2 * k + 2) s') ad cp zs (fun j => w1.heap.size ≤ j) w4) := h4; have HB4 : Hid (Below w1.heap.size w1 w4) := (((Keeps.of_below (D := fun j => w1.heap.size ≤ j) HB.out).trans hk4).below (Nat.le_refl _) (fun _ h => h)); have hln := h4.len (by omega); rw [hlen] at hln; clear h4 hk4)
            | (go_at_call 15; refine Calls.mono hln ?_; clear hln; rintro ee w5 ⟨rfl, h5, hb5⟩; have H5 : Hid (Beside (AE e (2 * k + 2) s') ad cp zs (fun j => w1.heap.size ≤ j) w5) := h5; have HB5 : Hid (Below w1.heap.size w1 w5) := (below_trans' HB4.out hb5); clear h5 hb5))
          go_roundw
          case rel => exact ⟨k + 1, s', ad, cp, zs, hlt, by go_num, rfl, HX.out.1, HX.out.2.1.trans HSc.out, HX.out.2.2, hzl, H5.out, HB5.out⟩
          case measure => simp [intOf]; omega
        | false =>
          rw [hin] at hhas
          rcases Nat.lt_or_ge zs.length c with hroom | hfull
          · obtain ⟨D1, g1, ⟨z0, gA⟩, gR⟩ := HA.out
            obtain ⟨f, hf⟩ : ∃ f, f = fq (nt z0 z) := ⟨_, rfl⟩
            have HF : Hid (f = fq (nt z0 z)) := hf
            obtain ⟨f1, f2, f3, f4, f5⟩ := fits f HOk.out HC.out (z := z) (.inr (by have := HSc.out; omega))
            rw [hin] at f1 f5
            simp only [Bool.false_eq_true, if_false] at f5
            have HG1 : Hid (∀ g, D1 g → (w1.heap.size ≤ g) ∧ g < wr.heap.size) := g1
            have HGA : Hid (AZ e z0 s D1 wr) := gA
            have HGR : Hid (Row (fun g => (w1.heap.size ≤ g) ∧ ¬ D1 g) wr ad cp zs) := gR
            have HX : Hid (A.Ok (A.access f s z).2.2 ∧ (A.access f s z).2.2.c = s.c ∧ ∀ y, A.cnt y (zs ++ [z]) = A.cnt y (A.keys (A.access f s z).2.2)) := ⟨f3, f4, f5⟩
            have hlen : (A.keys (A.access f s z).2.2).length = (zs ++ [z]).length := (A.length_of_cnt f5).symm
            rw [List.length_append, List.length_cons, List.length_nil] at hlen
            have HAcc : Hid (∀ (W : World) (ad' : Option Addr) (cp' : Nat), Beside (AZ e z0 s) ad' cp' (zs ++ [z]) (fun j => w1.heap.size ≤ j) W → w1.heap.size ≤ W.heap.size → Calls Try.prog 7 #[.pointer (some ⟨e, 0, none⟩), .string z] W fun ee w' => ∃ ad3 cap3, ee = .returned (.tuple #[.bool false, .slice ad3 0 cap3]) ∧ Beside (AE e (2 * k + 2) (A.access f s z).2.2) ad' cp' (zs ++ [z]) (fun j => w1.heap.size ≤ j) w' ∧ Keeps (fun j => w1.heap.size ≤ j) W w') := by
              intro W ad' cp' hb hs
              have := Beside.accZ (b := 2 * k) hb HOk.out (fun j hj => Nat.le_trans hs hj) z (by omega)
              rw [← HF.out] at this
              rw [f1, f2] at this
              refine this.mono ?_
              rintro ee w' ⟨ad3, cap3, rfl, _, h1, h2⟩
              exact ⟨ad3, cap3, rfl, h1, h2⟩
            clear f1 f2 f3 f4 f5 hin g1 gA gR hf
            generalize (A.access f s z).2.2 = s' at *
            go_wp2_with (first
              | (go_at_call 20; refine Calls.mono hhas ?_; clear hhas; rintro ee w3 ⟨rfl, rfl⟩)
              | (at_builtin; go_must (refine wpList_append_row (ks := [z]) rfl _ _ rfl rfl (HGR.out.below ((Below.refl _ _).alloc (Nat.le_refl _) _)) rfl (src_one _ z) (by simp; omega) ?_); intro a5 n5 w5 hr5 hk5; have h5 := Beside.growZ (fun g hg => ⟨(HG1.out g hg).1, Nat.lt_of_lt_of_le (HG1.out g hg).2 (by simp)⟩) (HGA.out.below ((Below.refl _ _).alloc (Nat.le_refl _) _)) (fun j hj => Nat.le_trans HB.out.size (Nat.le_trans (by simp) hj)) hr5 hk5; have HB5 : Hid (Below w1.heap.size w1 w5) := ((((Keeps.of_below (D := fun j => w1.heap.size ≤ j) HB.out).alloc _).trans h5.2).below (Nat.le_refl _) (fun _ h => h)); have hacc := HAcc.out _ _ _ h5.1 HB5.out.size; have cz5 : w5.cell? ⟨gg, off + k, none⟩ = some (.string z) := (cell_later HB5.out HCz.out); clear hr5 hk5 h5)
              | (go_at_call 7; refine Calls.mono hacc ?_; clear hacc; rintro ee w4 ⟨ad4, cap4, rfl, h4, hk4⟩; have H4 : Hid (Beside (AE e (2 * k + 2) s') a5 n5 (zs ++ [z]) (fun j => w1.heap.size ≤ j) w4) := h4; have HB4 : Hid (Below w1.heap.size w1 w4) := (((Keeps.of_below (D := fun j => w1.heap.size ≤ j) HB5.out).trans hk4).below (Nat.le_refl _) (fun _ h => h)); have hln := h4.len (by omega); rw [hlen] at hln; clear h4 hk4)
              | (go_at_call 15; refine Calls.mono hln ?_; clear hln; rintro ee w6 ⟨rfl, h6, hb6⟩; have H6 : Hid (Beside (AE e (2 * k + 2) s') a5 n5 (zs ++ [z]) (fun j => w1.heap.size ≤ j) w6) := h6; have HB6 : Hid (Below w1.heap.size w1 w6) := (below_trans' HB4.out hb6); clear h6 hb6))
            go_roundw
            case rel => exact ⟨k + 1, s', a5, n5, zs ++ [z], hlt, by go_num, by simp, HX.out.1, HX.out.2.1.trans HSc.out, HX.out.2.2, by simp; omega, H6.out, HB6.out⟩
            case measure => simp [intOf]; omega
          · have hzc : c = zs.length := by omega
            clear hin HSc HS0 H2
            subst hzc
            go_wp2_with (first
              | (go_at_call 20; refine Calls.mono hhas ?_; clear hhas; rintro ee w3 ⟨rfl, rfl⟩)
              | (go_at_call 17; refine (known_any _).mono ?_; rintro ee w7 ⟨rfl, hb7⟩; have HE7 : Hid (Below w1.heap.size w1 w7) := (below_trans' HB.out hb7); clear hb7))
            go_ret
            exact ⟨rfl, HE7.out⟩
      · have hk' : k = z1.length := by omega
        subst hk'
        clear hA hB hcnt hok hsc
        go_wp2_with (go_at_call 17; refine (known_any _).mono ?_; rintro ee w8 ⟨rfl, hb8⟩; have HE8 : Hid (Below w1.heap.size w1 w8) := (below_trans' HB.out hb8); clear hb8)
        go_ret
        exact ⟨rfl, HE8.out⟩

set_option maxRecDepth 100000 in
theorem lifted (os : Os) (started : os.Started) (H : Type) (enc : TypeId × Value → H) :
    ReturnsInHanded {} Try.checked os 4 .any (Rows.tinylfuFitsSpec.pre6 enc Try.prog Try.f4 Rows.tinylfuFitsRow.domain false) (Rows.tinylfuFitsSpec.post enc Try.prog Try.f4 false true false false) := by
  refine returnsInHanded_of_change_sized (C := Try.checked) own started (by kernel_rfl) Try.func4
    (ChangeSpec.witness6 (enc := enc) (C := Try.checked) false ⟨#[], #[.int .i64 0, .slice none 0 0], []⟩ 8 (by kernel_rfl) (by kernel_rfl) (by kernel_rfl) (by kernel_rfl)) ?_
  intro W base args ds gs before hval0 hW hcnd hsz0 _
  have hval : ∀ (j : Nat) t v, Try.f4.params[j]? = some t → args[j]? = some v → Value.okWide Try.prog W .any base t v := hval0
  have hsz : (DataW.weightsEach Try.prog (Try.f4.params.toList ++ Rows.tinylfuFitsSpec.plain.varTypes Try.prog) (ds ++ gs)).all (· ≤ reachBytes) = true := hsz0
  have hW' := hW
  obtain ⟨p, q, hA0, hV, rfl, hfz, hnd⟩ := hW
  have hA : DataW.TrodAll enc Try.prog W 0 (fun _ => true) true Try.f4.params.toList args.toList ds p := hA0
  rw [Try.params4] at hA hval hsz
  obtain ⟨v0, vs0, d0, ds0, p0, q0, hargs, rfl, rfl, h0, s0⟩ := trodAll_cons hA
  obtain ⟨v1, vs1, d1, ds1, p1, q1, rfl, rfl, rfl, h1, s1⟩ := trodAll_cons s0
  obtain ⟨rfl, rfl, rfl⟩ := trodAll_nil s1
  obtain rfl : args = #[v0, v1] := by cases args; simp_all
  obtain ⟨rfl, rfl⟩ := trodVars_none hV
  obtain ⟨a0, rfl, rfl, rfl, w0⟩ := open_int Try.underlying3 (hval 0 3 v0 rfl rfl) h0
  obtain ⟨a1, len1, cap1, rfl⟩ := okWide_slice Try.underlying23 (hval 1 23 v1 rfl rfl)
  have k1 := h1
  have lt1 : ∀ x ∈ p1, x.block < W.heap.size := by obtain ⟨m, hm⟩ := k1; exact DataW.trod_lt m _ _ _ hm
  obtain ⟨z1, e1, m1, r1, x1⟩ := open_texts h1
  replace x1 : ∀ z ∈ z1, z.size ≤ 140737488351232 := fun z hz => reach_first (reach_tail hsz) (x1 z hz)
  clear hA0 hval0 hsz0
  refine (walk W a0 w0 a1 len1 cap1 z1 e1 m1 r1 x1).mono fun e W' ⟨he, bel⟩ => ?_
  subst he
  exact ⟨_, rfl, _, _, _, [], _, [], hW', trodAll_mk1 (shut_bool Try.underlying4 _), (trodAll_cons_mk (shut_int Try.underlying3 w0) (trodAll_cons_mk (Below.trod laidOut (by kernel_rfl) (of_decide_eq_true (by kernel_rfl)) k1 bel lt1) trodAll_mk0)), rfl, bel.frame _, fun h => by cases h⟩

theorem over : Rows.tinylfuFitsRow.holds Try.pinned (OpenSpec.ofChange Rows.tinylfuFitsSpec) :=
  OpenClaim.holds_of_wide 4 Try.f4 rfl rfl rfl rfl rfl rfl rfl ⟨rfl, rfl, rfl, rfl, rfl⟩ rfl rfl rfl rfl rfl (by kernel_rfl) Try.func4 (by kernel_rfl)
    (of_decide_eq_true (by kernel_rfl)) (by unfold Func.isWrapper; first | (rw [if_pos (by decide +kernel)]; kernel_rfl) | (rw [if_neg (by decide +kernel)]; exact ⟨rfl, rfl⟩))
    (fun os started H enc _ => lifted os started H enc)
end Go.Proofs.Ytcphhlfbjkeikab.tinylfuFits
namespace Go.Proofs.Ytcphhlfbjkeikab
/-- the given statement -/
theorem tinylfuFits_holds : Rows.TinylfuFitsSaid := tinylfuFits.over
#print axioms tinylfuFits_holds
end Go.Proofs.Ytcphhlfbjkeikab
