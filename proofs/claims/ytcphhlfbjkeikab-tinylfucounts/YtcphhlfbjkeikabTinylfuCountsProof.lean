/- As many went as came without a hit, less those that are resident: the law returns true for every room and every row of keys, and its arguments read as they did. -/
import Derived.Test.YtcphhlfbjkeikabRows
import Derived.Test.YtcphhlfbjkeikabAg
import Derived.WalkKit
import Derived.ProofKit
import Derived.OpenShut
import Derived.ShutString
import Derived.ChangeOld
import Derived.Below
import Derived.Carry
import Derived.SizedLaws
namespace Go.Proofs.Ytcphhlfbjkeikab.tinylfuCounts
open Go.ChangeShapes Go.WideShapes Go.ChangeAt Go.RowKit
open Go.ChangeMaps (open_string shut_string)
set_option linter.unusedVariables false

theorem own : ownKnob Try.prog.godebug = none := by kernel_rfl
theorem laidOut : laidOutB Try.prog = true := by kernel_rfl
/-- what Access tells, in numbers -/
theorem acc_tells {D : Nat → Prop} {w : World} {e b : Nat} {s : Stt} (H : AE e b s D w) (hok : A.Ok s) (hD : ∀ k, w.heap.size ≤ k → D k) (hb : b ≤ 600000) (key : ByteArray) (hk : key.size ≤ 1000) :
    ∃ (hit : Bool) (n : Nat) (s' : Stt), A.Ok s' ∧ (Calls Try.prog 7 #[.pointer (some ⟨e, 0, none⟩), .string key] w fun ee w' => ∃ ad cap, ee = .returned (.tuple #[.bool hit, .slice ad n cap]) ∧ AE e (b + 2) s' D w' ∧ Keeps D w w') ∧
      ((hit = true ∧ n = 0 ∧ (A.keys s').length = (A.keys s).length) ∨ (hit = false ∧ n = 0 ∧ (A.keys s').length = (A.keys s).length + 1) ∨ (hit = false ∧ n = 1 ∧ (A.keys s').length = (A.keys s).length)) := by
  obtain ⟨f, hacc⟩ := accE_any H hok hD hb key hk
  refine ⟨(A.access f s key).1, (A.access f s key).2.1.length, (A.access f s key).2.2, (A.acc_any hok key).1, hacc.mono ?_, ?_⟩
  · rintro ee w' ⟨ad, cap, rfl, ⟨D1, h1, h2, _⟩, hk2⟩
    exact ⟨ad, cap, rfl, h2.wide (fun k _ hk => (h1 k hk).1), hk2⟩
  · by_cases hin : key ∈ A.keys s
    · have h := A.acc_hit (f := f) hok hin
      refine .inl ⟨h.1, by rw [h.2.1]; rfl, ?_⟩
      exact h.2.2.2.2.2
    · obtain ⟨h1, hM⟩ := A.acc_miss (f := f) hok hin
      rcases hM.went with ⟨h2, _, _, h3⟩ | ⟨g, h2, h4, _, _, h5⟩
      · exact .inr (.inl ⟨h1, by rw [h2]; rfl, h3⟩)
      · exact .inr (.inr ⟨h1, by rw [h2]; rfl, by rw [h5, h4]⟩)

set_option maxRecDepth 20000 in
set_option maxHeartbeats 1000000 in
theorem walk (w : World) (a0 : Int) (w0 : (Lit.int .i64 a0).wf = true) (a1 : Option Addr) (len1 cap1 : Nat) (z1 : List ByteArray) (e1 : z1.length = len1) (m1 : len1 ≤ maxLen) (r1 : RowIn Value.string w a1 z1) (x1 : ∀ z ∈ z1, z.size ≤ 140737488351232) :
    Calls Try.prog 6 #[.int .i64 a0, .slice a1 len1 cap1] w fun e w' => e = .returned (.bool true) ∧ Below w.heap.size w w' := by
  subst e1
  obtain ⟨b0, b1⟩ := bounds_i64 w0
  have hlg := long_any (cap := cap1) r1 m1 x1
  have HR : Hid (RowIn Value.string w a1 z1) := r1
  clear r1 x1
  cases hl : lng z1 with
  | true =>
    rw [hl] at hlg
    go_enter Try.func6, Try.ntmps6
    go_wp2_with (go_at_call 18; refine Calls.mono hlg ?_; clear hlg; rintro ee w1 ⟨rfl, rfl⟩)
    go_ret
    exact ⟨rfl, Below.refl _ _⟩
  | false =>
    rw [hl] at hlg
    obtain ⟨hz1, hz2⟩ := lng_no hl
    have HZ : Hid (∀ z ∈ z1, z.size ≤ 40) := hz2
    have hnew := new_any w (fun k => w.heap.size ≤ k) (fun _ h => h) a0
    clear hl hz2
    go_enter Try.func6, Try.ntmps6
    go_wp2_with (first
      | (go_at_call 18; refine Calls.mono hlg ?_; clear hlg; rintro ee w1 ⟨rfl, rfl⟩)
      | (go_at_call 19; refine Calls.mono hnew ?_; clear hnew; rintro ee w2 ⟨e, rfl, h2, hk2⟩; have H2 : Hid (AE e 0 (A.start (heldC a0)) (fun k => w1.heap.size ≤ k) w2) := h2; have HB2 : Hid (Below w1.heap.size w1 w2) := (hk2.below (Nat.le_refl _) (fun _ h => h)); clear h2 hk2))
    go_loopw [6, 7, 8] (fun cm wn i wr => ∃ (k c g : Nat) (s : Stt), k ≤ z1.length ∧ i = .int .i64 k ∧ cm = .int .i64 c ∧ wn = .int .i64 g ∧ A.Ok s ∧ c = g + (A.keys s).length ∧ (c ≤ k ∧ g ≤ k) ∧ AE e (2 * k) s (fun j => w1.heap.size ≤ j) wr ∧ Below w1.heap.size w1 wr) (fun _ _ i _ => z1.length - (intOf i).toNat)
    case atStart => exact ⟨0, 0, 0, A.start (heldC a0), Nat.zero_le _, rfl, rfl, rfl, A.start_ok (heldC_in a0).1 (heldC_in a0).2, rfl, ⟨by omega, by omega⟩, H2.out, HB2.out⟩
    case round =>
      obtain ⟨k, c, g, s, hk, rfl, rfl, rfl, hok, hsum, hcap, hA, hB⟩ := hrel
      have HB : Hid (Below w1.heap.size w1 wr) := hB
      rcases Nat.lt_or_ge k z1.length with hlt | hge
      · obtain ⟨z, hz⟩ : ∃ z, z1[k]? = some z := ⟨_, List.getElem?_eq_getElem hlt⟩
        obtain ⟨gg, off, rfl, cz⟩ := (HR.out.later hB).at hz
        have hzs := HZ.out z (List.mem_of_getElem? hz)
        obtain ⟨hit, n, s', hok', hacc, hcs⟩ := acc_tells hA hok (fun j hj => Nat.le_trans hB.size hj) (by omega) z (by omega)
        clear hA hB hz
        rcases hcs with ⟨rfl, rfl, hc3⟩ | ⟨rfl, rfl, hc3⟩ | ⟨rfl, rfl, hc3⟩
        · have HS : Hid (c = g + (A.keys s').length ∧ c ≤ k + 1) := ⟨by omega, by omega⟩
          have hcmp : (c : Int) - (g : Int) = ((A.keys s').length : Nat) := by omega
          clear hc3 hsum
          go_wp2_with (first
            | (go_at_call 7; refine Calls.mono hacc ?_; clear hacc; rintro ee w3 ⟨ad3, cap3, rfl, h3, hk3⟩; have H3 : Hid (AE e (2 * k + 2) s' (fun j => w1.heap.size ≤ j) w3) := h3; have HB3 : Hid (Below w1.heap.size w1 w3) := (((Keeps.of_below (D := fun j => w1.heap.size ≤ j) HB.out).trans hk3).below (Nat.le_refl _) (fun _ h => h)); have hlen := keys_any h3 (by omega); clear h3 hk3)
            | (go_at_call 15; refine Calls.mono hlen ?_; clear hlen; rintro ee w4 ⟨rfl, hb4⟩; have H4 : Hid (AE e (2 * k + 2) s' (fun j => w1.heap.size ≤ j) w4) := (AE.below H3.out hb4); have HB4 : Hid (Below w1.heap.size w1 w4) := (below_trans' HB3.out hb4); clear hb4))
          go_roundw
          case rel => exact ⟨k + 1, c, g, s', hlt, by go_num, by go_num, by go_num, hok', HS.out.1, ⟨by have := HS.out; omega, by omega⟩, H4.out, HB4.out⟩
          case measure => simp [intOf]; omega
        · have HS : Hid (c + 1 = g + (A.keys s').length ∧ c + 1 ≤ k + 1) := ⟨by omega, by omega⟩
          have hcmp : (c : Int) + 1 - (g : Int) = ((A.keys s').length : Nat) := by omega
          clear hc3 hsum
          go_wp2_with (first
            | (go_at_call 7; refine Calls.mono hacc ?_; clear hacc; rintro ee w3 ⟨ad3, cap3, rfl, h3, hk3⟩; have H3 : Hid (AE e (2 * k + 2) s' (fun j => w1.heap.size ≤ j) w3) := h3; have HB3 : Hid (Below w1.heap.size w1 w3) := (((Keeps.of_below (D := fun j => w1.heap.size ≤ j) HB.out).trans hk3).below (Nat.le_refl _) (fun _ h => h)); have hlen := keys_any h3 (by omega); clear h3 hk3)
            | (go_at_call 15; refine Calls.mono hlen ?_; clear hlen; rintro ee w4 ⟨rfl, hb4⟩; have H4 : Hid (AE e (2 * k + 2) s' (fun j => w1.heap.size ≤ j) w4) := (AE.below H3.out hb4); have HB4 : Hid (Below w1.heap.size w1 w4) := (below_trans' HB3.out hb4); clear hb4))
          go_roundw
          case rel => exact ⟨k + 1, c + 1, g, s', hlt, by go_num, by go_num, by go_num, hok', HS.out.1, ⟨by have := HS.out; omega, by omega⟩, H4.out, HB4.out⟩
          case measure => simp [intOf]; omega
        · have HS : Hid (c + 1 = g + 1 + (A.keys s').length ∧ c + 1 ≤ k + 1) := ⟨by omega, by omega⟩
          have hcmp : (c : Int) + 1 - ((g : Int) + 1) = ((A.keys s').length : Nat) := by omega
          clear hc3 hsum
          go_wp2_with (first
            | (go_at_call 7; refine Calls.mono hacc ?_; clear hacc; rintro ee w3 ⟨ad3, cap3, rfl, h3, hk3⟩; have H3 : Hid (AE e (2 * k + 2) s' (fun j => w1.heap.size ≤ j) w3) := h3; have HB3 : Hid (Below w1.heap.size w1 w3) := (((Keeps.of_below (D := fun j => w1.heap.size ≤ j) HB.out).trans hk3).below (Nat.le_refl _) (fun _ h => h)); have hlen := keys_any h3 (by omega); clear h3 hk3)
            | (go_at_call 15; refine Calls.mono hlen ?_; clear hlen; rintro ee w4 ⟨rfl, hb4⟩; have H4 : Hid (AE e (2 * k + 2) s' (fun j => w1.heap.size ≤ j) w4) := (AE.below H3.out hb4); have HB4 : Hid (Below w1.heap.size w1 w4) := (below_trans' HB3.out hb4); clear hb4))
          go_roundw
          case rel => exact ⟨k + 1, c + 1, g + 1, s', hlt, by go_num, by go_num, by go_num, hok', HS.out.1, ⟨by have := HS.out; omega, by omega⟩, H4.out, HB4.out⟩
          case measure => simp [intOf]; omega
      · have hk' : k = z1.length := by omega
        subst hk'
        clear hA hB
        go_wp2_with (go_at_call 17; refine (known_any _).mono ?_; rintro ee w5 ⟨rfl, hb5⟩; have HE5 : Hid (Below w1.heap.size w1 w5) := (below_trans' HB.out hb5); clear hb5)
        go_ret
        exact ⟨rfl, HE5.out⟩

set_option maxRecDepth 100000 in
theorem lifted (os : Os) (started : os.Started) (H : Type) (enc : TypeId × Value → H) :
    ReturnsInHanded {} Try.checked os 6 .any (Rows.tinylfuCountsSpec.pre6 enc Try.prog Try.f6 Rows.tinylfuCountsRow.domain false) (Rows.tinylfuCountsSpec.post enc Try.prog Try.f6 false true false false) := by
  refine returnsInHanded_of_change_sized (C := Try.checked) own started (by kernel_rfl) Try.func6
    (ChangeSpec.witness6 (enc := enc) (C := Try.checked) false ⟨#[], #[.int .i64 0, .slice none 0 0], []⟩ 8 (by kernel_rfl) (by kernel_rfl) (by kernel_rfl) (by kernel_rfl)) ?_
  intro W base args ds gs before hval0 hW hcnd hsz0 _
  have hval : ∀ (j : Nat) t v, Try.f6.params[j]? = some t → args[j]? = some v → Value.okWide Try.prog W .any base t v := hval0
  have hsz : (DataW.weightsEach Try.prog (Try.f6.params.toList ++ Rows.tinylfuCountsSpec.plain.varTypes Try.prog) (ds ++ gs)).all (· ≤ reachBytes) = true := hsz0
  have hW' := hW
  obtain ⟨p, q, hA0, hV, rfl, hfz, hnd⟩ := hW
  have hA : DataW.TrodAll enc Try.prog W 0 (fun _ => true) true Try.f6.params.toList args.toList ds p := hA0
  rw [Try.params6] at hA hval hsz
  obtain ⟨v0, vs0, d0, ds0, p0, q0, hargs, rfl, rfl, h0, s0⟩ := trodAll_cons hA
  obtain ⟨v1, vs1, d1, ds1, p1, q1, rfl, rfl, rfl, h1, s1⟩ := trodAll_cons s0
  obtain ⟨rfl, rfl, rfl⟩ := trodAll_nil s1
  obtain rfl : args = #[v0, v1] := by cases args; simp_all
  obtain ⟨rfl, rfl⟩ := trodVars_none hV
  obtain ⟨a0, rfl, rfl, rfl, w0⟩ := open_int Try.underlying3 (hval 0 3 v0 rfl rfl) h0
  obtain ⟨a1, len1, cap1, rfl⟩ := okWide_slice Try.underlying23 (hval 1 23 v1 rfl rfl)
  have k1 := h1
  have lt1 : ∀ x ∈ p1, x.block < W.heap.size := by obtain ⟨m, hm⟩ := k1; exact DataW.trod_lt m _ _ _ hm
  obtain ⟨z1, e1, m1, r1, x1⟩ := open_texts h1
  replace x1 : ∀ z ∈ z1, z.size ≤ 140737488351232 := fun z hz => reach_first (reach_tail hsz) (x1 z hz)
  clear hA0 hval0 hsz0
  refine (walk W a0 w0 a1 len1 cap1 z1 e1 m1 r1 x1).mono fun e W' ⟨he, bel⟩ => ?_
  subst he
  exact ⟨_, rfl, _, _, _, [], _, [], hW', trodAll_mk1 (shut_bool Try.underlying4 _), (trodAll_cons_mk (shut_int Try.underlying3 w0) (trodAll_cons_mk (Below.trod laidOut (by kernel_rfl) (of_decide_eq_true (by kernel_rfl)) k1 bel lt1) trodAll_mk0)), rfl, bel.frame _, fun h => by cases h⟩

theorem over : Rows.tinylfuCountsRow.holds Try.pinned (OpenSpec.ofChange Rows.tinylfuCountsSpec) :=
  OpenClaim.holds_of_wide 6 Try.f6 rfl rfl rfl rfl rfl rfl rfl ⟨rfl, rfl, rfl, rfl, rfl⟩ rfl rfl rfl rfl rfl (by kernel_rfl) Try.func6 (by kernel_rfl)
    (of_decide_eq_true (by kernel_rfl)) (by unfold Func.isWrapper; first | (rw [if_pos (by decide +kernel)]; kernel_rfl) | (rw [if_neg (by decide +kernel)]; exact ⟨rfl, rfl⟩))
    (fun os started H enc _ => lifted os started H enc)
end Go.Proofs.Ytcphhlfbjkeikab.tinylfuCounts
namespace Go.Proofs.Ytcphhlfbjkeikab
/-- the given statement -/
theorem tinylfuCounts_holds : Rows.TinylfuCountsSaid := tinylfuCounts.over
#print axioms tinylfuCounts_holds
end Go.Proofs.Ytcphhlfbjkeikab
