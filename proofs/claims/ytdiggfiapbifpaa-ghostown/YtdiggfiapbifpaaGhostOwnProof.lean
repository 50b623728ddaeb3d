/- The keys that are told are new memory, and who was taken is not there: the law returns true for every room, row of keys and key, and its arguments read as they did. -/
import Derived.Test.YtdiggfiapbifpaaRows
import Derived.Test.YtdiggfiapbifpaaEq
import Derived.Test.YtdiggfiapbifpaaRw
import Derived.WalkKit
import Derived.ProofKit
import Derived.OpenShut
import Derived.ShutString
import Derived.ChangeOld
import Derived.Below
import Derived.Carry
import Derived.SizedLaws
namespace Go.Proofs.Ytdiggfiapbifpaa.ghostOwn
open Go.ChangeShapes Go.WideShapes Go.ChangeAt Go.RowKit
open Go.ChangeMaps (open_string shut_string)
set_option linter.unusedVariables false

theorem own : ownKnob Try.prog.godebug = none := by kernel_rfl
theorem laidOut : laidOutB Try.prog = true := by kernel_rfl

/-- two rows of nobody's, n1 tells them apart: cells to be spoilt, and texts that stay -/
structure Pair (n0 n1 : Nat) (w : World) (a1 : Option Addr) (m1 : Nat) (a2 : Option Addr) (c2 : Nat) (Q : List ByteArray) : Prop where
  r1 : m1 ≠ 0 → ∃ g cur, a1 = some ⟨g, 0, none⟩ ∧ n0 ≤ g ∧ g < n1 ∧ w.heap[g]? = some (.cells cur 9 (0, 0)) ∧ m1 ≤ cur.size
  r2 : Row (fun a => n1 ≤ a) w a2 c2 Q
theorem Pair.store {n0 n1 m1 c2 j : Nat} {w : World} {a1 a2 : Option Addr} {Q : List ByteArray} (h : Pair n0 n1 w a1 m1 a2 c2 Q) (hj : j < m1) (v : ByteArray) :
    ∃ g u, a1 = some ⟨g, 0, none⟩ ∧ n0 ≤ g ∧ g < w.heap.size ∧ w.cell? ⟨g, j, none⟩ = some u ∧ w.frozen? ⟨g, j, none⟩ = false ∧ Pair n0 n1 (w.setCell ⟨g, j, none⟩ (.string v)) a1 m1 a2 c2 Q := by
  obtain ⟨g, cur, rfl, h1, h2, h3, h4⟩ := h.r1 (by omega)
  refine ⟨g, cur[j]'(by omega), rfl, h1, lt_of_block h3, ?_, frozen_of_block h3, ⟨fun _ => ⟨g, _, rfl, h1, h2, block_setCell h3, by simpa using h4⟩, ?_⟩⟩
  · rw [cell_of_block h3]
    exact Array.getElem?_eq_getElem _
  · exact h.r2.kept (Keeps.setCell (D := fun k => k = g) (Keeps.refl _ w) rfl _) (fun k h5 e => by subst e; omega)
theorem Pair.of {n : Nat} {w w' : World} {a1 a2 : Option Addr} {c1 c2 : Nat} {Q : List ByteArray} (h : Own n w a1 c1 Q) (hb : Below w.heap.size w w') (hr : Row (fun a => w.heap.size ≤ a) w' a2 c2 Q) : Pair n w.heap.size w' a1 Q.length a2 c2 Q := by
  refine ⟨fun h0 => ?_, hr⟩
  obtain ⟨g, cur, rfl, h1, h2, h3⟩ := Ls.ownsRow_block h (by omega)
  refine ⟨g, cur, rfl, h1, lt_of_block h2, (hb.block g (lt_of_block h2)).trans h2, ?_⟩
  have hl : Q.length - 1 < Q.length := by omega
  have := h3 _ _ (txs_at (List.getElem?_eq_getElem hl))
  rw [cell_of_block h2] at this
  obtain ⟨h5, -⟩ := Array.getElem?_eq_some_iff.1 this
  omega

set_option maxRecDepth 20000 in
set_option maxHeartbeats 2000000 in
theorem walk (w : World) (a0 : Int) (w0 : (Lit.int .i64 a0).wf = true) (a1 : Option Addr) (len1 cap1 : Nat) (z1 : List ByteArray) (e1 : z1.length = len1) (m1 : len1 ≤ maxLen) (r1 : RowIn Value.string w a1 z1) (x1 : ∀ z ∈ z1, z.size ≤ 140737488351232) (a2 : ByteArray) (w2 : a2.size ≤ maxLen) :
    Calls Try.prog 6 #[.int .i64 a0, .slice a1 len1 cap1, .string a2] w fun e w' => e = .returned (.bool true) ∧ Below w.heap.size w w' := by
  subst e1
  obtain ⟨b0, b1⟩ := bounds_i64 w0
  have HR : Hid (RowIn Value.string w a1 z1) := r1
  have HX : Hid (∀ z ∈ z1, z.size ≤ 140737488351232) := x1
  have hm1 : z1.length ≤ 9223372036854775807 := by unfold maxLen at m1; omega
  have hsz : a2.size ≤ 9223372036854775807 := by unfold maxLen at w2; omega
  have hnew := new_any w a0
  obtain ⟨hC1, hC2⟩ := G.heldC_in a0
  generalize G.heldC a0 = c at *
  clear r1 x1 m1 w2
  by_cases hl : z1.length ≤ 200
  · by_cases hk : a2.size ≤ 40
    · go_enter Try.func6, Try.ntmps6
      go_wp2_with (go_at_call 8; refine Calls.mono hnew ?_; clear hnew; rintro ee w1 ⟨e, rfl, h1, hk1⟩; have H1 : Hid (GH e c 0 [] (fun k => w.heap.size ≤ k) w1) := h1; have HB1 : Hid (Below w.heap.size w w1) := hk1.below (Nat.le_refl _) (fun _ h => h); clear h1 hk1)
      go_loopw [8] (fun i wr => ∃ (k : Nat) (Q : List ByteArray), k ≤ z1.length ∧ i = .int .i64 k ∧ G.Ok c Q ∧ GH e c k Q (fun j => w.heap.size ≤ j) wr ∧ Below w.heap.size w wr) (fun i _ => z1.length - (intOf i).toNat)
      case atStart => exact ⟨0, [], Nat.zero_le _, rfl, G.Ok.empty hC1 hC2, H1.out, HB1.out⟩
      case round =>
        obtain ⟨k, Q, hk1, rfl, hok, hA, hB⟩ := hrel
        rename World => W0
        have HB : Hid (Below w.heap.size w W0) := hB
        have HA : Hid (GH e c k Q (fun j => w.heap.size ≤ j) W0) := hA
        have HOk : Hid (G.Ok c Q) := hok
        rcases Nat.lt_or_ge k z1.length with hlt | hge
        · obtain ⟨z, hz⟩ : ∃ z, z1[k]? = some z := ⟨_, List.getElem?_eq_getElem hlt⟩
          obtain ⟨gg, off, rfl, cz⟩ := (HR.out.later hB).at hz
          have hzx := HX.out z (List.mem_of_getElem? hz)
          clear hz H1 HB1
          by_cases hzs : z.size ≤ 40
          · have hadd := add_any hA hok (fun j hj => Nat.le_trans hB.size hj) (by omega) z (by omega)
            clear hA hB hok
            have HN : Hid (G.Ok c (G.add c Q z).2) := HOk.out.add z
            generalize G.add c Q z = o at *
            obtain ⟨o1, o2⟩ := o
            go_wp2_with (go_at_call 10; refine Calls.mono hadd ?_; clear hadd; rintro ee w4 ⟨rfl, h4, hk4⟩; have H4 : Hid (GH e c (k + 1) o2 (fun j => w.heap.size ≤ j) w4) := h4; have HB4 : Hid (Below w.heap.size w w4) := ((Keeps.of_below (D := fun j => w.heap.size ≤ j) HB.out).trans hk4).below (Nat.le_refl _) (fun _ h => h); clear h4 hk4; simp only [told])
            go_roundw
            case rel => exact ⟨k + 1, o2, hlt, by go_num, HN.out, H4.out, HB4.out⟩
            case measure => simp [intOf]; omega
          · clear hA hB hok
            go_wp2_with fail
            go_ret
            exact ⟨rfl, HB.out⟩
        · have hkeys := keys_any hA hok (by omega)
          have hQ : Q.length ≤ 1024 := by have := hok.2.1; omega
          clear hA hB hok H1 HB1
          go_wp2_with (first
            | (go_at_call 18; refine Calls.mono hkeys ?_; clear hkeys; rintro ee w5 ⟨ad5, cp5, rfl, ho5, hb5⟩; have HO5 : Hid (Own W0.heap.size w5 ad5 cp5 Q) := ho5; have HB5 : Hid (Below W0.heap.size W0 w5) := hb5; clear ho5 hb5)
            | (at_builtin; go_must (refine wpList_append_row (D := fun g => w5.heap.size ≤ g) (zs := []) (ks := Q) rfl _ _ rfl rfl (Row.bare _) rfl (rowIn_src (HO5.out.rowIn.later ((Below.refl _ _).alloc (Nat.le_refl _) _))) (by simp; omega) ?_); intro ad6 cp6 w6 hr6 hk6; have HB6 : Hid (Below w5.heap.size w5 w6) := (((Keeps.refl (fun g => w5.heap.size ≤ g) w5).alloc _).trans (hk6.mono (fun _ _ h => h))).below (Nat.le_refl _) (fun _ h => h); have HP6 : Hid (Pair W0.heap.size w5.heap.size w6 ad5 Q.length ad6 cp6 Q) := Pair.of HO5.out HB6.out (by simpa using hr6.wide (fun k _ h => by rcases h with h | h; exact h; exact Nat.le_trans (by simp) h)); clear hr6 hk6))
          have HV6 : Hid (Below W0.heap.size W0 w6) := below_trans' HB5.out HB6.out
          go_loopw [11] (fun i wx => ∃ j : Nat, j ≤ Q.length ∧ i = .int .i64 j ∧ Pair W0.heap.size w5.heap.size wx ad5 Q.length ad6 cp6 Q ∧ Below W0.heap.size W0 wx) (fun i _ => Q.length - (intOf i).toNat)
          case atStart => exact ⟨0, Nat.zero_le _, rfl, HP6.out, HV6.out⟩
          case round =>
            obtain ⟨j, hj, rfl, hP, hV⟩ := hrel
            have HV : Hid (Below W0.heap.size W0 wr) := hV
            rcases Nat.lt_or_ge j Q.length with hlj | hgj
            · obtain ⟨g, u, rfl, hn0, hgl, hc, hf, hP3⟩ := hP.store hlj ⟨#[115, 112, 111, 105, 108, 116]⟩
              have HP3 : Hid _ := hP3
              have HN0 : Hid (W0.heap.size ≤ g) := hn0
              clear hP hV hP3 hn0 HP6 HV6
              go_wp2_with fail
              go_roundw
              case rel => exact ⟨j + 1, hlj, by go_num, HP3.out, below_store HV.out HN0.out _⟩
              case measure => simp [intOf]; omega
            · have hkeys := keys_any (HA.out.below hV) HOk.out (by omega)
              have HR : Hid (RowIn Value.string wr ad6 Q) := row_rowIn hP.r2
              have HE : Hid (GH e c k Q (fun j => w.heap.size ≤ j) wr) := HA.out.below hV
              have HW : Hid (Below w.heap.size w wr) := below_trans' HB.out hV
              clear hP hV HP6 HV6 HA
              go_wp2_with (first
                | (go_at_call 18; refine Calls.mono hkeys ?_; clear hkeys; rintro ee w7 ⟨ad7, cp7, rfl, ho7, hb7⟩; have HR7 : Hid (RowIn Value.string w7 ad7 Q) := ho7.rowIn; have HB7 : Hid (Below wr.heap.size wr w7) := hb7; have htx := texts_any (c1 := cp7) (c2 := cp6) ho7.rowIn (HR.out.later hb7) (by omega) (by omega); rw [eqb_self] at htx; clear ho7 hb7)
                | (go_at_call 17; refine Calls.mono htx ?_; clear htx; rintro ee w8 ⟨rfl, hb8⟩; have HB8 : Hid (Below wr.heap.size wr w8) := below_trans' HB7.out hb8; have HE8 : Hid (GH e c k Q (fun j => w.heap.size ≤ j) w8) := HE.out.below HB8.out; have hhas := has_any HE8.out (by omega) a2 (by omega); clear hb8)
                | (go_at_call 14; refine Calls.mono hhas ?_; clear hhas; rintro ee w9 ⟨rfl, q9, rfl⟩; have HE9 : Hid (GH e c k Q (fun j => w.heap.size ≤ j) (w8.drewN q9)) := HE8.out.drewN q9; have HW9 : Hid (Below w.heap.size w (w8.drewN q9)) := below_drewN (below_trans' HW.out HB8.out) q9; have htk := take_any HE9.out (fun j hj => Nat.le_trans HW9.out.size hj) (by omega) a2 (by omega); generalize G.has Q a2 = was at *)
                | (go_at_call 12; refine Calls.mono htk ?_; clear htk; rintro ee w10 ⟨rfl, h10, hk10⟩; have HE10 : Hid (GH e c k (G.cut Q a2) (fun j => w.heap.size ≤ j) w10) := h10; have HW10 : Hid (Below w.heap.size w w10) := (((Keeps.of_below (D := fun j => w.heap.size ≤ j) HW9.out).trans hk10).below (Nat.le_refl _) (fun _ h => h)); have hhas2 := has_any h10 (by omega) a2 (by omega); rw [G.has_no (G.cut_not Q a2)] at hhas2; clear h10 hk10)
                | (go_at_call 14; refine Calls.mono hhas2 ?_; clear hhas2; rintro ee w11 ⟨rfl, q11, rfl⟩; have HE11 : Hid (GH e c k (G.cut Q a2) (fun j => w.heap.size ≤ j) (w10.drewN q11)) := HE10.out.drewN q11; have HW11 : Hid (Below w.heap.size w (w10.drewN q11)) := below_drewN HW10.out q11; have htk2 := take_any HE11.out (fun j hj => Nat.le_trans HW11.out.size hj) (by omega) a2 (by omega); rw [G.has_no (G.cut_not Q a2)] at htk2)
                | (go_at_call 12; refine Calls.mono htk2 ?_; clear htk2; rintro ee w12 ⟨rfl, h12, hk12⟩; have HW12 : Hid (Below w.heap.size w w12) := (((Keeps.of_below (D := fun j => w.heap.size ≤ j) HW11.out).trans hk12).below (Nat.le_refl _) (fun _ h => h)); clear h12 hk12)
                | (go_at_call 19; refine (known_any _).mono ?_; rintro ee w13 ⟨rfl, hb13⟩; have HW13 : Hid (Below w.heap.size w w13) := below_trans' HW12.out hb13; clear hb13))
              go_ret
              exact ⟨rfl, HW13.out⟩
    · go_enter Try.func6, Try.ntmps6
      go_wp2_with fail
      go_ret
      exact ⟨rfl, Below.refl _ _⟩
  · go_enter Try.func6, Try.ntmps6
    go_wp2_with fail
    go_ret
    exact ⟨rfl, Below.refl _ _⟩

set_option maxRecDepth 100000 in
theorem lifted (os : Os) (started : os.Started) (H : Type) (enc : TypeId × Value → H) :
    ReturnsInHanded {} Try.checked os 6 .any (Rows.ghostOwnSpec.pre6 enc Try.prog Try.f6 Rows.ghostOwnRow.domain false) (Rows.ghostOwnSpec.post enc Try.prog Try.f6 false true false false) := by
  refine returnsInHanded_of_change_sized (C := Try.checked) own started (by kernel_rfl) Try.func6
    (ChangeSpec.witness6 (enc := enc) (C := Try.checked) false ⟨#[], #[.int .i64 0, .slice none 0 0, .string ByteArray.empty], []⟩ 8 (by kernel_rfl) (by kernel_rfl) (by kernel_rfl) (by kernel_rfl)) ?_
  intro W base args ds gs before hval0 hW hcnd hsz0 _
  have hval : ∀ (j : Nat) t v, Try.f6.params[j]? = some t → args[j]? = some v → Value.okWide Try.prog W .any base t v := hval0
  have hsz : (DataW.weightsEach Try.prog (Try.f6.params.toList ++ Rows.ghostOwnSpec.plain.varTypes Try.prog) (ds ++ gs)).all (· ≤ reachBytes) = true := hsz0
  have hW' := hW
  obtain ⟨p, q, hA0, hV, rfl, hfz, hnd⟩ := hW
  have hA : DataW.TrodAll enc Try.prog W 0 (fun _ => true) true Try.f6.params.toList args.toList ds p := hA0
  rw [Try.params6] at hA hval hsz
  obtain ⟨v0, vs0, d0, ds0, p0, q0, hargs, rfl, rfl, h0, s0⟩ := trodAll_cons hA
  obtain ⟨v1, vs1, d1, ds1, p1, q1, rfl, rfl, rfl, h1, s1⟩ := trodAll_cons s0
  obtain ⟨v2, vs2, d2, ds2, p2, q2, rfl, rfl, rfl, h2, s2⟩ := trodAll_cons s1
  obtain ⟨rfl, rfl, rfl⟩ := trodAll_nil s2
  obtain rfl : args = #[v0, v1, v2] := by cases args; simp_all
  obtain ⟨rfl, rfl⟩ := trodVars_none hV
  obtain ⟨a0, rfl, rfl, rfl, w0⟩ := open_int Try.underlying3 (hval 0 3 v0 rfl rfl) h0
  obtain ⟨a1, len1, cap1, rfl⟩ := okWide_slice Try.underlying34 (hval 1 34 v1 rfl rfl)
  have k1 := h1
  have lt1 : ∀ x ∈ p1, x.block < W.heap.size := by obtain ⟨m, hm⟩ := k1; exact DataW.trod_lt m _ _ _ hm
  obtain ⟨z1, e1, m1, r1, x1⟩ := open_texts h1
  replace x1 : ∀ z ∈ z1, z.size ≤ 140737488351232 := fun z hz => reach_first (reach_tail hsz) (x1 z hz)
  obtain ⟨a2, rfl, rfl, rfl, w2⟩ := open_string Try.underlying9 (hval 2 9 v2 rfl rfl) h2
  clear hA0 hval0 hsz0
  refine (walk W a0 w0 a1 len1 cap1 z1 e1 m1 r1 x1 a2 w2).mono fun e W' ⟨he, bel⟩ => ?_
  subst he
  exact ⟨_, rfl, _, _, _, [], _, [], hW', trodAll_mk1 (shut_bool Try.underlying4 _), (trodAll_cons_mk (shut_int Try.underlying3 w0) (trodAll_cons_mk (Below.trod laidOut (by kernel_rfl) (of_decide_eq_true (by kernel_rfl)) k1 bel lt1) (trodAll_cons_mk (shut_string Try.underlying9 w2) trodAll_mk0))), rfl, bel.frame _, fun h => by cases h⟩

theorem over : Rows.ghostOwnRow.holds Try.pinned (OpenSpec.ofChange Rows.ghostOwnSpec) :=
  OpenClaim.holds_of_wide 6 Try.f6 rfl rfl rfl rfl rfl rfl rfl ⟨rfl, rfl, rfl, rfl, rfl⟩ rfl rfl rfl rfl rfl (by kernel_rfl) Try.func6 (by kernel_rfl)
    (of_decide_eq_true (by kernel_rfl)) (by unfold Func.isWrapper; first | (rw [if_pos (by decide +kernel)]; kernel_rfl) | (rw [if_neg (by decide +kernel)]; exact ⟨rfl, rfl⟩))
    (fun os started H enc _ => lifted os started H enc)
end Go.Proofs.Ytdiggfiapbifpaa.ghostOwn
namespace Go.Proofs.Ytdiggfiapbifpaa
/-- the given statement -/
theorem ghostOwn_holds : Rows.GhostOwnSaid := ghostOwn.over
#print axioms ghostOwn_holds
end Go.Proofs.Ytdiggfiapbifpaa
