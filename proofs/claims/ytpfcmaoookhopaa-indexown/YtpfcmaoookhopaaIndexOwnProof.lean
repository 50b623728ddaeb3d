/- The keys that are told are new memory, rising, each once: the law returns true for every seed and all acts, and its arguments read as they did. -/
import Derived.Test.YtpfcmaoookhopaaRows
import Derived.Test.YtpfcmaoookhopaaOrder
import Derived.WalkKit
import Derived.ProofKit
import Derived.OpenShut
import Derived.ShutString
import Derived.ChangeOld
import Derived.Below
import Derived.Carry
import Derived.SizedLaws
namespace Go.Proofs.Ytpfcmaoookhopaa.indexOwn
open Go.ChangeShapes Go.WideShapes Go.ChangeAt Go.RowKit
open Go.ChangeMaps (open_string shut_string)
set_option linter.unusedVariables false

theorem own : ownKnob Try.prog.godebug = none := by kernel_rfl
theorem laidOut : laidOutB Try.prog = true := by kernel_rfl
/-- a row of which the first j are spoilt -/
def spoil (ts : List ByteArray) (j : Nat) : List ByteArray := List.replicate j ⟨#[115, 112, 111, 105, 108, 116]⟩ ++ ts.drop j
theorem spoil_zero (ts : List ByteArray) : spoil ts 0 = ts := by simp [spoil]
theorem spoil_next {ts : List ByteArray} {j : Nat} (h : j < ts.length) : (spoil ts j).set j ⟨#[115, 112, 111, 105, 108, 116]⟩ = spoil ts (j + 1) := by
  unfold spoil
  rw [List.set_append_right _ _ (by simp), List.length_replicate, Nat.sub_self, List.drop_eq_getElem_cons h, List.set_cons_zero, List.replicate_succ', List.append_assoc]
  rfl
theorem spoil_at {ts : List ByteArray} {j : Nat} (h : j < ts.length) : (spoil ts j)[j]? = some ts[j] := by
  unfold spoil
  rw [List.getElem?_append_right (by simp), List.length_replicate, Nat.sub_self, List.drop_eq_getElem_cons h]
  rfl
theorem rise {α : Type} {m : ByteArray → Option α} {ts : List ByteArray} (h : Keyed m ts) {j : Nat} {x y : ByteArray} (hx : ts[j]? = some x) (hy : ts[j + 1]? = some y) : bts x < bts y := by
  have h1 := lt_of_at hx
  have h2 := lt_of_at hy
  have := (List.pairwise_iff_getElem.1 h.1) j (j + 1) h1 h2 (by omega)
  rw [List.getElem?_eq_getElem h1] at hx
  rw [List.getElem?_eq_getElem h2] at hy
  rw [Option.some.inj hx, Option.some.inj hy] at this
  exact this
theorem few_keys {V : Int → Value} {te tl : TypeId} {D : Nat → Prop} {w : World} {p b c : Nat} {m : ByteArray → Option Int} (h : IX V te tl D w p m b) (hc : Card m c) : c ≤ b := by
  obtain ⟨seed, sl, u, n, ad, h1, h, o⟩ := h
  rw [hc.one o.card (fun _ => rfl)]
  exact o.few
set_option maxRecDepth 20000 in
set_option maxHeartbeats 8000000 in
theorem walkA (w : World) (S : Nat) (hS : S < 18446744073709551616) (a1 : Option Addr) (cap1 : Nat) (z1 : List Deed) (r1 : DeedsIn w a1 z1) (m1 : z1.length ≤ maxLen) (x1 : ∀ z ∈ z1, z.s.size ≤ maxLen) (hle : z1.length ≤ 200) :
    Calls Try.prog 8 #[.int .u64 (S : Nat), .slice a1 z1.length cap1] w fun e w' => e = .returned (.bool true) ∧ Below w.heap.size w w' := by
  obtain ⟨i0, hi, hz0, hz1, hz2⟩ := info_parts Try.info9
  have hv := heavy_any (cap := cap1) r1 m1 x1
  have hm : z1.length ≤ 9223372036854775807 := by unfold maxLen at m1; omega
  have R1 : Hid (DeedsIn w a1 z1) := r1
  clear r1 x1 m1
  go_enter Try.func8, Try.ntmps8
  go_wp2_with (first
    | (go_at_call 9; refine hv.mono ?_; rintro e w0 ⟨⟨hb, rfl, hli⟩, rfl⟩; have HLI : Hid (hb = false → Light z1 200) := hli; clear hv hli; cases hb)
    | (go_at_call 10; refine (Num.new_any w0 (w0.heap.size ≤ ·) (Nat.le_refl _) S hS).mono ?_; rintro e w1 ⟨p, rfl, H1, hk1, -⟩))
  rotate_left
  · go_ret
    exact ⟨rfl, Below.refl _ _⟩
  have HL : Hid (Light z1 200) := HLI.out trivial
  clear HLI
  go_loopw [6] (fun i wr => ∃ (k : Nat) (m : ByteArray → Option Int), k ≤ z1.length ∧ i = .int .i64 k ∧ IX Num.V 56 54 (w0.heap.size ≤ ·) wr p m k ∧ Below w0.heap.size w0 wr) (fun i _ => z1.length - (intOf i).toNat)
  case atStart => exact ⟨0, _, Nat.zero_le _, rfl, H1, hk1.below (Nat.le_refl _) (fun k h => h)⟩
  case round =>
    clear H1 hk1
    obtain ⟨k, m, hk, rfl, H, hb⟩ := hrel
    have hs := hb.size
    rcases Nat.lt_or_ge k z1.length with hlt | hge
    · obtain ⟨z, hz⟩ : ∃ z, z1[k]? = some z := ⟨_, List.getElem?_eq_getElem (by omega)⟩
      obtain ⟨g, off, ea, c0, c1, c2⟩ := (R1.out.later hb).at hz
      subst ea
      have hzs := HL.out k z (by omega) hz
      have l1 : k < z1.length := by omega
      have l2 : (k : Int) < 200 := by omega
      clear hz
      go_wp2_with fail
      go_region_with (go_at_call 24; refine (Num.put_any (w := wr.drew) H (fun j h => Nat.le_trans hs h) z.s (by omega) z.n (by omega)).mono ?_; rintro e w2 ⟨rfl, H2, hk2⟩)
      all_goals
        go_wp2_with fail
        go_roundw
        case rel => exact ⟨k + 1, _, hlt, by go_num, H2, (hb.drew).trans (hk2.below hs (fun j h => h))⟩
        case measure => simp [intOf]; omega
    · have hk' : k = z1.length := by omega
      subst hk'
      clear hge hk
      go_wp2_with (go_at_call 15; refine (Num.keys_any H (by omega)).mono ?_; rintro e w2 ⟨ts, ad, cap, rfl, hKd, hown, hb2⟩; have hfew := few_keys H hKd.card; have hb2' := hb.trans (hb2.mono hs); have hs2 := hb2.size)
      obtain ⟨WO, rfl⟩ : ∃ W, W = wr := ⟨_, rfl⟩
      have HK : Hid (Keyed m ts) := hKd
      clear hKd
      have hlen : ts.length ≤ 200 := by omega
      go_loopw [8] (fun i wx => ∃ (j q : Nat), j ≤ ts.length ∧ i = .int .i64 j ∧ wx = w2.drewN q) (fun i _ => ts.length - (intOf i).toNat)
      case atStart => exact ⟨0, 0, Nat.zero_le _, rfl, rfl⟩
      case round =>
        obtain ⟨j, q, hj, rfl, rfl⟩ := hrel
        rcases Nat.lt_or_ge j ts.length with hjl | hjg
        · cases j with
          | zero =>
            go_wp2_with fail
            go_quiet (fail)
            go_wp2_with fail
            go_roundw
            case rel => exact ⟨1, _, hjl, by go_num, rfl⟩
            case measure => simp [intOf]; omega
          | succ j =>
            obtain ⟨x, hx⟩ : ∃ x, ts[j]? = some x := ⟨_, List.getElem?_eq_getElem (by omega)⟩
            obtain ⟨y, hy⟩ : ∃ y, ts[j + 1]? = some y := ⟨_, List.getElem?_eq_getElem hjl⟩
            obtain ⟨g, cur, rfl, hgb, hgl, hgc⟩ := ownsRow_block hown (by omega)
            have d1 := hgc j (.string x) (by simp [hx])
            have d2 := hgc (j + 1) (.string y) (by simp [hy])
            have hr := rise HK.out hx hy
            have hpos : (0 : Int) < ((j + 1 : Nat) : Int) := by omega
            have hlt2 : Op.bytesLess x.toList y.toList = true := by rw [less_bts]; simpa using hr
            clear hr
            clear hx hy hgc hgl
            go_wp2_with fail
            go_quiet (fail)
            go_wp2_with fail
            go_roundw
            case rel => exact ⟨j + 1 + 1, _, hjl, by go_num, rfl⟩
            case measure => simp [intOf]; omega
        · have hj' : j = ts.length := by omega
          subst hj'
          have hownW : (w2.drewN q).ownsRow WO.heap.size 9 1 (.slice ad ts.length cap) ts.length (ts.map Value.string) := hown
          have hbW : Below WO.heap.size WO (w2.drewN q) := below_drewN hb2 q
          clear hown hb2 hb2' hs2 hj hjg
          generalize w2.drewN q = W2 at hownW hbW ⊢
          have hW2 := hbW.size
          have hsrc : FromRow (W2.alloc (.cells #[] 9)) 1 ad ts.length cap (ts.map Value.string) := from_own (ownsRow_below hownW ((Below.refl _ W2).alloc (Nat.le_refl _) _))
          go_wp2_with (at_builtin; go_must (refine wpList_append_from _ rfl _ _ 36 rfl W2.heap.size 9 i0 _ 1 16 Try.underlying36 hi hz0 hz1 hz2 rfl (by omega) _ 0 [] rfl (World.ownsRow_made (size := 1) (base := W2.heap.size) W2 #[] 0 (Nat.le_refl _) (by unfold maxLen; omega) rfl) ad ts.length cap _ rfl hsrc (by unfold maxLen; omega) (by omega) (by simp) ?_); intro ad3 cap3 w3 hc3 hown3 hgrow3 hat3; rw [Nat.zero_add] at hown3 ⊢; rw [List.nil_append] at hown3; have hb3 : Below W2.heap.size W2 w3 := ((Below.refl _ W2).alloc (Nat.le_refl _) _).grown hgrow3 (by simp) (fun k e => by cases e; exact Nat.le_refl _); clear hgrow3 hat3 hsrc)
          have hownK := ownsRow_below hownW hb3
          have hfar : ∀ g, ad = some ⟨g, 0, none⟩ → (Value.slice ad3 ts.length cap3).ownBlock ≠ some g := by
            intro g e e2
            have h1 := (hown3.lt g e2).1
            have h2 := (hownW.lt g (by rw [e]; rfl)).2
            omega
          have HF : Hid (∀ g, ad = some ⟨g, 0, none⟩ → (Value.slice ad3 ts.length cap3).ownBlock ≠ some g) := hfar
          have hb3' : Below WO.heap.size WO w3 := hbW.trans (hb3.mono hW2)
          clear hfar hownW hbW hb3
          go_loopw [10] (fun i wx => ∃ j : Nat, j ≤ ts.length ∧ i = .int .i64 j ∧ wx.ownsRow WO.heap.size 9 1 (.slice ad ts.length cap) ts.length ((spoil ts j).map Value.string) ∧ wx.ownsRow W2.heap.size 9 1 (.slice ad3 ts.length cap3) ts.length (ts.map Value.string) ∧ Below WO.heap.size WO wx) (fun i _ => ts.length - (intOf i).toNat)
          case atStart => exact ⟨0, Nat.zero_le _, rfl, by rw [spoil_zero]; exact hownK, hown3, hb3'⟩
          case round =>
            clear hownK hown3 hb3'
            obtain ⟨j, hj, rfl, hox, hwas, hbx⟩ := hrel
            rcases Nat.lt_or_ge j ts.length with hjl | hjg
            · obtain ⟨g, cur, ea, hg, hgb, hgc⟩ := ownsRow_block hox (by omega)
              subst ea
              have c0 := hgc j (.string ts[j]) (by rw [List.getElem?_map, spoil_at hjl]; rfl)
              have f0 := frozen_of_block (j := j) hgb
              have HR : Hid (∀ u : ByteArray, u = ⟨#[115, 112, 111, 105, 108, 116]⟩ → (wr.setCell ⟨g, j, none⟩ (.string u)).ownsRow WO.heap.size 9 1 (.slice (some ⟨g, 0, none⟩) ts.length cap) ts.length ((spoil ts (j + 1)).map Value.string)) := by
                rintro u rfl
                rw [← spoil_next hjl, List.map_set]
                exact ownsRow_setCell hox
              have HQ : Hid (∀ u : Value, (wr.setCell ⟨g, j, none⟩ u).ownsRow W2.heap.size 9 1 (.slice ad3 ts.length cap3) ts.length (ts.map Value.string)) := fun u => ownsRow_setCell_far hwas (HF.out g rfl)
              clear hgc hgb hox hwas
              go_wp2_with fail
              go_roundw
              case rel => exact ⟨j + 1, hjl, by go_num, HR.out _ rfl, HQ.out _, hbx.setCell hg _⟩
              case measure => simp [intOf]; omega
            · have hj' : j = ts.length := by omega
              subst hj'
              clear hox hj hjg
              have hsx := hbx.size
              go_wp2_with (first
                | (go_at_call 15; refine (Num.keys_any (H.below hbx) (by omega)).mono ?_; rintro e w5 ⟨ts5, ad5, cap5, rfl, hK5, hown5, hb5⟩; obtain rfl : ts5 = ts := hK5.one HK.out (fun _ => rfl); have hs5 := hb5.size; have hwas5 := ownsRow_below hwas hb5; clear hwas hK5)
                | (go_at_call 14; refine (texts_same (TextsAt.own hown5) (TextsAt.own hwas5) rfl rfl (by omega) (by omega) rfl).mono ?_; rintro e w6 ⟨rfl, hb6⟩; clear hown5 hwas5; have hs6 := hb6.size)
                | (go_at_call 12; refine (Num.len_any (((H.below hbx).below hb5).below hb6)).mono ?_; rintro e w7 ⟨c, rfl, hc, rfl⟩; have hcl : c = ts5.length := hc.one HK.out.card (fun _ => rfl); subst hcl)
                | (go_at_call 17; refine (known_any _).mono ?_; rintro e w8 ⟨rfl, hb8⟩))
              go_ret
              exact ⟨rfl, (hb.trans (hbx.mono hs)).trans (((hb5.mono (by omega)).trans (hb6.mono (by omega))).trans (hb8.mono (by omega)))⟩
set_option maxRecDepth 20000 in
set_option maxHeartbeats 8000000 in
theorem walkB (w : World) (S : Nat) (hS : S < 18446744073709551616) (a1 : Option Addr) (cap1 : Nat) (z1 : List Deed) (r1 : DeedsIn w a1 z1) (m1 : z1.length ≤ maxLen) (x1 : ∀ z ∈ z1, z.s.size ≤ maxLen) (hle : 200 < z1.length) :
    Calls Try.prog 8 #[.int .u64 (S : Nat), .slice a1 z1.length cap1] w fun e w' => e = .returned (.bool true) ∧ Below w.heap.size w w' := by
  obtain ⟨i0, hi, hz0, hz1, hz2⟩ := info_parts Try.info9
  have hv := heavy_any (cap := cap1) r1 m1 x1
  have hm : z1.length ≤ 9223372036854775807 := by unfold maxLen at m1; omega
  have R1 : Hid (DeedsIn w a1 z1) := r1
  clear r1 x1 m1
  go_enter Try.func8, Try.ntmps8
  go_wp2_with (first
    | (go_at_call 9; refine hv.mono ?_; rintro e w0 ⟨⟨hb, rfl, hli⟩, rfl⟩; have HLI : Hid (hb = false → Light z1 200) := hli; clear hv hli; cases hb)
    | (go_at_call 10; refine (Num.new_any w0 (w0.heap.size ≤ ·) (Nat.le_refl _) S hS).mono ?_; rintro e w1 ⟨p, rfl, H1, hk1, -⟩))
  rotate_left
  · go_ret
    exact ⟨rfl, Below.refl _ _⟩
  have HL : Hid (Light z1 200) := HLI.out trivial
  clear HLI
  go_loopw [6] (fun i wr => ∃ (k : Nat) (m : ByteArray → Option Int), k ≤ 200 ∧ i = .int .i64 k ∧ IX Num.V 56 54 (w0.heap.size ≤ ·) wr p m k ∧ Below w0.heap.size w0 wr) (fun i _ => 200 - (intOf i).toNat)
  case atStart => exact ⟨0, _, Nat.zero_le _, rfl, H1, hk1.below (Nat.le_refl _) (fun k h => h)⟩
  case round =>
    clear H1 hk1
    obtain ⟨k, m, hk, rfl, H, hb⟩ := hrel
    have hs := hb.size
    rcases Nat.lt_or_ge k 200 with hlt | hge
    · obtain ⟨z, hz⟩ : ∃ z, z1[k]? = some z := ⟨_, List.getElem?_eq_getElem (by omega)⟩
      obtain ⟨g, off, ea, c0, c1, c2⟩ := (R1.out.later hb).at hz
      subst ea
      have hzs := HL.out k z (by omega) hz
      have l1 : k < z1.length := by omega
      have l2 : (k : Int) < 200 := by omega
      clear hz
      go_wp2_with fail
      go_region_with (go_at_call 24; refine (Num.put_any (w := wr.drew) H (fun j h => Nat.le_trans hs h) z.s (by omega) z.n (by omega)).mono ?_; rintro e w2 ⟨rfl, H2, hk2⟩)
      all_goals
        go_wp2_with fail
        go_roundw
        case rel => exact ⟨k + 1, _, hlt, by go_num, H2, (hb.drew).trans (hk2.below hs (fun j h => h))⟩
        case measure => simp [intOf]; omega
    · have hk' : k = 200 := by omega
      subst hk'
      have l1 : 200 < z1.length := hle
      clear hge hk
      go_wp2_with (go_at_call 15; refine (Num.keys_any H (by omega)).mono ?_; rintro e w2 ⟨ts, ad, cap, rfl, hKd, hown, hb2⟩; have hfew := few_keys H hKd.card; have hb2' := hb.trans (hb2.mono hs); have hs2 := hb2.size)
      obtain ⟨WO, rfl⟩ : ∃ W, W = wr := ⟨_, rfl⟩
      have HK : Hid (Keyed m ts) := hKd
      clear hKd
      have hlen : ts.length ≤ 200 := by omega
      go_loopw [8] (fun i wx => ∃ (j q : Nat), j ≤ ts.length ∧ i = .int .i64 j ∧ wx = w2.drewN q) (fun i _ => ts.length - (intOf i).toNat)
      case atStart => exact ⟨0, 0, Nat.zero_le _, rfl, rfl⟩
      case round =>
        obtain ⟨j, q, hj, rfl, rfl⟩ := hrel
        rcases Nat.lt_or_ge j ts.length with hjl | hjg
        · cases j with
          | zero =>
            go_wp2_with fail
            go_quiet (fail)
            go_wp2_with fail
            go_roundw
            case rel => exact ⟨1, _, hjl, by go_num, rfl⟩
            case measure => simp [intOf]; omega
          | succ j =>
            obtain ⟨x, hx⟩ : ∃ x, ts[j]? = some x := ⟨_, List.getElem?_eq_getElem (by omega)⟩
            obtain ⟨y, hy⟩ : ∃ y, ts[j + 1]? = some y := ⟨_, List.getElem?_eq_getElem hjl⟩
            obtain ⟨g, cur, rfl, hgb, hgl, hgc⟩ := ownsRow_block hown (by omega)
            have d1 := hgc j (.string x) (by simp [hx])
            have d2 := hgc (j + 1) (.string y) (by simp [hy])
            have hr := rise HK.out hx hy
            have hpos : (0 : Int) < ((j + 1 : Nat) : Int) := by omega
            have hlt2 : Op.bytesLess x.toList y.toList = true := by rw [less_bts]; simpa using hr
            clear hr
            clear hx hy hgc hgl
            go_wp2_with fail
            go_quiet (fail)
            go_wp2_with fail
            go_roundw
            case rel => exact ⟨j + 1 + 1, _, hjl, by go_num, rfl⟩
            case measure => simp [intOf]; omega
        · have hj' : j = ts.length := by omega
          subst hj'
          have hownW : (w2.drewN q).ownsRow WO.heap.size 9 1 (.slice ad ts.length cap) ts.length (ts.map Value.string) := hown
          have hbW : Below WO.heap.size WO (w2.drewN q) := below_drewN hb2 q
          clear hown hb2 hb2' hs2 hj hjg
          generalize w2.drewN q = W2 at hownW hbW ⊢
          have hW2 := hbW.size
          have hsrc : FromRow (W2.alloc (.cells #[] 9)) 1 ad ts.length cap (ts.map Value.string) := from_own (ownsRow_below hownW ((Below.refl _ W2).alloc (Nat.le_refl _) _))
          go_wp2_with (at_builtin; go_must (refine wpList_append_from _ rfl _ _ 36 rfl W2.heap.size 9 i0 _ 1 16 Try.underlying36 hi hz0 hz1 hz2 rfl (by omega) _ 0 [] rfl (World.ownsRow_made (size := 1) (base := W2.heap.size) W2 #[] 0 (Nat.le_refl _) (by unfold maxLen; omega) rfl) ad ts.length cap _ rfl hsrc (by unfold maxLen; omega) (by omega) (by simp) ?_); intro ad3 cap3 w3 hc3 hown3 hgrow3 hat3; rw [Nat.zero_add] at hown3 ⊢; rw [List.nil_append] at hown3; have hb3 : Below W2.heap.size W2 w3 := ((Below.refl _ W2).alloc (Nat.le_refl _) _).grown hgrow3 (by simp) (fun k e => by cases e; exact Nat.le_refl _); clear hgrow3 hat3 hsrc)
          have hownK := ownsRow_below hownW hb3
          have hfar : ∀ g, ad = some ⟨g, 0, none⟩ → (Value.slice ad3 ts.length cap3).ownBlock ≠ some g := by
            intro g e e2
            have h1 := (hown3.lt g e2).1
            have h2 := (hownW.lt g (by rw [e]; rfl)).2
            omega
          have HF : Hid (∀ g, ad = some ⟨g, 0, none⟩ → (Value.slice ad3 ts.length cap3).ownBlock ≠ some g) := hfar
          have hb3' : Below WO.heap.size WO w3 := hbW.trans (hb3.mono hW2)
          clear hfar hownW hbW hb3
          go_loopw [10] (fun i wx => ∃ j : Nat, j ≤ ts.length ∧ i = .int .i64 j ∧ wx.ownsRow WO.heap.size 9 1 (.slice ad ts.length cap) ts.length ((spoil ts j).map Value.string) ∧ wx.ownsRow W2.heap.size 9 1 (.slice ad3 ts.length cap3) ts.length (ts.map Value.string) ∧ Below WO.heap.size WO wx) (fun i _ => ts.length - (intOf i).toNat)
          case atStart => exact ⟨0, Nat.zero_le _, rfl, by rw [spoil_zero]; exact hownK, hown3, hb3'⟩
          case round =>
            clear hownK hown3 hb3'
            obtain ⟨j, hj, rfl, hox, hwas, hbx⟩ := hrel
            rcases Nat.lt_or_ge j ts.length with hjl | hjg
            · obtain ⟨g, cur, ea, hg, hgb, hgc⟩ := ownsRow_block hox (by omega)
              subst ea
              have c0 := hgc j (.string ts[j]) (by rw [List.getElem?_map, spoil_at hjl]; rfl)
              have f0 := frozen_of_block (j := j) hgb
              have HR : Hid (∀ u : ByteArray, u = ⟨#[115, 112, 111, 105, 108, 116]⟩ → (wr.setCell ⟨g, j, none⟩ (.string u)).ownsRow WO.heap.size 9 1 (.slice (some ⟨g, 0, none⟩) ts.length cap) ts.length ((spoil ts (j + 1)).map Value.string)) := by
                rintro u rfl
                rw [← spoil_next hjl, List.map_set]
                exact ownsRow_setCell hox
              have HQ : Hid (∀ u : Value, (wr.setCell ⟨g, j, none⟩ u).ownsRow W2.heap.size 9 1 (.slice ad3 ts.length cap3) ts.length (ts.map Value.string)) := fun u => ownsRow_setCell_far hwas (HF.out g rfl)
              clear hgc hgb hox hwas
              go_wp2_with fail
              go_roundw
              case rel => exact ⟨j + 1, hjl, by go_num, HR.out _ rfl, HQ.out _, hbx.setCell hg _⟩
              case measure => simp [intOf]; omega
            · have hj' : j = ts.length := by omega
              subst hj'
              clear hox hj hjg
              have hsx := hbx.size
              go_wp2_with (first
                | (go_at_call 15; refine (Num.keys_any (H.below hbx) (by omega)).mono ?_; rintro e w5 ⟨ts5, ad5, cap5, rfl, hK5, hown5, hb5⟩; obtain rfl : ts5 = ts := hK5.one HK.out (fun _ => rfl); have hs5 := hb5.size; have hwas5 := ownsRow_below hwas hb5; clear hwas hK5)
                | (go_at_call 14; refine (texts_same (TextsAt.own hown5) (TextsAt.own hwas5) rfl rfl (by omega) (by omega) rfl).mono ?_; rintro e w6 ⟨rfl, hb6⟩; clear hown5 hwas5; have hs6 := hb6.size)
                | (go_at_call 12; refine (Num.len_any (((H.below hbx).below hb5).below hb6)).mono ?_; rintro e w7 ⟨c, rfl, hc, rfl⟩; have hcl : c = ts5.length := hc.one HK.out.card (fun _ => rfl); subst hcl)
                | (go_at_call 17; refine (known_any _).mono ?_; rintro e w8 ⟨rfl, hb8⟩))
              go_ret
              exact ⟨rfl, (hb.trans (hbx.mono hs)).trans (((hb5.mono (by omega)).trans (hb6.mono (by omega))).trans (hb8.mono (by omega)))⟩

set_option maxRecDepth 20000 in
set_option maxHeartbeats 8000000 in
theorem walk (w : World) (a0 : Int) (w0 : (Lit.int .u64 a0).wf = true) (a1 : Option Addr) (len1 cap1 : Nat) (z1 : List Deed) (e1 : z1.length = len1) (m1 : len1 ≤ maxLen) (r1 : DeedsIn w a1 z1) (x1 : ∀ z ∈ z1, (Lit.int .i64 z.kind).wf = true ∧ (Lit.int .i64 z.n).wf = true ∧ z.s.size ≤ maxLen) :
    Calls Try.prog 8 #[.int .u64 a0, .slice a1 len1 cap1] w fun e w' => e = .returned (.bool true) ∧ Below w.heap.size w w' := by
  obtain ⟨b0, b1⟩ := bounds_u64 w0
  obtain ⟨S, rfl⟩ : ∃ S : Nat, a0 = S := ⟨a0.toNat, by omega⟩
  have hS : S < 18446744073709551616 := by omega
  clear w0 b0 b1
  subst e1
  by_cases hle : z1.length ≤ 200
  · exact walkA w S hS a1 cap1 z1 r1 m1 (fun z hz => (x1 z hz).2.2) hle
  · exact walkB w S hS a1 cap1 z1 r1 m1 (fun z hz => (x1 z hz).2.2) (by omega)

set_option maxRecDepth 100000 in
theorem lifted (os : Os) (started : os.Started) (H : Type) (enc : TypeId × Value → H) :
    ReturnsInHanded {} Try.checked os 8 .any (Rows.indexOwnSpec.pre6 enc Try.prog Try.f8 Rows.indexOwnRow.domain false) (Rows.indexOwnSpec.post enc Try.prog Try.f8 false true false false) := by
  refine returnsInHanded_of_change_sized (C := Try.checked) own started (by kernel_rfl) Try.func8
    (ChangeSpec.witness6 (enc := enc) (C := Try.checked) false ⟨#[], #[.int .u64 0, .slice none 0 0], []⟩ 8 (by kernel_rfl) (by kernel_rfl) (by kernel_rfl) (by kernel_rfl)) ?_
  intro W base args ds gs before hval0 hW hcnd hsz0 _
  have hval : ∀ (j : Nat) t v, Try.f8.params[j]? = some t → args[j]? = some v → Value.okWide Try.prog W .any base t v := hval0
  have hsz : (DataW.weightsEach Try.prog (Try.f8.params.toList ++ Rows.indexOwnSpec.plain.varTypes Try.prog) (ds ++ gs)).all (· ≤ reachBytes) = true := hsz0
  have hW' := hW
  obtain ⟨p, q, hA0, hV, rfl, hfz, hnd⟩ := hW
  have hA : DataW.TrodAll enc Try.prog W 0 (fun _ => true) true Try.f8.params.toList args.toList ds p := hA0
  rw [Try.params8] at hA hval hsz
  obtain ⟨v0, vs0, d0, ds0, p0, q0, hargs, rfl, rfl, h0, s0⟩ := trodAll_cons hA
  obtain ⟨v1, vs1, d1, ds1, p1, q1, rfl, rfl, rfl, h1, s1⟩ := trodAll_cons s0
  obtain ⟨rfl, rfl, rfl⟩ := trodAll_nil s1
  obtain rfl : args = #[v0, v1] := by cases args; simp_all
  obtain ⟨rfl, rfl⟩ := trodVars_none hV
  obtain ⟨a0, rfl, rfl, rfl, w0⟩ := open_int Try.underlying22 (hval 0 22 v0 rfl rfl) h0
  obtain ⟨a1, len1, cap1, rfl⟩ := okWide_slice Try.underlying23 (hval 1 23 v1 rfl rfl)
  have k1 := h1
  have lt1 : ∀ x ∈ p1, x.block < W.heap.size := by obtain ⟨m, hm⟩ := k1; exact DataW.trod_lt m _ _ _ hm
  obtain ⟨z1, e1, m1, r1, x1⟩ := open_deeds h1
  clear hA0 hval0 hsz0
  refine (walk W a0 w0 a1 len1 cap1 z1 e1 m1 r1 x1).mono fun e W' ⟨he, bel⟩ => ?_
  subst he
  exact ⟨_, rfl, _, _, _, [], _, [], hW', trodAll_mk1 (shut_bool Try.underlying4 _), (trodAll_cons_mk (shut_int Try.underlying22 w0) (trodAll_cons_mk (Below.trod laidOut (by kernel_rfl) (of_decide_eq_true (by kernel_rfl)) k1 bel lt1) trodAll_mk0)), rfl, bel.frame _, fun h => by cases h⟩

theorem over : Rows.indexOwnRow.holds Try.pinned (OpenSpec.ofChange Rows.indexOwnSpec) :=
  OpenClaim.holds_of_wide 8 Try.f8 rfl rfl rfl rfl rfl rfl rfl ⟨rfl, rfl, rfl, rfl, rfl⟩ rfl rfl rfl rfl rfl (by kernel_rfl) Try.func8 (by kernel_rfl)
    (of_decide_eq_true (by kernel_rfl)) (by unfold Func.isWrapper; first | (rw [if_pos (by decide +kernel)]; kernel_rfl) | (rw [if_neg (by decide +kernel)]; exact ⟨rfl, rfl⟩))
    (fun os started H enc _ => lifted os started H enc)

end Go.Proofs.Ytpfcmaoookhopaa.indexOwn
namespace Go.Proofs.Ytpfcmaoookhopaa
/-- the given statement -/
theorem indexOwn_holds : Rows.IndexOwnSaid := indexOwn.over
#print axioms indexOwn_holds
end Go.Proofs.Ytpfcmaoookhopaa
