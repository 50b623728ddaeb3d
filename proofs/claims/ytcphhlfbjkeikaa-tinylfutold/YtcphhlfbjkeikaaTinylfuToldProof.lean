/- Who is resident is told by what was answered: the law returns true for every room and every row of keys, and its arguments read as they did. -/
import Derived.Test.YtcphhlfbjkeikaaRows
import Derived.Test.YtcphhlfbjkeikaaAi
import Derived.WalkKit
import Derived.ProofKit
import Derived.OpenShut
import Derived.ShutString
import Derived.ChangeOld
import Derived.Below
import Derived.Carry
import Derived.SizedLaws
namespace Go.Proofs.Ytcphhlfbjkeikaa.tinylfuTold
open Go.ChangeShapes Go.WideShapes Go.ChangeAt Go.RowKit
open Go.ChangeMaps (open_string shut_string)
set_option linter.unusedVariables false

theorem own : ownKnob Try.prog.godebug = none := by kernel_rfl
theorem laidOut : laidOutB Try.prog = true := by kernel_rfl
/-- what an Access tells, of one who keeps a row of those that are resident -/
theorem tells (f : ByteArray → Nat) {s : Stt} {zs : List ByteArray} {z : ByteArray} (hok : A.Ok s) (hz : ∀ k, A.cnt k zs = A.cnt k (A.keys s)) :
    ∃ (hit : Bool) (gs : List ByteArray) (s' : Stt), (A.access f s z).1 = hit ∧ (A.access f s z).2.1 = gs ∧ (A.access f s z).2.2 = s' ∧ A.Ok s' ∧ inb z zs = hit ∧ (hit = true → gs = []) ∧ inb z gs = false ∧ gs.length ≤ 1 ∧
      (∀ kk g, gs[kk]? = some g → inb g ((gs.take kk).foldl A.cut zs) = true) ∧ (gs.foldl A.cut zs).length ≤ zs.length ∧ (∀ y, A.cnt y (if hit then gs.foldl A.cut zs else gs.foldl A.cut zs ++ [z]) = A.cnt y (A.keys s')) := by
  have hmem : z ∈ zs ↔ z ∈ A.keys s := by rw [← A.cnt_pos, ← A.cnt_pos, hz]
  by_cases hin : z ∈ A.keys s
  · obtain ⟨h1, h2, h3, h4, h5, h6⟩ := A.acc_hit (f := f) hok hin
    exact ⟨true, [], _, h1, h2, rfl, h3, inb_yes (hmem.2 hin), fun _ => rfl, inb_no (by simp), by simp, by simp, by simp, fun y => by simp only [if_true, List.foldl_nil]; rw [hz, h5]⟩
  · obtain ⟨h1, hM⟩ := A.acc_miss (f := f) hok hin
    have hno := inb_no (fun h => hin (hmem.1 h))
    rcases hM.went with ⟨h2, _, h3, h4⟩ | ⟨g, h2, h4, hg, h5, h6⟩
    · exact ⟨false, [], _, h1, h2, rfl, hM.ok, hno, fun h => (by cases h), inb_no (by simp), by simp, by simp, by simp, fun y => by simp only [Bool.false_eq_true, if_false, List.foldl_nil]; rw [A.cnt_snoc, hz, h3]⟩
    · have hgk : g ∈ A.keys s := A.cnt_pos.1 hg
      have hgz : g ∈ zs := by rw [← A.cnt_pos, hz, A.cnt_pos]; exact hgk
      refine ⟨false, [g], _, h1, h2, rfl, hM.ok, hno, fun h => (by cases h), inb_no ?_, by simp, ?_, A.length_cut_le _ _, A.tell_full hok hz hg h5⟩
      · intro h
        simp at h
        subst h
        exact hin hgk
      · intro kk x hx
        cases kk with
        | zero => simp at hx; subst hx; exact inb_yes hgz
        | succ n => simp at hx
theorem has_row {w : World} {ad : Option Addr} {cap : Nat} {zs : List ByteArray} (h : RowIn Value.string w ad zs) (hm : zs.length ≤ 1000) (key : ByteArray) :
    Calls Try.prog 6 #[.slice ad zs.length cap, .string key] w fun e w' => e = .returned (.bool (inb key zs)) ∧ w' = w := lhas_any h (by unfold maxLen; omega) key
theorem key_size {D : Nat → Prop} {w : World} {e b : Nat} {s : Stt} (H : AE e b s D w) {z : ByteArray} (h : z ∈ A.keys s) : z.size ≤ 1000 := H.sizes h

set_option maxRecDepth 20000 in
set_option maxHeartbeats 1500000 in
theorem walk (w : World) (a0 : Int) (w0 : (Lit.int .i64 a0).wf = true) (a1 : Option Addr) (len1 cap1 : Nat) (z1 : List ByteArray) (e1 : z1.length = len1) (m1 : len1 ≤ maxLen) (r1 : RowIn Value.string w a1 z1) (x1 : ∀ z ∈ z1, z.size ≤ 140737488351232) :
    Calls Try.prog 3 #[.int .i64 a0, .slice a1 len1 cap1] w fun e w' => e = .returned (.bool true) ∧ Below w.heap.size w w' := by
  subst e1
  obtain ⟨b0, b1⟩ := bounds_i64 w0
  have hlg := long_any (cap := cap1) r1 m1 x1
  have HR : Hid (RowIn Value.string w a1 z1) := r1
  clear r1 x1
  cases hl : lng z1 with
  | true =>
    rw [hl] at hlg
    go_enter Try.func3, Try.ntmps3
    go_wp2_with (go_at_call 4; refine Calls.mono hlg ?_; clear hlg; rintro ee w1 ⟨rfl, rfl⟩)
    go_ret
    exact ⟨rfl, Below.refl _ _⟩
  | false =>
    rw [hl] at hlg
    obtain ⟨hz1, hz2⟩ := lng_no hl
    have HZ : Hid (∀ z ∈ z1, z.size ≤ 40) := hz2
    have hnew := new_any w (fun k => w.heap.size ≤ k) (fun _ h => h) a0
    clear hl hz2
    go_enter Try.func3, Try.ntmps3
    go_wp2_with (first
      | (go_at_call 4; refine Calls.mono hlg ?_; clear hlg; rintro ee w1 ⟨rfl, rfl⟩)
      | (go_at_call 5; refine Calls.mono hnew ?_; clear hnew; rintro ee w2 ⟨e, rfl, h2, hk2⟩; have H2 : Hid (AE e 0 (A.start (heldC a0)) (fun k => w1.heap.size ≤ k) w2) := h2; have HB2 : Hid (Below w1.heap.size w1 w2) := (hk2.below (Nat.le_refl _) (fun _ h => h)); clear h2 hk2))
    go_loopw [6, 7] (fun iv i wr => ∃ (k : Nat) (s : Stt) (ad : Option Addr) (cp : Nat) (zs : List ByteArray), k ≤ z1.length ∧ i = .int .i64 k ∧ iv = .slice ad zs.length cp ∧ A.Ok s ∧ (∀ y, A.cnt y zs = A.cnt y (A.keys s)) ∧ zs.length ≤ k ∧ Beside (AE e (2 * k) s) ad cp zs (fun j => w1.heap.size ≤ j) wr ∧ Below w1.heap.size w1 wr) (fun _ i _ => z1.length - (intOf i).toNat)
    case atStart => exact ⟨0, A.start (heldC a0), none, 0, [], Nat.zero_le _, rfl, rfl, A.start_ok (heldC_in a0).1 (heldC_in a0).2, fun y => rfl, Nat.zero_le _, H2.out.beside, HB2.out⟩
    case round =>
      obtain ⟨k, s, ad, cp, zs, hk, rfl, rfl, hok, hcnt, hzl, hA, hB⟩ := hrel
      have HB : Hid (Below w1.heap.size w1 wr) := hB
      have HA : Hid (Beside (AE e (2 * k) s) ad cp zs (fun j => w1.heap.size ≤ j) wr) := hA
      have HC : Hid (∀ y, A.cnt y zs = A.cnt y (A.keys s)) := hcnt
      have HOk : Hid (A.Ok s) := hok
      clear hok hcnt H2 HB2
      rcases Nat.lt_or_ge k z1.length with hlt | hge
      · obtain ⟨z, hz⟩ : ∃ z, z1[k]? = some z := ⟨_, List.getElem?_eq_getElem hlt⟩
        obtain ⟨gg, off, rfl, cz⟩ := (HR.out.later hB).at hz
        have hzs := HZ.out z (List.mem_of_getElem? hz)
        have HCz : Hid (w1.cell? ⟨gg, off + k, none⟩ = some (.string z)) := by
          obtain ⟨g2, o2, e2, c2⟩ := HR.out.at hz
          cases e2
          exact c2
        have hhas := has_row (cap := cp) hA.row (by omega) z
        obtain ⟨f, hacc⟩ := HA.out.acc HOk.out (fun j hj => Nat.le_trans HB.out.size hj) (by omega) z (by omega)
        obtain ⟨hit, gs, s', f1, f2, f3, f4, hin, f6, f7, f8, f9, f11, f10⟩ := tells f (z := z) HOk.out HC.out
        rw [f1, f2, f3] at hacc
        have HOk2 : Hid (A.Ok s') := f4
        have HF8 : Hid (∀ kk g, gs[kk]? = some g → inb g ((gs.take kk).foldl A.cut zs) = true) := f9
        clear hA hB hz f1 f2 f3 f4 f9 HC HOk
        cases hit with
        | true =>
          rw [hin] at hhas
          obtain rfl : gs = [] := f6 rfl
          simp only [if_true, List.foldl_nil] at f10
          have HCn : Hid (∀ y, A.cnt y zs = A.cnt y (A.keys s')) := f10
          have hlen : (A.keys s').length = zs.length := (A.length_of_cnt f10).symm
          have HHas2 : Hid (∀ (W : World) (a4 : Option Addr) (c4 : Nat), Calls Try.prog 6 #[.slice a4 0 c4, .string z] W fun e w' => e = .returned (.bool false) ∧ w' = W) := fun W a4 c4 => by
            have := has_row (w := W) (ad := a4) (cap := c4) (zs := []) (.inl rfl) (by simp) z
            rw [f7] at this
            exact this
          clear f10 hin f6 f7 f8 f11 HF8
          go_wp2_with (first
            | (go_at_call 6; refine Calls.mono hhas ?_; clear hhas; rintro ee w3 ⟨rfl, rfl⟩)
            | (go_at_call 7; refine Calls.mono hacc ?_; clear hacc; rintro ee w4 ⟨ad4, cap4, rfl, -, h4, hk4⟩; have H4 : Hid (Beside (AE e (2 * k + 2) s') ad cp zs (fun j => w1.heap.size ≤ j) w4) := h4; have HB4 : Hid (Below w1.heap.size w1 w4) := (((Keeps.of_below (D := fun j => w1.heap.size ≤ j) HB.out).trans hk4).below (Nat.le_refl _) (fun _ h => h)); have cz4 : w4.cell? ⟨gg, off + k, none⟩ = some (.string z) := (cell_later HB4.out HCz.out); clear h4 hk4)
            | (go_at_call 6; refine Calls.mono (HHas2.out _ _ _) ?_; rintro ee w5 ⟨rfl, rfl⟩))
          go_loopw [6, 11] (fun iv i wr' => i = .int .i64 0 ∧ iv = .slice ad zs.length cp ∧ Beside (AE e (2 * k + 2) s') ad cp zs (fun j => w1.heap.size ≤ j) wr' ∧ Below w1.heap.size w1 wr') (fun _ _ _ => 0)
          case atStart => exact ⟨rfl, rfl, H4.out, HB4.out⟩
          case round =>
            obtain ⟨rfl, rfl, hA6, hB6⟩ := hrel
            have HB6 : Hid (Below w1.heap.size w1 wr) := hB6
            have hln := hA6.len (by omega)
            rw [hlen] at hln
            clear hA6 hB6 H4 HB4
            go_wp2_with (go_at_call 9; refine Calls.mono hln ?_; clear hln; rintro ee w7 ⟨rfl, h7, hb7⟩; have H7 : Hid (Beside (AE e (2 * k + 2) s') ad cp zs (fun j => w1.heap.size ≤ j) w7) := h7; have HB7 : Hid (Below w1.heap.size w1 w7) := (below_trans' HB6.out hb7); clear h7 hb7)
            go_roundw
            case rel => exact ⟨k + 1, s', ad, cp, zs, hlt, by go_num, rfl, HOk2.out, HCn.out, by omega, H7.out, HB7.out⟩
            case measure => simp [intOf]; omega
        | false =>
          rw [hin] at hhas
          simp only [Bool.false_eq_true, if_false] at f10
          have HCn : Hid (∀ y, A.cnt y (gs.foldl A.cut zs ++ [z]) = A.cnt y (A.keys s')) := f10
          have hlen : (A.keys s').length = (gs.foldl A.cut zs ++ [z]).length := (A.length_of_cnt f10).symm
          rw [List.length_append, List.length_cons, List.length_nil] at hlen
          clear f10 hin f6
          go_wp2_with (first
            | (go_at_call 6; refine Calls.mono hhas ?_; clear hhas; rintro ee w3 ⟨rfl, rfl⟩)
            | (go_at_call 7; refine Calls.mono hacc ?_; clear hacc; rintro ee w4 ⟨ad4, cap4, rfl, hr4, h4, hk4⟩; have H4 : Hid (Beside (AE e (2 * k + 2) s') ad cp zs (fun j => w1.heap.size ≤ j) w4) := h4; have HR4 : Hid (RowIn Value.string w4 ad4 gs) := hr4; have HB4 : Hid (Below w1.heap.size w1 w4) := (((Keeps.of_below (D := fun j => w1.heap.size ≤ j) HB.out).trans hk4).below (Nat.le_refl _) (fun _ h => h)); have hhas2 := has_row (cap := cap4) hr4 (by omega) z; rw [f7] at hhas2; have cz4 : w4.cell? ⟨gg, off + k, none⟩ = some (.string z) := (cell_later HB4.out HCz.out); clear h4 hk4 hr4)
            | (go_at_call 6; refine Calls.mono hhas2 ?_; clear hhas2; rintro ee w3 ⟨rfl, rfl⟩))
          go_loopw [6, 11] (fun iv i wr' => ∃ (kk : Nat) (ad' : Option Addr) (cp' : Nat), kk ≤ gs.length ∧ i = .int .i64 kk ∧ iv = .slice ad' ((gs.take kk).foldl A.cut zs).length cp' ∧ Beside (AE e (2 * k + 2) s') ad' cp' ((gs.take kk).foldl A.cut zs) (fun j => w1.heap.size ≤ j) wr' ∧ Below w1.heap.size w1 wr' ∧ RowIn Value.string wr' ad4 gs) (fun _ i _ => gs.length - (intOf i).toNat)
          case atStart => exact ⟨0, ad, cp, Nat.zero_le _, rfl, by simp, by simpa using H4.out, HB4.out, HR4.out⟩
          case round =>
            obtain ⟨kk, ad6, cp6, hkk, rfl, rfl, hA6, hB6, hR6⟩ := hrel
            have HA6 : Hid (Beside (AE e (2 * k + 2) s') ad6 cp6 ((gs.take kk).foldl A.cut zs) (fun j => w1.heap.size ≤ j) wr) := hA6
            have HB6 : Hid (Below w1.heap.size w1 wr) := hB6
            have HR6 : Hid (RowIn Value.string wr ad4 gs) := hR6
            clear hA6 hB6 hR6 H4 HR4 HB4
            rcases Nat.lt_or_ge kk gs.length with hltk | hgek
            · obtain ⟨g, hg⟩ : ∃ g, gs[kk]? = some g := ⟨_, List.getElem?_eq_getElem hltk⟩
              obtain ⟨g2, o2, e2, cg⟩ := HR6.out.at hg
              have hstep : (gs.take (kk + 1)).foldl A.cut zs = A.cut ((gs.take kk).foldl A.cut zs) g := by rw [List.take_add_one, hg]; simp
              have hzl6 : ((gs.take kk).foldl A.cut zs).length ≤ 400 := by
                have : kk = 0 := by omega
                subst this
                simp
                omega
              have h81 := HF8.out kk g hg
              have hhas3 := has_row (cap := cp6) HA6.out.row (by omega) g
              have hcut := lcut_any (cap := cp6) HA6.out.row (by omega) g
              rw [h81] at hhas3
              rw [← hstep] at hcut
              have HSt : Hid _ := hstep
              clear hstep h81 hg
              generalize (gs.take kk).foldl A.cut zs = zk at *
              obtain ⟨zk1, hzk1⟩ : ∃ y, y = (gs.take (kk + 1)).foldl A.cut zs := ⟨_, rfl⟩
              rw [← hzk1] at hcut
              have HZk : Hid (zk1 = (gs.take (kk + 1)).foldl A.cut zs) := hzk1
              clear hzk1 HSt
              subst e2
              go_wp2_with (first
                | (go_at_call 6; refine Calls.mono hhas3 ?_; clear hhas3; rintro ee w3 ⟨rfl, rfl⟩)
                | (go_at_call 8; refine Calls.mono hcut ?_; clear hcut; rintro ee w5 ⟨ad5, cp5, rfl, hr5, hb5⟩; have H5 : Hid (Beside (AE e (2 * k + 2) s') ad5 cp5 zk1 (fun j => w1.heap.size ≤ j) w5) := (HA6.out.set (fun j hj => Nat.le_trans HB6.out.size hj) hr5 hb5); have HB5 : Hid (Below w1.heap.size w1 w5) := (below_trans' HB6.out hb5); have HR5 : Hid (RowIn Value.string w5 (some ⟨g2, o2, none⟩) gs) := (HR6.out.later hb5); clear hr5 hb5))
              go_roundw
              case rel => exact ⟨kk + 1, ad5, cp5, hltk, by go_num, by rw [← HZk.out], by rw [← HZk.out]; exact H5.out, HB5.out, HR5.out⟩
              case measure => simp [intOf]; omega
            · have hkk' : kk = gs.length := by omega
              subst hkk'
              rw [List.take_length] at *
              have cz6 : wr.cell? ⟨gg, off + k, none⟩ = some (.string z) := (cell_later HB6.out HCz.out)
              generalize gs.foldl A.cut zs = zf at *
              obtain ⟨D1, g1, gA, gR⟩ := HA6.out
              have HG1 : Hid (∀ g, D1 g → (w1.heap.size ≤ g) ∧ g < wr.heap.size) := g1
              have HGA : Hid (AE e (2 * k + 2) s' D1 wr) := gA
              have HGR : Hid (Row (fun g => (w1.heap.size ≤ g) ∧ ¬ D1 g) wr ad6 cp6 zf) := gR
              clear g1 gA gR
              go_wp2_with (first
                | (at_builtin; go_must (refine wpList_append_row (ks := [z]) rfl _ _ rfl rfl (HGR.out.below ((Below.refl _ _).alloc (Nat.le_refl _) _)) rfl (src_one _ z) (by simp; omega) ?_); intro a5 n5 w5 hr5 hk5; have h5 := Beside.grow (fun g hg => ⟨(HG1.out g hg).1, Nat.lt_of_lt_of_le (HG1.out g hg).2 (by simp)⟩) (HGA.out.below ((Below.refl _ _).alloc (Nat.le_refl _) _)) (fun j hj => Nat.le_trans HB6.out.size (Nat.le_trans (by simp) hj)) hr5 hk5; have HB5 : Hid (Below w1.heap.size w1 w5) := ((((Keeps.of_below (D := fun j => w1.heap.size ≤ j) HB6.out).alloc _).trans h5.2).below (Nat.le_refl _) (fun _ h => h)); have H5 : Hid _ := h5.1; have hln := h5.1.len (by omega); rw [hlen] at hln; clear hr5 hk5 h5)
                | (go_at_call 9; refine Calls.mono hln ?_; clear hln; rintro ee w7 ⟨rfl, h7, hb7⟩; have H7 : Hid (Beside (AE e (2 * k + 2) s') a5 n5 (zf ++ [z]) (fun j => w1.heap.size ≤ j) w7) := h7; have HB7 : Hid (Below w1.heap.size w1 w7) := (below_trans' HB5.out hb7); clear h7 hb7))
              go_roundw
              case rel => exact ⟨k + 1, s', a5, n5, zf ++ [z], hlt, by go_num, by simp, HOk2.out, HCn.out, by simp; omega, H7.out, HB7.out⟩
              case measure => simp [intOf]; omega
      · have hk' : k = z1.length := by omega
        subst hk'
        clear hA hB
        go_wp2_with fail
        go_loopw [12] (fun i wr' => ∃ k : Nat, k ≤ zs.length ∧ i = .int .i64 k ∧ Beside (AE e (2 * z1.length) s) ad cp zs (fun j => w1.heap.size ≤ j) wr' ∧ Below w1.heap.size w1 wr') (fun i _ => zs.length - (intOf i).toNat)
        case atStart => exact ⟨0, Nat.zero_le _, rfl, HA.out, HB.out⟩
        case round =>
          obtain ⟨k, hk, rfl, hA, hB⟩ := hrel
          have HA2 : Hid (Beside (AE e (2 * z1.length) s) ad cp zs (fun j => w1.heap.size ≤ j) wr) := hA
          have HB3 : Hid (Below w1.heap.size w1 wr) := hB
          clear hA hB HA HB
          rcases Nat.lt_or_ge k zs.length with hlt | hge
          · obtain ⟨z, hz⟩ : ∃ z, zs[k]? = some z := ⟨_, List.getElem?_eq_getElem hlt⟩
            obtain ⟨gg, off, rfl, cz⟩ := HA2.out.row.at hz
            have hzk : z ∈ A.keys s := by rw [← A.cnt_pos, ← HC.out, A.cnt_pos]; exact List.mem_of_getElem? hz
            have hzs : z.size ≤ 1000 := key_size HA2.out.eng hzk
            have hhas := has_any HA2.out.eng (by omega) z hzs
            rw [inb_yes hzk] at hhas
            clear hz hzk
            go_wp2_with (go_at_call 10; refine Calls.mono hhas ?_; clear hhas; rintro ee w7 ⟨rfl, hb7⟩; have H7 : Hid (Beside (AE e (2 * z1.length) s) (some ⟨gg, off, none⟩) cp zs (fun j => w1.heap.size ≤ j) w7) := (HA2.out.below hb7); have HB7 : Hid (Below w1.heap.size w1 w7) := (below_trans' HB3.out hb7); clear hb7)
            go_roundw
            case rel => exact ⟨k + 1, hlt, by go_num, H7.out, HB7.out⟩
            case measure => simp [intOf]; omega
          · have hk' : k = zs.length := by omega
            subst hk'
            go_wp2_with (go_at_call 11; refine (known_any _).mono ?_; rintro ee w8 ⟨rfl, hb8⟩; have HE8 : Hid (Below w1.heap.size w1 w8) := (below_trans' HB3.out hb8); clear hb8)
            go_ret
            exact ⟨rfl, HE8.out⟩

set_option maxRecDepth 100000 in
theorem lifted (os : Os) (started : os.Started) (H : Type) (enc : TypeId × Value → H) :
    ReturnsInHanded {} Try.checked os 3 .any (Rows.tinylfuToldSpec.pre6 enc Try.prog Try.f3 Rows.tinylfuToldRow.domain false) (Rows.tinylfuToldSpec.post enc Try.prog Try.f3 false true false false) := by
  refine returnsInHanded_of_change_sized (C := Try.checked) own started (by kernel_rfl) Try.func3
    (ChangeSpec.witness6 (enc := enc) (C := Try.checked) false ⟨#[], #[.int .i64 0, .slice none 0 0], []⟩ 8 (by kernel_rfl) (by kernel_rfl) (by kernel_rfl) (by kernel_rfl)) ?_
  intro W base args ds gs before hval0 hW hcnd hsz0 _
  have hval : ∀ (j : Nat) t v, Try.f3.params[j]? = some t → args[j]? = some v → Value.okWide Try.prog W .any base t v := hval0
  have hsz : (DataW.weightsEach Try.prog (Try.f3.params.toList ++ Rows.tinylfuToldSpec.plain.varTypes Try.prog) (ds ++ gs)).all (· ≤ reachBytes) = true := hsz0
  have hW' := hW
  obtain ⟨p, q, hA0, hV, rfl, hfz, hnd⟩ := hW
  have hA : DataW.TrodAll enc Try.prog W 0 (fun _ => true) true Try.f3.params.toList args.toList ds p := hA0
  rw [Try.params3] at hA hval hsz
  obtain ⟨v0, vs0, d0, ds0, p0, q0, hargs, rfl, rfl, h0, s0⟩ := trodAll_cons hA
  obtain ⟨v1, vs1, d1, ds1, p1, q1, rfl, rfl, rfl, h1, s1⟩ := trodAll_cons s0
  obtain ⟨rfl, rfl, rfl⟩ := trodAll_nil s1
  obtain rfl : args = #[v0, v1] := by cases args; simp_all
  obtain ⟨rfl, rfl⟩ := trodVars_none hV
  obtain ⟨a0, rfl, rfl, rfl, w0⟩ := open_int Try.underlying3 (hval 0 3 v0 rfl rfl) h0
  obtain ⟨a1, len1, cap1, rfl⟩ := okWide_slice Try.underlying22 (hval 1 22 v1 rfl rfl)
  have k1 := h1
  have lt1 : ∀ x ∈ p1, x.block < W.heap.size := by obtain ⟨m, hm⟩ := k1; exact DataW.trod_lt m _ _ _ hm
  obtain ⟨z1, e1, m1, r1, x1⟩ := open_texts h1
  replace x1 : ∀ z ∈ z1, z.size ≤ 140737488351232 := fun z hz => reach_first (reach_tail hsz) (x1 z hz)
  clear hA0 hval0 hsz0
  refine (walk W a0 w0 a1 len1 cap1 z1 e1 m1 r1 x1).mono fun e W' ⟨he, bel⟩ => ?_
  subst he
  exact ⟨_, rfl, _, _, _, [], _, [], hW', trodAll_mk1 (shut_bool Try.underlying4 _), (trodAll_cons_mk (shut_int Try.underlying3 w0) (trodAll_cons_mk (Below.trod laidOut (by kernel_rfl) (of_decide_eq_true (by kernel_rfl)) k1 bel lt1) trodAll_mk0)), rfl, bel.frame _, fun h => by cases h⟩

theorem over : Rows.tinylfuToldRow.holds Try.pinned (OpenSpec.ofChange Rows.tinylfuToldSpec) :=
  OpenClaim.holds_of_wide 3 Try.f3 rfl rfl rfl rfl rfl rfl rfl ⟨rfl, rfl, rfl, rfl, rfl⟩ rfl rfl rfl rfl rfl (by kernel_rfl) Try.func3 (by kernel_rfl)
    (of_decide_eq_true (by kernel_rfl)) (by unfold Func.isWrapper; first | (rw [if_pos (by decide +kernel)]; kernel_rfl) | (rw [if_neg (by decide +kernel)]; exact ⟨rfl, rfl⟩))
    (fun os started H enc _ => lifted os started H enc)
end Go.Proofs.Ytcphhlfbjkeikaa.tinylfuTold
namespace Go.Proofs.Ytcphhlfbjkeikaa
/-- the given statement -/
theorem tinylfuTold_holds : Rows.TinylfuToldSaid := tinylfuTold.over
#print axioms tinylfuTold_holds
end Go.Proofs.Ytcphhlfbjkeikaa
