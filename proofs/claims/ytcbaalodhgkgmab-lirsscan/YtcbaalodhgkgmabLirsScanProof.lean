/- Hot keys stay, however many others come once: the law returns true for every room and every row of keys, and its arguments read as they did. -/
import Derived.Test.YtcbaalodhgkgmabRows
import Derived.Test.YtcbaalodhgkgmabAj
import Derived.WalkKit
import Derived.ProofKit
import Derived.OpenShut
import Derived.ShutString
import Derived.ChangeOld
import Derived.Below
import Derived.Carry
import Derived.SizedLaws
import Derived.LaidMore
import Derived.Laws.BytesString
namespace Go.Proofs.Ytcbaalodhgkgmab.lirsScan
open Go.ChangeShapes Go.WideShapes Go.ChangeAt Go.RowKit
open Go.ChangeMaps (open_string shut_string)
set_option linter.unusedVariables false

theorem own : ownKnob Try.prog.godebug = none := by kernel_rfl
theorem laidOut : laidOutB Try.prog = true := by kernel_rfl
theorem has_row {w : World} {ad : Option Addr} {cap : Nat} {zs : List ByteArray} (h : RowIn Value.string w ad zs) (hm : zs.length ≤ 1000) (key : ByteArray) :
    Calls Try.prog 22 #[.slice ad zs.length cap, .string key] w fun e w' => e = .returned (.bool (inb key zs)) ∧ w' = w := lhas_any h (by unfold maxLen; omega) key
section
variable {H : Type} {enc : TypeId × Value → H} {W : World} {a : Option Addr} {len cap : Nat} {d : DataW H} {ps : List MemPlace}
theorem cap_texts (h : DataW.Trod enc Try.prog W 0 (fun _ => true) true 23 (.slice a len cap) d ps) : len ≤ cap ∧ cap ≤ maxLen := by
  obtain ⟨fuel, hf⟩ := h
  rcases Go.Deep.open_strs Try.underlying23 Try.underlying9 (by kernel_rfl) hf with ⟨hcs, _⟩ | ⟨x, l, c, m, Sx, hcs, _, hl, hm, hmm, hd, hcell⟩
  · simp [Value.cells] at hcs
    obtain ⟨rfl, rfl, rfl⟩ := hcs
    exact ⟨Nat.zero_le _, Nat.zero_le _⟩
  · simp [Value.cells] at hcs
    obtain ⟨rfl, rfl, rfl⟩ := hcs
    exact ⟨by omega, by omega⟩
end
theorem rowIn_take {w : World} {ad : Option Addr} {zs : List ByteArray} (h : RowIn Value.string w ad zs) (k : Nat) : RowIn Value.string w ad (zs.take k) := by
  rcases h with h | ⟨g, off, e, h⟩
  · exact .inl (by rw [h]; simp)
  · refine .inr ⟨g, off, e, fun i z hz => h i z ?_⟩
    rw [List.getElem?_take] at hz
    split at hz
    · exact hz
    · cases hz
theorem lhas_of {w : World} {ad : Option Addr} {cap n : Nat} {zs : List ByteArray} (h : RowIn Value.string w ad zs) (hn : zs.length = n) (hm : n ≤ 9223372036854775807) (hx : zs.length ≤ maxLen) (key : ByteArray) (v : Bool) (hv : inb key zs = v) :
    Calls Try.prog 22 #[.slice ad n cap, .string key] w fun e w' => e = .returned (.bool v) ∧ w' = w := by
  subst hn hv
  exact lhas_any h hx key

/-- the k-th hot key -/
def hk (k : Nat) : ByteArray := ⟨#[35, UInt8.ofNat (48 + k)]⟩
def hks (m : Nat) : List ByteArray := (List.range m).map hk
theorem hks_len (m : Nat) : (hks m).length = m := by simp [hks]
theorem hks_succ (m : Nat) : hks (m + 1) = hks m ++ [hk m] := by simp [hks, List.range_succ]
theorem hk_size (k : Nat) : (hk k).size = 2 := rfl
theorem hk_inj {i j : Nat} (hi : i < 100) (hj : j < 100) (h : hk i = hk j) : i = j := by
  have h1 : UInt8.ofNat (48 + i) = UInt8.ofNat (48 + j) := by
    have h2 := congrArg (fun b : ByteArray => b.data.toList) h
    simpa [hk] using h2
  have h3 := congrArg UInt8.toNat h1
  simp at h3
  omega
theorem hk_new {m : Nat} (h : m < 100) : hk m ∉ hks m := by
  intro hm
  obtain ⟨i, hi, he⟩ := List.mem_map.1 hm
  have h1 := List.mem_range.1 hi
  have := hk_inj (by omega) h he
  omega
theorem conv_two {W : World} {a v : Nat} (h0 : W.cell? ⟨a, 0, none⟩ = some (.int .u8 35)) (h1 : W.cell? ⟨a, 1, none⟩ = some (.int .u8 (48 + (v : Int)))) : (convert 35 9 (.slice (some ⟨a, 0, none⟩) 2 2)).run Try.prog W = .ok (.string (hk v)) W := by
  rw [run_convert_bytes_string _ 35 9 5 _ 2 2 Try.underlying35 Try.underlying5 Try.underlying9, run_bytesToString _ _ 2 2 [35, 48 + (v : Int)]]
  · show _ = Result.ok (Value.string ⟨#[35, UInt8.ofNat (48 + v)]⟩) W
    have : (48 + (v : Int)).toNat = 48 + v := by omega
    simp only [List.foldl_cons, List.foldl_nil, this]
    rfl
  · simp [loadCells, loadCellsFrom, Addr.add_lit, h0, h1]
theorem hots_all (l : List ByteArray) (c : Nat) : A.hots (⟨l, [], [], c⟩ : Stt) = l := by
  unfold A.hots
  rw [List.filter_eq_self]
  intro x _
  simp [A.isHot]
theorem scan_start {c m : Nat} {zs : List ByteArray} (hok : A.Ok (⟨hks m, [], [], c⟩ : Stt)) (hm : m = c - max 1 (c / 10)) : A.Scan (⟨hks m, [], [], c⟩ : Stt) (hks m) zs 0 :=
  ⟨hok, hots_all _ _, by rw [hks_len, hm]; rfl, fun k h => absurd h List.not_mem_nil, fun k h => absurd h List.not_mem_nil⟩
theorem hks_has {m : Nat} {t : Stt} {zs : List ByteArray} {n : Nat} (h : A.Scan t (hks m) zs n) {z : ByteArray} (hz : z ∈ hks m) : z ∈ A.keys t := A.mem_keys.2 (.inr (by rw [h.hot]; exact hz))

theorem bacc_goes {D : Nat → Prop} {w : World} {e b : Nat} {s : Stt} {ad : Option Addr} {cap : Nat} {zs : List ByteArray} (H : Beside (AE e b s) ad cap zs D w) (hok : A.Ok s) (hD : ∀ k, w.heap.size ≤ k → D k) (hb : b ≤ 600000) (key : ByteArray) (hk : key.size ≤ 1000) :
    Calls Try.prog 9 #[.pointer (some ⟨e, 0, none⟩), .string key] w fun ee w' => ∃ v u, ee = .returned (.tuple #[.bool v, u]) ∧ Beside (AE e (b + 2) (A.access s key).2.2) ad cap zs D w' ∧ Keeps D w w' := by
  refine (H.acc hok hD hb key hk).mono ?_
  rintro ee w' ⟨ad3, cap3, rfl, _, h1, h2⟩
  exact ⟨_, _, rfl, h1, h2⟩
theorem hks_size {m : Nat} {z : ByteArray} (h : z ∈ hks m) : z.size ≤ 1000 := by
  obtain ⟨i, _, rfl⟩ := List.mem_map.1 h
  rw [hk_size]; omega

set_option maxRecDepth 20000 in
set_option maxHeartbeats 1500000 in
theorem walk (w : World) (a0 : Int) (w0 : (Lit.int .i64 a0).wf = true) (a1 : Option Addr) (len1 cap1 : Nat) (z1 : List ByteArray) (e1 : z1.length = len1) (m1 : len1 ≤ maxLen) (r1 : RowIn Value.string w a1 z1) (x1 : ∀ z ∈ z1, z.size ≤ 140737488351232) (p1 : len1 ≤ cap1 ∧ cap1 ≤ maxLen) :
    Calls Try.prog 4 #[.int .i64 a0, .slice a1 len1 cap1] w fun e w' => e = .returned (.bool true) ∧ Below w.heap.size w w' := by
  subst e1
  obtain ⟨b0, b1⟩ := bounds_i64 w0
  have hlg := long_any (cap := cap1) r1 m1 x1
  have M1 : z1.length ≤ 9223372036854775807 := by unfold maxLen at m1; omega
  have M3 : cap1 ≤ 9223372036854775807 := by have := p1.2; unfold maxLen at this; omega
  have M4 : z1.length ≤ cap1 := p1.1
  have HR : Hid (RowIn Value.string w a1 z1) := r1
  clear r1 x1 p1
  by_cases hr1 : a0 < 2
  · clear hlg
    go_enter Try.func4, Try.ntmps4
    go_wp2_with fail
    go_ret
    exact ⟨rfl, Below.refl _ _⟩
  by_cases hr2 : 60 < a0
  · clear hlg
    go_enter Try.func4, Try.ntmps4
    go_wp2_with fail
    go_ret
    exact ⟨rfl, Below.refl _ _⟩
  cases hl : lng z1 with
  | true =>
    rw [hl] at hlg
    go_enter Try.func4, Try.ntmps4
    go_wp2_with (go_at_call 20; refine Calls.mono hlg ?_; clear hlg; rintro ee w1 ⟨rfl, rfl⟩)
    go_ret
    exact ⟨rfl, Below.refl _ _⟩
  | false =>
    rw [hl] at hlg
    obtain ⟨hz1, hz2⟩ := lng_no hl
    have HZ : Hid (∀ z ∈ z1, z.size ≤ 40) := hz2
    have hnew := new_any w (fun k => w.heap.size ≤ k) (fun _ h => h) a0
    have hheld : ((heldC a0 : Nat) : Int) = a0 := by unfold heldC; omega
    clear hl hz2
    go_enter Try.func4, Try.ntmps4
    go_wp2_with (first
      | (go_at_call 20; refine Calls.mono hlg ?_; clear hlg; rintro ee w1 ⟨rfl, rfl⟩)
      | (go_at_call 21; refine Calls.mono hnew ?_; clear hnew; rintro ee w2 ⟨e, rfl, h2, hk2⟩; have H2 : Hid (AE e 0 (A.start (heldC a0)) (fun k => w1.heap.size ≤ k) w2) := h2; have HB2 : Hid (Below w1.heap.size w1 w2) := (hk2.below (Nat.le_refl _) (fun _ h => h)); clear h2 hk2))
    have HH : Hid (((heldC a0 : Nat) : Int) = a0) := hheld
    obtain ⟨c, hc⟩ : ∃ c, c = heldC a0 := ⟨_, rfl⟩
    have hca : a0 = (c : Nat) := by omega
    have hc2 : 2 ≤ c := by omega
    have hc60 : c ≤ 60 := by omega
    have HS0 : Hid (A.Ok (A.start c : Stt)) := by
      show A.Ok (A.start c : Stt)
      rw [hc]
      exact A.start_ok (heldC_in a0).1 (heldC_in a0).2
    rw [← hc] at H2
    clear hc hheld HH
    subst hca
    obtain ⟨m, hm⟩ : ∃ m, m = c - max 1 (c / 10) := ⟨_, rfl⟩
    have hm60 : m < 60 := by omega
    have HM : Hid (m = c - max 1 (c / 10)) := hm
    have hq : IntKind.i64.wrap (Int.tdiv (c : Int) 10) = ((c / 10 : Nat) : Int) := by rw [IntKind.wrap_i64, Int.tdiv_eq_ediv_of_nonneg (by omega)]; omega
    have hmx : max (1 : Int) ((c / 10 : Nat) : Int) = ((max 1 (c / 10) : Nat) : Int) := by omega
    have hsb : (c : Int) - ((max 1 (c / 10) : Nat) : Int) = (m : Nat) := by omega
    go_loopw [6, 7, 8] (fun rv i kv wr => ∃ (k : Nat) (ad : Option Addr) (cp : Nat), k ≤ m ∧ i = .int .i64 k ∧ rv = .slice ad (hks k).length cp ∧ A.Ok (⟨hks k, [], [], c⟩ : Stt) ∧ Beside (AE e (2 * k) (⟨hks k, [], [], c⟩ : Stt)) ad cp (hks k) (fun j => w1.heap.size ≤ j) wr ∧ Below w1.heap.size w1 wr) (fun _ i _ _ => m - (intOf i).toNat)
    case atStart => exact ⟨0, none, 0, Nat.zero_le _, rfl, rfl, HS0.out, H2.out.beside, HB2.out⟩
    case round =>
      obtain ⟨k, ad, cp, hk', rfl, rfl, hok, hA, hB⟩ := hrel
      have HB : Hid (Below w1.heap.size w1 wr) := hB
      have HA : Hid (Beside (AE e (2 * k) (⟨hks k, [], [], c⟩ : Stt)) ad cp (hks k) (fun j => w1.heap.size ≤ j) wr) := hA
      have HOk : Hid (A.Ok (⟨hks k, [], [], c⟩ : Stt)) := hok
      clear hA hB hok
      rcases Nat.lt_or_ge k m with hlt | hge
      · obtain ⟨x1, x2⟩ : A.access (⟨hks k, [], [], c⟩ : Stt) (hk k) = (false, [], ⟨hks (k + 1), [], [], c⟩) ∧ A.Ok (⟨hks (k + 1), [], [], c⟩ : Stt) := by
          have h1 := A.hot_next (s := (⟨hks k, [], [], c⟩ : Stt)) rfl (hk_new (by omega : k < 100)) (by rw [hks_len]; have := HM.out; omega)
          rw [← hks_succ] at h1
          have h2 := (A.acc_any HOk.out (hk k)).1
          rw [h1] at h2
          exact ⟨h1, h2⟩
        have HX2 : Hid (A.Ok (⟨hks (k + 1), [], [], c⟩ : Stt)) := x2
        have HAl : Hid (Beside (AE e (2 * k) (⟨hks k, [], [], c⟩ : Stt)) ad cp (hks k) (fun j => w1.heap.size ≤ j) (wr.alloc (.cells #[.int .u8 35, .int .u8 (48 + (k : Int))] 5))) := HA.out.below ((Below.refl _ _).alloc (Nat.le_refl _) _)
        have HBl : Hid (Below w1.heap.size w1 (wr.alloc (.cells #[.int .u8 35, .int .u8 (48 + (k : Int))] 5))) := HB.out.alloc HB.out.size _
        have hacc := HAl.out.acc HOk.out (fun j hj => Nat.le_trans HBl.out.size hj) (by omega) (hk k) (by rw [hk_size]; omega)
        rw [x1] at hacc
        have hpc := conv_two (W := wr.alloc (.cells #[.int .u8 35, .int .u8 (48 + (k : Int))] 5)) (a := wr.heap.size) (v := k) (by rw [cell_of_block (heap_alloc_new wr _)]; rfl) (by rw [cell_of_block (heap_alloc_new wr _)]; rfl)
        have hkz : (hk k).size = 2 := hk_size k
        have HS : Hid (hks (k + 1) = hks k ++ [hk k]) := hks_succ k
        have HLn : Hid ((hks k).length = k) := hks_len k
        have hln60 : (hks k).length < 60 := by rw [hks_len]; omega
        clear x1 x2
        generalize hy1 : hks (k + 1) = zs' at *
        have HY1 : Hid (hks (k + 1) = zs') := hy1
        clear hy1
        generalize hks k = zs at *
        generalize hk k = z at *
        go_wp2_with (first
          | (go_at_call 9; refine Calls.mono hacc ?_; clear hacc; rintro ee w4 ⟨ad4, cap4, rfl, -, h4, hk4⟩; obtain ⟨D1, g1, gA, gR⟩ := h4; have HG1 : Hid (∀ g, D1 g → (w1.heap.size ≤ g) ∧ g < w4.heap.size) := g1; have HGA : Hid (AE e (2 * k + 2) (⟨zs', [], [], c⟩ : Stt) D1 w4) := gA; have HGR : Hid (Row (fun g => (w1.heap.size ≤ g) ∧ ¬ D1 g) w4 ad cp zs) := gR; have HB4 : Hid (Below w1.heap.size w1 w4) := (((Keeps.of_below (D := fun j => w1.heap.size ≤ j) HBl.out).trans hk4).below (Nat.le_refl _) (fun _ h => h)); clear g1 gA gR hk4)
          | (at_builtin; go_must (refine wpList_append_row (ks := [z]) rfl _ _ rfl rfl (HGR.out.below ((Below.refl _ _).alloc (Nat.le_refl _) _)) rfl (src_one _ z) (by simp; omega) ?_); intro a5 n5 w5 hr5 hk5; have h5 := Beside.grow (fun g hg => ⟨(HG1.out g hg).1, Nat.lt_of_lt_of_le (HG1.out g hg).2 (by simp)⟩) (HGA.out.below ((Below.refl _ _).alloc (Nat.le_refl _) _)) (fun j hj => Nat.le_trans HB4.out.size (Nat.le_trans (by simp) hj)) hr5 hk5; have H5 : Hid (Beside (AE e (2 * k + 2) (⟨zs', [], [], c⟩ : Stt)) a5 n5 (zs ++ [z]) (fun j => w1.heap.size ≤ j) w5) := h5.1; have HB5 : Hid (Below w1.heap.size w1 w5) := ((((Keeps.of_below (D := fun j => w1.heap.size ≤ j) HB4.out).alloc _).trans h5.2).below (Nat.le_refl _) (fun _ h => h)); clear hr5 hk5 h5))
        go_roundw
        case rel => exact ⟨k + 1, a5, n5, hlt, by go_num, by rw [HY1.out, HS.out]; simp, by rw [HY1.out]; exact HX2.out, by rw [HY1.out]; rw [← HS.out] at H5; exact H5.out, HB5.out⟩
        case measure => simp [intOf]; omega
      · have hk2 : m = k := by omega
        subst hk2
        have HT0 : Hid (A.Scan (⟨hks m, [], [], c⟩ : Stt) (hks m) z1 0) := scan_start HOk.out HM.out
        have HSize : Hid (∀ z ∈ hks m, z.size ≤ 1000) := fun z hz => hks_size hz
        have hln60 : (hks m).length < 60 := by rw [hks_len]; omega
        have HL1 : (hks m).length ≤ 9223372036854775807 := by omega
        have HL2 : (hks m).length ≤ maxLen := by unfold maxLen; omega
        clear HOk
        have hne : ¬ ((m : Int) < (c : Int) - max 1 ((c : Int) / 10)) := by omega
        clear hm
        generalize hks m = hs at *
        go_wp2_with fail
        go_loopw [9] (fun i wr' => ∃ (k : Nat) (t : Stt), k ≤ z1.length ∧ i = .int .i64 k ∧ A.Scan t hs z1 k ∧ t.c = c ∧ Beside (AE e (2 * m + 2 * k) t) ad cp hs (fun j => w1.heap.size ≤ j) wr' ∧ Below w1.heap.size w1 wr') (fun i _ => z1.length - (intOf i).toNat)
        case atStart => exact ⟨0, _, Nat.zero_le _, rfl, HT0.out, rfl, HA.out, HB.out⟩
        case round =>
          clear HA HB HT0
          obtain ⟨k, t, hk, rfl, hI, hC, hA, hB⟩ := hrel
          have HU : Hid (A.Scan t hs z1 k) := hI
          have HC : Hid (t.c = c) := hC
          have HA : Hid (Beside (AE e (2 * m + 2 * k) t) ad cp hs (fun j => w1.heap.size ≤ j) _) := hA
          have HV : Hid (Below w1.heap.size w1 _) := hB
          clear hI hC hA hB
          rcases Nat.lt_or_ge k z1.length with hlt | hge
          · obtain ⟨y, hy⟩ : ∃ y, z1[k]? = some y := ⟨_, List.getElem?_eq_getElem hlt⟩
            obtain ⟨gg, off, rfl, cy1⟩ := HR.out.at hy
            have cy := cell_later HV.out cy1
            have hys := HZ.out y (List.mem_of_getElem? hy)
            have HY : Hid (z1[k]? = some y) := hy
            clear cy1 hy
            cases hv1 : inb y hs with
            | true =>
              have hh1 := fun W (hW : Below _ _ W) => lhas_of (w := W) (cap := cp) (HA.out.row.later hW) rfl HL1 HL2 y true hv1
              have HH1 : Hid _ := hh1
              clear hv1 hh1
              go_wp2_with fail
              refine region_same (by kernel_rfl) 15 52 rfl (fun j => [(.slice ad hs.length cp : Value), (.slice (some ⟨gg, off, none⟩) z1.length cap1 : Value), (.int .i64 (k : Nat) : Value), (.pointer (some ⟨gg, off + k, none⟩) : Value), (.string y : Value), (.bool true : Value), (.bool true : Value), (undef : Value), (undef : Value), (undef : Value), (undef : Value), (undef : Value), (undef : Value), (undef : Value), (undef : Value), (.bool true : Value)].getD j undef) (lex_of (by kernel_rfl)) (wait_of (by kernel_rfl)) (by simp) ?_ ?_
              · intro i hi a' hst hdep Kc hKc
                have hcase : i = 0 ∨ i = 1 ∨ i = 2 ∨ i = 3 ∨ i = 4 ∨ i = 5 ∨ i = 6 ∨ i = 7 ∨ i = 8 ∨ i = 9 ∨ i = 10 ∨ i = 11 ∨ i = 12 ∨ i = 13 ∨ i = 14 ∨ i = 15 := by omega
                rcases hcase with e1 | e1 | e1 | e1 | e1 | e1 | e1 | e1 | e1 | e1 | e1 | e1 | e1 | e1 | e1 | e1
                · subst e1
                  have oA := hst.at 6 (by omega)
                  simp at oA
                  refine still_op rfl rfl ?_
                  simp [Oper.wp, execOp, Act.eval, go_sem, oA]
                  exact hKc
                · subst e1
                  have o2 := hst.at 1 (by omega)
                  simp at o2
                  refine still_op rfl rfl ?_
                  simp [Oper.wp, execOp, Act.eval, go_sem, o2]
                  exact hKc
                · subst e1
                  have o9 := hst.at 9 (by omega)
                  simp at o9
                  refine still_op rfl rfl ?_
                  simp [Oper.wp, execOp, Act.eval, go_sem, o9]
                  exact hKc
                · subst e1
                  have d1 : a'.tmps[53]?.getD undef = .slice (some ⟨gg, off, none⟩) z1.length cap1 := by simpa using hdep 1 (by kernel_rfl)
                  have d2 : a'.tmps[54]?.getD undef = .int .i64 (k : Nat) := by simpa using hdep 2 (by kernel_rfl)
                  refine still_op rfl rfl ?_
                  simp [Oper.wp, execOp, Act.eval, go_sem, d1, d2, hlt]
                  exact hKc
                · subst e1
                  have d3 : a'.tmps[55]?.getD undef = .pointer (some ⟨gg, off + k, none⟩) := by simpa using hdep 3 (by kernel_rfl)
                  refine still_op rfl rfl ?_
                  simp [Oper.wp, execOp, Act.eval, go_sem, d3, cy]
                  exact hKc
                · subst e1
                  have d0 : a'.tmps[52]?.getD undef = .slice ad hs.length cp := by simpa using hdep 0 (by kernel_rfl)
                  have d4 : a'.tmps[56]?.getD undef = .string y := by simpa using hdep 4 (by kernel_rfl)
                  refine still_op rfl rfl ?_
                  simp [Oper.wp, execOp, Act.eval, go_sem, d0, d4]
                  refine Calls.mono (HH1.out _ (Below.refl _ _).drew) ?_
                  rintro ee w5 ⟨rfl, rfl⟩
                  exact hKc
                · subst e1
                  have d5 : a'.tmps[57]?.getD undef = .bool true := by simpa using hdep 5 (by kernel_rfl)
                  refine still_op rfl rfl ?_
                  simp [Oper.wp, execOp, Act.eval, go_sem, d5]
                  exact hKc
                · subst e1
                  exact still_off rfl rfl rfl rfl (hdep 6 (by kernel_rfl)) rfl hKc
                · subst e1
                  exact still_off rfl rfl rfl rfl (hdep 6 (by kernel_rfl)) rfl hKc
                · subst e1
                  exact still_off rfl rfl rfl rfl (hdep 6 (by kernel_rfl)) rfl hKc
                · subst e1
                  exact still_off rfl rfl rfl rfl (hdep 6 (by kernel_rfl)) rfl hKc
                · subst e1
                  exact still_off rfl rfl rfl rfl (hdep 6 (by kernel_rfl)) rfl hKc
                · subst e1
                  exact still_off rfl rfl rfl rfl (hdep 6 (by kernel_rfl)) rfl hKc
                · subst e1
                  exact still_off rfl rfl rfl rfl (hdep 6 (by kernel_rfl)) rfl hKc
                · subst e1
                  exact still_off rfl rfl rfl rfl (hdep 6 (by kernel_rfl)) rfl hKc
                · subst e1
                  have d6 : a'.tmps[58]?.getD undef = .bool true := by simpa using hdep 6 (by kernel_rfl)
                  refine still_op rfl rfl ?_
                  simp [Oper.wp, execOp, Act.eval, go_sem, d6]
                  exact hKc
              simp only [fillA, Act.put, List.setIfInBounds_toArray, List.set_cons_succ, List.set_cons_zero, List.getD_cons_zero, List.getD_cons_succ, Nat.reduceAdd, Nat.add_zero]
              go_wp2_with (go_at_call 19; refine (known_any _).mono ?_; rintro ee w6 ⟨rfl, hb6⟩; have HE6 : Hid (Below w1.heap.size w1 w6) := (below_trans' (below_trans' HV.out (by first | exact Below.refl _ _ | exact (Below.refl _ _).drew | exact ((Below.refl _ _).drew).drew)) hb6); clear hb6)
              go_ret
              exact ⟨rfl, HE6.out⟩
            | false =>
              have hh1 := fun W (hW : Below _ _ W) => lhas_of (w := W) (cap := cp) (HA.out.row.later hW) rfl HL1 HL2 y false hv1
              have HH1 : Hid _ := hh1
              have hn1 : y ∉ hs := fun h => by rw [inb_yes h] at hv1; cases hv1
              have HN1 : Hid (y ∉ hs) := hn1
              clear hv1 hn1 hh1
              cases hv2 : inb y (z1.take k) with
              | true =>
                have hh2 := fun W (hW : Below _ _ W) => lhas_of (w := W) (cap := cap1) (rowIn_take ((HR.out.later HV.out).later hW) k) (List.length_take_of_le hk) (by omega) (by rw [List.length_take_of_le hk]; exact Nat.le_trans hk m1) y true hv2
                have HH2 : Hid _ := hh2
                clear hv2 hh2
                go_wp2_with fail
                have hkc : (k : Int) ≤ (cap1 : Int) := by omega
                refine region_same (by kernel_rfl) 15 52 rfl (fun j => [(.slice ad hs.length cp : Value), (.slice (some ⟨gg, off, none⟩) z1.length cap1 : Value), (.int .i64 (k : Nat) : Value), (.pointer (some ⟨gg, off + k, none⟩) : Value), (.string y : Value), (.bool false : Value), (.bool false : Value), (.slice (some ⟨gg, off, none⟩) z1.length cap1 : Value), (.int .i64 (k : Nat) : Value), (.slice (some ⟨gg, off, none⟩) k cap1 : Value), (.slice (some ⟨gg, off, none⟩) z1.length cap1 : Value), (.int .i64 (k : Nat) : Value), (.pointer (some ⟨gg, off + k, none⟩) : Value), (.string y : Value), (.bool true : Value), (.bool true : Value)].getD j undef) (lex_of (by kernel_rfl)) (wait_of (by kernel_rfl)) (by simp) ?_ ?_
                · intro i hi a' hst hdep Kc hKc
                  have hcase : i = 0 ∨ i = 1 ∨ i = 2 ∨ i = 3 ∨ i = 4 ∨ i = 5 ∨ i = 6 ∨ i = 7 ∨ i = 8 ∨ i = 9 ∨ i = 10 ∨ i = 11 ∨ i = 12 ∨ i = 13 ∨ i = 14 ∨ i = 15 := by omega
                  rcases hcase with e1 | e1 | e1 | e1 | e1 | e1 | e1 | e1 | e1 | e1 | e1 | e1 | e1 | e1 | e1 | e1
                  · subst e1
                    have oA := hst.at 6 (by omega)
                    simp at oA
                    refine still_op rfl rfl ?_
                    simp [Oper.wp, execOp, Act.eval, go_sem, oA]
                    exact hKc
                  · subst e1
                    have o2 := hst.at 1 (by omega)
                    simp at o2
                    refine still_op rfl rfl ?_
                    simp [Oper.wp, execOp, Act.eval, go_sem, o2]
                    exact hKc
                  · subst e1
                    have o9 := hst.at 9 (by omega)
                    simp at o9
                    refine still_op rfl rfl ?_
                    simp [Oper.wp, execOp, Act.eval, go_sem, o9]
                    exact hKc
                  · subst e1
                    have d1 : a'.tmps[53]?.getD undef = .slice (some ⟨gg, off, none⟩) z1.length cap1 := by simpa using hdep 1 (by kernel_rfl)
                    have d2 : a'.tmps[54]?.getD undef = .int .i64 (k : Nat) := by simpa using hdep 2 (by kernel_rfl)
                    refine still_op rfl rfl ?_
                    simp [Oper.wp, execOp, Act.eval, go_sem, d1, d2, hlt]
                    exact hKc
                  · subst e1
                    have d3 : a'.tmps[55]?.getD undef = .pointer (some ⟨gg, off + k, none⟩) := by simpa using hdep 3 (by kernel_rfl)
                    refine still_op rfl rfl ?_
                    simp [Oper.wp, execOp, Act.eval, go_sem, d3, cy]
                    exact hKc
                  · subst e1
                    have d0 : a'.tmps[52]?.getD undef = .slice ad hs.length cp := by simpa using hdep 0 (by kernel_rfl)
                    have d4 : a'.tmps[56]?.getD undef = .string y := by simpa using hdep 4 (by kernel_rfl)
                    refine still_op rfl rfl ?_
                    simp [Oper.wp, execOp, Act.eval, go_sem, d0, d4]
                    refine Calls.mono (HH1.out _ (Below.refl _ _).drew) ?_
                    rintro ee w5 ⟨rfl, rfl⟩
                    exact hKc
                  · subst e1
                    have d5 : a'.tmps[57]?.getD undef = .bool false := by simpa using hdep 5 (by kernel_rfl)
                    refine still_op rfl rfl ?_
                    simp [Oper.wp, execOp, Act.eval, go_sem, d5]
                    exact hKc
                  · subst e1
                    have o2 := hst.at 1 (by omega)
                    simp at o2
                    refine still_on rfl rfl rfl rfl (hdep 6 (by kernel_rfl)) ?_
                    simp [Oper.wp, execOp, Act.eval, go_sem, o2]
                    exact hKc
                  · subst e1
                    have o9 := hst.at 9 (by omega)
                    simp at o9
                    refine still_on rfl rfl rfl rfl (hdep 6 (by kernel_rfl)) ?_
                    simp [Oper.wp, execOp, Act.eval, go_sem, o9]
                    exact hKc
                  · subst e1
                    have d7 : a'.tmps[59]?.getD undef = .slice (some ⟨gg, off, none⟩) z1.length cap1 := by simpa using hdep 7 (by kernel_rfl)
                    have d8 : a'.tmps[60]?.getD undef = .int .i64 (k : Nat) := by simpa using hdep 8 (by kernel_rfl)
                    refine still_on rfl rfl rfl rfl (hdep 6 (by kernel_rfl)) ?_
                    simp [Oper.wp, execOp, Act.eval, go_sem, d7, d8, hkc]
                    exact hKc
                  · subst e1
                    have o2 := hst.at 1 (by omega)
                    simp at o2
                    refine still_on rfl rfl rfl rfl (hdep 6 (by kernel_rfl)) ?_
                    simp [Oper.wp, execOp, Act.eval, go_sem, o2]
                    exact hKc
                  · subst e1
                    have o9 := hst.at 9 (by omega)
                    simp at o9
                    refine still_on rfl rfl rfl rfl (hdep 6 (by kernel_rfl)) ?_
                    simp [Oper.wp, execOp, Act.eval, go_sem, o9]
                    exact hKc
                  · subst e1
                    have d10 : a'.tmps[62]?.getD undef = .slice (some ⟨gg, off, none⟩) z1.length cap1 := by simpa using hdep 10 (by kernel_rfl)
                    have d11 : a'.tmps[63]?.getD undef = .int .i64 (k : Nat) := by simpa using hdep 11 (by kernel_rfl)
                    refine still_on rfl rfl rfl rfl (hdep 6 (by kernel_rfl)) ?_
                    simp [Oper.wp, execOp, Act.eval, go_sem, d10, d11, hlt]
                    exact hKc
                  · subst e1
                    have d12 : a'.tmps[64]?.getD undef = .pointer (some ⟨gg, off + k, none⟩) := by simpa using hdep 12 (by kernel_rfl)
                    refine still_on rfl rfl rfl rfl (hdep 6 (by kernel_rfl)) ?_
                    simp [Oper.wp, execOp, Act.eval, go_sem, d12, cy]
                    exact hKc
                  · subst e1
                    have d9 : a'.tmps[61]?.getD undef = .slice (some ⟨gg, off, none⟩) k cap1 := by simpa using hdep 9 (by kernel_rfl)
                    have d13 : a'.tmps[65]?.getD undef = .string y := by simpa using hdep 13 (by kernel_rfl)
                    refine still_on rfl rfl rfl rfl (hdep 6 (by kernel_rfl)) ?_
                    simp [Oper.wp, execOp, Act.eval, go_sem, d9, d13]
                    refine Calls.mono (HH2.out _ (Below.refl _ _).drew) ?_
                    rintro ee w5 ⟨rfl, rfl⟩
                    exact hKc
                  · subst e1
                    have d6 : a'.tmps[58]?.getD undef = .bool false := by simpa using hdep 6 (by kernel_rfl)
                    have d14 : a'.tmps[66]?.getD undef = .bool true := by simpa using hdep 14 (by kernel_rfl)
                    refine still_op rfl rfl ?_
                    simp [Oper.wp, execOp, Act.eval, go_sem, d6, d14]
                    exact hKc
                simp only [fillA, Act.put, List.setIfInBounds_toArray, List.set_cons_succ, List.set_cons_zero, List.getD_cons_zero, List.getD_cons_succ, Nat.reduceAdd, Nat.add_zero]
                go_wp2_with (go_at_call 19; refine (known_any _).mono ?_; rintro ee w6 ⟨rfl, hb6⟩; have HE6 : Hid (Below w1.heap.size w1 w6) := (below_trans' (below_trans' HV.out (by first | exact Below.refl _ _ | exact (Below.refl _ _).drew | exact ((Below.refl _ _).drew).drew)) hb6); clear hb6)
                go_ret
                exact ⟨rfl, HE6.out⟩
              | false =>
                have hh2 := fun W (hW : Below _ _ W) => lhas_of (w := W) (cap := cap1) (rowIn_take ((HR.out.later HV.out).later hW) k) (List.length_take_of_le hk) (by omega) (by rw [List.length_take_of_le hk]; exact Nat.le_trans hk m1) y false hv2
                have HH2 : Hid _ := hh2
                have hn2 : y ∉ z1.take k := fun h => by rw [inb_yes h] at hv2; cases hv2
                have HN2 : Hid (y ∉ z1.take k) := hn2
                have hacc := fun W (hW : Below _ _ W) => bacc_goes (w := W) (HA.out.below hW) HU.out.ok (fun j hj => Nat.le_trans (Nat.le_trans HV.out.size hW.size) hj) (by omega) y (by omega)
                have HAcc : Hid _ := hacc
                clear hv2 hn2 hh2 hacc
                go_wp2_with fail
                have hkc : (k : Int) ≤ (cap1 : Int) := by omega
                refine region_same (by kernel_rfl) 15 52 rfl (fun j => [(.slice ad hs.length cp : Value), (.slice (some ⟨gg, off, none⟩) z1.length cap1 : Value), (.int .i64 (k : Nat) : Value), (.pointer (some ⟨gg, off + k, none⟩) : Value), (.string y : Value), (.bool false : Value), (.bool false : Value), (.slice (some ⟨gg, off, none⟩) z1.length cap1 : Value), (.int .i64 (k : Nat) : Value), (.slice (some ⟨gg, off, none⟩) k cap1 : Value), (.slice (some ⟨gg, off, none⟩) z1.length cap1 : Value), (.int .i64 (k : Nat) : Value), (.pointer (some ⟨gg, off + k, none⟩) : Value), (.string y : Value), (.bool false : Value), (.bool false : Value)].getD j undef) (lex_of (by kernel_rfl)) (wait_of (by kernel_rfl)) (by simp) ?_ ?_
                · intro i hi a' hst hdep Kc hKc
                  have hcase : i = 0 ∨ i = 1 ∨ i = 2 ∨ i = 3 ∨ i = 4 ∨ i = 5 ∨ i = 6 ∨ i = 7 ∨ i = 8 ∨ i = 9 ∨ i = 10 ∨ i = 11 ∨ i = 12 ∨ i = 13 ∨ i = 14 ∨ i = 15 := by omega
                  rcases hcase with e1 | e1 | e1 | e1 | e1 | e1 | e1 | e1 | e1 | e1 | e1 | e1 | e1 | e1 | e1 | e1
                  · subst e1
                    have oA := hst.at 6 (by omega)
                    simp at oA
                    refine still_op rfl rfl ?_
                    simp [Oper.wp, execOp, Act.eval, go_sem, oA]
                    exact hKc
                  · subst e1
                    have o2 := hst.at 1 (by omega)
                    simp at o2
                    refine still_op rfl rfl ?_
                    simp [Oper.wp, execOp, Act.eval, go_sem, o2]
                    exact hKc
                  · subst e1
                    have o9 := hst.at 9 (by omega)
                    simp at o9
                    refine still_op rfl rfl ?_
                    simp [Oper.wp, execOp, Act.eval, go_sem, o9]
                    exact hKc
                  · subst e1
                    have d1 : a'.tmps[53]?.getD undef = .slice (some ⟨gg, off, none⟩) z1.length cap1 := by simpa using hdep 1 (by kernel_rfl)
                    have d2 : a'.tmps[54]?.getD undef = .int .i64 (k : Nat) := by simpa using hdep 2 (by kernel_rfl)
                    refine still_op rfl rfl ?_
                    simp [Oper.wp, execOp, Act.eval, go_sem, d1, d2, hlt]
                    exact hKc
                  · subst e1
                    have d3 : a'.tmps[55]?.getD undef = .pointer (some ⟨gg, off + k, none⟩) := by simpa using hdep 3 (by kernel_rfl)
                    refine still_op rfl rfl ?_
                    simp [Oper.wp, execOp, Act.eval, go_sem, d3, cy]
                    exact hKc
                  · subst e1
                    have d0 : a'.tmps[52]?.getD undef = .slice ad hs.length cp := by simpa using hdep 0 (by kernel_rfl)
                    have d4 : a'.tmps[56]?.getD undef = .string y := by simpa using hdep 4 (by kernel_rfl)
                    refine still_op rfl rfl ?_
                    simp [Oper.wp, execOp, Act.eval, go_sem, d0, d4]
                    refine Calls.mono (HH1.out _ (Below.refl _ _).drew) ?_
                    rintro ee w5 ⟨rfl, rfl⟩
                    exact hKc
                  · subst e1
                    have d5 : a'.tmps[57]?.getD undef = .bool false := by simpa using hdep 5 (by kernel_rfl)
                    refine still_op rfl rfl ?_
                    simp [Oper.wp, execOp, Act.eval, go_sem, d5]
                    exact hKc
                  · subst e1
                    have o2 := hst.at 1 (by omega)
                    simp at o2
                    refine still_on rfl rfl rfl rfl (hdep 6 (by kernel_rfl)) ?_
                    simp [Oper.wp, execOp, Act.eval, go_sem, o2]
                    exact hKc
                  · subst e1
                    have o9 := hst.at 9 (by omega)
                    simp at o9
                    refine still_on rfl rfl rfl rfl (hdep 6 (by kernel_rfl)) ?_
                    simp [Oper.wp, execOp, Act.eval, go_sem, o9]
                    exact hKc
                  · subst e1
                    have d7 : a'.tmps[59]?.getD undef = .slice (some ⟨gg, off, none⟩) z1.length cap1 := by simpa using hdep 7 (by kernel_rfl)
                    have d8 : a'.tmps[60]?.getD undef = .int .i64 (k : Nat) := by simpa using hdep 8 (by kernel_rfl)
                    refine still_on rfl rfl rfl rfl (hdep 6 (by kernel_rfl)) ?_
                    simp [Oper.wp, execOp, Act.eval, go_sem, d7, d8, hkc]
                    exact hKc
                  · subst e1
                    have o2 := hst.at 1 (by omega)
                    simp at o2
                    refine still_on rfl rfl rfl rfl (hdep 6 (by kernel_rfl)) ?_
                    simp [Oper.wp, execOp, Act.eval, go_sem, o2]
                    exact hKc
                  · subst e1
                    have o9 := hst.at 9 (by omega)
                    simp at o9
                    refine still_on rfl rfl rfl rfl (hdep 6 (by kernel_rfl)) ?_
                    simp [Oper.wp, execOp, Act.eval, go_sem, o9]
                    exact hKc
                  · subst e1
                    have d10 : a'.tmps[62]?.getD undef = .slice (some ⟨gg, off, none⟩) z1.length cap1 := by simpa using hdep 10 (by kernel_rfl)
                    have d11 : a'.tmps[63]?.getD undef = .int .i64 (k : Nat) := by simpa using hdep 11 (by kernel_rfl)
                    refine still_on rfl rfl rfl rfl (hdep 6 (by kernel_rfl)) ?_
                    simp [Oper.wp, execOp, Act.eval, go_sem, d10, d11, hlt]
                    exact hKc
                  · subst e1
                    have d12 : a'.tmps[64]?.getD undef = .pointer (some ⟨gg, off + k, none⟩) := by simpa using hdep 12 (by kernel_rfl)
                    refine still_on rfl rfl rfl rfl (hdep 6 (by kernel_rfl)) ?_
                    simp [Oper.wp, execOp, Act.eval, go_sem, d12, cy]
                    exact hKc
                  · subst e1
                    have d9 : a'.tmps[61]?.getD undef = .slice (some ⟨gg, off, none⟩) k cap1 := by simpa using hdep 9 (by kernel_rfl)
                    have d13 : a'.tmps[65]?.getD undef = .string y := by simpa using hdep 13 (by kernel_rfl)
                    refine still_on rfl rfl rfl rfl (hdep 6 (by kernel_rfl)) ?_
                    simp [Oper.wp, execOp, Act.eval, go_sem, d9, d13]
                    refine Calls.mono (HH2.out _ (Below.refl _ _).drew) ?_
                    rintro ee w5 ⟨rfl, rfl⟩
                    exact hKc
                  · subst e1
                    have d6 : a'.tmps[58]?.getD undef = .bool false := by simpa using hdep 6 (by kernel_rfl)
                    have d14 : a'.tmps[66]?.getD undef = .bool false := by simpa using hdep 14 (by kernel_rfl)
                    refine still_op rfl rfl ?_
                    simp [Oper.wp, execOp, Act.eval, go_sem, d6, d14]
                    exact hKc
                simp only [fillA, Act.put, List.setIfInBounds_toArray, List.set_cons_succ, List.set_cons_zero, List.getD_cons_zero, List.getD_cons_succ, Nat.reduceAdd, Nat.add_zero]
                go_wp2_with (go_at_call 9; refine Calls.mono (HAcc.out _ (by first | exact Below.refl _ _ | exact (Below.refl _ _).drew | exact ((Below.refl _ _).drew).drew)) ?_; rintro ee w6 ⟨v6, u6, rfl, h6, hk6⟩; have H6 : Hid (Beside (AE e (2 * m + 2 * k + 2) (A.access t y).2.2) ad cp hs (fun j => w1.heap.size ≤ j) w6) := h6; have HB6 : Hid (Below w1.heap.size w1 w6) := (((Keeps.of_below (D := fun j => w1.heap.size ≤ j) (below_trans' HV.out (by first | exact Below.refl _ _ | exact (Below.refl _ _).drew | exact ((Below.refl _ _).drew).drew))).trans hk6).below (Nat.le_refl _) (fun _ h => h)); clear h6 hk6)
                go_roundw
                case rel => exact ⟨k + 1, _, hlt, by go_num, (A.scan_next HU.out (by rw [HC.out]; omega) HY.out HN2.out HN1.out).1, (A.scan_next HU.out (by rw [HC.out]; omega) HY.out HN2.out HN1.out).2.trans HC.out, H6.out, HB6.out⟩
                case measure => simp [intOf]; omega
          · have hk' : k = z1.length := by omega
            subst hk'
            go_wp2_with fail
            go_loopw [10] (fun i wr' => ∃ (k : Nat), k ≤ hs.length ∧ i = .int .i64 k ∧ Beside (AE e (2 * m + 2 * z1.length) t) ad cp hs (fun j => w1.heap.size ≤ j) wr' ∧ Below w1.heap.size w1 wr') (fun i _ => hs.length - (intOf i).toNat)
            case atStart => exact ⟨0, Nat.zero_le _, rfl, HA.out, HV.out⟩
            case round =>
              clear HA HV
              obtain ⟨k, hk, rfl, hA, hB⟩ := hrel
              have HA : Hid (Beside (AE e (2 * m + 2 * z1.length) t) ad cp hs (fun j => w1.heap.size ≤ j) _) := hA
              have HV : Hid (Below w1.heap.size w1 _) := hB
              clear hA hB
              rcases Nat.lt_or_ge k hs.length with hlt | hge
              · obtain ⟨z, hz⟩ : ∃ z, hs[k]? = some z := ⟨_, List.getElem?_eq_getElem hlt⟩
                obtain ⟨gg, off, rfl, cz⟩ := HA.out.row.at hz
                have hzs := HSize.out z (List.mem_of_getElem? hz)
                have hin : inb z (A.keys t) = true := inb_yes (A.mem_keys.2 (.inr (by rw [HU.out.hot]; exact List.mem_of_getElem? hz)))
                have hhas := has_any HA.out.eng (by omega) z (by omega)
                rw [hin] at hhas
                clear hz hin
                go_wp2_with (go_at_call 13; refine Calls.mono hhas ?_; clear hhas; rintro ee w7 ⟨rfl, hb7⟩; have H7 : Hid (Beside (AE e (2 * m + 2 * z1.length) t) _ cp hs (fun j => w1.heap.size ≤ j) w7) := (HA.out.below hb7); have HB7 : Hid (Below w1.heap.size w1 w7) := (below_trans' HV.out hb7); clear hb7)
                go_roundw
                case rel => exact ⟨k + 1, hlt, by go_num, H7.out, HB7.out⟩
                case measure => simp [intOf]; omega
              · have hk' : k = hs.length := by omega
                subst hk'
                go_wp2_with (go_at_call 19; refine (known_any _).mono ?_; rintro ee w8 ⟨rfl, hb8⟩; have HE8 : Hid (Below w1.heap.size w1 w8) := (below_trans' HV.out hb8); clear hb8)
                go_ret
                exact ⟨rfl, HE8.out⟩

set_option maxRecDepth 100000 in
theorem lifted (os : Os) (started : os.Started) (H : Type) (enc : TypeId × Value → H) :
    ReturnsInHanded {} Try.checked os 4 .any (Rows.lirsScanSpec.pre6 enc Try.prog Try.f4 Rows.lirsScanRow.domain false) (Rows.lirsScanSpec.post enc Try.prog Try.f4 false true false false) := by
  refine returnsInHanded_of_change_sized (C := Try.checked) own started (by kernel_rfl) Try.func4
    (ChangeSpec.witness6 (enc := enc) (C := Try.checked) false ⟨#[], #[.int .i64 0, .slice none 0 0], []⟩ 8 (by kernel_rfl) (by kernel_rfl) (by kernel_rfl) (by kernel_rfl)) ?_
  intro W base args ds gs before hval0 hW hcnd hsz0 _
  have hval : ∀ (j : Nat) t v, Try.f4.params[j]? = some t → args[j]? = some v → Value.okWide Try.prog W .any base t v := hval0
  have hsz : (DataW.weightsEach Try.prog (Try.f4.params.toList ++ Rows.lirsScanSpec.plain.varTypes Try.prog) (ds ++ gs)).all (· ≤ reachBytes) = true := hsz0
  have hW' := hW
  obtain ⟨p, q, hA0, hV, rfl, hfz, hnd⟩ := hW
  have hA : DataW.TrodAll enc Try.prog W 0 (fun _ => true) true Try.f4.params.toList args.toList ds p := hA0
  rw [Try.params4] at hA hval hsz
  obtain ⟨v0, vs0, d0, ds0, p0, q0, hargs, rfl, rfl, h0, s0⟩ := trodAll_cons hA
  obtain ⟨v1, vs1, d1, ds1, p1, q1, rfl, rfl, rfl, h1, s1⟩ := trodAll_cons s0
  obtain ⟨rfl, rfl, rfl⟩ := trodAll_nil s1
  obtain rfl : args = #[v0, v1] := by cases args; simp_all
  obtain ⟨rfl, rfl⟩ := trodVars_none hV
  obtain ⟨a0, rfl, rfl, rfl, w0⟩ := open_int Try.underlying3 (hval 0 3 v0 rfl rfl) h0
  obtain ⟨a1, len1, cap1, rfl⟩ := okWide_slice Try.underlying23 (hval 1 23 v1 rfl rfl)
  have k1 := h1
  have lt1 : ∀ x ∈ p1, x.block < W.heap.size := by obtain ⟨m, hm⟩ := k1; exact DataW.trod_lt m _ _ _ hm
  have p1 := cap_texts h1
  obtain ⟨z1, e1, m1, r1, x1⟩ := open_texts h1
  replace x1 : ∀ z ∈ z1, z.size ≤ 140737488351232 := fun z hz => reach_first (reach_tail hsz) (x1 z hz)
  clear hA0 hval0 hsz0
  refine (walk W a0 w0 a1 len1 cap1 z1 e1 m1 r1 x1 p1).mono fun e W' ⟨he, bel⟩ => ?_
  subst he
  exact ⟨_, rfl, _, _, _, [], _, [], hW', trodAll_mk1 (shut_bool Try.underlying4 _), (trodAll_cons_mk (shut_int Try.underlying3 w0) (trodAll_cons_mk (Below.trod laidOut (by kernel_rfl) (of_decide_eq_true (by kernel_rfl)) k1 bel lt1) trodAll_mk0)), rfl, bel.frame _, fun h => by cases h⟩

theorem over : Rows.lirsScanRow.holds Try.pinned (OpenSpec.ofChange Rows.lirsScanSpec) :=
  OpenClaim.holds_of_wide 4 Try.f4 rfl rfl rfl rfl rfl rfl rfl ⟨rfl, rfl, rfl, rfl, rfl⟩ rfl rfl rfl rfl rfl (by kernel_rfl) Try.func4 (by kernel_rfl)
    (of_decide_eq_true (by kernel_rfl)) (by unfold Func.isWrapper; first | (rw [if_pos (by decide +kernel)]; kernel_rfl) | (rw [if_neg (by decide +kernel)]; exact ⟨rfl, rfl⟩))
    (fun os started H enc _ => lifted os started H enc)
end Go.Proofs.Ytcbaalodhgkgmab.lirsScan
namespace Go.Proofs.Ytcbaalodhgkgmab
/-- the given statement -/
theorem lirsScan_holds : Rows.LirsScanSaid := lirsScan.over
#print axioms lirsScan_holds
end Go.Proofs.Ytcbaalodhgkgmab
