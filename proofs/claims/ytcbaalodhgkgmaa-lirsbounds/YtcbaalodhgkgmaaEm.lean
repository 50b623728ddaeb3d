/- An engine as the machine of chapter 13: Has, Access, Load, Remove, Evict, Room. -/
import Derived.Test.YtcbaalodhgkgmaaEk
namespace Go.Proofs.Ytcbaalodhgkgmaa
open Go.RowKit

/-- whether a key is in a row -/
def inb (key : ByteArray) (zs : List ByteArray) : Bool := decide (0 < A.cnt key zs)
theorem inb_yes {key : ByteArray} {zs : List ByteArray} (h : key ∈ zs) : inb key zs = true := by
  unfold inb
  rw [decide_eq_true_eq]
  exact A.cnt_pos.2 h
theorem inb_no {key : ByteArray} {zs : List ByteArray} (h : key ∉ zs) : inb key zs = false := by
  unfold inb
  rw [decide_eq_false_iff_not, A.cnt_zero.2 h]
  omega
section
variable {D : Nat → Prop} {w w' : World} {e b : Nat} {s : Stt}
theorem get_raw (H : AM e b s D w) (key : ByteArray) (hk : key.size ≤ 1000) :
    ∃ (x : Nat) (v : Ix.Sp) (t : Bool), w.cell? ⟨e, 4, none⟩ = some (.pointer (some ⟨x, 0, none⟩)) ∧ ((v.1 = 0 ↔ key ∉ s.t1) ∧ (v.2.1 = 0 ↔ key ∉ s.b1) ∧ (v.2.2 = 0 ↔ key ∉ s.t2)) ∧ (t = true ↔ ∃ i, i < 3 ∧ key ∈ qs s i) ∧
      ∀ W, Below w.heap.size w W → Calls Try.prog 58 #[.pointer (some ⟨x, 0, none⟩), .string key] W fun ee w' => ee = .returned (.tuple #[Ix.V v, .bool t]) ∧ Below W.heap.size W w' := by
  obtain ⟨L, R, x, m, sp, h, r⟩ := H
  refine ⟨x, trip sp key, (m key).isSome, h.cells.2.2.1, ⟨r.zero (i := 0) (by omega), r.zero (i := 1) (by omega), r.zero (i := 2) (by omega)⟩, ?_, fun W hb => ?_⟩
  · rw [Option.isSome_iff_ne_none, ne_eq, r.none]
    constructor
    · intro h4
      rcases Classical.em (∃ i, i < 3 ∧ key ∈ qs s i) with h5 | h5
      · exact h5
      · exact absurd (fun i hi hk => h5 ⟨i, hi, hk⟩) h4
    · rintro ⟨i, hi, hk⟩ h4
      exact h4 i hi hk
  · have := Ix.get_any (h.below hb).index (by omega) key (by unfold maxLen; omega)
    rw [r.spot key, spOf_get] at this
    rw [r.spot key]
    exact this
theorem known_row (hB : A.Base s) {key : ByteArray} (h : ∃ i, i < 3 ∧ key ∈ qs s i) : key ∈ A.keys s ↔ key ∉ s.t2 := by
  constructor
  · exact fun h1 h2 => hB.ghost h2 h1
  · intro h2
    have := ((keys_all hB).2 key).2 h
    rw [List.mem_append] at this
    exact this.resolve_right h2
set_option maxHeartbeats 1000000 in
theorem hasE (H : AM e b s D w) (hB : A.Base s) (key : ByteArray) (hk : key.size ≤ 1000) :
    Calls Try.prog 30 #[.pointer (some ⟨e, 0, none⟩), .string key] w fun ee w' => ee = .returned (.bool (inb key (A.keys s))) ∧ Below w.heap.size w w' := by
  obtain ⟨x, v, t, c6, hv, ht, hg⟩ := get_raw H key hk
  have HE : Hid (AM e b s D w) := H
  have heo := (EN.cells H).2.2.2.1
  have HG : Hid _ := hg
  cases t with
  | false =>
    have hno : key ∉ A.keys s := by
      intro h
      have := ht.2 (((keys_all hB).2 key).1 (List.mem_append_left _ h))
      cases this
    rw [inb_no hno]
    clear H hg hv ht hB hno
    go_enter Try.func30, Try.ntmps30
    go_wp2_with (first
      | (go_at_call 41; refine (blank_any HE.out).mono ?_; rintro ee w1 ⟨rfl, rfl⟩)
      | (go_at_call 58; refine (HG.out _ (Below.refl _ _)).mono ?_; rintro ee w2 ⟨rfl, hb2⟩))
    go_ret
    exact ⟨rfl, hb2.alloc hb2.size _⟩
  | true =>
    have hkn := known_row hB (ht.1 rfl)
    have hd : inb key (A.keys s) = decide (v.2.2 = 0) := by
      by_cases h0 : v.2.2 = 0
      · rw [decide_eq_true h0]
        exact inb_yes (hkn.2 (hv.2.2.1 h0))
      · rw [decide_eq_false h0]
        exact inb_no (fun h => h0 (hv.2.2.2 (hkn.1 h)))
    rw [hd]
    clear H hg hv ht hB hkn hd
    by_cases h0 : v.2.2 = 0
    · have hgo := ghostA (v := v) (t := false) (by simp [h0])
      rw [decide_eq_true h0]
      clear h0
      go_enter Try.func30, Try.ntmps30
      go_wp2_with (first
        | (go_at_call 41; refine (blank_any HE.out).mono ?_; rintro ee w1 ⟨rfl, rfl⟩)
        | (go_at_call 58; refine (HG.out _ (Below.refl _ _)).mono ?_; rintro ee w2 ⟨rfl, hb2⟩; have hS2 := spotAt_new w2 v; obtain ⟨y0, y1, y2, -⟩ := hS2.cells; have hb2' := hb2.alloc hb2.size (.cells #[.int .i64 (v.1 : Nat), .int .i64 (v.2.1 : Nat), .int .i64 (v.2.2 : Nat)] 53); clear hS2)
        | (go_at_call 59; refine Calls.mono (hgo _) ?_; rintro ee w3 ⟨rfl, hb3⟩))
      go_ret
      exact ⟨rfl, below_trans hb2' hb3⟩
    · have hgo := ghostA (v := v) (t := true) (by simp [h0])
      rw [decide_eq_false h0]
      clear h0
      go_enter Try.func30, Try.ntmps30
      go_wp2_with (first
        | (go_at_call 41; refine (blank_any HE.out).mono ?_; rintro ee w1 ⟨rfl, rfl⟩)
        | (go_at_call 58; refine (HG.out _ (Below.refl _ _)).mono ?_; rintro ee w2 ⟨rfl, hb2⟩; have hS2 := spotAt_new w2 v; obtain ⟨y0, y1, y2, -⟩ := hS2.cells; have hb2' := hb2.alloc hb2.size (.cells #[.int .i64 (v.1 : Nat), .int .i64 (v.2.1 : Nat), .int .i64 (v.2.2 : Nat)] 53); clear hS2)
        | (go_at_call 59; refine Calls.mono (hgo _) ?_; rintro ee w3 ⟨rfl, hb3⟩))
      go_ret
      exact ⟨rfl, below_trans hb2' hb3⟩
set_option maxHeartbeats 2000000 in
theorem acc_hit (H : AM e b s D w) (hok : A.Ok s) (hD : ∀ k, w.heap.size ≤ k → D k) (key : ByteArray) (hk : key.size ≤ 1000) (hin : key ∈ A.keys s) :
    Calls Try.prog 28 #[.pointer (some ⟨e, 0, none⟩), .string key] w fun ee w' => ee = .returned (.tuple #[.bool true, .slice none 0 0]) ∧ AM e b (A.use s key) D w' ∧ Keeps D w w' := by
  have hhas := hasE H hok.toBase key hk
  rw [inb_yes hin] at hhas
  have HE : Hid (AM e b s D w) := H
  have HD : Hid (∀ k, w.heap.size ≤ k → D k) := hD
  have HO : Hid (A.Ok s) := hok
  clear H hD hok hin
  go_enter Try.func28, Try.ntmps28
  go_wp2_with (first
    | (go_at_call 41; refine (blank_any HE.out).mono ?_; rintro ee w1 ⟨rfl, rfl⟩)
    | (go_at_call 30; refine Calls.mono hhas ?_; clear hhas; rintro ee w2 ⟨rfl, b2⟩; have hu := use_any (AM.below HE.out b2) HO.out (fun k h => HD.out k (Nat.le_trans b2.size h)) key hk)
    | (go_at_call 54; refine Calls.mono hu ?_; clear hu; rintro ee w3 ⟨rfl, a3, k3⟩))
  go_ret2
  exact ⟨rfl, a3, (Keeps.of_below b2).trans k3⟩
set_option maxHeartbeats 2000000 in
theorem acc_room (H : AM e b s D w) (hok : A.Ok s) (hD : ∀ k, w.heap.size ≤ k → D k) (key : ByteArray) (hk : key.size ≤ 1000) (hin : key ∉ A.keys s) (hl : (A.keys s).length < s.c) :
    Calls Try.prog 28 #[.pointer (some ⟨e, 0, none⟩), .string key] w fun ee w' => ee = .returned (.tuple #[.bool false, .slice none 0 0]) ∧ AM e b (A.admit s key) D w' ∧ Keeps D w w' := by
  have hhas := hasE H hok.toBase key hk
  rw [inb_no hin] at hhas
  have HFu : Hid (∀ W, Below w.heap.size w W → Calls Try.prog 55 #[.pointer (some ⟨e, 0, none⟩)] W fun ee w' => ee = .returned (.bool false) ∧ Below W.heap.size W w') := fun W hb => by
    have := fullA (H.below hb) hok.toBase
    rwa [decide_eq_false (by omega)] at this
  have HE : Hid (AM e b s D w) := H
  have HD : Hid (∀ k, w.heap.size ≤ k → D k) := hD
  have HO : Hid (A.Ok s) := hok
  clear H hD hok hin hl
  go_enter Try.func28, Try.ntmps28
  go_wp2_with (first
    | (go_at_call 41; refine (blank_any HE.out).mono ?_; rintro ee w1 ⟨rfl, rfl⟩)
    | (go_at_call 30; refine Calls.mono hhas ?_; clear hhas; rintro ee w2 ⟨rfl, b2⟩; have hfu := HFu.out _ b2)
    | (go_at_call 55; refine Calls.mono hfu ?_; clear hfu; rintro ee w3 ⟨rfl, b3⟩; have b23 := below_trans b2 b3; have hu := admit_any (AM.below HE.out b23) HO.out (fun k h => HD.out k (Nat.le_trans b23.size h)) key hk)
    | (go_at_call 57; refine Calls.mono hu ?_; clear hu; rintro ee w4 ⟨rfl, a3, k3⟩))
  go_ret2
  exact ⟨rfl, a3, (Keeps.of_below b23).trans k3⟩
set_option maxHeartbeats 2000000 in
theorem acc_full (H : AM e b s D w) (hok : A.Ok s) (hD : ∀ k, w.heap.size ≤ k → D k) (key : ByteArray) (hk : key.size ≤ 1000) (hin : key ∉ A.keys s) (hl : s.c ≤ (A.keys s).length) :
    Calls Try.prog 28 #[.pointer (some ⟨e, 0, none⟩), .string key] w (SaysM e b (A.access s key) D w) := by
  have hhas := hasE H hok.toBase key hk
  rw [inb_no hin] at hhas
  have hlo := hok.lo
  have hne : (A.keys s).length ≠ 0 := by omega
  have HFu : Hid (∀ W, Below w.heap.size w W → Calls Try.prog 55 #[.pointer (some ⟨e, 0, none⟩)] W fun ee w' => ee = .returned (.bool true) ∧ Below W.heap.size W w') := fun W hb => by
    have := fullA (H.below hb) hok.toBase
    rwa [decide_eq_true (by omega)] at this
  obtain ⟨g, s1, hg, ho1, -, -, -⟩ := A.goes_one hok hne
  have HG : Hid (A.goes s = ([g], s1) ∧ A.Ok s1) := ⟨hg, ho1⟩
  have hacc : A.access s key = (false, [g], A.admit s1 key) := by
    unfold A.access
    rw [if_neg hin, A.rec_full hl, hg]
  rw [hacc]
  have HE : Hid (AM e b s D w) := H
  have HD : Hid (∀ k, w.heap.size ≤ k → D k) := hD
  have HO : Hid (A.Ok s) := hok
  clear H hD hok hin hl hacc hg ho1 hlo
  go_enter Try.func28, Try.ntmps28
  go_wp2_with (first
    | (go_at_call 41; refine (blank_any HE.out).mono ?_; rintro ee w1 ⟨rfl, rfl⟩)
    | (go_at_call 30; refine Calls.mono hhas ?_; clear hhas; rintro ee w2 ⟨rfl, b2⟩; have hfu := HFu.out _ b2)
    | (go_at_call 55; refine Calls.mono hfu ?_; clear hfu; rintro ee w3 ⟨rfl, b3⟩; have b23 := below_trans b2 b3; have hev := evict_goes (AM.below HE.out b23) HO.out (fun k h => HD.out k (Nat.le_trans b23.size h)) hne)
    | (go_at_call 56; refine Calls.mono hev ?_; clear hev; rintro ee w4 ⟨g', s', hg', rfl, a4, k4⟩; rw [HG.out.1] at hg'; simp only [Prod.mk.injEq, List.cons.injEq, and_true] at hg'; obtain ⟨e1, e2⟩ := hg'; subst e1; subst e2; have k24 := (Keeps.of_below (D := D) b23).trans k4; have HS4 := full_one (g := g) a4 (fun k h => HD.out k (Nat.le_trans k24.size h)); clear a4)
    | (go_at_call 57; refine (Beside.stepM (Qe := fun ee => ee = .returned (.tuple #[])) HS4 (fun k h => HD.out k (by rw [World.size_alloc] at h; exact Nat.le_trans k24.size (Nat.le_of_succ_le h))) (fun D1 hA hD1 => admit_any hA HG.out.2 hD1 key hk)).mono ?_; clear HS4; rintro ee w5 ⟨rfl, a5, k5⟩))
  go_ret2
  exact ⟨_, _, rfl, a5, (k24.alloc _).trans k5⟩
theorem accM (H : AM e b s D w) (hok : A.Ok s) (hD : ∀ k, w.heap.size ≤ k → D k) (_ : b ≤ 600000) (key : ByteArray) (hk : key.size ≤ 1000) :
    Calls Try.prog 28 #[.pointer (some ⟨e, 0, none⟩), .string key] w (SaysM e (b + 2) (A.access s key) D w) := by
  by_cases hin : key ∈ A.keys s
  · have e0 : A.access s key = (true, [], A.use s key) := by unfold A.access; rw [if_pos hin]
    rw [e0]
    refine (acc_hit H hok hD key hk hin).mono ?_
    rintro ee w' ⟨rfl, h1, hk1⟩
    exact ⟨_, _, rfl, (h1.more (by omega)).bare, hk1⟩
  · rcases Nat.lt_or_ge (A.keys s).length s.c with hl | hl
    · have e0 : A.access s key = (false, [], A.admit s key) := by unfold A.access; rw [if_neg hin, A.rec_room hl]
      rw [e0]
      refine (acc_room H hok hD key hk hin hl).mono ?_
      rintro ee w' ⟨rfl, h1, hk1⟩
      exact ⟨_, _, rfl, (h1.more (by omega)).bare, hk1⟩
    · refine (acc_full H hok hD key hk hin hl).mono ?_
      rintro ee w' ⟨ad, cap, rfl, h1, hk1⟩
      exact ⟨ad, cap, rfl, h1, hk1⟩
theorem roomM (H : AM e b s D w) : Calls Try.prog 22 #[.pointer (some ⟨e, 0, none⟩)] w fun ee w' => ee = .returned (.int .i64 (s.c : Nat)) ∧ w' = w := by
  have HE : Hid (AM e b s D w) := H
  obtain ⟨c0, c1, f1, heo, x, c6⟩ := EN.cells H
  clear H
  go_enter Try.func22, Try.ntmps22
  go_wp2_with (go_at_call 41; refine (blank_any HE.out).mono ?_; rintro ee w1 ⟨rfl, rfl⟩)
  go_ret
  exact ⟨rfl, rfl⟩
set_option maxHeartbeats 2000000 in
theorem loadM (H : AM e b s D w) (hok : A.Ok s) (hD : ∀ k, w.heap.size ≤ k → D k) (_ : b ≤ 600000) (key : ByteArray) (hk : key.size ≤ 1000) :
    Calls Try.prog 32 #[.pointer (some ⟨e, 0, none⟩), .string key] w fun ee w' => ee = .returned (.bool (A.load s key).1) ∧ AM e (b + 1) (A.load s key).2 D w' ∧ Keeps D w w' := by
  have HE : Hid (AM e b s D w) := H
  have HD : Hid (∀ k, w.heap.size ≤ k → D k) := hD
  have hhas := hasE H hok.toBase key hk
  by_cases hin : key ∈ A.keys s
  · rw [A.load_no (.inl hin)]
    rw [inb_yes hin] at hhas
    clear H hD hin
    go_enter Try.func32, Try.ntmps32
    go_wp2_with (first
      | (go_at_call 41; refine (blank_any HE.out).mono ?_; rintro ee w1 ⟨rfl, rfl⟩)
      | (go_at_call 30; refine Calls.mono hhas ?_; clear hhas; rintro ee w2 ⟨rfl, hb2⟩))
    go_ret
    exact ⟨rfl, (HE.out.below hb2).more (Nat.le_succ b), .of_below hb2⟩
  · rw [inb_no hin] at hhas
    rcases Nat.lt_or_ge (A.keys s).length s.c with hl | hl
    · have e0 : A.load s key = (true, A.prune (A.put s key)) := by
        unfold A.load
        rw [if_neg (by intro h3; rcases h3 with h3 | h3; exact hin h3; omega)]
      rw [e0]
      have HFu : Hid (∀ W, Below w.heap.size w W → Calls Try.prog 55 #[.pointer (some ⟨e, 0, none⟩)] W fun ee w' => ee = .returned (.bool false) ∧ Below W.heap.size W w') := fun W hb => by
        have := fullA (H.below hb) hok.toBase
        rwa [decide_eq_false (by omega)] at this
      have HHo : Hid (∀ W, Below w.heap.size w W → Calls Try.prog 60 #[.pointer (some ⟨e, 0, none⟩)] W fun ee w' => ee = .returned (.int .i64 ((A.hots s).length : Nat)) ∧ w' = W) := fun W hb => hots_any (H.below hb) hok.toBase
      have HMo : Hid (∀ W, Below w.heap.size w W → Calls Try.prog 61 #[.pointer (some ⟨e, 0, none⟩)] W fun ee w' => ee = .returned (.int .i64 ((A.most s : Nat) : Int)) ∧ Below W.heap.size W w') := fun W hb => mostA (H.below hb) hok.lo hok.hi
      have HFl : Hid (Few 19990 s) := by show Few 19990 s; have := Few.of hok; unfold Few at *; omega
      by_cases hm : (A.hots s).length < A.most s
      · have hpu : A.put s key = A.heat s key := by unfold A.put; rw [if_pos hm]
        rw [hpu]
        have HBh : Hid (A.Base (A.heat s key)) := A.heat_base hok.toBase key
        clear H hD hin hl e0 hpu hok
        generalize A.most s = n1 at *
        generalize (A.hots s).length = n2 at *
        go_enter Try.func32, Try.ntmps32
        go_wp2_with (first
          | (go_at_call 41; refine (blank_any HE.out).mono ?_; rintro ee w1 ⟨rfl, rfl⟩)
          | (go_at_call 30; refine Calls.mono hhas ?_; clear hhas; rintro ee w2 ⟨rfl, hb2⟩; have hfu := HFu.out _ hb2)
          | (go_at_call 55; refine Calls.mono hfu ?_; clear hfu; rintro ee w3 ⟨rfl, hb3⟩; have b13 := below_trans hb2 hb3; have hho := HHo.out _ b13; have hmo := HMo.out _ b13)
          | (go_at_call 60; refine Calls.mono hho ?_; clear hho; rintro ee w4 ⟨rfl, rfl⟩)
          | (go_at_call 61; refine Calls.mono hmo ?_; clear hmo; rintro ee w5 ⟨rfl, hb5⟩; have b15 := below_trans b13 hb5; have hhe := heat_any (AM.below HE.out b15) (fun k h => HD.out k (Nat.le_trans b15.size h)) key hk HFl.out)
          | (go_at_call 62; refine Calls.mono hhe ?_; clear hhe; rintro ee w6 ⟨rfl, a6, k6⟩; have k16 := (Keeps.of_below (D := D) b15).trans k6; have hpr := prune_any a6 HBh.out (fun k h => HD.out k (Nat.le_trans k16.size h)); clear a6)
          | (go_at_call 64; refine Calls.mono hpr ?_; clear hpr; rintro ee w7 ⟨rfl, a7, k7⟩))
        go_ret
        exact ⟨rfl, a7, k16.trans k7⟩
      · have hpu : A.put s key = A.layCold s key := by unfold A.put; rw [if_neg hm]
        rw [hpu]
        have HBh : Hid (A.Base (A.layCold s key)) := A.cold_base hok.toBase key
        clear H hD hin hl e0 hpu hok
        generalize A.most s = n1 at *
        generalize (A.hots s).length = n2 at *
        go_enter Try.func32, Try.ntmps32
        go_wp2_with (first
          | (go_at_call 41; refine (blank_any HE.out).mono ?_; rintro ee w1 ⟨rfl, rfl⟩)
          | (go_at_call 30; refine Calls.mono hhas ?_; clear hhas; rintro ee w2 ⟨rfl, hb2⟩; have hfu := HFu.out _ hb2)
          | (go_at_call 55; refine Calls.mono hfu ?_; clear hfu; rintro ee w3 ⟨rfl, hb3⟩; have b13 := below_trans hb2 hb3; have hho := HHo.out _ b13; have hmo := HMo.out _ b13)
          | (go_at_call 60; refine Calls.mono hho ?_; clear hho; rintro ee w4 ⟨rfl, rfl⟩)
          | (go_at_call 61; refine Calls.mono hmo ?_; clear hmo; rintro ee w5 ⟨rfl, hb5⟩; have b15 := below_trans b13 hb5; have hhe := cold_lay (AM.below HE.out b15) (fun k h => HD.out k (Nat.le_trans b15.size h)) key hk HFl.out)
          | (go_at_call 63; refine Calls.mono hhe ?_; clear hhe; rintro ee w6 ⟨rfl, a6, k6⟩; have k16 := (Keeps.of_below (D := D) b15).trans k6; have hpr := prune_any a6 HBh.out (fun k h => HD.out k (Nat.le_trans k16.size h)); clear a6)
          | (go_at_call 64; refine Calls.mono hpr ?_; clear hpr; rintro ee w7 ⟨rfl, a7, k7⟩))
        go_ret
        exact ⟨rfl, a7, k16.trans k7⟩
    · rw [A.load_no (.inr hl)]
      have HFu : Hid (∀ W, Below w.heap.size w W → Calls Try.prog 55 #[.pointer (some ⟨e, 0, none⟩)] W fun ee w' => ee = .returned (.bool true) ∧ Below W.heap.size W w') := fun W hb => by
        have := fullA (H.below hb) hok.toBase
        rwa [decide_eq_true (by omega)] at this
      clear H hD hl hin hok
      go_enter Try.func32, Try.ntmps32
      go_wp2_with (first
        | (go_at_call 41; refine (blank_any HE.out).mono ?_; rintro ee w1 ⟨rfl, rfl⟩)
        | (go_at_call 30; refine Calls.mono hhas ?_; clear hhas; rintro ee w2 ⟨rfl, hb2⟩; have hfu := HFu.out _ hb2)
        | (go_at_call 55; refine Calls.mono hfu ?_; clear hfu; rintro ee w3 ⟨rfl, hb3⟩; have b13 := below_trans hb2 hb3))
      go_ret
      exact ⟨rfl, (HE.out.below b13).more (Nat.le_succ b), .of_below b13⟩
set_option maxHeartbeats 1000000 in
theorem removeM (H : AM e b s D w) (hok : A.Ok s) (hD : ∀ k, w.heap.size ≤ k → D k) (_ : b ≤ 600000) (key : ByteArray) (hk : key.size ≤ 1000) :
    Calls Try.prog 33 #[.pointer (some ⟨e, 0, none⟩), .string key] w fun ee w' => ee = .returned (.bool (A.remove s key).1) ∧ AM e b (A.remove s key).2 D w' ∧ Keeps D w w' := by
  have HE : Hid (AM e b s D w) := H
  have HD : Hid (∀ k, w.heap.size ≤ k → D k) := hD
  have hhas := hasE H hok.toBase key hk
  by_cases hin : key ∈ A.keys s
  · rw [inb_yes hin] at hhas
    have e0 : A.remove s key = (true, A.prune (A.gone s key)) := by unfold A.remove; rw [if_pos hin]
    rw [e0]
    have HBg : Hid (A.Base (A.gone s key)) := (A.gone_base hok.toBase (fun h => hok.toBase.ghost h hin)).1
    clear H hD e0 hin hok
    go_enter Try.func33, Try.ntmps33
    go_wp2_with (first
      | (go_at_call 30; refine Calls.mono hhas ?_; clear hhas; rintro ee w2 ⟨rfl, hb2⟩; have h1 := leave_to (s' := ⟨A.cut s.t1 key, s.b1, s.t2, s.c⟩) (HE.out.below hb2) (fun k h => HD.out k (Nat.le_trans hb2.size h)) key hk 0 (by omega) (three (by simp [qs, cutAt]) (by simp [qs, cutAt]) (by simp [qs, cutAt])) rfl)
      | (go_at_call 65; refine Calls.mono h1 ?_; clear h1; rintro ee w3 ⟨rfl, a3, k3⟩; have k13 := (Keeps.of_below (D := D) hb2).trans k3; have h2 := leave_to (s' := A.gone s key) a3 (fun k h => HD.out k (Nat.le_trans k13.size h)) key hk 1 (by omega) (three (by simp [qs, cutAt, A.gone]) (by simp [qs, cutAt, A.gone]) (by simp [qs, cutAt, A.gone])) rfl; clear a3)
      | (go_at_call 65; refine Calls.mono h2 ?_; clear h2; rintro ee w4 ⟨rfl, a4, k4⟩; have k14 := k13.trans k4; have hpr := prune_any a4 HBg.out (fun k h => HD.out k (Nat.le_trans k14.size h)); clear a4)
      | (go_at_call 64; refine Calls.mono hpr ?_; clear hpr; rintro ee w5 ⟨rfl, a5, k5⟩))
    go_ret
    exact ⟨rfl, a5, k14.trans k5⟩
  · rw [inb_no hin] at hhas
    rw [A.rem_no hin]
    clear H hD
    go_enter Try.func33, Try.ntmps33
    go_wp2_with (go_at_call 30; refine Calls.mono hhas ?_; clear hhas; rintro ee w2 ⟨rfl, hb2⟩)
    go_ret
    exact ⟨rfl, HE.out.below hb2, .of_below hb2⟩
/-- what Evict answers: one that went, or nobody -/
def wentV (l : List ByteArray) : Value := match l with
  | [] => .tuple #[.string ⟨#[]⟩, .bool false]
  | g :: _ => .tuple #[.string g, .bool true]
set_option maxHeartbeats 1000000 in
theorem evictM (H : AM e b s D w) (hok : A.Ok s) (hD : ∀ k, w.heap.size ≤ k → D k) (_ : b ≤ 600000) :
    Calls Try.prog 31 #[.pointer (some ⟨e, 0, none⟩)] w fun ee w' => ee = .returned (wentV (A.evict s).1) ∧ AM e (b + 1) (A.evict s).2 D w' ∧ Keeps D w w' := by
  have HE : Hid (AM e b s D w) := H
  have HD : Hid (∀ k, w.heap.size ≤ k → D k) := hD
  have HO : Hid (A.Ok s) := hok
  have hlen := lenA H hok.toBase
  by_cases h0 : (A.keys s).length = 0
  · rw [A.evi_no h0]
    rw [h0] at hlen
    clear H hD hok
    go_enter Try.func31, Try.ntmps31
    go_wp2_with (go_at_call 15; refine Calls.mono hlen ?_; clear hlen; rintro ee w2 ⟨rfl, rfl⟩)
    go_ret2
    exact ⟨rfl, HE.out.more (Nat.le_succ b), Keeps.refl _ _⟩
  · have e0 : A.evict s = A.goes s := by unfold A.evict; rw [if_neg h0]
    rw [e0]
    have hev := evict_goes H hok hD h0
    obtain ⟨n, hn⟩ : ∃ n, n = (A.keys s).length := ⟨_, rfl⟩
    rw [← hn] at hlen h0
    clear H hD e0 hn hok
    go_enter Try.func31, Try.ntmps31
    go_wp2_with (first
      | (go_at_call 15; refine Calls.mono hlen ?_; clear hlen; rintro ee w2 ⟨rfl, rfl⟩)
      | (go_at_call 56; refine Calls.mono hev ?_; clear hev; rintro ee w4 ⟨g, s', hg, rfl, h4, hk4⟩; have HG : Hid (A.goes s = ([g], s')) := hg; clear hg))
    go_ret2
    rw [HG.out]
    exact ⟨rfl, h4.more (Nat.le_succ b), hk4⟩
end
end Go.Proofs.Ytcbaalodhgkgmaa
