/- The document's machine: what is looked at: Room, most, count, Len, at, is, inQ, Has. -/
import Derived.Test.YtcbaalodhgkgmaaRfb
import Derived.Deep.LoopGhost
import Derived.Laws.CopyOwn
namespace Go.Proofs.Ytcbaalodhgkgmaa
open Go.RowKit

theorem bytes_beq (x y : ByteArray) : (x.toList == y.toList) = decide (x = y) := by
  by_cases h : x = y
  · subst h; simp
  · have : ¬ x.toList = y.toList := by
      intro e
      rw [ByteArray.toList_eq, ByteArray.toList_eq] at e
      apply h
      cases x
      cases y
      congr
      exact Array.toList_inj.1 e
    simp [h, this]
namespace C
/-- how many are something -/
def cnt (n : Nat) (l : List It) : Nat := l.countP (fun z => decide (z.n = n))
theorem cnt_le (n : Nat) (l : List It) : cnt n l ≤ l.length := List.countP_le_length
theorem cnt_yes {n : Nat} {l : List It} {j : Nat} {z : It} (h : l[j]? = some z) (hz : z.n = n) : cnt n (l.take (j + 1)) = cnt n (l.take j) + 1 := by
  rw [List.take_add_one, h]
  simp [cnt, List.countP_append, hz]
theorem cnt_no {n : Nat} {l : List It} {j : Nat} {z : It} (h : l[j]? = some z) (hz : z.n ≠ n) : cnt n (l.take (j + 1)) = cnt n (l.take j) := by
  rw [List.take_add_one, h]
  simp [cnt, List.countP_append, hz]
theorem cnt_take (n : Nat) (l : List It) (j : Nat) : cnt n (l.take j) ≤ l.length := by
  have h1 := cnt_le n (l.take j)
  simp at h1
  omega
/-- where a key stands; -1: nowhere -/
def idx (l : List It) (k : ByteArray) : Int := match l.findIdx? (fun z => decide (z.key = k)) with
  | some i => (i : Nat)
  | none => -1
theorem idx_yes {l : List It} {k : ByteArray} {i : Nat} {z : It} (h : l[i]? = some z) (hz : z.key = k) (hn : ∀ (j : Nat) (y : It), j < i → l[j]? = some y → y.key ≠ k) : idx l k = (i : Nat) := by
  have hi := lt_of_at h
  have : l.findIdx? (fun z => decide (z.key = k)) = some i := by
    rw [List.findIdx?_eq_some_iff_getElem]
    refine ⟨hi, ?_, ?_⟩
    · rw [List.getElem?_eq_getElem hi] at h
      cases h
      simpa using hz
    · intro j hj
      have := hn j _ hj (List.getElem?_eq_getElem (by omega))
      simpa using this
  unfold idx
  rw [this]
theorem idx_no {l : List It} {k : ByteArray} (h : ∀ (j : Nat) (y : It), l[j]? = some y → y.key ≠ k) : idx l k = -1 := by
  have : l.findIdx? (fun z => decide (z.key = k)) = none := by
    rw [List.findIdx?_eq_none_iff]
    intro z hz
    obtain ⟨j, hj, e⟩ := List.getElem_of_mem hz
    have := h j z (by rw [List.getElem?_eq_getElem hj, e])
    simpa using this
  unfold idx
  rw [this]
/-- what a key is; 0: it is not there -/
def isOf (l : List It) (k : ByteArray) : Nat := match l.find? (fun z => decide (z.key = k)) with
  | some z => z.n
  | none => 0
theorem idx_case (l : List It) (k : ByteArray) : (idx l k = -1 ∧ l.find? (fun z => decide (z.key = k)) = none) ∨ ∃ (i : Nat) (z : It), idx l k = (i : Nat) ∧ l[i]? = some z ∧ z.key = k ∧ l.find? (fun z => decide (z.key = k)) = some z := by
  cases hf : l.find? (fun z => decide (z.key = k)) with
  | none =>
    refine .inl ⟨idx_no (fun j y hy => ?_), rfl⟩
    have := List.find?_eq_none.1 hf y (List.mem_of_getElem? hy)
    simpa using this
  | some z =>
    obtain ⟨h1, ys, bs, h2, h3⟩ := List.find?_eq_some_iff_append.1 hf
    have hz : z.key = k := by simpa using h1
    have ha : l[ys.length]? = some z := by rw [h2]; simp
    refine .inr ⟨ys.length, z, idx_yes ha hz (fun j y hj hy => ?_), ha, hz, rfl⟩
    rw [h2, List.getElem?_append_left hj] at hy
    have := h3 y (List.mem_of_getElem? hy)
    simpa using this
end C
/-- is it there? -/
def inn (k : ByteArray) (zs : List ByteArray) : Bool := zs.any (fun z => decide (z = k))
theorem inn_iff {zs : List ByteArray} {k : ByteArray} : inn k zs = true ↔ k ∈ zs := by
  unfold inn
  simp
theorem inn_yes {zs : List ByteArray} {k : ByteArray} (h : k ∈ zs) : inn k zs = true := inn_iff.2 h
theorem inn_no {zs : List ByteArray} {k : ByteArray} (h : k ∉ zs) : inn k zs = false := by
  cases hv : inn k zs with
  | false => rfl
  | true => exact absurd (inn_iff.1 hv) h
section
variable {D D' : Nat → Prop} {w w' : World} {x : Nat} {s : Rs}
/-- how many may be hot -/
def mostR (s : Rs) : Nat := s.c - max 1 (s.c / 10)
theorem mroom_any (H : RM x s D w) : Calls Try.prog 23 #[.pointer (some ⟨x, 0, none⟩)] w fun e w' => e = .returned (.int .i64 (s.c : Nat)) ∧ w' = w := by
  obtain ⟨L, a1, c1, a2, c2, H⟩ := H
  obtain ⟨d0, d1, d2⟩ := H.cells
  clear H
  go_enter Try.func23, Try.ntmps23
  go_wp2_with fail
  go_ret
  exact ⟨rfl, rfl⟩
theorem rmost_any (H : RM x s D w) (hc : s.c ≤ 1024) (h1 : 1 ≤ s.c) : Calls Try.prog 70 #[.pointer (some ⟨x, 0, none⟩)] w fun e w' => e = .returned (.int .i64 (mostR s : Nat)) ∧ ∃ q, w' = w.drewN q := by
  obtain ⟨L, a1, c1, a2, c2, H⟩ := H
  obtain ⟨d0, d1, d2⟩ := H.cells
  have HE : Hid (mostR s = s.c - max 1 (s.c / 10)) := rfl
  clear H
  generalize s.c = c at *
  go_enter Try.func70, Try.ntmps70
  go_wp2_with fail
  go_quiet (fail)
  all_goals go_wp2_with fail
  all_goals
    go_ret
    exact ⟨ret_int (by rw [HE.out]; omega), _, rfl⟩
set_option maxHeartbeats 1000000 in
theorem rcount_any (H : RM x s D w) (hs : s.s.length ≤ 5000) (n : Nat) :
    Calls Try.prog 49 #[.pointer (some ⟨x, 0, none⟩), .int .u8 (n : Nat)] w fun e w' => e = .returned (.int .i64 (C.cnt n s.s : Nat)) ∧ w' = w := by
  obtain ⟨L, a1, c1, a2, c2, H⟩ := H
  obtain ⟨d0, d1, d2⟩ := H.cells
  have HR : Hid (C.Row (fun g => D g ∧ L g = 1) w a1 c1 s.s) := H.r1
  clear H
  generalize s.s = l at *
  go_enter Try.func49, Try.ntmps49
  go_wp2_with fail
  go_loop [5, 6] (fun v i => ∃ j : Nat, j ≤ l.length ∧ i = .int .i64 j ∧ v = .int .i64 (C.cnt n (l.take j) : Nat)) (fun _ i => l.length - (intOf i).toNat)
  case atStart => exact ⟨0, Nat.zero_le _, rfl, rfl⟩
  case round =>
    obtain ⟨j, hj, rfl, rfl⟩ := hrel
    have hct := C.cnt_take n l j
    rcases Nat.lt_or_ge j l.length with hlt | hge
    · obtain ⟨z, hz⟩ : ∃ z, l[j]? = some z := ⟨_, List.getElem?_eq_getElem hlt⟩
      obtain ⟨g, off, rfl, -, -, k0, k1, -⟩ := HR.out.at hz
      have HZ : Hid (l[j]? = some z) := hz
      clear hz
      by_cases he : z.n = n
      · have HF : Hid (C.cnt n (l.take (j + 1)) = C.cnt n (l.take j) + 1) := C.cnt_yes HZ.out he
        have hE : ((z.n : Int) == (n : Int)) = true := by simp; omega
        clear he
        generalize C.cnt n (l.take j) = m at *
        go_wp2_with fail
        go_roundw
        case rel => exact ⟨j + 1, hlt, by go_num, by rw [HF.out]; go_num⟩
        case measure => simp [intOf]; omega
      · have HF : Hid (C.cnt n (l.take (j + 1)) = C.cnt n (l.take j)) := C.cnt_no HZ.out he
        have hE : ((z.n : Int) == (n : Int)) = false := by simp; omega
        clear he
        generalize C.cnt n (l.take j) = m at *
        go_wp2_with fail
        go_roundw
        case rel => exact ⟨j + 1, hlt, by go_num, by rw [HF.out]⟩
        case measure => simp [intOf]; omega
    · have hj' : j = l.length := by omega
      subst hj'
      rw [List.take_length] at *
      go_wp2_with fail
      go_ret
      exact ⟨rfl, rfl⟩
set_option maxHeartbeats 1000000 in
theorem mlen_any (H : RM x s D w) (hs : Sm s) : Calls Try.prog 16 #[.pointer (some ⟨x, 0, none⟩)] w fun e w' => e = .returned (.int .i64 ((s.q.length + C.cnt 104 s.s : Nat) : Nat)) ∧ ∃ q, w' = w.drewN q := by
  have hc := fun q => rcount_any (H.below (below_drewN (Below.refl _ w) q)) hs.l1 104
  have hct := C.cnt_le 104 s.s
  obtain ⟨L, a1, c1, a2, c2, H⟩ := H
  obtain ⟨d0, d1, d2⟩ := H.cells
  have h1 := hs.l1
  have h2 := hs.l2
  generalize C.cnt 104 s.s = n at *
  generalize s.q.length = m at *
  clear H hs
  go_enter Try.func16, Try.ntmps16
  go_wp2_with fail
  go_quiet (first | (go_at_call 49; refine Calls.quiet_of_same (hc _)))
  go_wp2_with fail
  go_ret
  exact ⟨ret_int (by omega), _, rfl⟩
set_option maxHeartbeats 1000000 in
theorem rat_any (H : RM x s D w) (hs : s.s.length ≤ 5000) (k : ByteArray) :
    Calls Try.prog 75 #[.pointer (some ⟨x, 0, none⟩), .string k] w fun e w' => e = .returned (.int .i64 (C.idx s.s k)) ∧ w' = w := by
  obtain ⟨L, a1, c1, a2, c2, H⟩ := H
  obtain ⟨d0, d1, d2⟩ := H.cells
  have HR : Hid (C.Row (fun g => D g ∧ L g = 1) w a1 c1 s.s) := H.r1
  clear H
  generalize s.s = l at *
  go_enter Try.func75, Try.ntmps75
  go_wp2_with fail
  go_loop [5] (fun i => ∃ j : Nat, j ≤ l.length ∧ i = .int .i64 j ∧ Hid (∀ (m : Nat) (y : C.It), m < j → l[m]? = some y → y.key ≠ k)) (fun i => l.length - (intOf i).toNat)
  case atStart => exact ⟨0, Nat.zero_le _, rfl, fun m y hm => by omega⟩
  case round =>
    obtain ⟨j, hj, rfl, hno⟩ := hrel
    rcases Nat.lt_or_ge j l.length with hlt | hge
    · obtain ⟨z, hz⟩ : ∃ z, l[j]? = some z := ⟨_, List.getElem?_eq_getElem hlt⟩
      obtain ⟨g, off, rfl, -, -, k0, k1, -⟩ := HR.out.at hz
      have HZ : Hid (l[j]? = some z) := hz
      clear hz
      by_cases he : z.key = k
      · have hE : (z.key.toList == k.toList) = true := by rw [bytes_beq, decide_eq_true he]
        have HE : Hid (z.key = k) := he
        clear he
        go_wp2_with fail
        go_ret
        exact ⟨ret_int (C.idx_yes HZ.out HE.out hno.out).symm, rfl⟩
      · have hE : (z.key.toList == k.toList) = false := by rw [bytes_beq, decide_eq_false he]
        have HE : Hid (¬ z.key = k) := he
        clear he
        go_wp2_with fail
        go_roundw
        case rel =>
          refine ⟨j + 1, hlt, by go_num, fun m y hm hy => ?_⟩
          rcases Nat.lt_or_ge m j with h | h
          · exact hno.out m y h hy
          · rw [show m = j by omega, HZ.out] at hy
            cases hy
            exact HE.out
        case measure => simp [intOf]; omega
    · have hj' : j = l.length := by omega
      subst hj'
      go_wp2_with fail
      go_ret
      exact ⟨ret_int (C.idx_no (fun m y hy => hno.out m y (lt_of_at hy) hy)).symm, rfl⟩
theorem ris_any (H : RM x s D w) (hs : s.s.length ≤ 5000) (k : ByteArray) :
    Calls Try.prog 66 #[.pointer (some ⟨x, 0, none⟩), .string k] w fun e w' => e = .returned (.int .u8 (C.isOf s.s k : Nat)) ∧ w' = w := by
  have hat := rat_any H hs k
  obtain ⟨L, a1, c1, a2, c2, H⟩ := H
  obtain ⟨d0, d1, d2⟩ := H.cells
  have HR : Hid (C.Row (fun g => D g ∧ L g = 1) w a1 c1 s.s) := H.r1
  clear H
  rcases C.idx_case s.s k with ⟨h1, h2⟩ | ⟨i, z, h1, h2, h3, h4⟩
  · have HI : Hid (C.isOf s.s k = 0) := by show C.isOf s.s k = 0; unfold C.isOf; rw [h2]
    rw [h1] at hat
    clear h1 h2
    go_enter Try.func66, Try.ntmps66
    go_wp2_with (go_at_call 75; refine Calls.mono hat ?_; clear hat; rintro e w1 ⟨rfl, rfl⟩)
    go_ret
    exact ⟨by rw [HI.out]; rfl, rfl⟩
  · have HI : Hid (C.isOf s.s k = z.n) := by show C.isOf s.s k = z.n; unfold C.isOf; rw [h4]
    have hlt := lt_of_at h2
    obtain ⟨g, off, rfl, -, -, k0, k1, -⟩ := HR.out.at h2
    rw [h1] at hat
    clear h1 h2 h3 h4
    go_enter Try.func66, Try.ntmps66
    go_wp2_with (go_at_call 75; refine Calls.mono hat ?_; clear hat; rintro e w1 ⟨rfl, rfl⟩)
    go_ret
    exact ⟨by rw [HI.out]; rfl, rfl⟩
set_option maxHeartbeats 1000000 in
theorem rinQ_any (H : RM x s D w) (hs : s.q.length ≤ 5000) (k : ByteArray) :
    Calls Try.prog 76 #[.pointer (some ⟨x, 0, none⟩), .string k] w fun e w' => e = .returned (.bool (inn k s.q)) ∧ w' = w := by
  obtain ⟨L, a1, c1, a2, c2, H⟩ := H
  obtain ⟨d0, d1, d2⟩ := H.cells
  have HR : Hid (Row (fun g => D g ∧ L g = 2) w a2 c2 s.q) := H.r2
  clear H
  generalize s.q = l at *
  go_enter Try.func76, Try.ntmps76
  go_wp2_with fail
  go_loop [5] (fun i => ∃ j : Nat, j ≤ l.length ∧ i = .int .i64 j ∧ k ∉ l.take j) (fun i => l.length - (intOf i).toNat)
  case atStart => exact ⟨0, Nat.zero_le _, rfl, by simp⟩
  case round =>
    obtain ⟨j, hj, rfl, hL⟩ := hrel
    have HL : Hid (k ∉ l.take j) := hL
    clear hL
    rcases Nat.lt_or_ge j l.length with hlt | hge
    · obtain ⟨z, hz⟩ : ∃ z, l[j]? = some z := ⟨_, List.getElem?_eq_getElem hlt⟩
      obtain ⟨g, off, rfl, -, c0, -⟩ := HR.out.at hz
      have HZ : Hid (l[j]? = some z) := hz
      clear hz
      by_cases he : z = k
      · have hE : (z.toList == k.toList) = true := by rw [bytes_beq, decide_eq_true he]
        have HM : Hid (k ∈ l) := by show k ∈ l; rw [← he]; exact List.mem_of_getElem? HZ.out
        clear he
        go_wp2_with fail
        go_ret
        exact ⟨by rw [inn_yes HM.out]; rfl, rfl⟩
      · have hE : (z.toList == k.toList) = false := by rw [bytes_beq, decide_eq_false he]
        have HN : Hid (¬ z = k) := he
        clear he
        go_wp2_with fail
        go_roundw
        case rel =>
          refine ⟨j + 1, hlt, by go_num, ?_⟩
          rw [List.take_add_one, HZ.out]
          simp
          exact ⟨HL.out, fun e => HN.out e.symm⟩
        case measure => simp [intOf]; omega
    · have HN : Hid (k ∉ l) := by
        have h := HL.out
        rw [List.take_of_length_le hge] at h
        exact h
      go_wp2_with fail
      go_ret
      exact ⟨by rw [inn_no HN.out]; rfl, rfl⟩
/-- is a key resident? -/
def hasR (s : Rs) (k : ByteArray) : Bool := decide (C.isOf s.s k = 104) || inn k s.q
theorem rhas_any (H : RM x s D w) (hs : Sm s) (k : ByteArray) :
    Calls Try.prog 40 #[.pointer (some ⟨x, 0, none⟩), .string k] w fun e w' => e = .returned (.bool (hasR s k)) ∧ w' = w := by
  have his := ris_any H hs.l1 k
  have hin := rinQ_any H hs.l2 k
  unfold hasR
  generalize C.isOf s.s k = n at *
  generalize inn k s.q = r at *
  clear H hs
  by_cases h : n = 104
  · subst h
    go_enter Try.func40, Try.ntmps40
    go_wp2_with (go_at_call 66; refine Calls.mono his ?_; clear his; rintro e w1 ⟨rfl, rfl⟩)
    go_ret
    exact ⟨by simp, rfl⟩
  · have hE : ((n : Int) == 104) = false := by simp; omega
    have HD : Hid (decide (n = 104) = false) := decide_eq_false h
    clear h
    go_enter Try.func40, Try.ntmps40
    go_wp2_with (first
      | (go_at_call 66; refine Calls.mono his ?_; clear his; rintro e w1 ⟨rfl, rfl⟩)
      | (go_at_call 76; refine Calls.mono hin ?_; clear hin; rintro e w1 ⟨rfl, rfl⟩))
    go_ret
    exact ⟨by rw [HD.out]; simp, rfl⟩
end
end Go.Proofs.Ytcbaalodhgkgmaa
