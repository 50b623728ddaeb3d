/- The document's machine: one goes. -/
import Derived.Test.YtcbaalodhgkgmaaRff
namespace Go.Proofs.Ytcbaalodhgkgmaa
open Go.RowKit

namespace C
theorem Row.set {D : Nat → Prop} {w : World} {cap g off : Nat} {zs : List It} (h : Row D w (some ⟨g, off, none⟩) cap zs) {i : Nat} {z : It} (hz : zs[i]? = some z) (n : Nat) :
    Row D (w.setCell ⟨g, off + i * 2 + 1, none⟩ (.int .u8 (n : Nat))) (some ⟨g, off, none⟩) cap (zs.set i ⟨z.key, n⟩) ∧ Keeps D w (w.setCell ⟨g, off + i * 2 + 1, none⟩ (.int .u8 (n : Nat))) := by
  have hi := lt_of_at hz
  have h1 := h.1
  obtain ⟨g', off', cur, e, hD, hg, hs, hc⟩ := h.2.2 (by omega)
  cases e
  refine ⟨⟨by rw [List.length_set]; exact h.1, h.2.1, fun _ => ⟨g, off, _, rfl, hD, block_setCell hg, by simpa using hs, fun j y hy => ?_⟩⟩, Keeps.setCell (Keeps.refl D w) (p := ⟨g, off + i * 2 + 1, none⟩) hD _⟩
  have hsz : off + i * 2 + 1 < cur.size := by omega
  by_cases hji : j = i
  · subst hji
    rw [List.getElem?_set_self hi] at hy
    cases hy
    obtain ⟨a1, a2⟩ := hc _ _ hz
    refine ⟨?_, ?_⟩
    · rw [Array.set!_eq_setIfInBounds, Array.getElem?_setIfInBounds_ne (by omega)]
      exact a1
    · rw [Array.set!_eq_setIfInBounds, Array.getElem?_setIfInBounds_self_of_lt hsz]
  · rw [List.getElem?_set_ne (fun e => hji e.symm)] at hy
    obtain ⟨a1, a2⟩ := hc _ _ hy
    refine ⟨?_, ?_⟩
    · rw [Array.set!_eq_setIfInBounds, Array.getElem?_setIfInBounds_ne (by omega)]
      exact a1
    · rw [Array.set!_eq_setIfInBounds, Array.getElem?_setIfInBounds_ne (by omega)]
      exact a2

/-- a key becomes a ghost where it stands -/
def gh (l : List It) (k : ByteArray) : List It := match l.findIdx? (fun z => decide (z.key = k)) with
  | some i => l.set i ⟨k, 103⟩
  | none => l
theorem gh_no {l : List It} {k : ByteArray} (h : idx l k = -1) : gh l k = l := by
  unfold idx at h
  unfold gh
  split at h
  · omega
  · rename_i h2; rw [h2]
theorem gh_yes {l : List It} {k : ByteArray} {i : Nat} (h : idx l k = (i : Nat)) : gh l k = l.set i ⟨k, 103⟩ := by
  unfold idx at h
  unfold gh
  split at h
  · rename_i m h2
    rw [h2]
    have : m = i := by omega
    rw [this]
  · omega
theorem gh_len (l : List It) (k : ByteArray) : (gh l k).length = l.length := by
  unfold gh
  split <;> simp
end C
section
variable {D D' : Nat → Prop} {L : Nat → Nat} {w w' : World} {x : Nat} {s : Rs} {a1 a2 : Option Addr} {c1 c2 : Nat} {zs : List C.It}
theorem ReIn.set1 (H : ReIn D L w x s a1 c1 a2 c2) (hk : Keeps (fun g => D g ∧ L g = 1) w w') (hr : C.Row (fun g => D g ∧ L g = 1) w' a1 c1 zs) (hl : zs.length = s.s.length) : ReIn D L w' x { s with s := zs } a1 c1 a2 c2 := by
  have hxl := lt_of_block H.top
  refine ⟨H.dx, H.lx, ?_, hr, H.r2.kept hk (fun k h e => by have := e.2; omega)⟩
  rw [hk.block x hxl (fun h => by have := H.lx; omega), H.top]
  unfold eng
  rw [hl]
end
/-- as many are resident -/
def lenR (s : Rs) : Nat := s.q.length + C.cnt 104 s.s
/-- the hot one nearest to the bottom becomes cold, if there is one -/
def coolsR (s : Rs) : Rs := match C.fst 104 s.s with
  | some z => coolR s z.key
  | none => { s with s := C.pr s.s }
/-- Q is filled -/
def readyR (s : Rs) : Rs := if s.q = [] then coolsR s else s
section
variable {D D' : Nat → Prop} {w w' : World} {x : Nat} {s : Rs}
/-- what it is that one goes -/
def GoesR (x : Nat) (s : Rs) (D : Nat → Prop) (w : World) (e : Ending) (w' : World) : Prop :=
  ∃ k r l, (readyR s).q = k :: r ∧ C.Forgot s.c (C.gh (readyR s).s k) l ∧ e = .returned (.tuple #[.string k, .bool true]) ∧ RM x ⟨C.pr l, A.cut (k :: r) k, s.c⟩ D w' ∧ Keeps D w w'
theorem coolsR_is {s : Rs} (h : 0 < C.cnt 104 s.s) : ∃ z, C.fst 104 s.s = some z ∧ coolsR s = coolR s z.key := by
  obtain ⟨z, hz⟩ := C.fst_some h
  exact ⟨z, hz, by unfold coolsR; rw [hz]⟩
theorem readyR_is {s : Rs} (hs : Sm s) (h : 0 < lenR s) : ∃ k r, (readyR s).q = k :: r ∧ (readyR s).c = s.c ∧ (readyR s).s.length ≤ 5000 ∧ (k :: r).length ≤ 5000 := by
  unfold readyR
  by_cases hq : s.q = []
  · rw [if_pos hq]
    unfold lenR at h
    rw [hq] at h
    obtain ⟨z, _, e⟩ := coolsR_is (s := s) (by simpa using h)
    rw [e]
    have h1 := C.out_le s.s z.key
    have h2 := C.pr_le (C.out s.s z.key)
    have := hs.l1
    exact ⟨z.key, [], by show s.q ++ [z.key] = [z.key]; rw [hq]; rfl, rfl, by show (C.pr (C.out s.s z.key)).length ≤ 5000; omega, by simp⟩
  · rw [if_neg hq]
    have := hs.l2
    have := hs.l1
    cases hc : s.q with
    | nil => exact absurd hc hq
    | cons k r => exact ⟨k, r, rfl, rfl, by omega, by rw [← hc]; omega⟩
set_option maxHeartbeats 4000000 in
theorem rgoes_full_in (H : RM x s D w) (hs : Sm s) (hD : ∀ k, w.heap.size ≤ k → D k) (hl : 0 < lenR s) (hq : s.q ≠ []) {k : ByteArray} {r : List ByteArray} (hkr : (readyR s).q = k :: r) {i : Nat} {z : C.It} (hix : C.idx (readyR s).s k = (i : Nat)) (hz : (readyR s).s[i]? = some z) (hzk : z.key = k) :
    Calls Try.prog 39 #[.pointer (some ⟨x, 0, none⟩)] w (GoesR x s D w) := by
  have hlen := mlen_any H hs
  have HD : Hid (∀ k, w.heap.size ≤ k → D k) := hD
  have HH : Hid (RM x s D w) := H
  have hlp : 0 < s.q.length + C.cnt 104 s.s := hl
  have hcl := C.cnt_le 104 s.s
  have l1 := hs.l1
  have l2 := hs.l2
  obtain ⟨k', r', e1, e2, e3, e4⟩ := readyR_is hs hl
  rw [hkr] at e1
  injection e1 with e1 e5
  subst e1 e5
  obtain ⟨s1, hs1⟩ : ∃ s1, s1 = readyR s := ⟨_, rfl⟩
  rw [← hs1] at hkr e2 e3
  have HLv : Hid (∀ W, RM x s1 D W → Keeps D w W → Calls Try.prog 69 #[.pointer (some ⟨x, 0, none⟩), .string k] W fun e w' => e = .returned (.tuple #[]) ∧ RM x { s1 with q := A.cut (k :: r) k } D w' ∧ Keeps D W w') := fun W h hk => by
    have := rleave_any h (by rw [hkr]; exact e4) (fun j hj => HD.out j (Nat.le_trans hk.size hj)) k
    rw [hkr] at this
    exact this
  have HAt : Hid (∀ W, RM x { s1 with q := A.cut (k :: r) k } D W → Calls Try.prog 75 #[.pointer (some ⟨x, 0, none⟩), .string k] W fun e w' => e = .returned (.int .i64 (i : Nat)) ∧ w' = W) := fun W h => by
    have := rat_any h e3 k
    rw [← hs1] at hix
    dsimp only at this
    rw [hix] at this
    exact this
  have HFo : Hid (∀ W, RM x { s1 with s := C.gh s1.s k, q := A.cut (k :: r) k } D W → Keeps D w W → Calls Try.prog 71 #[.pointer (some ⟨x, 0, none⟩)] W fun e w' => ∃ l, C.Forgot s.c (C.gh s1.s k) l ∧ e = .returned (.tuple #[]) ∧ RM x ⟨C.pr l, A.cut (k :: r) k, s.c⟩ D w' ∧ Keeps D W w') := fun W h hk => by
    have h1 := A.length_cut_le (k :: r) k
    have := rforget_any h ⟨by show (C.gh s1.s k).length ≤ 5000; rw [C.gh_len]; exact e3, by show (A.cut (k :: r) k).length ≤ 5000; omega, by show s1.c ≤ 1024; rw [e2]; exact hs.hc⟩ (fun j hj => HD.out j (Nat.le_trans hk.size hj))
    dsimp only at this
    rw [e2] at this
    exact this
  have HEnd : Hid (∀ l W, C.Forgot s.c (C.gh s1.s k) l → RM x ⟨C.pr l, A.cut (k :: r) k, s.c⟩ D W → Keeps D w W → GoesR x s D w (.returned (.tuple #[.string k, .bool true])) W) := fun l W h1 h2 h3 => ⟨k, r, l, by rw [← hs1]; exact hkr, by rw [← hs1]; exact h1, rfl, h2, h3⟩
  have HS0 : Hid (∀ W : World, Below w.heap.size w W → RM x s1 D W) := fun W hW => by
    rw [hs1]
    unfold readyR
    rw [if_neg hq]
    exact HH.out.below hW
  have HZ : Hid (s1.s[i]? = some z) := by
    show s1.s[i]? = some z
    rw [hs1]
    exact hz
  have HG : Hid (C.gh s1.s k = s1.s.set i ⟨z.key, 103⟩) := by
    show C.gh s1.s k = _
    rw [C.gh_yes (by rw [hs1]; exact hix), hzk]
  have hil : i < s1.s.length := lt_of_at HZ.out
  clear hz
  have HKR : Hid (s1.q = k :: r) := hkr
  have hn0 : ((s.q.length : Int) + (C.cnt 104 s.s : Nat) == 0) = false := by simp; omega
  have HLz : Hid ((s.q.length + C.cnt 104 s.s : Nat) ≠ 0) := by show s.q.length + C.cnt 104 s.s ≠ 0; omega
  obtain ⟨N, hN⟩ : ∃ N, N = s.q.length + C.cnt 104 s.s := ⟨_, rfl⟩
  rw [← hN] at hlen
  have hN0 : ((N : Int) == 0) = false := by simp; omega
  clear H hD hl hs hs1 e2 hn0 hkr hN hlp hcl hix
  go_enter Try.func39, Try.ntmps39
  go_wp2_with (first
    | (go_at_call 16; refine Calls.mono hlen ?_; clear hlen; rintro e w1 ⟨rfl, q, hw1⟩; have HB1 : Hid (Below w.heap.size w w1) := (by rw [hw1]; exact below_drewN (Below.refl _ w) q); clear hw1; have HS1 : Hid (RM x s1 D w1) := HS0.out _ HB1.out; have HK1 : Hid (Keeps D w w1) := Keeps.of_below HB1.out; obtain ⟨M, b1, n1, b2, n2, hM⟩ := HS1.out; obtain ⟨u0, u1, u2⟩ := hM.cells; rw [HKR.out] at u1; have hr2 := hM.r2; rw [HKR.out] at hr2; obtain ⟨g, off, rfl, -, q0, -⟩ := hr2.at (i := 0) (z := k) rfl; rw [Nat.add_zero] at q0; rw [List.length_cons] at u1; clear hM hr2)
    | (go_at_call 69; refine Calls.mono (HLv.out _ HS1.out HK1.out) ?_; rintro e w3 ⟨rfl, h3, hk3⟩; have H3 : Hid (RM x { s1 with q := A.cut (k :: r) k } D w3) := h3; have HK3 : Hid (Keeps D w w3) := (HK1.out.trans hk3); clear h3 hk3)
    | (go_at_call 75; refine Calls.mono (HAt.out _ H3.out) ?_; rintro e w4 ⟨rfl, rfl⟩; obtain ⟨M4, p1, m1, p2, m2, hM4⟩ := H3.out; obtain ⟨y0, y1, y2⟩ := hM4.cells; obtain ⟨g4, o4, rfl, -, -, y4, y5, y6⟩ := hM4.r1.at HZ.out; obtain ⟨r1, r2⟩ := hM4.r1.set HZ.out 103; have HS4 : Hid (RM x { s1 with s := C.gh s1.s k, q := A.cut (k :: r) k } D (w4.setCell ⟨g4, o4 + i * 2 + 1, none⟩ (.int .u8 ((103 : Nat) : Int)))) := (by rw [HG.out]; exact ⟨_, _, _, _, _, hM4.set1 r2 r1 (by simp)⟩); have HK4 : Hid (Keeps D w (w4.setCell ⟨g4, o4 + i * 2 + 1, none⟩ (.int .u8 ((103 : Nat) : Int)))) := HK3.out.trans (r2.mono (fun _ _ h => h.1)); clear hM4 r1 r2)
    | (go_at_call 71; refine Calls.mono (HFo.out _ HS4.out HK4.out) ?_; rintro e w5 ⟨l, hl, rfl, h5, hk5⟩))
  go_ret2
  exact HEnd.out l _ hl h5 (HK4.out.trans hk5)
set_option maxHeartbeats 4000000 in
theorem rgoes_full_out (H : RM x s D w) (hs : Sm s) (hD : ∀ k, w.heap.size ≤ k → D k) (hl : 0 < lenR s) (hq : s.q ≠ []) {k : ByteArray} {r : List ByteArray} (hkr : (readyR s).q = k :: r) (hix : C.idx (readyR s).s k = -1) :
    Calls Try.prog 39 #[.pointer (some ⟨x, 0, none⟩)] w (GoesR x s D w) := by
  have hlen := mlen_any H hs
  have HD : Hid (∀ k, w.heap.size ≤ k → D k) := hD
  have HH : Hid (RM x s D w) := H
  have hlp : 0 < s.q.length + C.cnt 104 s.s := hl
  have hcl := C.cnt_le 104 s.s
  have l1 := hs.l1
  have l2 := hs.l2
  obtain ⟨k', r', e1, e2, e3, e4⟩ := readyR_is hs hl
  rw [hkr] at e1
  injection e1 with e1 e5
  subst e1 e5
  obtain ⟨s1, hs1⟩ : ∃ s1, s1 = readyR s := ⟨_, rfl⟩
  rw [← hs1] at hkr e2 e3
  have HLv : Hid (∀ W, RM x s1 D W → Keeps D w W → Calls Try.prog 69 #[.pointer (some ⟨x, 0, none⟩), .string k] W fun e w' => e = .returned (.tuple #[]) ∧ RM x { s1 with q := A.cut (k :: r) k } D w' ∧ Keeps D W w') := fun W h hk => by
    have := rleave_any h (by rw [hkr]; exact e4) (fun j hj => HD.out j (Nat.le_trans hk.size hj)) k
    rw [hkr] at this
    exact this
  have HAt : Hid (∀ W, RM x { s1 with q := A.cut (k :: r) k } D W → Calls Try.prog 75 #[.pointer (some ⟨x, 0, none⟩), .string k] W fun e w' => e = .returned (.int .i64 (-1)) ∧ w' = W) := fun W h => by
    have := rat_any h e3 k
    rw [← hs1] at hix
    dsimp only at this
    rw [hix] at this
    exact this
  have HFo : Hid (∀ W, RM x { s1 with s := C.gh s1.s k, q := A.cut (k :: r) k } D W → Keeps D w W → Calls Try.prog 71 #[.pointer (some ⟨x, 0, none⟩)] W fun e w' => ∃ l, C.Forgot s.c (C.gh s1.s k) l ∧ e = .returned (.tuple #[]) ∧ RM x ⟨C.pr l, A.cut (k :: r) k, s.c⟩ D w' ∧ Keeps D W w') := fun W h hk => by
    have h1 := A.length_cut_le (k :: r) k
    have := rforget_any h ⟨by show (C.gh s1.s k).length ≤ 5000; rw [C.gh_len]; exact e3, by show (A.cut (k :: r) k).length ≤ 5000; omega, by show s1.c ≤ 1024; rw [e2]; exact hs.hc⟩ (fun j hj => HD.out j (Nat.le_trans hk.size hj))
    dsimp only at this
    rw [e2] at this
    exact this
  have HEnd : Hid (∀ l W, C.Forgot s.c (C.gh s1.s k) l → RM x ⟨C.pr l, A.cut (k :: r) k, s.c⟩ D W → Keeps D w W → GoesR x s D w (.returned (.tuple #[.string k, .bool true])) W) := fun l W h1 h2 h3 => ⟨k, r, l, by rw [← hs1]; exact hkr, by rw [← hs1]; exact h1, rfl, h2, h3⟩
  have HS0 : Hid (∀ W : World, Below w.heap.size w W → RM x s1 D W) := fun W hW => by
    rw [hs1]
    unfold readyR
    rw [if_neg hq]
    exact HH.out.below hW
  have HG : Hid (C.gh s1.s k = s1.s) := by
    show C.gh s1.s k = _
    rw [C.gh_no (by rw [hs1]; exact hix)]
  have HKR : Hid (s1.q = k :: r) := hkr
  have hn0 : ((s.q.length : Int) + (C.cnt 104 s.s : Nat) == 0) = false := by simp; omega
  have HLz : Hid ((s.q.length + C.cnt 104 s.s : Nat) ≠ 0) := by show s.q.length + C.cnt 104 s.s ≠ 0; omega
  obtain ⟨N, hN⟩ : ∃ N, N = s.q.length + C.cnt 104 s.s := ⟨_, rfl⟩
  rw [← hN] at hlen
  have hN0 : ((N : Int) == 0) = false := by simp; omega
  clear H hD hl hs hs1 e2 hn0 hkr hN hlp hcl hix
  go_enter Try.func39, Try.ntmps39
  go_wp2_with (first
    | (go_at_call 16; refine Calls.mono hlen ?_; clear hlen; rintro e w1 ⟨rfl, q, hw1⟩; have HB1 : Hid (Below w.heap.size w w1) := (by rw [hw1]; exact below_drewN (Below.refl _ w) q); clear hw1; have HS1 : Hid (RM x s1 D w1) := HS0.out _ HB1.out; have HK1 : Hid (Keeps D w w1) := Keeps.of_below HB1.out; obtain ⟨M, b1, n1, b2, n2, hM⟩ := HS1.out; obtain ⟨u0, u1, u2⟩ := hM.cells; rw [HKR.out] at u1; have hr2 := hM.r2; rw [HKR.out] at hr2; obtain ⟨g, off, rfl, -, q0, -⟩ := hr2.at (i := 0) (z := k) rfl; rw [Nat.add_zero] at q0; rw [List.length_cons] at u1; clear hM hr2)
    | (go_at_call 69; refine Calls.mono (HLv.out _ HS1.out HK1.out) ?_; rintro e w3 ⟨rfl, h3, hk3⟩; have H3 : Hid (RM x { s1 with q := A.cut (k :: r) k } D w3) := h3; have HK3 : Hid (Keeps D w w3) := (HK1.out.trans hk3); clear h3 hk3)
    | (go_at_call 75; refine Calls.mono (HAt.out _ H3.out) ?_; rintro e w4 ⟨rfl, rfl⟩; have HS4 : Hid (RM x { s1 with s := C.gh s1.s k, q := A.cut (k :: r) k } D w4) := (by rw [HG.out]; exact H3.out); have HK4 : Hid (Keeps D w w4) := HK3.out)
    | (go_at_call 71; refine Calls.mono (HFo.out _ HS4.out HK4.out) ?_; rintro e w5 ⟨l, hl, rfl, h5, hk5⟩))
  go_ret2
  exact HEnd.out l _ hl h5 (HK4.out.trans hk5)
set_option maxHeartbeats 4000000 in
theorem rgoes_empty_in (H : RM x s D w) (hs : Sm s) (hD : ∀ k, w.heap.size ≤ k → D k) (hl : 0 < lenR s) (hq : s.q = []) {k : ByteArray} {r : List ByteArray} (hkr : (readyR s).q = k :: r) {i : Nat} {z : C.It} (hix : C.idx (readyR s).s k = (i : Nat)) (hz : (readyR s).s[i]? = some z) (hzk : z.key = k) :
    Calls Try.prog 39 #[.pointer (some ⟨x, 0, none⟩)] w (GoesR x s D w) := by
  have hlen := mlen_any H hs
  have HD : Hid (∀ k, w.heap.size ≤ k → D k) := hD
  have HH : Hid (RM x s D w) := H
  have hlp : 0 < s.q.length + C.cnt 104 s.s := hl
  have hcl := C.cnt_le 104 s.s
  have l1 := hs.l1
  have l2 := hs.l2
  obtain ⟨k', r', e1, e2, e3, e4⟩ := readyR_is hs hl
  rw [hkr] at e1
  injection e1 with e1 e5
  subst e1 e5
  obtain ⟨s1, hs1⟩ : ∃ s1, s1 = readyR s := ⟨_, rfl⟩
  rw [← hs1] at hkr e2 e3
  have HLv : Hid (∀ W, RM x s1 D W → Keeps D w W → Calls Try.prog 69 #[.pointer (some ⟨x, 0, none⟩), .string k] W fun e w' => e = .returned (.tuple #[]) ∧ RM x { s1 with q := A.cut (k :: r) k } D w' ∧ Keeps D W w') := fun W h hk => by
    have := rleave_any h (by rw [hkr]; exact e4) (fun j hj => HD.out j (Nat.le_trans hk.size hj)) k
    rw [hkr] at this
    exact this
  have HAt : Hid (∀ W, RM x { s1 with q := A.cut (k :: r) k } D W → Calls Try.prog 75 #[.pointer (some ⟨x, 0, none⟩), .string k] W fun e w' => e = .returned (.int .i64 (i : Nat)) ∧ w' = W) := fun W h => by
    have := rat_any h e3 k
    rw [← hs1] at hix
    dsimp only at this
    rw [hix] at this
    exact this
  have HFo : Hid (∀ W, RM x { s1 with s := C.gh s1.s k, q := A.cut (k :: r) k } D W → Keeps D w W → Calls Try.prog 71 #[.pointer (some ⟨x, 0, none⟩)] W fun e w' => ∃ l, C.Forgot s.c (C.gh s1.s k) l ∧ e = .returned (.tuple #[]) ∧ RM x ⟨C.pr l, A.cut (k :: r) k, s.c⟩ D w' ∧ Keeps D W w') := fun W h hk => by
    have h1 := A.length_cut_le (k :: r) k
    have := rforget_any h ⟨by show (C.gh s1.s k).length ≤ 5000; rw [C.gh_len]; exact e3, by show (A.cut (k :: r) k).length ≤ 5000; omega, by show s1.c ≤ 1024; rw [e2]; exact hs.hc⟩ (fun j hj => HD.out j (Nat.le_trans hk.size hj))
    dsimp only at this
    rw [e2] at this
    exact this
  have HEnd : Hid (∀ l W, C.Forgot s.c (C.gh s1.s k) l → RM x ⟨C.pr l, A.cut (k :: r) k, s.c⟩ D W → Keeps D w W → GoesR x s D w (.returned (.tuple #[.string k, .bool true])) W) := fun l W h1 h2 h3 => ⟨k, r, l, by rw [← hs1]; exact hkr, by rw [← hs1]; exact h1, rfl, h2, h3⟩
  have HCo : Hid (∀ W : World, Below w.heap.size w W → Calls Try.prog 74 #[.pointer (some ⟨x, 0, none⟩)] W fun e w' => e = .returned (.tuple #[]) ∧ RM x s1 D w' ∧ Keeps D W w') := fun W hW => by
    obtain ⟨z, hz, ez⟩ := coolsR_is (s := s) (by rw [hq] at hlp; simpa using hlp)
    have := rcools_any (HH.out.below hW) hs (fun j hj => HD.out j (Nat.le_trans hW.size hj)) hz
    rw [hs1]
    unfold readyR
    rw [if_pos hq, ez]
    exact this
  have HZ : Hid (s1.s[i]? = some z) := by
    show s1.s[i]? = some z
    rw [hs1]
    exact hz
  have HG : Hid (C.gh s1.s k = s1.s.set i ⟨z.key, 103⟩) := by
    show C.gh s1.s k = _
    rw [C.gh_yes (by rw [hs1]; exact hix), hzk]
  have hil : i < s1.s.length := lt_of_at HZ.out
  clear hz
  have HKR : Hid (s1.q = k :: r) := hkr
  have hn0 : ((s.q.length : Int) + (C.cnt 104 s.s : Nat) == 0) = false := by simp; omega
  have HLz : Hid ((s.q.length + C.cnt 104 s.s : Nat) ≠ 0) := by show s.q.length + C.cnt 104 s.s ≠ 0; omega
  obtain ⟨N, hN⟩ : ∃ N, N = s.q.length + C.cnt 104 s.s := ⟨_, rfl⟩
  rw [← hN] at hlen
  have hN0 : ((N : Int) == 0) = false := by simp; omega
  clear H hD hl hs hs1 e2 hn0 hkr hN hlp hcl hix
  go_enter Try.func39, Try.ntmps39
  go_wp2_with (first
    | (go_at_call 16; refine Calls.mono hlen ?_; clear hlen; rintro e w1 ⟨rfl, q, hw1⟩; have HB1 : Hid (Below w.heap.size w w1) := (by rw [hw1]; exact below_drewN (Below.refl _ w) q); clear hw1; obtain ⟨M0, p1, m1, p2, m2, hM0⟩ := HH.out.below HB1.out; obtain ⟨v0, v1, v2⟩ := hM0.cells; rw [hq, List.length_nil] at v1; clear hM0)
    | (go_at_call 74; refine Calls.mono (HCo.out _ HB1.out) ?_; rintro e w2 ⟨rfl, h2, hk2⟩; have HS1 : Hid (RM x s1 D w2) := h2; have HK1 : Hid (Keeps D w w2) := ((Keeps.of_below HB1.out).trans hk2); clear h2 hk2 v0 v1 v2; obtain ⟨M, b1, n1, b2, n2, hM⟩ := HS1.out; obtain ⟨u0, u1, u2⟩ := hM.cells; rw [HKR.out] at u1; have hr2 := hM.r2; rw [HKR.out] at hr2; obtain ⟨g, off, rfl, -, q0, -⟩ := hr2.at (i := 0) (z := k) rfl; rw [Nat.add_zero] at q0; rw [List.length_cons] at u1; clear hM hr2)
    | (go_at_call 69; refine Calls.mono (HLv.out _ HS1.out HK1.out) ?_; rintro e w3 ⟨rfl, h3, hk3⟩; have H3 : Hid (RM x { s1 with q := A.cut (k :: r) k } D w3) := h3; have HK3 : Hid (Keeps D w w3) := (HK1.out.trans hk3); clear h3 hk3)
    | (go_at_call 75; refine Calls.mono (HAt.out _ H3.out) ?_; rintro e w4 ⟨rfl, rfl⟩; obtain ⟨M4, p1, m1, p2, m2, hM4⟩ := H3.out; obtain ⟨y0, y1, y2⟩ := hM4.cells; obtain ⟨g4, o4, rfl, -, -, y4, y5, y6⟩ := hM4.r1.at HZ.out; obtain ⟨r1, r2⟩ := hM4.r1.set HZ.out 103; have HS4 : Hid (RM x { s1 with s := C.gh s1.s k, q := A.cut (k :: r) k } D (w4.setCell ⟨g4, o4 + i * 2 + 1, none⟩ (.int .u8 ((103 : Nat) : Int)))) := (by rw [HG.out]; exact ⟨_, _, _, _, _, hM4.set1 r2 r1 (by simp)⟩); have HK4 : Hid (Keeps D w (w4.setCell ⟨g4, o4 + i * 2 + 1, none⟩ (.int .u8 ((103 : Nat) : Int)))) := HK3.out.trans (r2.mono (fun _ _ h => h.1)); clear hM4 r1 r2)
    | (go_at_call 71; refine Calls.mono (HFo.out _ HS4.out HK4.out) ?_; rintro e w5 ⟨l, hl, rfl, h5, hk5⟩))
  go_ret2
  exact HEnd.out l _ hl h5 (HK4.out.trans hk5)
set_option maxHeartbeats 4000000 in
theorem rgoes_empty_out (H : RM x s D w) (hs : Sm s) (hD : ∀ k, w.heap.size ≤ k → D k) (hl : 0 < lenR s) (hq : s.q = []) {k : ByteArray} {r : List ByteArray} (hkr : (readyR s).q = k :: r) (hix : C.idx (readyR s).s k = -1) :
    Calls Try.prog 39 #[.pointer (some ⟨x, 0, none⟩)] w (GoesR x s D w) := by
  have hlen := mlen_any H hs
  have HD : Hid (∀ k, w.heap.size ≤ k → D k) := hD
  have HH : Hid (RM x s D w) := H
  have hlp : 0 < s.q.length + C.cnt 104 s.s := hl
  have hcl := C.cnt_le 104 s.s
  have l1 := hs.l1
  have l2 := hs.l2
  obtain ⟨k', r', e1, e2, e3, e4⟩ := readyR_is hs hl
  rw [hkr] at e1
  injection e1 with e1 e5
  subst e1 e5
  obtain ⟨s1, hs1⟩ : ∃ s1, s1 = readyR s := ⟨_, rfl⟩
  rw [← hs1] at hkr e2 e3
  have HLv : Hid (∀ W, RM x s1 D W → Keeps D w W → Calls Try.prog 69 #[.pointer (some ⟨x, 0, none⟩), .string k] W fun e w' => e = .returned (.tuple #[]) ∧ RM x { s1 with q := A.cut (k :: r) k } D w' ∧ Keeps D W w') := fun W h hk => by
    have := rleave_any h (by rw [hkr]; exact e4) (fun j hj => HD.out j (Nat.le_trans hk.size hj)) k
    rw [hkr] at this
    exact this
  have HAt : Hid (∀ W, RM x { s1 with q := A.cut (k :: r) k } D W → Calls Try.prog 75 #[.pointer (some ⟨x, 0, none⟩), .string k] W fun e w' => e = .returned (.int .i64 (-1)) ∧ w' = W) := fun W h => by
    have := rat_any h e3 k
    rw [← hs1] at hix
    dsimp only at this
    rw [hix] at this
    exact this
  have HFo : Hid (∀ W, RM x { s1 with s := C.gh s1.s k, q := A.cut (k :: r) k } D W → Keeps D w W → Calls Try.prog 71 #[.pointer (some ⟨x, 0, none⟩)] W fun e w' => ∃ l, C.Forgot s.c (C.gh s1.s k) l ∧ e = .returned (.tuple #[]) ∧ RM x ⟨C.pr l, A.cut (k :: r) k, s.c⟩ D w' ∧ Keeps D W w') := fun W h hk => by
    have h1 := A.length_cut_le (k :: r) k
    have := rforget_any h ⟨by show (C.gh s1.s k).length ≤ 5000; rw [C.gh_len]; exact e3, by show (A.cut (k :: r) k).length ≤ 5000; omega, by show s1.c ≤ 1024; rw [e2]; exact hs.hc⟩ (fun j hj => HD.out j (Nat.le_trans hk.size hj))
    dsimp only at this
    rw [e2] at this
    exact this
  have HEnd : Hid (∀ l W, C.Forgot s.c (C.gh s1.s k) l → RM x ⟨C.pr l, A.cut (k :: r) k, s.c⟩ D W → Keeps D w W → GoesR x s D w (.returned (.tuple #[.string k, .bool true])) W) := fun l W h1 h2 h3 => ⟨k, r, l, by rw [← hs1]; exact hkr, by rw [← hs1]; exact h1, rfl, h2, h3⟩
  have HCo : Hid (∀ W : World, Below w.heap.size w W → Calls Try.prog 74 #[.pointer (some ⟨x, 0, none⟩)] W fun e w' => e = .returned (.tuple #[]) ∧ RM x s1 D w' ∧ Keeps D W w') := fun W hW => by
    obtain ⟨z, hz, ez⟩ := coolsR_is (s := s) (by rw [hq] at hlp; simpa using hlp)
    have := rcools_any (HH.out.below hW) hs (fun j hj => HD.out j (Nat.le_trans hW.size hj)) hz
    rw [hs1]
    unfold readyR
    rw [if_pos hq, ez]
    exact this
  have HG : Hid (C.gh s1.s k = s1.s) := by
    show C.gh s1.s k = _
    rw [C.gh_no (by rw [hs1]; exact hix)]
  have HKR : Hid (s1.q = k :: r) := hkr
  have hn0 : ((s.q.length : Int) + (C.cnt 104 s.s : Nat) == 0) = false := by simp; omega
  have HLz : Hid ((s.q.length + C.cnt 104 s.s : Nat) ≠ 0) := by show s.q.length + C.cnt 104 s.s ≠ 0; omega
  obtain ⟨N, hN⟩ : ∃ N, N = s.q.length + C.cnt 104 s.s := ⟨_, rfl⟩
  rw [← hN] at hlen
  have hN0 : ((N : Int) == 0) = false := by simp; omega
  clear H hD hl hs hs1 e2 hn0 hkr hN hlp hcl hix
  go_enter Try.func39, Try.ntmps39
  go_wp2_with (first
    | (go_at_call 16; refine Calls.mono hlen ?_; clear hlen; rintro e w1 ⟨rfl, q, hw1⟩; have HB1 : Hid (Below w.heap.size w w1) := (by rw [hw1]; exact below_drewN (Below.refl _ w) q); clear hw1; obtain ⟨M0, p1, m1, p2, m2, hM0⟩ := HH.out.below HB1.out; obtain ⟨v0, v1, v2⟩ := hM0.cells; rw [hq, List.length_nil] at v1; clear hM0)
    | (go_at_call 74; refine Calls.mono (HCo.out _ HB1.out) ?_; rintro e w2 ⟨rfl, h2, hk2⟩; have HS1 : Hid (RM x s1 D w2) := h2; have HK1 : Hid (Keeps D w w2) := ((Keeps.of_below HB1.out).trans hk2); clear h2 hk2 v0 v1 v2; obtain ⟨M, b1, n1, b2, n2, hM⟩ := HS1.out; obtain ⟨u0, u1, u2⟩ := hM.cells; rw [HKR.out] at u1; have hr2 := hM.r2; rw [HKR.out] at hr2; obtain ⟨g, off, rfl, -, q0, -⟩ := hr2.at (i := 0) (z := k) rfl; rw [Nat.add_zero] at q0; rw [List.length_cons] at u1; clear hM hr2)
    | (go_at_call 69; refine Calls.mono (HLv.out _ HS1.out HK1.out) ?_; rintro e w3 ⟨rfl, h3, hk3⟩; have H3 : Hid (RM x { s1 with q := A.cut (k :: r) k } D w3) := h3; have HK3 : Hid (Keeps D w w3) := (HK1.out.trans hk3); clear h3 hk3)
    | (go_at_call 75; refine Calls.mono (HAt.out _ H3.out) ?_; rintro e w4 ⟨rfl, rfl⟩; have HS4 : Hid (RM x { s1 with s := C.gh s1.s k, q := A.cut (k :: r) k } D w4) := (by rw [HG.out]; exact H3.out); have HK4 : Hid (Keeps D w w4) := HK3.out)
    | (go_at_call 71; refine Calls.mono (HFo.out _ HS4.out HK4.out) ?_; rintro e w5 ⟨l, hl, rfl, h5, hk5⟩))
  go_ret2
  exact HEnd.out l _ hl h5 (HK4.out.trans hk5)
theorem rgoes_any (H : RM x s D w) (hs : Sm s) (hD : ∀ k, w.heap.size ≤ k → D k) (hl : 0 < lenR s) : Calls Try.prog 39 #[.pointer (some ⟨x, 0, none⟩)] w (GoesR x s D w) := by
  obtain ⟨k, r, e1, _, _, _⟩ := readyR_is hs hl
  by_cases hq : s.q = []
  · rcases C.idx_case (readyR s).s k with ⟨h1, _⟩ | ⟨i, z, h1, h2, h3, _⟩
    · exact rgoes_empty_out H hs hD hl hq e1 h1
    · exact rgoes_empty_in H hs hD hl hq e1 h1 h2 h3
  · rcases C.idx_case (readyR s).s k with ⟨h1, _⟩ | ⟨i, z, h1, h2, h3, _⟩
    · exact rgoes_full_out H hs hD hl hq e1 h1
    · exact rgoes_full_in H hs hD hl hq e1 h1 h2 h3
set_option maxHeartbeats 1000000 in
theorem revi_no (H : RM x s D w) (hs : Sm s) (h0 : lenR s = 0) :
    Calls Try.prog 39 #[.pointer (some ⟨x, 0, none⟩)] w fun e w' => e = .returned (.tuple #[.string ⟨#[]⟩, .bool false]) ∧ ∃ q, w' = w.drewN q := by
  have hl := mlen_any H hs
  unfold lenR at h0
  rw [h0] at hl
  clear H hs
  go_enter Try.func39, Try.ntmps39
  go_wp2_with (go_at_call 16; refine Calls.mono hl ?_; clear hl; rintro e w1 ⟨rfl, q, rfl⟩)
  go_ret2
  exact ⟨rfl, _, rfl⟩
end
end Go.Proofs.Ytcbaalodhgkgmaa
