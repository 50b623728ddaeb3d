/- The document's machine: warm, Load, Remove, New. -/
import Derived.Test.YtcbaalodhgkgmaaRfg
import Derived.Test.YtcbaalodhgkgmaaEn1
namespace Go.Proofs.Ytcbaalodhgkgmaa
open Go.RowKit

/-- no row is near its end -/
structure Sl (s : Rs) : Prop where
  l1 : s.s.length ≤ 4000
  l2 : s.q.length ≤ 4000
  hc : s.c ≤ 1024
  lo : 1 ≤ s.c
theorem Sl.sm {s : Rs} (h : Sl s) : Sm s := ⟨by have := h.l1; omega, by have := h.l2; omega, h.hc⟩
theorem C.top_le (l : List C.It) (k : ByteArray) (n : Nat) : (C.top l k n).length ≤ l.length + 1 := by
  have := C.out_le l k
  simp [C.top]
  omega
/-- a key becomes hot -/
def hotR (s : Rs) (k : ByteArray) : Rs := { s with s := C.top s.s k 104, q := A.cut s.q k }
def warmR (s : Rs) (k : ByteArray) : Rs := if mostR s < C.cnt 104 (C.top s.s k 104) then coolsR (hotR s k) else hotR s k
def loadR (s : Rs) (k : ByteArray) : Rs := if C.cnt 104 s.s < mostR s then { s with s := C.pr (C.top s.s k 104) } else { s with s := C.pr (C.top s.s k 99), q := s.q ++ [k] }
def removeR (s : Rs) (k : ByteArray) : Rs := { s with s := C.pr (C.out s.s k), q := A.cut s.q k }
section
variable {D D' : Nat → Prop} {w w' : World} {x : Nat} {s : Rs}
/-- a key is laid at the end of Q -/
theorem RM.grow2 {L : Nat → Nat} {a1 a2 : Option Addr} {c1 c2 : Nat} (H : ReIn D L w x s a1 c1 a2 c2) (hD : ∀ k, w.heap.size ≤ k → D k) {key : ByteArray} {a7 : Option Addr} {n7 : Nat} {w7 : World}
    (hr7 : Row (fun g => (D g ∧ L g = 2) ∨ w.heap.size ≤ g) w7 a7 n7 (s.q ++ [key])) (hk7 : Keeps (fun g => D g ∧ L g = 2) w w7) :
    RM x { s with q := s.q ++ [key] } D (w7.setCell ⟨x, 1, none⟩ (.slice a7 (s.q.length + 1) n7)) ∧ Keeps D w (w7.setCell ⟨x, 1, none⟩ (.slice a7 (s.q.length + 1) n7)) := by
  have h7 := H.put2 hD hk7 hr7
  rw [List.length_append, List.length_cons, List.length_nil] at h7
  exact ⟨⟨_, _, _, _, _, h7⟩, (hk7.mono (fun _ _ h => h.1)).setCell (p := ⟨x, 1, none⟩) H.dx _⟩
set_option maxHeartbeats 4000000 in
theorem rwarm_any (H : RM x s D w) (hs : Sl s) (hD : ∀ k, w.heap.size ≤ k → D k) (k : ByteArray) :
    Calls Try.prog 68 #[.pointer (some ⟨x, 0, none⟩), .string k] w fun e w' => e = .returned (.tuple #[]) ∧ RM x (warmR s k) D w' ∧ Keeps D w w' := by
  have l1 := hs.l1
  have l2 := hs.l2
  have hc := hs.hc
  have hlo := hs.lo
  have hcut := A.length_cut_le s.q k
  have htop := C.top_le s.s k 104
  have hcn := C.cnt_le 104 (C.top s.s k 104)
  have HD : Hid (∀ k, w.heap.size ≤ k → D k) := hD
  have hlv := rleave_any H (by omega) hD k
  have HTo : Hid (∀ W, RM x { s with q := A.cut s.q k } D W → Keeps D w W → Calls Try.prog 67 #[.pointer (some ⟨x, 0, none⟩), .string k, .int .u8 104] W fun e w' => e = .returned (.tuple #[]) ∧ RM x (hotR s k) D w' ∧ Keeps D W w') := fun W h hk => rtop_any h (by show s.s.length ≤ 5000; omega) (fun j hj => HD.out j (Nat.le_trans hk.size hj)) k 104
  have HCn : Hid (∀ W, RM x (hotR s k) D W → Calls Try.prog 49 #[.pointer (some ⟨x, 0, none⟩), .int .u8 104] W fun e w' => e = .returned (.int .i64 (C.cnt 104 (C.top s.s k 104) : Nat)) ∧ w' = W) := fun W h => rcount_any h (by show (C.top s.s k 104).length ≤ 5000; omega) 104
  have HMo : Hid (∀ W, RM x (hotR s k) D W → Calls Try.prog 70 #[.pointer (some ⟨x, 0, none⟩)] W fun e w' => e = .returned (.int .i64 (mostR s : Nat)) ∧ ∃ q, w' = W.drewN q) := fun W h => rmost_any (s := hotR s k) h hc hlo
  have hmo : mostR s ≤ 1024 := by unfold mostR; omega
  have HCo : Hid (mostR s < C.cnt 104 (C.top s.s k 104) → ∀ W, RM x (hotR s k) D W → Keeps D w W → Calls Try.prog 74 #[.pointer (some ⟨x, 0, none⟩)] W fun e w' => e = .returned (.tuple #[]) ∧ RM x (coolsR (hotR s k)) D w' ∧ Keeps D W w') := fun hlt W h hk => by
    obtain ⟨z, hz, ez⟩ := coolsR_is (s := hotR s k) (by show 0 < C.cnt 104 (C.top s.s k 104); omega)
    have := rcools_any h ⟨by show (C.top s.s k 104).length ≤ 5000; omega, by show (A.cut s.q k).length ≤ 5000; omega, by show s.c ≤ 1024; omega⟩ (fun j hj => HD.out j (Nat.le_trans hk.size hj)) hz
    rw [ez]
    exact this
  have HW : Hid (warmR s k = if mostR s < C.cnt 104 (C.top s.s k 104) then coolsR (hotR s k) else hotR s k) := rfl
  clear H hD hs
  generalize C.cnt 104 (C.top s.s k 104) = n at *
  generalize mostR s = m at *
  rcases Nat.lt_or_ge m n with hlt | hge
  · have g1 : decide ((m : Int) < (n : Int)) = true := decide_eq_true (by omega)
    have HCo2 := HCo.out hlt
    have HCoo : Hid _ := HCo2
    have HWE : Hid (warmR s k = coolsR (hotR s k)) := by show _ = _; rw [HW.out, if_pos hlt]
    clear HCo2
    go_enter Try.func68, Try.ntmps68
    go_wp2_with (first
      | (go_at_call 69; refine Calls.mono hlv ?_; clear hlv; rintro e w1 ⟨rfl, h1, hk1⟩; have H1 : Hid (RM x { s with q := A.cut s.q k } D w1) := h1; have HK1 : Hid (Keeps D w w1) := hk1; clear h1 hk1)
      | (go_at_call 67; refine Calls.mono (HTo.out _ H1.out HK1.out) ?_; rintro e w2 ⟨rfl, h2, hk2⟩; have H2 : Hid (RM x (hotR s k) D w2) := h2; have HK2 : Hid (Keeps D w w2) := (HK1.out.trans hk2); clear h2 hk2)
      | (go_at_call 49; refine Calls.mono (HCn.out _ H2.out) ?_; rintro e wc ⟨rfl, rfl⟩)
      | (go_at_call 70; refine Calls.mono (HMo.out _ H2.out) ?_; rintro e w4 ⟨rfl, q4, hq4⟩; have H4 : Hid (RM x (hotR s k) D w4) := (by rw [hq4]; exact H2.out.below (below_drewN (Below.refl _ _) q4)); have HK4 : Hid (Keeps D w w4) := (by rw [hq4]; exact HK2.out.drewN q4); clear hq4)
      | (go_at_call 74; refine Calls.mono (HCoo.out _ H4.out HK4.out) ?_; rintro e w3 ⟨rfl, h3, hk3⟩))
    exact ⟨rfl, .tuple #[], results_none rfl _ _ _, rfl, by rw [HWE.out]; exact h3, HK4.out.trans hk3⟩
  · have g1 : decide ((m : Int) < (n : Int)) = false := decide_eq_false (by omega)
    have g2 : ¬ m < n := by omega
    have HWE : Hid (warmR s k = hotR s k) := by show _ = _; rw [HW.out, if_neg g2]
    go_enter Try.func68, Try.ntmps68
    go_wp2_with (first
      | (go_at_call 69; refine Calls.mono hlv ?_; clear hlv; rintro e w1 ⟨rfl, h1, hk1⟩; have H1 : Hid (RM x { s with q := A.cut s.q k } D w1) := h1; have HK1 : Hid (Keeps D w w1) := hk1; clear h1 hk1)
      | (go_at_call 67; refine Calls.mono (HTo.out _ H1.out HK1.out) ?_; rintro e w2 ⟨rfl, h2, hk2⟩; have H2 : Hid (RM x (hotR s k) D w2) := h2; have HK2 : Hid (Keeps D w w2) := (HK1.out.trans hk2); clear h2 hk2)
      | (go_at_call 49; refine Calls.mono (HCn.out _ H2.out) ?_; rintro e wc ⟨rfl, rfl⟩)
      | (go_at_call 70; refine Calls.mono (HMo.out _ H2.out) ?_; rintro e w4 ⟨rfl, q4, hq4⟩; have H4 : Hid (RM x (hotR s k) D w4) := (by rw [hq4]; exact H2.out.below (below_drewN (Below.refl _ _) q4)); have HK4 : Hid (Keeps D w w4) := (by rw [hq4]; exact HK2.out.drewN q4); clear hq4))
    exact ⟨rfl, .tuple #[], results_none rfl _ _ _, rfl, by rw [HWE.out]; exact H4.out, HK4.out⟩
set_option maxHeartbeats 1000000 in
theorem rload_no (H : RM x s D w) (hs : Sm s) (key : ByteArray) (hk : hasR s key = true ∨ s.c ≤ lenR s) :
    Calls Try.prog 37 #[.pointer (some ⟨x, 0, none⟩), .string key] w fun e w' => e = .returned (.bool false) ∧ ∃ q, w' = w.drewN q := by
  have hh := fun q => rhas_any (H.below (below_drewN (Below.refl _ w) q)) hs key
  have hlen := fun q => mlen_any (H.below (below_drewN (Below.refl _ w) q)) hs
  obtain ⟨L, a1, c1, a2, c2, H⟩ := H
  obtain ⟨d0, d1, d2⟩ := H.cells
  have hhi := hs.hc
  by_cases h1 : hasR s key = true
  · rw [h1] at hh
    clear H hs
    go_enter Try.func37, Try.ntmps37
    go_wp2_with fail
    go_quiet (first | (go_at_call 40; refine Calls.quiet_of_same (hh _)) | (go_at_call 16; refine Calls.quiet_of (hlen _)))
    go_wp2_with fail
    go_ret
    exact ⟨rfl, _, rfl⟩
  · have h1' : hasR s key = false := by simpa using h1
    rw [h1'] at hh
    have h2 : s.c ≤ lenR s := by rcases hk with h | h; exact absurd h h1; exact h
    unfold lenR at h2
    generalize s.q.length + C.cnt 104 s.s = n at *
    generalize s.c = c at *
    have hd : decide ((c : Int) ≤ (n : Int)) = true := decide_eq_true (by omega)
    clear H hs h1
    go_enter Try.func37, Try.ntmps37
    go_wp2_with fail
    go_quiet (first | (go_at_call 40; refine Calls.quiet_of_same (hh _)) | (go_at_call 16; refine Calls.quiet_of (hlen _)))
    go_wp2_with fail
    go_ret
    exact ⟨rfl, _, rfl⟩
set_option maxHeartbeats 4000000 in
theorem rload_yes (H : RM x s D w) (hs : Sl s) (hD : ∀ k, w.heap.size ≤ k → D k) (key : ByteArray) (hk : hasR s key = false) (hl : lenR s < s.c) :
    Calls Try.prog 37 #[.pointer (some ⟨x, 0, none⟩), .string key] w fun e w' => e = .returned (.bool true) ∧ RM x (loadR s key) D w' ∧ Keeps D w w' := by
  have l1 := hs.l1
  have l2 := hs.l2
  have hc := hs.hc
  have hlo := hs.lo
  have HH : Hid (RM x s D w) := H
  have HD : Hid (∀ k, w.heap.size ≤ k → D k) := hD
  have hh := fun q => rhas_any (H.below (below_drewN (Below.refl _ w) q)) hs.sm key
  have hlen := fun q => mlen_any (H.below (below_drewN (Below.refl _ w) q)) hs.sm
  rw [hk] at hh
  have HCn : Hid (∀ W, RM x s D W → Calls Try.prog 49 #[.pointer (some ⟨x, 0, none⟩), .int .u8 104] W fun e w' => e = .returned (.int .i64 (C.cnt 104 s.s : Nat)) ∧ w' = W) := fun W h => rcount_any h (by omega) 104
  have HMo : Hid (∀ W, RM x s D W → Calls Try.prog 70 #[.pointer (some ⟨x, 0, none⟩)] W fun e w' => e = .returned (.int .i64 (mostR s : Nat)) ∧ ∃ q, w' = W.drewN q) := fun W h => rmost_any h hc hlo
  have HTo : Hid (∀ (n : Nat) W, RM x s D W → Keeps D w W → Calls Try.prog 67 #[.pointer (some ⟨x, 0, none⟩), .string key, .int .u8 (n : Nat)] W fun e w' => e = .returned (.tuple #[]) ∧ RM x { s with s := C.top s.s key n } D w' ∧ Keeps D W w') := fun n W h hk => rtop_any h (by omega) (fun j hj => HD.out j (Nat.le_trans hk.size hj)) key n
  have htop1 := C.top_le s.s key 104
  have htop2 := C.top_le s.s key 99
  have hcn := C.cnt_le 104 s.s
  have HP1 : Hid (∀ W, RM x { s with s := C.top s.s key 104 } D W → Keeps D w W → Calls Try.prog 72 #[.pointer (some ⟨x, 0, none⟩)] W fun e w' => e = .returned (.tuple #[]) ∧ RM x { s with s := C.pr (C.top s.s key 104) } D w' ∧ Keeps D W w') := fun W h hk => rprune_any h (by show (C.top s.s key 104).length ≤ 5000; omega) (fun j hj => HD.out j (Nat.le_trans hk.size hj))
  have HP2 : Hid (∀ W, RM x { s with s := C.top s.s key 99, q := s.q ++ [key] } D W → Keeps D w W → Calls Try.prog 72 #[.pointer (some ⟨x, 0, none⟩)] W fun e w' => e = .returned (.tuple #[]) ∧ RM x { s with s := C.pr (C.top s.s key 99), q := s.q ++ [key] } D w' ∧ Keeps D W w') := fun W h hk => rprune_any h (by show (C.top s.s key 99).length ≤ 5000; omega) (fun j hj => HD.out j (Nat.le_trans hk.size hj))
  have HL : Hid (loadR s key = if C.cnt 104 s.s < mostR s then { s with s := C.pr (C.top s.s key 104) } else { s with s := C.pr (C.top s.s key 99), q := s.q ++ [key] }) := rfl
  unfold lenR at hl
  have hmo : mostR s ≤ 1024 := by unfold mostR; omega
  obtain ⟨L, a1, c1, a2, c2, H⟩ := H
  obtain ⟨d0, d1, d2⟩ := H.cells
  obtain ⟨N, hN⟩ : ∃ N, N = s.q.length + C.cnt 104 s.s := ⟨_, rfl⟩
  rw [← hN] at hlen hl
  have hd : decide ((s.c : Int) ≤ (N : Int)) = false := decide_eq_false (by omega)
  have hd2 : decide (s.c ≤ N) = false := decide_eq_false (by omega)
  clear H hD hs hN hk
  generalize C.cnt 104 s.s = n at *
  generalize mostR s = m at *
  rcases Nat.lt_or_ge n m with hlt | hge
  · have g1 : decide ((n : Int) < (m : Int)) = true := decide_eq_true (by omega)
    have HLE : Hid (loadR s key = { s with s := C.pr (C.top s.s key 104) }) := by show _ = _; rw [HL.out, if_pos hlt]
    go_enter Try.func37, Try.ntmps37
    go_wp2_with fail
    go_quiet (first | (go_at_call 40; refine Calls.quiet_of_same (hh _)) | (go_at_call 16; refine Calls.quiet_of (hlen _)))
    clear hh hlen d0 d1 d2
    rename_i nq
    have HB : Hid (Below w.heap.size w (w.drewN nq)) := below_drewN (Below.refl _ w) nq
    generalize w.drewN nq = wd at *
    go_wp2_with (first
      | (go_at_call 49; refine Calls.mono (HCn.out _ (HH.out.below HB.out)) ?_; rintro e wc ⟨rfl, rfl⟩)
      | (go_at_call 70; refine Calls.mono (HMo.out _ (HH.out.below HB.out)) ?_; rintro e w4 ⟨rfl, q4, hq4⟩; have HB4 : Hid (Below w.heap.size w w4) := (by rw [hq4]; exact below_drewN HB.out q4); clear hq4)
      | (go_at_call 67; refine Calls.mono (HTo.out 104 _ (HH.out.below HB4.out) (.of_below HB4.out)) ?_; rintro e w2 ⟨rfl, h2, hk2⟩; have H2 : Hid (RM x { s with s := C.top s.s key 104 } D w2) := h2; have HK2 : Hid (Keeps D w w2) := ((Keeps.of_below HB4.out).trans hk2); clear h2 hk2)
      | (go_at_call 72; refine Calls.mono (HP1.out _ H2.out HK2.out) ?_; rintro e w3 ⟨rfl, h3, hk3⟩))
    go_ret
    exact ⟨rfl, by rw [HLE.out]; exact h3, HK2.out.trans hk3⟩
  · have g1 : decide ((n : Int) < (m : Int)) = false := decide_eq_false (by omega)
    have g2 : ¬ n < m := by omega
    have HLE : Hid (loadR s key = { s with s := C.pr (C.top s.s key 99), q := s.q ++ [key] }) := by show _ = _; rw [HL.out, if_neg g2]
    go_enter Try.func37, Try.ntmps37
    go_wp2_with fail
    go_quiet (first | (go_at_call 40; refine Calls.quiet_of_same (hh _)) | (go_at_call 16; refine Calls.quiet_of (hlen _)))
    clear hh hlen d0 d1 d2
    rename_i nq
    have HB : Hid (Below w.heap.size w (w.drewN nq)) := below_drewN (Below.refl _ w) nq
    generalize w.drewN nq = wd at *
    go_wp2_with (first
      | (go_at_call 49; refine Calls.mono (HCn.out _ (HH.out.below HB.out)) ?_; rintro e wc ⟨rfl, rfl⟩)
      | (go_at_call 70; refine Calls.mono (HMo.out _ (HH.out.below HB.out)) ?_; rintro e w4 ⟨rfl, q4, hq4⟩; have HB4 : Hid (Below w.heap.size w w4) := (by rw [hq4]; exact below_drewN HB.out q4); clear hq4)
      | (go_at_call 67; refine Calls.mono (HTo.out 99 _ (HH.out.below HB4.out) (.of_below HB4.out)) ?_; rintro e w2 ⟨rfl, ⟨M, b1, n1, b2, n2, hM⟩, hk2⟩; obtain ⟨u0, u1, u2⟩ := hM.cells; have HM : Hid (ReIn D M w2 x { s with s := C.top s.s key 99 } b1 n1 b2 n2) := hM; have HK2 : Hid (Keeps D w w2) := ((Keeps.of_below HB4.out).trans hk2); clear hM hk2; replace u1 : w2.cell? ⟨x, 1, none⟩ = some (.slice b2 s.q.length n2) := u1)
      | (at_builtin; go_must (refine wpList_append_row (zs := s.q) (ks := [key]) rfl _ _ rfl rfl (HM.out.r2.below ((Below.refl _ _).alloc (Nat.le_refl _) _)) rfl (src_one _ key) (by simp; omega) ?_); intro a7 n7 w7 hr7 hk7; obtain ⟨⟨x0, x1, x2⟩, y0, y1, y2⟩ := (HM.out.below ((Below.refl _ _).alloc (Nat.le_refl _) _)).still (by omega) hk7; have h7 := RM.grow2 (HM.out.below ((Below.refl _ _).alloc (Nat.le_refl _) _)) (fun k h => HD.out k (Nat.le_trans HK2.out.size (Nat.le_trans (by simp) h))) hr7 hk7; have H7 : Hid (RM x { s with s := C.top s.s key 99, q := s.q ++ [key] } D (w7.setCell ⟨x, 1, none⟩ (.slice a7 (s.q.length + 1) n7))) := h7.1; have HK7 : Hid (Keeps D w (w7.setCell ⟨x, 1, none⟩ (.slice a7 (s.q.length + 1) n7))) := ((HK2.out.alloc _).trans h7.2); clear hr7 hk7 h7)
      | (go_at_call 72; refine Calls.mono (HP2.out _ H7.out HK7.out) ?_; rintro e w3 ⟨rfl, h3, hk3⟩))
    go_ret
    exact ⟨rfl, by rw [HLE.out]; exact h3, HK7.out.trans hk3⟩
set_option maxHeartbeats 1000000 in
theorem mremove_any (H : RM x s D w) (hs : Sl s) (hD : ∀ k, w.heap.size ≤ k → D k) (key : ByteArray) :
    Calls Try.prog 38 #[.pointer (some ⟨x, 0, none⟩), .string key] w fun e w' => e = .returned (.bool (hasR s key)) ∧ RM x (if hasR s key = true then removeR s key else s) D w' ∧ Keeps D w w' := by
  have l1 := hs.l1
  have l2 := hs.l2
  have hol := C.out_le s.s key
  have HH : Hid (RM x s D w) := H
  have HD : Hid (∀ k, w.heap.size ≤ k → D k) := hD
  have hh := rhas_any H hs.sm key
  have hou := rout_any H (by omega) hD key
  have HLv : Hid (∀ W, RM x { s with s := C.out s.s key } D W → Keeps D w W → Calls Try.prog 69 #[.pointer (some ⟨x, 0, none⟩), .string key] W fun e w' => e = .returned (.tuple #[]) ∧ RM x { s with s := C.out s.s key, q := A.cut s.q key } D w' ∧ Keeps D W w') := fun W h hk => rleave_any h (by show s.q.length ≤ 5000; omega) (fun j hj => HD.out j (Nat.le_trans hk.size hj)) key
  have HPr : Hid (∀ W, RM x { s with s := C.out s.s key, q := A.cut s.q key } D W → Keeps D w W → Calls Try.prog 72 #[.pointer (some ⟨x, 0, none⟩)] W fun e w' => e = .returned (.tuple #[]) ∧ RM x (removeR s key) D w' ∧ Keeps D W w') := fun W h hk => rprune_any h (by show (C.out s.s key).length ≤ 5000; omega) (fun j hj => HD.out j (Nat.le_trans hk.size hj))
  clear H hD hs
  cases hv : hasR s key with
  | false =>
    rw [hv] at hh
    clear hou
    go_enter Try.func38, Try.ntmps38
    go_wp2_with (go_at_call 40; refine Calls.mono hh ?_; clear hh; rintro e w1 ⟨rfl, rfl⟩)
    go_ret
    exact ⟨rfl, by simpa using HH.out, Keeps.refl _ _⟩
  | true =>
    rw [hv] at hh
    go_enter Try.func38, Try.ntmps38
    go_wp2_with (first
      | (go_at_call 40; refine Calls.mono hh ?_; clear hh; rintro e w1 ⟨rfl, rfl⟩)
      | (go_at_call 73; refine Calls.mono hou ?_; clear hou; rintro e w2 ⟨rfl, h2, hk2⟩; have H2 : Hid (RM x { s with s := C.out s.s key } D w2) := h2; have HK2 : Hid (Keeps D _ w2) := hk2; clear h2 hk2)
      | (go_at_call 69; refine Calls.mono (HLv.out _ H2.out HK2.out) ?_; rintro e w3 ⟨rfl, h3, hk3⟩; have H3 : Hid (RM x { s with s := C.out s.s key, q := A.cut s.q key } D w3) := h3; have HK3 : Hid (Keeps D _ w3) := (HK2.out.trans hk3); clear h3 hk3)
      | (go_at_call 72; refine Calls.mono (HPr.out _ H3.out HK3.out) ?_; rintro e w4 ⟨rfl, h4, hk4⟩))
    go_ret
    exact ⟨rfl, by simpa using h4, HK3.out.trans hk4⟩
theorem eng_start (c : Nat) (v : Int) (h : v = c) : some (Obj.cells #[.slice none 0 0, .slice none 0 0, .int .i64 v] 62 (0, 0)) = some (Obj.cells (eng ⟨[], [], c⟩ none 0 none 0) 62 (0, 0)) := by
  subst h
  rfl
theorem mnew_any (r : Int) (hD : ∀ k, w.heap.size ≤ k → D k) :
    Calls Try.prog 11 #[.int .i64 r] w fun e w' => ∃ x, e = .returned (.pointer (some ⟨x, 0, none⟩)) ∧ RM x ⟨[], [], heldC r⟩ D w' ∧ Keeps D w w' := by
  have hc : ((heldC r : Nat) : Int) = min (max r 1) 1024 := by unfold heldC; omega
  go_enter Try.func11, Try.ntmps11
  go_wp2_with fail
  all_goals
    go_ret
    refine ⟨_, rfl, ⟨fun g => if g = w.heap.size then 0 else 1, none, 0, none, 0, hD _ (Nat.le_refl _), by simp, ?_, C.Row.nil, Row.nil⟩, (Keeps.refl D w).alloc _⟩
    rw [heap_alloc_new]
    exact eng_start _ _ (by first | exact hc.symm | omega)
end
end Go.Proofs.Ytcbaalodhgkgmaa
