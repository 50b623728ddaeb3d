/- The document's machine: Access. -/
import Derived.Test.YtcbaalodhgkgmaaRfh
namespace Go.Proofs.Ytcbaalodhgkgmaa
open Go.RowKit

theorem C.forgot_le {c : Nat} {l l' : List C.It} (h : C.Forgot c l l') : l'.length ≤ l.length := by
  induction h with
  | done => exact Nat.le_refl _
  | step _ hz _ ih => have := C.out_less (C.fst_mem hz); omega
theorem beside_end {B : (Nat → Prop) → World → Prop} {D D1 : Nat → Prop} {w2 w5 : World} {ad : Option Addr} {cap : Nat} {l : List ByteArray} (lb : ∀ {D : Nat → Prop} {w : World}, B D w → B (fun k => D k ∧ k < w.heap.size) w) (hD1 : ∀ g, D1 g → D g ∧ g < w2.heap.size) (hD : ∀ k, w2.heap.size ≤ k → D k) (hrow : Row (fun g => D g ∧ ¬ D1 g) w2 ad cap l)
    (hk : Keeps (fun g => D1 g ∨ w2.heap.size ≤ g) w2 w5) (H : B (fun g => D1 g ∨ w2.heap.size ≤ g) w5) : Beside B ad cap l D w5 := by
  refine ⟨_, fun g h => ⟨?_, h.2⟩, lb H, ((hrow.narrow).kept hk (fun g h => ?_)).wide (fun g _ h => ⟨h.1.1, ?_⟩)⟩
  · rcases h.1 with h | h
    · exact (hD1 g h).1
    · exact hD g h
  · rintro (h2 | h2)
    · exact h.1.2 h2
    · have := h.2; omega
  · rintro ⟨h2 | h2, _⟩
    · exact h.1.2 h2
    · have := h.2; omega
/-- what an Access makes of a machine in which the key is resident -/
def hitR (s : Rs) (k : ByteArray) : Rs :=
  if C.isOf s.s k = 104 then { s with s := C.pr (C.top s.s k 104) } else if C.isOf s.s k = 99 then { warmR s k with s := C.pr (warmR s k).s } else { s with s := C.pr (C.top s.s k 99), q := A.cut s.q k ++ [k] }
/-- what it makes where it comes new, till what is forgotten -/
def missR (s : Rs) (k : ByteArray) : Rs :=
  if C.cnt 104 s.s < mostR s then { s with s := C.top s.s k 104 } else if C.isOf s.s k = 103 then warmR s k else { s with s := C.top s.s k 99, q := s.q ++ [k] }
/-- room was made -/
def RecR (s : Rs) (gs : List ByteArray) (s1 : Rs) : Prop :=
  (lenR s < s.c ∧ gs = [] ∧ s1 = s) ∨ (s.c ≤ lenR s ∧ ∃ k r l, (readyR s).q = k :: r ∧ C.Forgot s.c (C.gh (readyR s).s k) l ∧ gs = [k] ∧ s1 = ⟨C.pr l, A.cut (k :: r) k, s.c⟩)
theorem warm_sm {s : Rs} (h : Sl s) (k : ByteArray) : (warmR s k).s.length ≤ 4001 ∧ (warmR s k).q.length ≤ 4001 ∧ (warmR s k).c = s.c := by
  have h1 := h.l1
  have h2 := h.l2
  have h3 := C.top_le s.s k 104
  have h4 := A.length_cut_le s.q k
  unfold warmR
  split
  · unfold coolsR
    split
    · rename_i z _
      have h5 := C.out_le (hotR s k).s z.key
      have h6 := C.pr_le (C.out (hotR s k).s z.key)
      have h7 : (hotR s k).s.length = (C.top s.s k 104).length := rfl
      refine ⟨?_, ?_, rfl⟩
      · show (C.pr (C.out (hotR s k).s z.key)).length ≤ 4001; omega
      · show (A.cut s.q k ++ [z.key]).length ≤ 4001; simp; omega
    · have h6 := C.pr_le (hotR s k).s
      have h7 : (hotR s k).s.length = (C.top s.s k 104).length := rfl
      exact ⟨by show (C.pr (hotR s k).s).length ≤ 4001; omega, by show (A.cut s.q k).length ≤ 4001; omega, rfl⟩
  · exact ⟨by show (C.top s.s k 104).length ≤ 4001; omega, by show (A.cut s.q k).length ≤ 4001; omega, rfl⟩
section
variable {D D' : Nat → Prop} {w w' : World} {x : Nat} {s : Rs}
theorem RM.bare (H : RM x s D w) : Beside (RM x s) none 0 [] D w := ⟨_, fun _ h => h, H.narrow, Row.nil⟩
set_option maxHeartbeats 4000000 in
theorem racc_hit_hot (H : RM x s D w) (hs : Sl s) (hD : ∀ k, w.heap.size ≤ k → D k) (key : ByteArray) (hn : C.isOf s.s key = 104) :
    Calls Try.prog 36 #[.pointer (some ⟨x, 0, none⟩), .string key] w fun e w' => e = .returned (.tuple #[.bool true, .slice none 0 0]) ∧ RM x (hitR s key) D w' ∧ Keeps D w w' := by
  have l1 := hs.l1
  have l2 := hs.l2
  have HH : Hid (RM x s D w) := H
  have HS : Hid (Sl s) := hs
  have HD : Hid (∀ k, w.heap.size ≤ k → D k) := hD
  have hh := rhas_any H hs.sm key
  have HIs : Hid (∀ W, RM x s D W → Calls Try.prog 66 #[.pointer (some ⟨x, 0, none⟩), .string key] W fun e w' => e = .returned (.int .u8 (C.isOf s.s key : Nat)) ∧ w' = W) := fun W h => ris_any h (by omega) key
  have HTo : Hid (∀ (S : Rs) (n : Nat) W, S.s = s.s → RM x S D W → Keeps D w W → Calls Try.prog 67 #[.pointer (some ⟨x, 0, none⟩), .string key, .int .u8 (n : Nat)] W fun e w' => e = .returned (.tuple #[]) ∧ RM x { S with s := C.top s.s key n } D w' ∧ Keeps D W w') := fun S n W he h hk => by
    have := rtop_any h (by rw [he]; omega) (fun j hj => HD.out j (Nat.le_trans hk.size hj)) key n
    rw [he] at this
    exact this
  have HPr : Hid (∀ (S : Rs) W, S.s.length ≤ 4001 → RM x S D W → Keeps D w W → Calls Try.prog 72 #[.pointer (some ⟨x, 0, none⟩)] W fun e w' => e = .returned (.tuple #[]) ∧ RM x { S with s := C.pr S.s } D w' ∧ Keeps D W w') := fun S W hl h hk => rprune_any h (by omega) (fun j hj => HD.out j (Nat.le_trans hk.size hj))
  have ht1 := C.top_le s.s key 104
  have ht2 := C.top_le s.s key 99
  have hcl := A.length_cut_le s.q key
  have hw := warm_sm hs key
  have HE : Hid (hitR s key = { s with s := C.pr (C.top s.s key 104) }) := by
    show hitR s key = _
    unfold hitR
    rw [if_pos hn]
  have hv : hasR s key = true := by unfold hasR; rw [hn]; rfl
  have g1 : ((C.isOf s.s key : Int) == 104) = true := by simp; omega
  rw [hv] at hh
  have HWm : Hid (∀ W, RM x s D W → Keeps D w W → Calls Try.prog 68 #[.pointer (some ⟨x, 0, none⟩), .string key] W fun e w' => e = .returned (.tuple #[]) ∧ RM x (warmR s key) D w' ∧ Keeps D W w') := fun W h hk => rwarm_any h HS.out (fun j hj => HD.out j (Nat.le_trans hk.size hj)) key
  have HLv : Hid (∀ W, RM x s D W → Keeps D w W → Calls Try.prog 69 #[.pointer (some ⟨x, 0, none⟩), .string key] W fun e w' => e = .returned (.tuple #[]) ∧ RM x { s with q := A.cut s.q key } D w' ∧ Keeps D W w') := fun W h hk => rleave_any h (by omega) (fun j hj => HD.out j (Nat.le_trans hk.size hj)) key
  have hlen := fun q => mlen_any (H.below (below_drewN (Below.refl _ w) q)) hs.sm
  obtain ⟨L, a1, c1, a2, c2, H⟩ := H
  obtain ⟨d0, d1, d2⟩ := H.cells
  clear H hD hs hv
  generalize C.isOf s.s key = n at *
  go_enter Try.func36, Try.ntmps36
  go_wp2_with (go_at_call 40; refine Calls.mono hh ?_; clear hh; rintro e w1 ⟨rfl, rfl⟩)
  go_quiet (first | (go_at_call 16; refine Calls.quiet_of (hlen _)))
  clear hlen d0 d1 d2
  rename_i nq
  have HB : Hid (Below w1.heap.size w1 (w1.drewN nq)) := below_drewN (Below.refl _ w1) nq
  generalize w1.drewN nq = wd at *
  have HI : Hid (RM x s D wd) := HH.out.below HB.out
  have HKd : Hid (Keeps D w1 wd) := .of_below HB.out
  go_wp2_with (first
    | (go_at_call 66; refine Calls.mono (HIs.out _ HI.out) ?_; rintro e w2 ⟨rfl, rfl⟩)
    | (go_at_call 67; refine Calls.mono (HTo.out s 104 _ rfl HI.out HKd.out) ?_; rintro e w8 ⟨rfl, h8, hk8⟩; have H8 : Hid (RM x { s with s := C.top s.s key 104 } D w8) := h8; have HK8 : Hid (Keeps D _ w8) := (HKd.out.trans hk8); clear h8 hk8)
    | (go_at_call 72; refine Calls.mono (HPr.out _ _ (by show (C.top s.s key 104).length ≤ 4001; omega) H8.out HK8.out) ?_; rintro e w9 ⟨rfl, h9, hk9⟩))
  go_ret2
  exact ⟨rfl, by rw [HE.out]; exact h9, HK8.out.trans hk9⟩
set_option maxHeartbeats 4000000 in
theorem racc_hit_cold (H : RM x s D w) (hs : Sl s) (hD : ∀ k, w.heap.size ≤ k → D k) (key : ByteArray) (hn : C.isOf s.s key = 99) (hv : hasR s key = true) :
    Calls Try.prog 36 #[.pointer (some ⟨x, 0, none⟩), .string key] w fun e w' => e = .returned (.tuple #[.bool true, .slice none 0 0]) ∧ RM x (hitR s key) D w' ∧ Keeps D w w' := by
  have l1 := hs.l1
  have l2 := hs.l2
  have HH : Hid (RM x s D w) := H
  have HS : Hid (Sl s) := hs
  have HD : Hid (∀ k, w.heap.size ≤ k → D k) := hD
  have hh := rhas_any H hs.sm key
  have HIs : Hid (∀ W, RM x s D W → Calls Try.prog 66 #[.pointer (some ⟨x, 0, none⟩), .string key] W fun e w' => e = .returned (.int .u8 (C.isOf s.s key : Nat)) ∧ w' = W) := fun W h => ris_any h (by omega) key
  have HTo : Hid (∀ (S : Rs) (n : Nat) W, S.s = s.s → RM x S D W → Keeps D w W → Calls Try.prog 67 #[.pointer (some ⟨x, 0, none⟩), .string key, .int .u8 (n : Nat)] W fun e w' => e = .returned (.tuple #[]) ∧ RM x { S with s := C.top s.s key n } D w' ∧ Keeps D W w') := fun S n W he h hk => by
    have := rtop_any h (by rw [he]; omega) (fun j hj => HD.out j (Nat.le_trans hk.size hj)) key n
    rw [he] at this
    exact this
  have HPr : Hid (∀ (S : Rs) W, S.s.length ≤ 4001 → RM x S D W → Keeps D w W → Calls Try.prog 72 #[.pointer (some ⟨x, 0, none⟩)] W fun e w' => e = .returned (.tuple #[]) ∧ RM x { S with s := C.pr S.s } D w' ∧ Keeps D W w') := fun S W hl h hk => rprune_any h (by omega) (fun j hj => HD.out j (Nat.le_trans hk.size hj))
  have ht1 := C.top_le s.s key 104
  have ht2 := C.top_le s.s key 99
  have hcl := A.length_cut_le s.q key
  have hw := warm_sm hs key
  have HE : Hid (hitR s key = { warmR s key with s := C.pr (warmR s key).s }) := by
    show hitR s key = _
    unfold hitR
    rw [if_neg (by omega), if_pos hn]
  have g1 : ((C.isOf s.s key : Int) == 104) = false := by simp; omega
  have g2 : ((C.isOf s.s key : Int) == 99) = true := by simp; omega
  rw [hv] at hh
  have HWm : Hid (∀ W, RM x s D W → Keeps D w W → Calls Try.prog 68 #[.pointer (some ⟨x, 0, none⟩), .string key] W fun e w' => e = .returned (.tuple #[]) ∧ RM x (warmR s key) D w' ∧ Keeps D W w') := fun W h hk => rwarm_any h HS.out (fun j hj => HD.out j (Nat.le_trans hk.size hj)) key
  have HLv : Hid (∀ W, RM x s D W → Keeps D w W → Calls Try.prog 69 #[.pointer (some ⟨x, 0, none⟩), .string key] W fun e w' => e = .returned (.tuple #[]) ∧ RM x { s with q := A.cut s.q key } D w' ∧ Keeps D W w') := fun W h hk => rleave_any h (by omega) (fun j hj => HD.out j (Nat.le_trans hk.size hj)) key
  have hlen := fun q => mlen_any (H.below (below_drewN (Below.refl _ w) q)) hs.sm
  obtain ⟨L, a1, c1, a2, c2, H⟩ := H
  obtain ⟨d0, d1, d2⟩ := H.cells
  clear H hD hs hv
  generalize C.isOf s.s key = n at *
  go_enter Try.func36, Try.ntmps36
  go_wp2_with (go_at_call 40; refine Calls.mono hh ?_; clear hh; rintro e w1 ⟨rfl, rfl⟩)
  go_quiet (first | (go_at_call 16; refine Calls.quiet_of (hlen _)))
  clear hlen d0 d1 d2
  rename_i nq
  have HB : Hid (Below w1.heap.size w1 (w1.drewN nq)) := below_drewN (Below.refl _ w1) nq
  generalize w1.drewN nq = wd at *
  have HI : Hid (RM x s D wd) := HH.out.below HB.out
  have HKd : Hid (Keeps D w1 wd) := .of_below HB.out
  go_wp2_with (first
    | (go_at_call 66; refine Calls.mono (HIs.out _ HI.out) ?_; rintro e w2 ⟨rfl, rfl⟩)
    | (go_at_call 68; refine Calls.mono (HWm.out _ HI.out HKd.out) ?_; rintro e w8 ⟨rfl, h8, hk8⟩; have H8 : Hid (RM x (warmR s key) D w8) := h8; have HK8 : Hid (Keeps D _ w8) := (HKd.out.trans hk8); clear h8 hk8)
    | (go_at_call 72; refine Calls.mono (HPr.out _ _ hw.1 H8.out HK8.out) ?_; rintro e w9 ⟨rfl, h9, hk9⟩))
  go_ret2
  exact ⟨rfl, by rw [HE.out]; exact h9, HK8.out.trans hk9⟩
set_option maxHeartbeats 4000000 in
theorem racc_hit_out (H : RM x s D w) (hs : Sl s) (hD : ∀ k, w.heap.size ≤ k → D k) (key : ByteArray) (hn : C.isOf s.s key ≠ 104) (hn2 : C.isOf s.s key ≠ 99) (hv : hasR s key = true) :
    Calls Try.prog 36 #[.pointer (some ⟨x, 0, none⟩), .string key] w fun e w' => e = .returned (.tuple #[.bool true, .slice none 0 0]) ∧ RM x (hitR s key) D w' ∧ Keeps D w w' := by
  have l1 := hs.l1
  have l2 := hs.l2
  have HH : Hid (RM x s D w) := H
  have HS : Hid (Sl s) := hs
  have HD : Hid (∀ k, w.heap.size ≤ k → D k) := hD
  have hh := rhas_any H hs.sm key
  have HIs : Hid (∀ W, RM x s D W → Calls Try.prog 66 #[.pointer (some ⟨x, 0, none⟩), .string key] W fun e w' => e = .returned (.int .u8 (C.isOf s.s key : Nat)) ∧ w' = W) := fun W h => ris_any h (by omega) key
  have HTo : Hid (∀ (S : Rs) (n : Nat) W, S.s = s.s → RM x S D W → Keeps D w W → Calls Try.prog 67 #[.pointer (some ⟨x, 0, none⟩), .string key, .int .u8 (n : Nat)] W fun e w' => e = .returned (.tuple #[]) ∧ RM x { S with s := C.top s.s key n } D w' ∧ Keeps D W w') := fun S n W he h hk => by
    have := rtop_any h (by rw [he]; omega) (fun j hj => HD.out j (Nat.le_trans hk.size hj)) key n
    rw [he] at this
    exact this
  have HPr : Hid (∀ (S : Rs) W, S.s.length ≤ 4001 → RM x S D W → Keeps D w W → Calls Try.prog 72 #[.pointer (some ⟨x, 0, none⟩)] W fun e w' => e = .returned (.tuple #[]) ∧ RM x { S with s := C.pr S.s } D w' ∧ Keeps D W w') := fun S W hl h hk => rprune_any h (by omega) (fun j hj => HD.out j (Nat.le_trans hk.size hj))
  have ht1 := C.top_le s.s key 104
  have ht2 := C.top_le s.s key 99
  have hcl := A.length_cut_le s.q key
  have hw := warm_sm hs key
  have HE : Hid (hitR s key = { s with s := C.pr (C.top s.s key 99), q := A.cut s.q key ++ [key] }) := by
    show hitR s key = _
    unfold hitR
    rw [if_neg hn, if_neg hn2]
  have g1 : ((C.isOf s.s key : Int) == 104) = false := by simp; omega
  have g2 : ((C.isOf s.s key : Int) == 99) = false := by simp; omega
  rw [hv] at hh
  have HWm : Hid (∀ W, RM x s D W → Keeps D w W → Calls Try.prog 68 #[.pointer (some ⟨x, 0, none⟩), .string key] W fun e w' => e = .returned (.tuple #[]) ∧ RM x (warmR s key) D w' ∧ Keeps D W w') := fun W h hk => rwarm_any h HS.out (fun j hj => HD.out j (Nat.le_trans hk.size hj)) key
  have HLv : Hid (∀ W, RM x s D W → Keeps D w W → Calls Try.prog 69 #[.pointer (some ⟨x, 0, none⟩), .string key] W fun e w' => e = .returned (.tuple #[]) ∧ RM x { s with q := A.cut s.q key } D w' ∧ Keeps D W w') := fun W h hk => rleave_any h (by omega) (fun j hj => HD.out j (Nat.le_trans hk.size hj)) key
  have hlen := fun q => mlen_any (H.below (below_drewN (Below.refl _ w) q)) hs.sm
  obtain ⟨L, a1, c1, a2, c2, H⟩ := H
  obtain ⟨d0, d1, d2⟩ := H.cells
  clear H hD hs hv
  generalize C.isOf s.s key = n at *
  go_enter Try.func36, Try.ntmps36
  go_wp2_with (go_at_call 40; refine Calls.mono hh ?_; clear hh; rintro e w1 ⟨rfl, rfl⟩)
  go_quiet (first | (go_at_call 16; refine Calls.quiet_of (hlen _)))
  clear hlen d0 d1 d2
  rename_i nq
  have HB : Hid (Below w1.heap.size w1 (w1.drewN nq)) := below_drewN (Below.refl _ w1) nq
  generalize w1.drewN nq = wd at *
  have HI : Hid (RM x s D wd) := HH.out.below HB.out
  have HKd : Hid (Keeps D w1 wd) := .of_below HB.out
  go_wp2_with (first
    | (go_at_call 66; refine Calls.mono (HIs.out _ HI.out) ?_; rintro e w2 ⟨rfl, rfl⟩)
    | (go_at_call 69; refine Calls.mono (HLv.out _ HI.out HKd.out) ?_; rintro e w3 ⟨rfl, ⟨M, b1, n1, b2, n2, hM⟩, hk3⟩; obtain ⟨u0, u1, u2⟩ := hM.cells; have HM : Hid (ReIn D M w3 x { s with q := A.cut s.q key } b1 n1 b2 n2) := hM; have HK3 : Hid (Keeps D _ w3) := (HKd.out.trans hk3); clear hM hk3; replace u1 : w3.cell? ⟨x, 1, none⟩ = some (.slice b2 (A.cut s.q key).length n2) := u1)
    | (at_builtin; go_must (refine wpList_append_row (zs := A.cut s.q key) (ks := [key]) rfl _ _ rfl rfl (HM.out.r2.below ((Below.refl _ _).alloc (Nat.le_refl _) _)) rfl (src_one _ key) (by simp; omega) ?_); intro a7 n7 w7 hr7 hk7; obtain ⟨⟨x0, x1, x2⟩, y0, y1, y2⟩ := (HM.out.below ((Below.refl _ _).alloc (Nat.le_refl _) _)).still (by omega) hk7; have h7 := RM.grow2 (HM.out.below ((Below.refl _ _).alloc (Nat.le_refl _) _)) (fun k h => HD.out k (Nat.le_trans HK3.out.size (Nat.le_trans (by simp) h))) hr7 hk7; have H7 : Hid (RM x { s with q := A.cut s.q key ++ [key] } D (w7.setCell ⟨x, 1, none⟩ (.slice a7 ((A.cut s.q key).length + 1) n7))) := h7.1; have HK7 : Hid (Keeps D _ (w7.setCell ⟨x, 1, none⟩ (.slice a7 ((A.cut s.q key).length + 1) n7))) := ((HK3.out.alloc _).trans h7.2); clear hr7 hk7 h7)
    | (go_at_call 67; refine Calls.mono (HTo.out { s with q := A.cut s.q key ++ [key] } 99 _ rfl H7.out HK7.out) ?_; rintro e w8 ⟨rfl, h8, hk8⟩; have H8 : Hid (RM x { s with s := C.top s.s key 99, q := A.cut s.q key ++ [key] } D w8) := h8; have HK8 : Hid (Keeps D _ w8) := (HK7.out.trans hk8); clear h8 hk8)
    | (go_at_call 72; refine Calls.mono (HPr.out _ _ (by show (C.top s.s key 99).length ≤ 4001; omega) H8.out HK8.out) ?_; rintro e w9 ⟨rfl, h9, hk9⟩))
  go_ret2
  exact ⟨rfl, by rw [HE.out]; exact h9, HK8.out.trans hk9⟩
/-- what an Access of a key that is not resident leaves -/
def MissR (x : Nat) (s : Rs) (key : ByteArray) (D : Nat → Prop) (w : World) (e : Ending) (w' : World) : Prop :=
  ∃ gs s1 l, RecR s gs s1 ∧ C.Forgot s1.c (missR s1 key).s l ∧ ∃ ad cap, e = .returned (.tuple #[.bool false, .slice ad gs.length cap]) ∧ Beside (RM x { missR s1 key with s := C.pr (C.pr l) }) ad cap gs D w' ∧ Keeps D w w'
set_option maxRecDepth 20000 in
set_option maxHeartbeats 8000000 in
theorem racc_miss_room_hot (H : RM x s D w) (hs : Sl s) (hD : ∀ k, w.heap.size ≤ k → D k) (key : ByteArray) (hv : hasR s key = false) (hlr : lenR s < s.c)
    (hr : ∀ gs s1, RecR s gs s1 → Sl s1 ∧ C.isOf s1.s key ≠ 104 ∧ C.cnt 104 s1.s < mostR s1) :
    Calls Try.prog 36 #[.pointer (some ⟨x, 0, none⟩), .string key] w (MissR x s key D w) := by
  have HH : Hid (RM x s D w) := H
  have HD : Hid (∀ k, w.heap.size ≤ k → D k) := hD
  have hh := rhas_any H hs.sm key
  rw [hv] at hh
  have hlen := fun q => mlen_any (H.below (below_drewN (Below.refl _ w) q)) hs.sm
  have HR : Hid (∀ gs s1, RecR s gs s1 → Sl s1 ∧ C.isOf s1.s key ≠ 104 ∧ C.cnt 104 s1.s < mostR s1) := hr
  have HEv : Hid (0 < lenR s → ∀ W : World, Below w.heap.size w W → Calls Try.prog 39 #[.pointer (some ⟨x, 0, none⟩)] W (GoesR x s D W)) := fun hp W hW => rgoes_any (HH.out.below hW) hs.sm (fun j hj => HD.out j (Nat.le_trans hW.size hj)) hp
  have hlo := hs.lo
  have hhc := hs.hc
  have hsl := hs.l1
  have hsq := hs.l2
  have hct := C.cnt_le 104 s.s
  obtain ⟨L, a1, c1, a2, c2, H⟩ := H
  obtain ⟨d0, d1, d2⟩ := H.cells
  obtain ⟨N, hN⟩ : ∃ N, N = lenR s := ⟨_, rfl⟩
  have HNL : Hid (N = lenR s) := hN
  rw [show s.q.length + C.cnt 104 s.s = lenR s from rfl, ← hN] at hlen
  have hNb : N ≤ 8000 := by rw [hN]; unfold lenR; omega
  rw [← hN] at hlr
  have hd : decide ((s.c : Int) ≤ (N : Int)) = false := decide_eq_false (by omega)
  have hd2 : decide (s.c ≤ N) = false := decide_eq_false (by omega)
  clear H hD hs hN hv hr hsl hsq hct
  go_enter Try.func36, Try.ntmps36
  go_wp2_with (go_at_call 40; refine Calls.mono hh ?_; clear hh; rintro e w1 ⟨rfl, rfl⟩)
  go_quiet (first | (go_at_call 16; refine Calls.quiet_of (hlen _)))
  clear hlen d0 d1 d2
  rename_i nq
  have HB : Hid (Below w1.heap.size w1 (w1.drewN nq)) := below_drewN (Below.refl _ w1) nq
  generalize w1.drewN nq = wd at *
  obtain ⟨W0, hW0⟩ : ∃ W0, W0 = wd := ⟨_, rfl⟩
  subst hW0
  obtain ⟨s1, hs1⟩ : ∃ s1, s1 = s := ⟨_, rfl⟩
  obtain ⟨gs0, hgs⟩ : ∃ gs0 : List ByteArray, gs0 = [] := ⟨_, rfl⟩
  obtain ⟨ad0, had⟩ : ∃ ad0 : Option Addr, ad0 = none := ⟨_, rfl⟩
  obtain ⟨cap0, hcap⟩ : ∃ cap0 : Nat, cap0 = 0 := ⟨_, rfl⟩
  have HRec : Hid (RecR s gs0 s1) := .inl ⟨by rw [← HNL.out]; exact hlr, hgs, hs1⟩
  obtain ⟨D1, hD1⟩ : ∃ D1 : Nat → Prop, D1 = fun k => D k ∧ k < W0.heap.size := ⟨_, rfl⟩
  have HG1 : Hid (∀ g, D1 g → D g ∧ g < W0.heap.size) := fun g h => by rw [hD1] at h; exact h
  have HGR : Hid (Row (fun g => D g ∧ ¬ D1 g) W0 ad0 cap0 gs0) := by rw [had, hcap, hgs]; exact Row.nil
  have HK0 : Hid (Keeps D w1 W0) := .of_below HB.out
  have HDr : Hid (∀ k, W0.heap.size ≤ k → D k) := fun k h => HD.out k (Nat.le_trans HB.out.size h)
  obtain ⟨E, hEq⟩ : ∃ E : Nat → Prop, E = fun g => D1 g ∨ W0.heap.size ≤ g := ⟨_, rfl⟩
  have HE : Hid (∀ k, W0.heap.size ≤ k → E k) := fun k h => by rw [hEq]; exact .inr h
  have HA0 : Hid (RM x s1 E W0) := by
    rw [hEq, hs1]
    exact (HH.out.below HB.out).wide (fun k hk h => .inl (by rw [hD1]; exact ⟨h, hk⟩))
  have HFin : Hid (∀ (S : Rs) (W : World), RM x S E W → Keeps E W0 W → Beside (RM x S) ad0 cap0 gs0 D W ∧ Keeps D w1 W) := (fun S W h hk => ⟨beside_end (fun h => RM.narrow h) HG1.out HDr.out HGR.out (hEq ▸ hk) (hEq ▸ h), HK0.out.trans ((hEq ▸ hk : Keeps (fun g => D1 g ∨ W0.heap.size ≤ g) W0 W).mono (fun k _ h => h.elim (fun h => (HG1.out k h).1) (HDr.out k)))⟩)
  have HGs : Hid (ad0 = none ∧ cap0 = 0 ∧ gs0 = []) := ⟨had, hcap, hgs⟩
  have hq := HR.out gs0 s1 HRec.out
  obtain ⟨hq0, hnh, hbr⟩ := hq
  have hq1 := hq0.l1
  have hq2 := hq0.l2
  have hq3 := hq0.hc
  have hq4 := hq0.lo
  have hct := C.cnt_le 104 s1.s
  have hmb : mostR s1 ≤ 1024 := (by unfold mostR; omega)
  have g1 : ((C.isOf s1.s key : Int) == 104) = false := (by simp; omega)
  have g2 : decide ((C.cnt 104 s1.s : Int) < (mostR s1 : Nat)) = true := decide_eq_true (by omega)
  have g3 : C.cnt 104 s1.s < mostR s1 := hbr
  have hm : missR s1 key = { s1 with s := C.top s1.s key 104 } := (by unfold missR; rw [if_pos hbr])
  have htl := C.top_le s1.s key 104
  have hm1 : (missR s1 key).s.length ≤ 5000 := (by rw [hm]; show (C.top s1.s key 104).length ≤ 5000; omega)
  have hm2 : (missR s1 key).q.length ≤ 5000 := (by rw [hm]; show s1.q.length ≤ 5000; omega)
  have hm3 : (missR s1 key).c ≤ 1024 := (by rw [hm]; exact hq3)
  have hm4 : (missR s1 key).c = s1.c := (by rw [hm])
  have HM : Hid (missR s1 key = { s1 with s := C.top s1.s key 104 }) := hm
  clear hm htl
  have HQ0 : Hid (Sl s1) := hq0
  have HMs : Hid (((missR s1 key).s.length ≤ 5000 ∧ (missR s1 key).q.length ≤ 5000) ∧ (missR s1 key).c ≤ 1024 ∧ (missR s1 key).c = s1.c) := ⟨⟨hm1, hm2⟩, hm3, hm4⟩
  clear hq0 hnh hbr hm1 hm2 hm3 hm4 hct hmb
  clear hgs had hcap hD1 hEq hs1
  go_wp2_with (first
    | (go_at_call 66; refine Calls.mono (ris_any HA4.out (by omega) key) ?_; rintro e wi ⟨rfl, hwi⟩; obtain rfl := hwi.symm)
    | (go_at_call 66; refine Calls.mono (ris_any HA0.out (by omega) key) ?_; rintro e wi ⟨rfl, hwi⟩; obtain rfl := hwi.symm)
    | (go_at_call 49; refine Calls.mono (rcount_any HA0.out (by omega) 104) ?_; rintro e wc ⟨rfl, hwi⟩; obtain rfl := hwi.symm)
    | (go_at_call 70; refine Calls.mono (rmost_any HA0.out hq3 hq4) ?_; rintro e w4 ⟨rfl, q4, hq4'⟩; have HA4 : Hid (RM x s1 E w4) := (by rw [hq4']; exact HA0.out.below (below_drewN (Below.refl _ _) q4)); have HK4 : Hid (Keeps E W0 w4) := (by rw [hq4']; exact (Keeps.refl E _).drewN q4); clear hq4')
    | (go_at_call 67; refine Calls.mono (rtop_any HA4.out (by omega) (fun j hj => HE.out j (Nat.le_trans HK4.out.size hj)) key 104) ?_; rintro e w8 ⟨rfl, h8, hk8⟩; have H8 : Hid (RM x (missR s1 key) E w8) := (by rw [HM.out]; exact h8); have HK8 : Hid (Keeps E W0 w8) := (HK4.out.trans hk8); clear h8 hk8)
    | (go_at_call 71; refine Calls.mono (rforget_any H8.out ⟨HMs.out.1.1, HMs.out.1.2, HMs.out.2.1⟩ (fun j hj => HE.out j (Nat.le_trans HK8.out.size hj))) ?_; rintro e w9 ⟨l9, hf9, rfl, h9, hk9⟩; have HF9 : Hid (C.Forgot s1.c (missR s1 key).s l9) := (by rw [← HMs.out.2.2]; exact hf9); have hl9 := Nat.le_trans (C.forgot_le hf9) HMs.out.1.1; have hp9 := C.pr_le l9; have H9 : Hid (RM x { missR s1 key with s := C.pr l9 } E w9) := h9; have HK9 : Hid (Keeps E W0 w9) := (HK8.out.trans hk9); clear hf9 h9 hk9)
    | (go_at_call 72; refine Calls.mono (rprune_any H9.out (by show (C.pr l9).length ≤ 5000; omega) (fun j hj => HE.out j (Nat.le_trans HK9.out.size hj))) ?_; rintro e w10 ⟨rfl, h10, hk10⟩))
  go_ret2
  exact ⟨gs0, s1, l9, HRec.out, HF9.out, ad0, cap0, by rw [HGs.out.1, HGs.out.2.1, HGs.out.2.2]; rfl, HFin.out _ _ h10 (HK9.out.trans hk10)⟩
set_option maxRecDepth 20000 in
set_option maxHeartbeats 8000000 in
theorem racc_miss_room_ghost (H : RM x s D w) (hs : Sl s) (hD : ∀ k, w.heap.size ≤ k → D k) (key : ByteArray) (hv : hasR s key = false) (hlr : lenR s < s.c)
    (hr : ∀ gs s1, RecR s gs s1 → Sl s1 ∧ C.isOf s1.s key ≠ 104 ∧ (¬ C.cnt 104 s1.s < mostR s1 ∧ C.isOf s1.s key = 103)) :
    Calls Try.prog 36 #[.pointer (some ⟨x, 0, none⟩), .string key] w (MissR x s key D w) := by
  have HH : Hid (RM x s D w) := H
  have HD : Hid (∀ k, w.heap.size ≤ k → D k) := hD
  have hh := rhas_any H hs.sm key
  rw [hv] at hh
  have hlen := fun q => mlen_any (H.below (below_drewN (Below.refl _ w) q)) hs.sm
  have HR : Hid (∀ gs s1, RecR s gs s1 → Sl s1 ∧ C.isOf s1.s key ≠ 104 ∧ (¬ C.cnt 104 s1.s < mostR s1 ∧ C.isOf s1.s key = 103)) := hr
  have HEv : Hid (0 < lenR s → ∀ W : World, Below w.heap.size w W → Calls Try.prog 39 #[.pointer (some ⟨x, 0, none⟩)] W (GoesR x s D W)) := fun hp W hW => rgoes_any (HH.out.below hW) hs.sm (fun j hj => HD.out j (Nat.le_trans hW.size hj)) hp
  have hlo := hs.lo
  have hhc := hs.hc
  have hsl := hs.l1
  have hsq := hs.l2
  have hct := C.cnt_le 104 s.s
  obtain ⟨L, a1, c1, a2, c2, H⟩ := H
  obtain ⟨d0, d1, d2⟩ := H.cells
  obtain ⟨N, hN⟩ : ∃ N, N = lenR s := ⟨_, rfl⟩
  have HNL : Hid (N = lenR s) := hN
  rw [show s.q.length + C.cnt 104 s.s = lenR s from rfl, ← hN] at hlen
  have hNb : N ≤ 8000 := by rw [hN]; unfold lenR; omega
  rw [← hN] at hlr
  have hd : decide ((s.c : Int) ≤ (N : Int)) = false := decide_eq_false (by omega)
  have hd2 : decide (s.c ≤ N) = false := decide_eq_false (by omega)
  clear H hD hs hN hv hr hsl hsq hct
  go_enter Try.func36, Try.ntmps36
  go_wp2_with (go_at_call 40; refine Calls.mono hh ?_; clear hh; rintro e w1 ⟨rfl, rfl⟩)
  go_quiet (first | (go_at_call 16; refine Calls.quiet_of (hlen _)))
  clear hlen d0 d1 d2
  rename_i nq
  have HB : Hid (Below w1.heap.size w1 (w1.drewN nq)) := below_drewN (Below.refl _ w1) nq
  generalize w1.drewN nq = wd at *
  obtain ⟨W0, hW0⟩ : ∃ W0, W0 = wd := ⟨_, rfl⟩
  subst hW0
  obtain ⟨s1, hs1⟩ : ∃ s1, s1 = s := ⟨_, rfl⟩
  obtain ⟨gs0, hgs⟩ : ∃ gs0 : List ByteArray, gs0 = [] := ⟨_, rfl⟩
  obtain ⟨ad0, had⟩ : ∃ ad0 : Option Addr, ad0 = none := ⟨_, rfl⟩
  obtain ⟨cap0, hcap⟩ : ∃ cap0 : Nat, cap0 = 0 := ⟨_, rfl⟩
  have HRec : Hid (RecR s gs0 s1) := .inl ⟨by rw [← HNL.out]; exact hlr, hgs, hs1⟩
  obtain ⟨D1, hD1⟩ : ∃ D1 : Nat → Prop, D1 = fun k => D k ∧ k < W0.heap.size := ⟨_, rfl⟩
  have HG1 : Hid (∀ g, D1 g → D g ∧ g < W0.heap.size) := fun g h => by rw [hD1] at h; exact h
  have HGR : Hid (Row (fun g => D g ∧ ¬ D1 g) W0 ad0 cap0 gs0) := by rw [had, hcap, hgs]; exact Row.nil
  have HK0 : Hid (Keeps D w1 W0) := .of_below HB.out
  have HDr : Hid (∀ k, W0.heap.size ≤ k → D k) := fun k h => HD.out k (Nat.le_trans HB.out.size h)
  obtain ⟨E, hEq⟩ : ∃ E : Nat → Prop, E = fun g => D1 g ∨ W0.heap.size ≤ g := ⟨_, rfl⟩
  have HE : Hid (∀ k, W0.heap.size ≤ k → E k) := fun k h => by rw [hEq]; exact .inr h
  have HA0 : Hid (RM x s1 E W0) := by
    rw [hEq, hs1]
    exact (HH.out.below HB.out).wide (fun k hk h => .inl (by rw [hD1]; exact ⟨h, hk⟩))
  have HFin : Hid (∀ (S : Rs) (W : World), RM x S E W → Keeps E W0 W → Beside (RM x S) ad0 cap0 gs0 D W ∧ Keeps D w1 W) := (fun S W h hk => ⟨beside_end (fun h => RM.narrow h) HG1.out HDr.out HGR.out (hEq ▸ hk) (hEq ▸ h), HK0.out.trans ((hEq ▸ hk : Keeps (fun g => D1 g ∨ W0.heap.size ≤ g) W0 W).mono (fun k _ h => h.elim (fun h => (HG1.out k h).1) (HDr.out k)))⟩)
  have HGs : Hid (ad0 = none ∧ cap0 = 0 ∧ gs0 = []) := ⟨had, hcap, hgs⟩
  have hq := HR.out gs0 s1 HRec.out
  obtain ⟨hq0, hnh, hbr⟩ := hq
  have hq1 := hq0.l1
  have hq2 := hq0.l2
  have hq3 := hq0.hc
  have hq4 := hq0.lo
  have hct := C.cnt_le 104 s1.s
  have hmb : mostR s1 ≤ 1024 := (by unfold mostR; omega)
  have g1 : ((C.isOf s1.s key : Int) == 104) = false := (by simp; omega)
  have g2 : decide ((C.cnt 104 s1.s : Int) < (mostR s1 : Nat)) = false := decide_eq_false (by omega)
  have g3 : ¬ C.cnt 104 s1.s < mostR s1 := hbr.1
  have g4 : ((C.isOf s1.s key : Int) == 103) = true := (by have := hbr.2; simp; omega)
  have hm : missR s1 key = warmR s1 key := (by unfold missR; rw [if_neg hbr.1, if_pos hbr.2])
  have hws := warm_sm hq0 key
  have hm1 : (missR s1 key).s.length ≤ 5000 := (by rw [hm]; omega)
  have hm2 : (missR s1 key).q.length ≤ 5000 := (by rw [hm]; omega)
  have hm3 : (missR s1 key).c ≤ 1024 := (by rw [hm, hws.2.2]; exact hq3)
  have hm4 : (missR s1 key).c = s1.c := (by rw [hm]; exact hws.2.2)
  have HM : Hid (missR s1 key = warmR s1 key) := hm
  clear hm hws
  have HQ0 : Hid (Sl s1) := hq0
  have HMs : Hid (((missR s1 key).s.length ≤ 5000 ∧ (missR s1 key).q.length ≤ 5000) ∧ (missR s1 key).c ≤ 1024 ∧ (missR s1 key).c = s1.c) := ⟨⟨hm1, hm2⟩, hm3, hm4⟩
  clear hq0 hnh hbr hm1 hm2 hm3 hm4 hct hmb
  clear hgs had hcap hD1 hEq hs1
  go_wp2_with (first
    | (go_at_call 66; refine Calls.mono (ris_any HA4.out (by omega) key) ?_; rintro e wi ⟨rfl, hwi⟩; obtain rfl := hwi.symm)
    | (go_at_call 66; refine Calls.mono (ris_any HA0.out (by omega) key) ?_; rintro e wi ⟨rfl, hwi⟩; obtain rfl := hwi.symm)
    | (go_at_call 49; refine Calls.mono (rcount_any HA0.out (by omega) 104) ?_; rintro e wc ⟨rfl, hwi⟩; obtain rfl := hwi.symm)
    | (go_at_call 70; refine Calls.mono (rmost_any HA0.out hq3 hq4) ?_; rintro e w4 ⟨rfl, q4, hq4'⟩; have HA4 : Hid (RM x s1 E w4) := (by rw [hq4']; exact HA0.out.below (below_drewN (Below.refl _ _) q4)); have HK4 : Hid (Keeps E W0 w4) := (by rw [hq4']; exact (Keeps.refl E _).drewN q4); clear hq4')
    | (go_at_call 68; refine Calls.mono (rwarm_any HA4.out HQ0.out (fun j hj => HE.out j (Nat.le_trans HK4.out.size hj)) key) ?_; rintro e w8 ⟨rfl, h8, hk8⟩; have H8 : Hid (RM x (missR s1 key) E w8) := (by rw [HM.out]; exact h8); have HK8 : Hid (Keeps E W0 w8) := (HK4.out.trans hk8); clear h8 hk8)
    | (go_at_call 71; refine Calls.mono (rforget_any H8.out ⟨HMs.out.1.1, HMs.out.1.2, HMs.out.2.1⟩ (fun j hj => HE.out j (Nat.le_trans HK8.out.size hj))) ?_; rintro e w9 ⟨l9, hf9, rfl, h9, hk9⟩; have HF9 : Hid (C.Forgot s1.c (missR s1 key).s l9) := (by rw [← HMs.out.2.2]; exact hf9); have hl9 := Nat.le_trans (C.forgot_le hf9) HMs.out.1.1; have hp9 := C.pr_le l9; have H9 : Hid (RM x { missR s1 key with s := C.pr l9 } E w9) := h9; have HK9 : Hid (Keeps E W0 w9) := (HK8.out.trans hk9); clear hf9 h9 hk9)
    | (go_at_call 72; refine Calls.mono (rprune_any H9.out (by show (C.pr l9).length ≤ 5000; omega) (fun j hj => HE.out j (Nat.le_trans HK9.out.size hj))) ?_; rintro e w10 ⟨rfl, h10, hk10⟩))
  go_ret2
  exact ⟨gs0, s1, l9, HRec.out, HF9.out, ad0, cap0, by rw [HGs.out.1, HGs.out.2.1, HGs.out.2.2]; rfl, HFin.out _ _ h10 (HK9.out.trans hk10)⟩
set_option maxRecDepth 20000 in
set_option maxHeartbeats 8000000 in
theorem racc_miss_room_new (H : RM x s D w) (hs : Sl s) (hD : ∀ k, w.heap.size ≤ k → D k) (key : ByteArray) (hv : hasR s key = false) (hlr : lenR s < s.c)
    (hr : ∀ gs s1, RecR s gs s1 → Sl s1 ∧ C.isOf s1.s key ≠ 104 ∧ (¬ C.cnt 104 s1.s < mostR s1 ∧ C.isOf s1.s key ≠ 103)) :
    Calls Try.prog 36 #[.pointer (some ⟨x, 0, none⟩), .string key] w (MissR x s key D w) := by
  have HH : Hid (RM x s D w) := H
  have HD : Hid (∀ k, w.heap.size ≤ k → D k) := hD
  have hh := rhas_any H hs.sm key
  rw [hv] at hh
  have hlen := fun q => mlen_any (H.below (below_drewN (Below.refl _ w) q)) hs.sm
  have HR : Hid (∀ gs s1, RecR s gs s1 → Sl s1 ∧ C.isOf s1.s key ≠ 104 ∧ (¬ C.cnt 104 s1.s < mostR s1 ∧ C.isOf s1.s key ≠ 103)) := hr
  have HEv : Hid (0 < lenR s → ∀ W : World, Below w.heap.size w W → Calls Try.prog 39 #[.pointer (some ⟨x, 0, none⟩)] W (GoesR x s D W)) := fun hp W hW => rgoes_any (HH.out.below hW) hs.sm (fun j hj => HD.out j (Nat.le_trans hW.size hj)) hp
  have hlo := hs.lo
  have hhc := hs.hc
  have hsl := hs.l1
  have hsq := hs.l2
  have hct := C.cnt_le 104 s.s
  obtain ⟨L, a1, c1, a2, c2, H⟩ := H
  obtain ⟨d0, d1, d2⟩ := H.cells
  obtain ⟨N, hN⟩ : ∃ N, N = lenR s := ⟨_, rfl⟩
  have HNL : Hid (N = lenR s) := hN
  rw [show s.q.length + C.cnt 104 s.s = lenR s from rfl, ← hN] at hlen
  have hNb : N ≤ 8000 := by rw [hN]; unfold lenR; omega
  rw [← hN] at hlr
  have hd : decide ((s.c : Int) ≤ (N : Int)) = false := decide_eq_false (by omega)
  have hd2 : decide (s.c ≤ N) = false := decide_eq_false (by omega)
  clear H hD hs hN hv hr hsl hsq hct
  go_enter Try.func36, Try.ntmps36
  go_wp2_with (go_at_call 40; refine Calls.mono hh ?_; clear hh; rintro e w1 ⟨rfl, rfl⟩)
  go_quiet (first | (go_at_call 16; refine Calls.quiet_of (hlen _)))
  clear hlen d0 d1 d2
  rename_i nq
  have HB : Hid (Below w1.heap.size w1 (w1.drewN nq)) := below_drewN (Below.refl _ w1) nq
  generalize w1.drewN nq = wd at *
  obtain ⟨W0, hW0⟩ : ∃ W0, W0 = wd := ⟨_, rfl⟩
  subst hW0
  obtain ⟨s1, hs1⟩ : ∃ s1, s1 = s := ⟨_, rfl⟩
  obtain ⟨gs0, hgs⟩ : ∃ gs0 : List ByteArray, gs0 = [] := ⟨_, rfl⟩
  obtain ⟨ad0, had⟩ : ∃ ad0 : Option Addr, ad0 = none := ⟨_, rfl⟩
  obtain ⟨cap0, hcap⟩ : ∃ cap0 : Nat, cap0 = 0 := ⟨_, rfl⟩
  have HRec : Hid (RecR s gs0 s1) := .inl ⟨by rw [← HNL.out]; exact hlr, hgs, hs1⟩
  obtain ⟨D1, hD1⟩ : ∃ D1 : Nat → Prop, D1 = fun k => D k ∧ k < W0.heap.size := ⟨_, rfl⟩
  have HG1 : Hid (∀ g, D1 g → D g ∧ g < W0.heap.size) := fun g h => by rw [hD1] at h; exact h
  have HGR : Hid (Row (fun g => D g ∧ ¬ D1 g) W0 ad0 cap0 gs0) := by rw [had, hcap, hgs]; exact Row.nil
  have HK0 : Hid (Keeps D w1 W0) := .of_below HB.out
  have HDr : Hid (∀ k, W0.heap.size ≤ k → D k) := fun k h => HD.out k (Nat.le_trans HB.out.size h)
  obtain ⟨E, hEq⟩ : ∃ E : Nat → Prop, E = fun g => D1 g ∨ W0.heap.size ≤ g := ⟨_, rfl⟩
  have HE : Hid (∀ k, W0.heap.size ≤ k → E k) := fun k h => by rw [hEq]; exact .inr h
  have HA0 : Hid (RM x s1 E W0) := by
    rw [hEq, hs1]
    exact (HH.out.below HB.out).wide (fun k hk h => .inl (by rw [hD1]; exact ⟨h, hk⟩))
  have HFin : Hid (∀ (S : Rs) (W : World), RM x S E W → Keeps E W0 W → Beside (RM x S) ad0 cap0 gs0 D W ∧ Keeps D w1 W) := (fun S W h hk => ⟨beside_end (fun h => RM.narrow h) HG1.out HDr.out HGR.out (hEq ▸ hk) (hEq ▸ h), HK0.out.trans ((hEq ▸ hk : Keeps (fun g => D1 g ∨ W0.heap.size ≤ g) W0 W).mono (fun k _ h => h.elim (fun h => (HG1.out k h).1) (HDr.out k)))⟩)
  have HGs : Hid (ad0 = none ∧ cap0 = 0 ∧ gs0 = []) := ⟨had, hcap, hgs⟩
  have hq := HR.out gs0 s1 HRec.out
  obtain ⟨hq0, hnh, hbr⟩ := hq
  have hq1 := hq0.l1
  have hq2 := hq0.l2
  have hq3 := hq0.hc
  have hq4 := hq0.lo
  have hct := C.cnt_le 104 s1.s
  have hmb : mostR s1 ≤ 1024 := (by unfold mostR; omega)
  have g1 : ((C.isOf s1.s key : Int) == 104) = false := (by simp; omega)
  have g2 : decide ((C.cnt 104 s1.s : Int) < (mostR s1 : Nat)) = false := decide_eq_false (by omega)
  have g3 : ¬ C.cnt 104 s1.s < mostR s1 := hbr.1
  have g4 : ((C.isOf s1.s key : Int) == 103) = false := (by have := hbr.2; simp; omega)
  have hm : missR s1 key = { s1 with s := C.top s1.s key 99, q := s1.q ++ [key] } := (by unfold missR; rw [if_neg hbr.1, if_neg hbr.2])
  have htl := C.top_le s1.s key 99
  have hm1 : (missR s1 key).s.length ≤ 5000 := (by rw [hm]; show (C.top s1.s key 99).length ≤ 5000; omega)
  have hm2 : (missR s1 key).q.length ≤ 5000 := (by rw [hm]; show (s1.q ++ [key]).length ≤ 5000; simp; omega)
  have hm3 : (missR s1 key).c ≤ 1024 := (by rw [hm]; exact hq3)
  have hm4 : (missR s1 key).c = s1.c := (by rw [hm])
  have HM : Hid (missR s1 key = { s1 with s := C.top s1.s key 99, q := s1.q ++ [key] }) := hm
  clear hm htl
  have HQ0 : Hid (Sl s1) := hq0
  have HMs : Hid (((missR s1 key).s.length ≤ 5000 ∧ (missR s1 key).q.length ≤ 5000) ∧ (missR s1 key).c ≤ 1024 ∧ (missR s1 key).c = s1.c) := ⟨⟨hm1, hm2⟩, hm3, hm4⟩
  clear hq0 hnh hbr hm1 hm2 hm3 hm4 hct hmb
  clear hgs had hcap hD1 hEq hs1
  go_wp2_with (first
    | (go_at_call 66; refine Calls.mono (ris_any HA4.out (by omega) key) ?_; rintro e wi ⟨rfl, hwi⟩; obtain rfl := hwi.symm)
    | (go_at_call 66; refine Calls.mono (ris_any HA0.out (by omega) key) ?_; rintro e wi ⟨rfl, hwi⟩; obtain rfl := hwi.symm)
    | (go_at_call 49; refine Calls.mono (rcount_any HA0.out (by omega) 104) ?_; rintro e wc ⟨rfl, hwi⟩; obtain rfl := hwi.symm)
    | (go_at_call 70; refine Calls.mono (rmost_any HA0.out hq3 hq4) ?_; rintro e w4 ⟨rfl, q4, hq4'⟩; have HA4 : Hid (RM x s1 E w4) := (by rw [hq4']; exact HA0.out.below (below_drewN (Below.refl _ _) q4)); have HK4 : Hid (Keeps E W0 w4) := (by rw [hq4']; exact (Keeps.refl E _).drewN q4); clear hq4')
    | (go_at_call 67; refine Calls.mono (rtop_any HA4.out (by omega) (fun j hj => HE.out j (Nat.le_trans HK4.out.size hj)) key 99) ?_; rintro e w5 ⟨rfl, ⟨M, b1, n1, b2, n2, hM⟩, hk5⟩; obtain ⟨u0, u1, u2⟩ := hM.cells; have HMM : Hid (ReIn E M w5 x { s1 with s := C.top s1.s key 99 } b1 n1 b2 n2) := hM; have HK5 : Hid (Keeps E W0 w5) := (HK4.out.trans hk5); clear hM hk5; replace u1 : w5.cell? ⟨x, 1, none⟩ = some (.slice b2 s1.q.length n2) := u1)
    | (at_builtin; go_must (refine wpList_append_row (zs := s1.q) (ks := [key]) rfl _ _ rfl rfl (HMM.out.r2.below ((Below.refl _ _).alloc (Nat.le_refl _) _)) rfl (src_one _ key) (by simp; omega) ?_); intro a7 n7 w7 hr7 hk7; obtain ⟨⟨x0, x1, x2⟩, y0, y1, y2⟩ := (HMM.out.below ((Below.refl _ _).alloc (Nat.le_refl _) _)).still (by omega) hk7; have h7 := RM.grow2 (HMM.out.below ((Below.refl _ _).alloc (Nat.le_refl _) _)) (fun k h => HE.out k (Nat.le_trans HK5.out.size (Nat.le_trans (by simp) h))) hr7 hk7; have H8 : Hid (RM x (missR s1 key) E (w7.setCell ⟨x, 1, none⟩ (.slice a7 (s1.q.length + 1) n7))) := (by rw [HM.out]; exact h7.1); have HK8 : Hid (Keeps E W0 (w7.setCell ⟨x, 1, none⟩ (.slice a7 (s1.q.length + 1) n7))) := ((HK5.out.alloc _).trans h7.2); clear hr7 hk7 h7)
    | (go_at_call 71; refine Calls.mono (rforget_any H8.out ⟨HMs.out.1.1, HMs.out.1.2, HMs.out.2.1⟩ (fun j hj => HE.out j (Nat.le_trans HK8.out.size hj))) ?_; rintro e w9 ⟨l9, hf9, rfl, h9, hk9⟩; have HF9 : Hid (C.Forgot s1.c (missR s1 key).s l9) := (by rw [← HMs.out.2.2]; exact hf9); have hl9 := Nat.le_trans (C.forgot_le hf9) HMs.out.1.1; have hp9 := C.pr_le l9; have H9 : Hid (RM x { missR s1 key with s := C.pr l9 } E w9) := h9; have HK9 : Hid (Keeps E W0 w9) := (HK8.out.trans hk9); clear hf9 h9 hk9)
    | (go_at_call 72; refine Calls.mono (rprune_any H9.out (by show (C.pr l9).length ≤ 5000; omega) (fun j hj => HE.out j (Nat.le_trans HK9.out.size hj))) ?_; rintro e w10 ⟨rfl, h10, hk10⟩))
  go_ret2
  exact ⟨gs0, s1, l9, HRec.out, HF9.out, ad0, cap0, by rw [HGs.out.1, HGs.out.2.1, HGs.out.2.2]; rfl, HFin.out _ _ h10 (HK9.out.trans hk10)⟩
set_option maxRecDepth 20000 in
set_option maxHeartbeats 8000000 in
theorem racc_miss_full_hot (H : RM x s D w) (hs : Sl s) (hD : ∀ k, w.heap.size ≤ k → D k) (key : ByteArray) (hv : hasR s key = false) (hlr : s.c ≤ lenR s)
    (hr : ∀ gs s1, RecR s gs s1 → Sl s1 ∧ C.isOf s1.s key ≠ 104 ∧ C.cnt 104 s1.s < mostR s1) :
    Calls Try.prog 36 #[.pointer (some ⟨x, 0, none⟩), .string key] w (MissR x s key D w) := by
  have HH : Hid (RM x s D w) := H
  have HD : Hid (∀ k, w.heap.size ≤ k → D k) := hD
  have hh := rhas_any H hs.sm key
  rw [hv] at hh
  have hlen := fun q => mlen_any (H.below (below_drewN (Below.refl _ w) q)) hs.sm
  have HR : Hid (∀ gs s1, RecR s gs s1 → Sl s1 ∧ C.isOf s1.s key ≠ 104 ∧ C.cnt 104 s1.s < mostR s1) := hr
  have HEv : Hid (0 < lenR s → ∀ W : World, Below w.heap.size w W → Calls Try.prog 39 #[.pointer (some ⟨x, 0, none⟩)] W (GoesR x s D W)) := fun hp W hW => rgoes_any (HH.out.below hW) hs.sm (fun j hj => HD.out j (Nat.le_trans hW.size hj)) hp
  have hlo := hs.lo
  have hhc := hs.hc
  have hsl := hs.l1
  have hsq := hs.l2
  have hct := C.cnt_le 104 s.s
  obtain ⟨L, a1, c1, a2, c2, H⟩ := H
  obtain ⟨d0, d1, d2⟩ := H.cells
  obtain ⟨N, hN⟩ : ∃ N, N = lenR s := ⟨_, rfl⟩
  have HNL : Hid (N = lenR s) := hN
  rw [show s.q.length + C.cnt 104 s.s = lenR s from rfl, ← hN] at hlen
  have hNb : N ≤ 8000 := by rw [hN]; unfold lenR; omega
  rw [← hN] at hlr
  have hd : decide ((s.c : Int) ≤ (N : Int)) = true := decide_eq_true (by omega)
  have hd2 : decide (s.c ≤ N) = true := decide_eq_true (by omega)
  have hev := HEv.out (by rw [← hN]; omega)
  have HEv2 : Hid _ := hev
  clear hev
  clear H hD hs hN hv hr hsl hsq hct
  go_enter Try.func36, Try.ntmps36
  go_wp2_with (go_at_call 40; refine Calls.mono hh ?_; clear hh; rintro e w1 ⟨rfl, rfl⟩)
  go_quiet (first | (go_at_call 16; refine Calls.quiet_of (hlen _)))
  clear hlen d0 d1 d2
  rename_i nq
  have HB : Hid (Below w1.heap.size w1 (w1.drewN nq)) := below_drewN (Below.refl _ w1) nq
  generalize w1.drewN nq = wd at *
  go_wp2_with (first
    | (go_at_call 39; refine Calls.mono (HEv2.out _ HB.out) ?_; rintro e w2 ⟨k0, r0, l0, hrq, hrf, rfl, h2, hk2⟩; have HRec : Hid (RecR s [k0] ⟨C.pr l0, A.cut (k0 :: r0) k0, s.c⟩) := (.inr ⟨by rw [← HNL.out]; exact hlr, k0, r0, l0, hrq, hrf, rfl, rfl⟩); have H2 : Hid (RM x ⟨C.pr l0, A.cut (k0 :: r0) k0, s.c⟩ D w2) := h2; have HK2 : Hid (Keeps D w1 w2) := ((Keeps.of_below HB.out).trans hk2); clear hrq hrf h2 hk2; obtain ⟨s1, hs1⟩ : ∃ s1 : Rs, s1 = ⟨C.pr l0, A.cut (k0 :: r0) k0, s.c⟩ := ⟨_, rfl⟩; rw [← hs1] at HRec H2; obtain ⟨gs0, hgs⟩ : ∃ gs0 : List ByteArray, gs0 = [k0] := ⟨_, rfl⟩; rw [← hgs] at HRec; have HGs : Hid (gs0 = [k0]) := hgs; have hq := HR.out gs0 s1 HRec.out; obtain ⟨hq0, hnh, hbr⟩ := hq; have hq1 := hq0.l1; have hq2 := hq0.l2; have hq3 := hq0.hc; have hq4 := hq0.lo; have hct := C.cnt_le 104 s1.s; have hmb : mostR s1 ≤ 1024 := (by unfold mostR; omega); have g1 : ((C.isOf s1.s key : Int) == 104) = false := (by simp; omega); have g2 : decide ((C.cnt 104 s1.s : Int) < (mostR s1 : Nat)) = true := decide_eq_true (by omega); have g3 : C.cnt 104 s1.s < mostR s1 := hbr; have hm : missR s1 key = { s1 with s := C.top s1.s key 104 } := (by unfold missR; rw [if_pos hbr]); have htl := C.top_le s1.s key 104; have hm1 : (missR s1 key).s.length ≤ 5000 := (by rw [hm]; show (C.top s1.s key 104).length ≤ 5000; omega); have hm2 : (missR s1 key).q.length ≤ 5000 := (by rw [hm]; show s1.q.length ≤ 5000; omega); have hm3 : (missR s1 key).c ≤ 1024 := (by rw [hm]; exact hq3); have hm4 : (missR s1 key).c = s1.c := (by rw [hm]); have HM : Hid (missR s1 key = { s1 with s := C.top s1.s key 104 }) := hm; clear hm htl; have HQ0 : Hid (Sl s1) := hq0; have HMs : Hid (((missR s1 key).s.length ≤ 5000 ∧ (missR s1 key).q.length ≤ 5000) ∧ (missR s1 key).c ≤ 1024 ∧ (missR s1 key).c = s1.c) := ⟨⟨hm1, hm2⟩, hm3, hm4⟩; clear hq0 hnh hbr hm1 hm2 hm3 hm4 hct hmb; clear hs1 hgs)
    | (at_builtin; refine wpList_append_row (D := fun _ => False) (zs := []) (ks := [k0]) rfl _ _ rfl rfl Row.nil rfl (src_one _ k0) (by simp) ?_; intro ad0 cap0 W0 hr7 hk7; have HB7 : Hid (Below w2.heap.size w2 W0) := (((Below.refl _ w2).alloc (Nat.le_refl _) _).trans (hk7.below (by simp) (fun _ h => h.elim))); obtain ⟨D1, hD1⟩ : ∃ D1 : Nat → Prop, D1 = fun k => D k ∧ k < w2.heap.size := ⟨_, rfl⟩; have HG1 : Hid (∀ g, D1 g → D g ∧ g < W0.heap.size) := (fun g h => by rw [hD1] at h; exact ⟨h.1, Nat.lt_of_lt_of_le h.2 HB7.out.size⟩); have HGR : Hid (Row (fun g => D g ∧ ¬ D1 g) W0 ad0 cap0 gs0) := (by rw [HGs.out, hD1]; exact (hr7.wide (fun k _ h => by rcases h with h | h; exact h.elim; have h3 : w2.heap.size ≤ k := Nat.le_trans (by simp) h; exact ⟨HD.out k (Nat.le_trans HK2.out.size h3), fun h4 => by have := h4.2; omega⟩))); have HK0 : Hid (Keeps D w1 W0) := (HK2.out.trans (.of_below HB7.out)); have HDr : Hid (∀ k, W0.heap.size ≤ k → D k) := (fun k h => HD.out k (Nat.le_trans HK0.out.size h)); obtain ⟨E, hEq⟩ : ∃ E : Nat → Prop, E = fun g => D1 g ∨ W0.heap.size ≤ g := ⟨_, rfl⟩; have HE : Hid (∀ k, W0.heap.size ≤ k → E k) := (fun k h => by rw [hEq]; exact .inr h); have HA0 : Hid (RM x s1 E W0) := (by rw [hEq]; exact (H2.out.narrow.below HB7.out).wide (fun k _ h => .inl (by rw [hD1]; exact h))); have HFin : Hid (∀ (S : Rs) (W : World), RM x S E W → Keeps E W0 W → Beside (RM x S) ad0 cap0 gs0 D W ∧ Keeps D w1 W) := (fun S W h hk => ⟨beside_end (fun h => RM.narrow h) HG1.out HDr.out HGR.out (hEq ▸ hk) (hEq ▸ h), HK0.out.trans ((hEq ▸ hk : Keeps (fun g => D1 g ∨ W0.heap.size ≤ g) W0 W).mono (fun k _ h => h.elim (fun h => (HG1.out k h).1) (HDr.out k)))⟩); clear hr7 hk7 hD1 hEq)
    | (go_at_call 66; refine Calls.mono (ris_any HA4.out (by omega) key) ?_; rintro e wi ⟨rfl, hwi⟩; obtain rfl := hwi.symm)
    | (go_at_call 66; refine Calls.mono (ris_any HA0.out (by omega) key) ?_; rintro e wi ⟨rfl, hwi⟩; obtain rfl := hwi.symm)
    | (go_at_call 49; refine Calls.mono (rcount_any HA0.out (by omega) 104) ?_; rintro e wc ⟨rfl, hwi⟩; obtain rfl := hwi.symm)
    | (go_at_call 70; refine Calls.mono (rmost_any HA0.out hq3 hq4) ?_; rintro e w4 ⟨rfl, q4, hq4'⟩; have HA4 : Hid (RM x s1 E w4) := (by rw [hq4']; exact HA0.out.below (below_drewN (Below.refl _ _) q4)); have HK4 : Hid (Keeps E W0 w4) := (by rw [hq4']; exact (Keeps.refl E _).drewN q4); clear hq4')
    | (go_at_call 67; refine Calls.mono (rtop_any HA4.out (by omega) (fun j hj => HE.out j (Nat.le_trans HK4.out.size hj)) key 104) ?_; rintro e w8 ⟨rfl, h8, hk8⟩; have H8 : Hid (RM x (missR s1 key) E w8) := (by rw [HM.out]; exact h8); have HK8 : Hid (Keeps E W0 w8) := (HK4.out.trans hk8); clear h8 hk8)
    | (go_at_call 71; refine Calls.mono (rforget_any H8.out ⟨HMs.out.1.1, HMs.out.1.2, HMs.out.2.1⟩ (fun j hj => HE.out j (Nat.le_trans HK8.out.size hj))) ?_; rintro e w9 ⟨l9, hf9, rfl, h9, hk9⟩; have HF9 : Hid (C.Forgot s1.c (missR s1 key).s l9) := (by rw [← HMs.out.2.2]; exact hf9); have hl9 := Nat.le_trans (C.forgot_le hf9) HMs.out.1.1; have hp9 := C.pr_le l9; have H9 : Hid (RM x { missR s1 key with s := C.pr l9 } E w9) := h9; have HK9 : Hid (Keeps E W0 w9) := (HK8.out.trans hk9); clear hf9 h9 hk9)
    | (go_at_call 72; refine Calls.mono (rprune_any H9.out (by show (C.pr l9).length ≤ 5000; omega) (fun j hj => HE.out j (Nat.le_trans HK9.out.size hj))) ?_; rintro e w10 ⟨rfl, h10, hk10⟩))
  go_ret2
  exact ⟨gs0, s1, l9, HRec.out, HF9.out, ad0, cap0, by first | rfl | (rw [HGs.out]; rfl), HFin.out _ _ h10 (HK9.out.trans hk10)⟩
set_option maxRecDepth 20000 in
set_option maxHeartbeats 8000000 in
theorem racc_miss_full_ghost (H : RM x s D w) (hs : Sl s) (hD : ∀ k, w.heap.size ≤ k → D k) (key : ByteArray) (hv : hasR s key = false) (hlr : s.c ≤ lenR s)
    (hr : ∀ gs s1, RecR s gs s1 → Sl s1 ∧ C.isOf s1.s key ≠ 104 ∧ (¬ C.cnt 104 s1.s < mostR s1 ∧ C.isOf s1.s key = 103)) :
    Calls Try.prog 36 #[.pointer (some ⟨x, 0, none⟩), .string key] w (MissR x s key D w) := by
  have HH : Hid (RM x s D w) := H
  have HD : Hid (∀ k, w.heap.size ≤ k → D k) := hD
  have hh := rhas_any H hs.sm key
  rw [hv] at hh
  have hlen := fun q => mlen_any (H.below (below_drewN (Below.refl _ w) q)) hs.sm
  have HR : Hid (∀ gs s1, RecR s gs s1 → Sl s1 ∧ C.isOf s1.s key ≠ 104 ∧ (¬ C.cnt 104 s1.s < mostR s1 ∧ C.isOf s1.s key = 103)) := hr
  have HEv : Hid (0 < lenR s → ∀ W : World, Below w.heap.size w W → Calls Try.prog 39 #[.pointer (some ⟨x, 0, none⟩)] W (GoesR x s D W)) := fun hp W hW => rgoes_any (HH.out.below hW) hs.sm (fun j hj => HD.out j (Nat.le_trans hW.size hj)) hp
  have hlo := hs.lo
  have hhc := hs.hc
  have hsl := hs.l1
  have hsq := hs.l2
  have hct := C.cnt_le 104 s.s
  obtain ⟨L, a1, c1, a2, c2, H⟩ := H
  obtain ⟨d0, d1, d2⟩ := H.cells
  obtain ⟨N, hN⟩ : ∃ N, N = lenR s := ⟨_, rfl⟩
  have HNL : Hid (N = lenR s) := hN
  rw [show s.q.length + C.cnt 104 s.s = lenR s from rfl, ← hN] at hlen
  have hNb : N ≤ 8000 := by rw [hN]; unfold lenR; omega
  rw [← hN] at hlr
  have hd : decide ((s.c : Int) ≤ (N : Int)) = true := decide_eq_true (by omega)
  have hd2 : decide (s.c ≤ N) = true := decide_eq_true (by omega)
  have hev := HEv.out (by rw [← hN]; omega)
  have HEv2 : Hid _ := hev
  clear hev
  clear H hD hs hN hv hr hsl hsq hct
  go_enter Try.func36, Try.ntmps36
  go_wp2_with (go_at_call 40; refine Calls.mono hh ?_; clear hh; rintro e w1 ⟨rfl, rfl⟩)
  go_quiet (first | (go_at_call 16; refine Calls.quiet_of (hlen _)))
  clear hlen d0 d1 d2
  rename_i nq
  have HB : Hid (Below w1.heap.size w1 (w1.drewN nq)) := below_drewN (Below.refl _ w1) nq
  generalize w1.drewN nq = wd at *
  go_wp2_with (first
    | (go_at_call 39; refine Calls.mono (HEv2.out _ HB.out) ?_; rintro e w2 ⟨k0, r0, l0, hrq, hrf, rfl, h2, hk2⟩; have HRec : Hid (RecR s [k0] ⟨C.pr l0, A.cut (k0 :: r0) k0, s.c⟩) := (.inr ⟨by rw [← HNL.out]; exact hlr, k0, r0, l0, hrq, hrf, rfl, rfl⟩); have H2 : Hid (RM x ⟨C.pr l0, A.cut (k0 :: r0) k0, s.c⟩ D w2) := h2; have HK2 : Hid (Keeps D w1 w2) := ((Keeps.of_below HB.out).trans hk2); clear hrq hrf h2 hk2; obtain ⟨s1, hs1⟩ : ∃ s1 : Rs, s1 = ⟨C.pr l0, A.cut (k0 :: r0) k0, s.c⟩ := ⟨_, rfl⟩; rw [← hs1] at HRec H2; obtain ⟨gs0, hgs⟩ : ∃ gs0 : List ByteArray, gs0 = [k0] := ⟨_, rfl⟩; rw [← hgs] at HRec; have HGs : Hid (gs0 = [k0]) := hgs; have hq := HR.out gs0 s1 HRec.out; obtain ⟨hq0, hnh, hbr⟩ := hq; have hq1 := hq0.l1; have hq2 := hq0.l2; have hq3 := hq0.hc; have hq4 := hq0.lo; have hct := C.cnt_le 104 s1.s; have hmb : mostR s1 ≤ 1024 := (by unfold mostR; omega); have g1 : ((C.isOf s1.s key : Int) == 104) = false := (by simp; omega); have g2 : decide ((C.cnt 104 s1.s : Int) < (mostR s1 : Nat)) = false := decide_eq_false (by omega); have g3 : ¬ C.cnt 104 s1.s < mostR s1 := hbr.1; have g4 : ((C.isOf s1.s key : Int) == 103) = true := (by have := hbr.2; simp; omega); have hm : missR s1 key = warmR s1 key := (by unfold missR; rw [if_neg hbr.1, if_pos hbr.2]); have hws := warm_sm hq0 key; have hm1 : (missR s1 key).s.length ≤ 5000 := (by rw [hm]; omega); have hm2 : (missR s1 key).q.length ≤ 5000 := (by rw [hm]; omega); have hm3 : (missR s1 key).c ≤ 1024 := (by rw [hm, hws.2.2]; exact hq3); have hm4 : (missR s1 key).c = s1.c := (by rw [hm]; exact hws.2.2); have HM : Hid (missR s1 key = warmR s1 key) := hm; clear hm hws; have HQ0 : Hid (Sl s1) := hq0; have HMs : Hid (((missR s1 key).s.length ≤ 5000 ∧ (missR s1 key).q.length ≤ 5000) ∧ (missR s1 key).c ≤ 1024 ∧ (missR s1 key).c = s1.c) := ⟨⟨hm1, hm2⟩, hm3, hm4⟩; clear hq0 hnh hbr hm1 hm2 hm3 hm4 hct hmb; clear hs1 hgs)
    | (at_builtin; refine wpList_append_row (D := fun _ => False) (zs := []) (ks := [k0]) rfl _ _ rfl rfl Row.nil rfl (src_one _ k0) (by simp) ?_; intro ad0 cap0 W0 hr7 hk7; have HB7 : Hid (Below w2.heap.size w2 W0) := (((Below.refl _ w2).alloc (Nat.le_refl _) _).trans (hk7.below (by simp) (fun _ h => h.elim))); obtain ⟨D1, hD1⟩ : ∃ D1 : Nat → Prop, D1 = fun k => D k ∧ k < w2.heap.size := ⟨_, rfl⟩; have HG1 : Hid (∀ g, D1 g → D g ∧ g < W0.heap.size) := (fun g h => by rw [hD1] at h; exact ⟨h.1, Nat.lt_of_lt_of_le h.2 HB7.out.size⟩); have HGR : Hid (Row (fun g => D g ∧ ¬ D1 g) W0 ad0 cap0 gs0) := (by rw [HGs.out, hD1]; exact (hr7.wide (fun k _ h => by rcases h with h | h; exact h.elim; have h3 : w2.heap.size ≤ k := Nat.le_trans (by simp) h; exact ⟨HD.out k (Nat.le_trans HK2.out.size h3), fun h4 => by have := h4.2; omega⟩))); have HK0 : Hid (Keeps D w1 W0) := (HK2.out.trans (.of_below HB7.out)); have HDr : Hid (∀ k, W0.heap.size ≤ k → D k) := (fun k h => HD.out k (Nat.le_trans HK0.out.size h)); obtain ⟨E, hEq⟩ : ∃ E : Nat → Prop, E = fun g => D1 g ∨ W0.heap.size ≤ g := ⟨_, rfl⟩; have HE : Hid (∀ k, W0.heap.size ≤ k → E k) := (fun k h => by rw [hEq]; exact .inr h); have HA0 : Hid (RM x s1 E W0) := (by rw [hEq]; exact (H2.out.narrow.below HB7.out).wide (fun k _ h => .inl (by rw [hD1]; exact h))); have HFin : Hid (∀ (S : Rs) (W : World), RM x S E W → Keeps E W0 W → Beside (RM x S) ad0 cap0 gs0 D W ∧ Keeps D w1 W) := (fun S W h hk => ⟨beside_end (fun h => RM.narrow h) HG1.out HDr.out HGR.out (hEq ▸ hk) (hEq ▸ h), HK0.out.trans ((hEq ▸ hk : Keeps (fun g => D1 g ∨ W0.heap.size ≤ g) W0 W).mono (fun k _ h => h.elim (fun h => (HG1.out k h).1) (HDr.out k)))⟩); clear hr7 hk7 hD1 hEq)
    | (go_at_call 66; refine Calls.mono (ris_any HA4.out (by omega) key) ?_; rintro e wi ⟨rfl, hwi⟩; obtain rfl := hwi.symm)
    | (go_at_call 66; refine Calls.mono (ris_any HA0.out (by omega) key) ?_; rintro e wi ⟨rfl, hwi⟩; obtain rfl := hwi.symm)
    | (go_at_call 49; refine Calls.mono (rcount_any HA0.out (by omega) 104) ?_; rintro e wc ⟨rfl, hwi⟩; obtain rfl := hwi.symm)
    | (go_at_call 70; refine Calls.mono (rmost_any HA0.out hq3 hq4) ?_; rintro e w4 ⟨rfl, q4, hq4'⟩; have HA4 : Hid (RM x s1 E w4) := (by rw [hq4']; exact HA0.out.below (below_drewN (Below.refl _ _) q4)); have HK4 : Hid (Keeps E W0 w4) := (by rw [hq4']; exact (Keeps.refl E _).drewN q4); clear hq4')
    | (go_at_call 68; refine Calls.mono (rwarm_any HA4.out HQ0.out (fun j hj => HE.out j (Nat.le_trans HK4.out.size hj)) key) ?_; rintro e w8 ⟨rfl, h8, hk8⟩; have H8 : Hid (RM x (missR s1 key) E w8) := (by rw [HM.out]; exact h8); have HK8 : Hid (Keeps E W0 w8) := (HK4.out.trans hk8); clear h8 hk8)
    | (go_at_call 71; refine Calls.mono (rforget_any H8.out ⟨HMs.out.1.1, HMs.out.1.2, HMs.out.2.1⟩ (fun j hj => HE.out j (Nat.le_trans HK8.out.size hj))) ?_; rintro e w9 ⟨l9, hf9, rfl, h9, hk9⟩; have HF9 : Hid (C.Forgot s1.c (missR s1 key).s l9) := (by rw [← HMs.out.2.2]; exact hf9); have hl9 := Nat.le_trans (C.forgot_le hf9) HMs.out.1.1; have hp9 := C.pr_le l9; have H9 : Hid (RM x { missR s1 key with s := C.pr l9 } E w9) := h9; have HK9 : Hid (Keeps E W0 w9) := (HK8.out.trans hk9); clear hf9 h9 hk9)
    | (go_at_call 72; refine Calls.mono (rprune_any H9.out (by show (C.pr l9).length ≤ 5000; omega) (fun j hj => HE.out j (Nat.le_trans HK9.out.size hj))) ?_; rintro e w10 ⟨rfl, h10, hk10⟩))
  go_ret2
  exact ⟨gs0, s1, l9, HRec.out, HF9.out, ad0, cap0, by first | rfl | (rw [HGs.out]; rfl), HFin.out _ _ h10 (HK9.out.trans hk10)⟩
set_option maxRecDepth 20000 in
set_option maxHeartbeats 8000000 in
theorem racc_miss_full_new (H : RM x s D w) (hs : Sl s) (hD : ∀ k, w.heap.size ≤ k → D k) (key : ByteArray) (hv : hasR s key = false) (hlr : s.c ≤ lenR s)
    (hr : ∀ gs s1, RecR s gs s1 → Sl s1 ∧ C.isOf s1.s key ≠ 104 ∧ (¬ C.cnt 104 s1.s < mostR s1 ∧ C.isOf s1.s key ≠ 103)) :
    Calls Try.prog 36 #[.pointer (some ⟨x, 0, none⟩), .string key] w (MissR x s key D w) := by
  have HH : Hid (RM x s D w) := H
  have HD : Hid (∀ k, w.heap.size ≤ k → D k) := hD
  have hh := rhas_any H hs.sm key
  rw [hv] at hh
  have hlen := fun q => mlen_any (H.below (below_drewN (Below.refl _ w) q)) hs.sm
  have HR : Hid (∀ gs s1, RecR s gs s1 → Sl s1 ∧ C.isOf s1.s key ≠ 104 ∧ (¬ C.cnt 104 s1.s < mostR s1 ∧ C.isOf s1.s key ≠ 103)) := hr
  have HEv : Hid (0 < lenR s → ∀ W : World, Below w.heap.size w W → Calls Try.prog 39 #[.pointer (some ⟨x, 0, none⟩)] W (GoesR x s D W)) := fun hp W hW => rgoes_any (HH.out.below hW) hs.sm (fun j hj => HD.out j (Nat.le_trans hW.size hj)) hp
  have hlo := hs.lo
  have hhc := hs.hc
  have hsl := hs.l1
  have hsq := hs.l2
  have hct := C.cnt_le 104 s.s
  obtain ⟨L, a1, c1, a2, c2, H⟩ := H
  obtain ⟨d0, d1, d2⟩ := H.cells
  obtain ⟨N, hN⟩ : ∃ N, N = lenR s := ⟨_, rfl⟩
  have HNL : Hid (N = lenR s) := hN
  rw [show s.q.length + C.cnt 104 s.s = lenR s from rfl, ← hN] at hlen
  have hNb : N ≤ 8000 := by rw [hN]; unfold lenR; omega
  rw [← hN] at hlr
  have hd : decide ((s.c : Int) ≤ (N : Int)) = true := decide_eq_true (by omega)
  have hd2 : decide (s.c ≤ N) = true := decide_eq_true (by omega)
  have hev := HEv.out (by rw [← hN]; omega)
  have HEv2 : Hid _ := hev
  clear hev
  clear H hD hs hN hv hr hsl hsq hct
  go_enter Try.func36, Try.ntmps36
  go_wp2_with (go_at_call 40; refine Calls.mono hh ?_; clear hh; rintro e w1 ⟨rfl, rfl⟩)
  go_quiet (first | (go_at_call 16; refine Calls.quiet_of (hlen _)))
  clear hlen d0 d1 d2
  rename_i nq
  have HB : Hid (Below w1.heap.size w1 (w1.drewN nq)) := below_drewN (Below.refl _ w1) nq
  generalize w1.drewN nq = wd at *
  go_wp2_with (first
    | (go_at_call 39; refine Calls.mono (HEv2.out _ HB.out) ?_; rintro e w2 ⟨k0, r0, l0, hrq, hrf, rfl, h2, hk2⟩; have HRec : Hid (RecR s [k0] ⟨C.pr l0, A.cut (k0 :: r0) k0, s.c⟩) := (.inr ⟨by rw [← HNL.out]; exact hlr, k0, r0, l0, hrq, hrf, rfl, rfl⟩); have H2 : Hid (RM x ⟨C.pr l0, A.cut (k0 :: r0) k0, s.c⟩ D w2) := h2; have HK2 : Hid (Keeps D w1 w2) := ((Keeps.of_below HB.out).trans hk2); clear hrq hrf h2 hk2; obtain ⟨s1, hs1⟩ : ∃ s1 : Rs, s1 = ⟨C.pr l0, A.cut (k0 :: r0) k0, s.c⟩ := ⟨_, rfl⟩; rw [← hs1] at HRec H2; obtain ⟨gs0, hgs⟩ : ∃ gs0 : List ByteArray, gs0 = [k0] := ⟨_, rfl⟩; rw [← hgs] at HRec; have HGs : Hid (gs0 = [k0]) := hgs; have hq := HR.out gs0 s1 HRec.out; obtain ⟨hq0, hnh, hbr⟩ := hq; have hq1 := hq0.l1; have hq2 := hq0.l2; have hq3 := hq0.hc; have hq4 := hq0.lo; have hct := C.cnt_le 104 s1.s; have hmb : mostR s1 ≤ 1024 := (by unfold mostR; omega); have g1 : ((C.isOf s1.s key : Int) == 104) = false := (by simp; omega); have g2 : decide ((C.cnt 104 s1.s : Int) < (mostR s1 : Nat)) = false := decide_eq_false (by omega); have g3 : ¬ C.cnt 104 s1.s < mostR s1 := hbr.1; have g4 : ((C.isOf s1.s key : Int) == 103) = false := (by have := hbr.2; simp; omega); have hm : missR s1 key = { s1 with s := C.top s1.s key 99, q := s1.q ++ [key] } := (by unfold missR; rw [if_neg hbr.1, if_neg hbr.2]); have htl := C.top_le s1.s key 99; have hm1 : (missR s1 key).s.length ≤ 5000 := (by rw [hm]; show (C.top s1.s key 99).length ≤ 5000; omega); have hm2 : (missR s1 key).q.length ≤ 5000 := (by rw [hm]; show (s1.q ++ [key]).length ≤ 5000; simp; omega); have hm3 : (missR s1 key).c ≤ 1024 := (by rw [hm]; exact hq3); have hm4 : (missR s1 key).c = s1.c := (by rw [hm]); have HM : Hid (missR s1 key = { s1 with s := C.top s1.s key 99, q := s1.q ++ [key] }) := hm; clear hm htl; have HQ0 : Hid (Sl s1) := hq0; have HMs : Hid (((missR s1 key).s.length ≤ 5000 ∧ (missR s1 key).q.length ≤ 5000) ∧ (missR s1 key).c ≤ 1024 ∧ (missR s1 key).c = s1.c) := ⟨⟨hm1, hm2⟩, hm3, hm4⟩; clear hq0 hnh hbr hm1 hm2 hm3 hm4 hct hmb; clear hs1 hgs)
    | (at_builtin; refine wpList_append_row (D := fun _ => False) (zs := []) (ks := [k0]) rfl _ _ rfl rfl Row.nil rfl (src_one _ k0) (by simp) ?_; intro ad0 cap0 W0 hr7 hk7; have HB7 : Hid (Below w2.heap.size w2 W0) := (((Below.refl _ w2).alloc (Nat.le_refl _) _).trans (hk7.below (by simp) (fun _ h => h.elim))); obtain ⟨D1, hD1⟩ : ∃ D1 : Nat → Prop, D1 = fun k => D k ∧ k < w2.heap.size := ⟨_, rfl⟩; have HG1 : Hid (∀ g, D1 g → D g ∧ g < W0.heap.size) := (fun g h => by rw [hD1] at h; exact ⟨h.1, Nat.lt_of_lt_of_le h.2 HB7.out.size⟩); have HGR : Hid (Row (fun g => D g ∧ ¬ D1 g) W0 ad0 cap0 gs0) := (by rw [HGs.out, hD1]; exact (hr7.wide (fun k _ h => by rcases h with h | h; exact h.elim; have h3 : w2.heap.size ≤ k := Nat.le_trans (by simp) h; exact ⟨HD.out k (Nat.le_trans HK2.out.size h3), fun h4 => by have := h4.2; omega⟩))); have HK0 : Hid (Keeps D w1 W0) := (HK2.out.trans (.of_below HB7.out)); have HDr : Hid (∀ k, W0.heap.size ≤ k → D k) := (fun k h => HD.out k (Nat.le_trans HK0.out.size h)); obtain ⟨E, hEq⟩ : ∃ E : Nat → Prop, E = fun g => D1 g ∨ W0.heap.size ≤ g := ⟨_, rfl⟩; have HE : Hid (∀ k, W0.heap.size ≤ k → E k) := (fun k h => by rw [hEq]; exact .inr h); have HA0 : Hid (RM x s1 E W0) := (by rw [hEq]; exact (H2.out.narrow.below HB7.out).wide (fun k _ h => .inl (by rw [hD1]; exact h))); have HFin : Hid (∀ (S : Rs) (W : World), RM x S E W → Keeps E W0 W → Beside (RM x S) ad0 cap0 gs0 D W ∧ Keeps D w1 W) := (fun S W h hk => ⟨beside_end (fun h => RM.narrow h) HG1.out HDr.out HGR.out (hEq ▸ hk) (hEq ▸ h), HK0.out.trans ((hEq ▸ hk : Keeps (fun g => D1 g ∨ W0.heap.size ≤ g) W0 W).mono (fun k _ h => h.elim (fun h => (HG1.out k h).1) (HDr.out k)))⟩); clear hr7 hk7 hD1 hEq)
    | (go_at_call 66; refine Calls.mono (ris_any HA4.out (by omega) key) ?_; rintro e wi ⟨rfl, hwi⟩; obtain rfl := hwi.symm)
    | (go_at_call 66; refine Calls.mono (ris_any HA0.out (by omega) key) ?_; rintro e wi ⟨rfl, hwi⟩; obtain rfl := hwi.symm)
    | (go_at_call 49; refine Calls.mono (rcount_any HA0.out (by omega) 104) ?_; rintro e wc ⟨rfl, hwi⟩; obtain rfl := hwi.symm)
    | (go_at_call 70; refine Calls.mono (rmost_any HA0.out hq3 hq4) ?_; rintro e w4 ⟨rfl, q4, hq4'⟩; have HA4 : Hid (RM x s1 E w4) := (by rw [hq4']; exact HA0.out.below (below_drewN (Below.refl _ _) q4)); have HK4 : Hid (Keeps E W0 w4) := (by rw [hq4']; exact (Keeps.refl E _).drewN q4); clear hq4')
    | (go_at_call 67; refine Calls.mono (rtop_any HA4.out (by omega) (fun j hj => HE.out j (Nat.le_trans HK4.out.size hj)) key 99) ?_; rintro e w5 ⟨rfl, ⟨M, b1, n1, b2, n2, hM⟩, hk5⟩; obtain ⟨u0, u1, u2⟩ := hM.cells; have HMM : Hid (ReIn E M w5 x { s1 with s := C.top s1.s key 99 } b1 n1 b2 n2) := hM; have HK5 : Hid (Keeps E W0 w5) := (HK4.out.trans hk5); clear hM hk5; replace u1 : w5.cell? ⟨x, 1, none⟩ = some (.slice b2 s1.q.length n2) := u1)
    | (at_builtin; go_must (refine wpList_append_row (zs := s1.q) (ks := [key]) rfl _ _ rfl rfl (HMM.out.r2.below ((Below.refl _ _).alloc (Nat.le_refl _) _)) rfl (src_one _ key) (by simp; omega) ?_); intro a7 n7 w7 hr7 hk7; obtain ⟨⟨x0, x1, x2⟩, y0, y1, y2⟩ := (HMM.out.below ((Below.refl _ _).alloc (Nat.le_refl _) _)).still (by omega) hk7; have h7 := RM.grow2 (HMM.out.below ((Below.refl _ _).alloc (Nat.le_refl _) _)) (fun k h => HE.out k (Nat.le_trans HK5.out.size (Nat.le_trans (by simp) h))) hr7 hk7; have H8 : Hid (RM x (missR s1 key) E (w7.setCell ⟨x, 1, none⟩ (.slice a7 (s1.q.length + 1) n7))) := (by rw [HM.out]; exact h7.1); have HK8 : Hid (Keeps E W0 (w7.setCell ⟨x, 1, none⟩ (.slice a7 (s1.q.length + 1) n7))) := ((HK5.out.alloc _).trans h7.2); clear hr7 hk7 h7)
    | (go_at_call 71; refine Calls.mono (rforget_any H8.out ⟨HMs.out.1.1, HMs.out.1.2, HMs.out.2.1⟩ (fun j hj => HE.out j (Nat.le_trans HK8.out.size hj))) ?_; rintro e w9 ⟨l9, hf9, rfl, h9, hk9⟩; have HF9 : Hid (C.Forgot s1.c (missR s1 key).s l9) := (by rw [← HMs.out.2.2]; exact hf9); have hl9 := Nat.le_trans (C.forgot_le hf9) HMs.out.1.1; have hp9 := C.pr_le l9; have H9 : Hid (RM x { missR s1 key with s := C.pr l9 } E w9) := h9; have HK9 : Hid (Keeps E W0 w9) := (HK8.out.trans hk9); clear hf9 h9 hk9)
    | (go_at_call 72; refine Calls.mono (rprune_any H9.out (by show (C.pr l9).length ≤ 5000; omega) (fun j hj => HE.out j (Nat.le_trans HK9.out.size hj))) ?_; rintro e w10 ⟨rfl, h10, hk10⟩))
  go_ret2
  exact ⟨gs0, s1, l9, HRec.out, HF9.out, ad0, cap0, by first | rfl | (rw [HGs.out]; rfl), HFin.out _ _ h10 (HK9.out.trans hk10)⟩
end
end Go.Proofs.Ytcbaalodhgkgmaa
