/- The document's machine: cools, forget. -/
import Derived.Test.YtcbaalodhgkgmaaRfe
namespace Go.Proofs.Ytcbaalodhgkgmaa
open Go.RowKit

namespace C
/-- the first that is something -/
def fst (n : Nat) (l : List It) : Option It := l.find? (fun z => decide (z.n = n))
theorem fst_case {n : Nat} {l : List It} {z : It} (h : fst n l = some z) : ∃ i : Nat, l[i]? = some z ∧ z.n = n ∧ ∀ (j : Nat) (y : It), j < i → l[j]? = some y → y.n ≠ n := by
  obtain ⟨h1, ys, bs, h2, h3⟩ := List.find?_eq_some_iff_append.1 h
  refine ⟨ys.length, by rw [h2]; simp, by simpa using h1, fun j y hj hy => ?_⟩
  rw [h2, List.getElem?_append_left hj] at hy
  have := h3 y (List.mem_of_getElem? hy)
  simpa using this
theorem fst_some {n : Nat} {l : List It} (h : 0 < cnt n l) : ∃ z, fst n l = some z := by
  unfold cnt at h
  rw [List.countP_pos_iff] at h
  obtain ⟨z, h1, h2⟩ := h
  cases hf : fst n l with
  | some y => exact ⟨y, rfl⟩
  | none =>
    have := List.find?_eq_none.1 hf z h1
    exact absurd h2 this
theorem out_less {l : List It} {z : It} (h : z ∈ l) : (out l z.key).length < l.length := by
  unfold out
  rw [List.length_filter_lt_length_iff_exists]
  exact ⟨z, h, by simp⟩
theorem fst_mem {n : Nat} {l : List It} {z : It} (h : fst n l = some z) : z ∈ l := List.mem_of_find?_eq_some h
/-- ghosts are forgotten, the oldest first, while they are more than c -/
inductive Forgot (c : Nat) : List It → List It → Prop
  | done {l : List It} : cnt 103 l ≤ c → Forgot c l l
  | step {l l' : List It} {z : It} : c < cnt 103 l → fst 103 l = some z → Forgot c (out l z.key) l' → Forgot c l l'
end C
/-- the hot one nearest to the bottom becomes cold -/
def coolR (s : Rs) (k : ByteArray) : Rs := { s with s := C.pr (C.out s.s k), q := s.q ++ [k] }
section
variable {D D' : Nat → Prop} {w w' : World} {x : Nat} {s : Rs}
set_option maxHeartbeats 4000000 in
theorem rcools_any (H : RM x s D w) (hs : Sm s) (hD : ∀ k, w.heap.size ≤ k → D k) {z : C.It} (hz : C.fst 104 s.s = some z) :
    Calls Try.prog 74 #[.pointer (some ⟨x, 0, none⟩)] w fun e w' => e = .returned (.tuple #[]) ∧ RM x (coolR s z.key) D w' ∧ Keeps D w w' := by
  have HD : Hid (∀ k, w.heap.size ≤ k → D k) := hD
  have ho := rout_any H hs.l1 hD z.key
  have hol := C.out_le s.s z.key
  have l1 := hs.l1
  have l2 := hs.l2
  obtain ⟨i, hi, hz4, hno⟩ := C.fst_case hz
  have HN : Hid (∀ (j : Nat) (y : C.It), j < i → s.s[j]? = some y → y.n ≠ 104) := hno
  have HI : Hid (s.s[i]? = some z) := hi
  have hil := lt_of_at hi
  have hE : ((z.n : Int) == 104) = true := by simp; omega
  obtain ⟨L, a1, c1, a2, c2, H⟩ := H
  obtain ⟨d0, d1, d2⟩ := H.cells
  have HR : Hid (C.Row (fun g => D g ∧ L g = 1) w a1 c1 s.s) := H.r1
  clear H hD hs hz hz4 hno hi
  have HFin : Hid (∀ (W : World), Keeps D w W → RM x { s with s := C.out s.s z.key, q := s.q ++ [z.key] } D W → Calls Try.prog 72 #[.pointer (some ⟨x, 0, none⟩)] W fun e w' => e = .returned (.tuple #[]) ∧ RM x (coolR s z.key) D w' ∧ Keeps D W w') := fun W hk hr => rprune_any hr (by show (C.out s.s z.key).length ≤ 5000; omega) (fun k h => HD.out k (Nat.le_trans hk.size h))
  go_enter Try.func74, Try.ntmps74
  go_wp2_with fail
  go_loopw [2] (fun v wr => ∃ j : Nat, j ≤ i ∧ v = .int .i64 j ∧ wr = w) (fun v _ => i - (intOf v).toNat)
  case atStart => exact ⟨0, Nat.zero_le _, rfl, rfl⟩
  case round =>
    obtain ⟨j, hj, rfl, rfl⟩ := hrel
    rcases Nat.lt_or_ge j i with hlt | hge
    · obtain ⟨y, hy⟩ : ∃ y, s.s[j]? = some y := ⟨_, List.getElem?_eq_getElem (by omega)⟩
      obtain ⟨g, off, rfl, -, -, k0, k1, -⟩ := HR.out.at hy
      have hY : ((y.n : Int) == 104) = false := by have := HN.out j y hlt hy; simp; omega
      have hjl : j < s.s.length := by omega
      clear hy
      clear ho
      go_wp2_with fail
      go_roundw
      case rel => exact ⟨j + 1, hlt, by go_num, trivial⟩
      case measure => simp [intOf]; omega
    · have hj' : j = i := by omega
      subst hj'
      obtain ⟨g, off, rfl, -, -, k0, k1, -⟩ := HR.out.at HI.out
      go_wp2_with (first
        | (go_at_call 73; refine Calls.mono ho ?_; clear ho; rintro e w1 ⟨rfl, ⟨M, b1, n1, b2, n2, hM⟩, hk1⟩; obtain ⟨u0, u1, u2⟩ := hM.cells; have HM : Hid (ReIn D M w1 x { s with s := C.out s.s z.key } b1 n1 b2 n2) := hM; have HK1 : Hid (Keeps D _ w1) := hk1; clear hM hk1; replace u1 : w1.cell? ⟨x, 1, none⟩ = some (.slice b2 s.q.length n2) := u1)
        | (at_builtin; go_must (refine wpList_append_row (zs := s.q) (ks := [z.key]) rfl _ _ rfl rfl (HM.out.r2.below ((Below.refl _ _).alloc (Nat.le_refl _) _)) rfl (src_one _ z.key) (by simp; omega) ?_); intro a7 n7 w7 hr7 hk7; obtain ⟨⟨x0, x1, x2⟩, y0, y1, y2⟩ := (HM.out.below ((Below.refl _ _).alloc (Nat.le_refl _) _)).still (by omega) hk7; have H7 : Hid (RM x { s with s := C.out s.s z.key, q := s.q ++ [z.key] } D (w7.setCell ⟨x, 1, none⟩ (.slice a7 (s.q.length + 1) n7))) := (by have h7 := ((HM.out.below ((Below.refl _ _).alloc (Nat.le_refl _) _)).put2 (fun k h => HD.out k (Nat.le_trans HK1.out.size (Nat.le_trans (by simp) h))) hk7 hr7); rw [List.length_append, List.length_cons, List.length_nil] at h7; exact ⟨_, _, _, _, _, h7⟩); have HK7 : Hid (Keeps D _ (w7.setCell ⟨x, 1, none⟩ (.slice a7 (s.q.length + 1) n7))) := (((HK1.out.alloc _).trans (hk7.mono (fun _ _ h => h.1))).setCell (p := ⟨x, 1, none⟩) HM.out.dx _); clear hr7 hk7)
        | (go_at_call 72; refine Calls.mono (HFin.out _ HK7.out H7.out) ?_; rintro e w8 ⟨rfl, h8, hk8⟩))
      exact ⟨rfl, .tuple #[], results_none rfl _ _ _, rfl, h8, HK7.out.trans hk8⟩
set_option maxHeartbeats 4000000 in
theorem rforget_any (H : RM x s D w) (hs : Sm s) (hD : ∀ k, w.heap.size ≤ k → D k) :
    Calls Try.prog 71 #[.pointer (some ⟨x, 0, none⟩)] w fun e w' => ∃ l, C.Forgot s.c s.s l ∧ e = .returned (.tuple #[]) ∧ RM x { s with s := C.pr l } D w' ∧ Keeps D w w' := by
  have HD : Hid (∀ k, w.heap.size ≤ k → D k) := hD
  have HH : Hid (RM x s D w) := H
  have hl1 := hs.l1
  have hc := hs.hc
  clear H hD hs
  go_enter Try.func71, Try.ntmps71
  go_wp2_with fail
  go_loopg [] s.s.length (fun n wr => ∃ l : List C.It, n = l.length ∧ l.length ≤ 5000 ∧ (∀ l', C.Forgot s.c l l' → C.Forgot s.c s.s l') ∧ RM x { s with s := l } D wr ∧ Keeps D w wr)
  case atStart => exact ⟨s.s, rfl, hl1, fun _ h => h, HH.out, Keeps.refl _ _⟩
  case round =>
    obtain ⟨l, rfl, hll, hfo, hA, hK⟩ := hrel
    have HF : Hid (∀ l', C.Forgot s.c l l' → C.Forgot s.c s.s l') := hfo
    have HA : Hid (RM x { s with s := l } D wr) := hA
    have HK : Hid (Keeps D w wr) := hK
    have HDr : Hid (∀ k, wr.heap.size ≤ k → D k) := fun k h => HD.out k (Nat.le_trans hK.size h)
    have hcn := fun q => rcount_any (hA.below (below_drewN (Below.refl _ wr) q)) hll 103
    dsimp only at hcn
    obtain ⟨L, a1, c1, a2, c2, hI⟩ := hA
    obtain ⟨d0, d1, d2⟩ := hI.cells
    dsimp only at d0 d1 d2
    have HI : Hid (ReIn D L wr x { s with s := l } a1 c1 a2 c2) := hI
    clear hfo hK hI
    have hcl := C.cnt_le 103 l
    rcases Nat.lt_or_ge s.c (C.cnt 103 l) with hgt | hle
    · obtain ⟨z, hz⟩ := C.fst_some (n := 103) (l := l) (by omega)
      have HZ : Hid (C.fst 103 l = some z) := hz
      have HG : Hid (∀ l', C.Forgot s.c (C.out l z.key) l' → C.Forgot s.c s.s l') := fun l' h => HF.out l' (.step hgt hz h)
      have g1 : decide ((s.c : Int) < (C.cnt 103 l : Nat)) = true := decide_eq_true (by omega)
      have g2 : s.c < C.cnt 103 l := hgt
      obtain ⟨i, hi, hz4, hno⟩ := C.fst_case hz
      have HN : Hid (∀ (j : Nat) (y : C.It), j < i → l[j]? = some y → y.n ≠ 103) := hno
      have HJ : Hid (l[i]? = some z) := hi
      have hil := lt_of_at hi
      have hE : ((z.n : Int) == 103) = true := by simp; omega
      clear hz hz4 hno hi hgt
      generalize C.cnt 103 l = m at *
      go_wp2_with fail
      go_quiet (first | (go_at_call 49; refine Calls.quiet_of_same (hcn _)))
      go_wp2_with fail
      obtain ⟨wo, hwo⟩ : ∃ wo, wo = wr := ⟨_, rfl⟩
      subst hwo
      go_loopw [2] (fun v wq => ∃ j : Nat, j ≤ i ∧ v = .int .i64 j ∧ Below wo.heap.size wo wq) (fun v _ => i - (intOf v).toNat)
      case atStart => exact ⟨0, Nat.zero_le _, rfl, below_drewN (Below.refl _ wo) _⟩
      case round =>
        clear d0 d1 d2 hcn
        obtain ⟨j, hj, rfl, hb⟩ := hrel
        have HB : Hid (Below wo.heap.size wo wr) := hb
        obtain ⟨d0, d1, d2⟩ := (HI.out.below hb).cells
        dsimp only at d0 d1 d2
        have HR : Hid (C.Row (fun g => D g ∧ L g = 1) wr a1 c1 l) := (HI.out.below hb).r1
        have ho := rout_any (HA.out.below hb) hll (fun k h => HDr.out k (Nat.le_trans hb.size h)) z.key
        clear hb
        rcases Nat.lt_or_ge j i with hlt | hge
        · obtain ⟨y, hy⟩ : ∃ y, l[j]? = some y := ⟨_, List.getElem?_eq_getElem (by omega)⟩
          obtain ⟨g, off, rfl, -, -, k0, k1, -⟩ := HR.out.at hy
          have hY : ((y.n : Int) == 103) = false := by have := HN.out j y hlt hy; simp; omega
          have hjl : j < l.length := by omega
          clear hy ho
          go_wp2_with fail
          go_roundw
          case rel => exact ⟨j + 1, hlt, by go_num, HB.out⟩
          case measure => simp [intOf]; omega
        · have hj' : j = i := by omega
          subst hj'
          obtain ⟨g, off, rfl, -, -, k0, k1, -⟩ := HR.out.at HJ.out
          have hol := C.out_less (C.fst_mem HZ.out)
          go_wp2_with (go_at_call 73; refine Calls.mono ho ?_; clear ho; rintro e w1 ⟨rfl, h1, hk1⟩; have H1 : Hid (RM x { s with s := C.out l z.key } D w1) := h1; have HK1 : Hid (Keeps D wo w1) := ((Keeps.of_below HB.out).trans hk1); clear h1 hk1)
          go_roundg (C.out l z.key).length
          case measure => exact hol
          case rel => exact ⟨C.out l z.key, rfl, by omega, fun l' h => HG.out l' h, H1.out, HK.out.trans HK1.out⟩
    · have g1 : decide ((s.c : Int) < (C.cnt 103 l : Nat)) = false := decide_eq_false (by omega)
      have g2 : ¬ s.c < C.cnt 103 l := by omega
      have HE : Hid (C.Forgot s.c s.s l) := HF.out l (.done hle)
      have hp := fun q => rprune_any (HA.out.below (below_drewN (Below.refl _ wr) q)) hll (fun k h => HDr.out k h)
      dsimp only at hp
      generalize C.cnt 103 l = m at *
      clear hle
      go_wp2_with fail
      go_quiet (first | (go_at_call 49; refine Calls.quiet_of_same (hcn _)))
      go_wp2_with (go_at_call 72; refine Calls.mono (hp _) ?_; rintro e w8 ⟨rfl, h8, hk8⟩)
      exact ⟨rfl, .tuple #[], results_none rfl _ _ _, l, HE.out, rfl, h8, (HK.out.drewN _).trans hk8⟩
end
end Go.Proofs.Ytcbaalodhgkgmaa
