/- Of an engine: who goes from M (evictFromM); evict. -/
import Derived.Test.YtnbfokmodjgaaabDoorEt
namespace Go.Proofs.YtnbfokmodjgaaabDoor
open Go.RowKit

section
variable {D : Nat → Prop} {w w' : World} {e b : Nat} {s : Stt}
/-- the oldest of M goes -/
theorem less_m (ho : Single s) {x : Ls.It} {r : List Ls.It} (hq : s.t2 = x :: r) : ∀ i, i < 3 → qs { s with t2 := r } i = A.less (qs s i) x.key := by
  have hout := (ho.out (k := x.key)).2.1 (by rw [hq]; simp [A.ks_cons])
  have hc : A.less (x :: r) x.key = r := less_head (fun j => by have := ho j; rw [hq] at this; omega)
  refine three ?_ ?_ ?_
  · simp [qs, less_same hout.1]
  · simp [qs, hq, hc]
  · simp [qs, less_same hout.2]
theorem single_turn {x : Ls.It} {r : List Ls.It} (n : Nat) (ho : Single { s with t2 := x :: r }) : Single { s with t2 := r ++ [⟨x.key, n⟩] } := by
  intro j
  have h1 := ho j
  show A.cnt j (A.ks s.t1) + A.cnt j (A.ks (r ++ [⟨x.key, n⟩])) + A.cnt j (A.ks s.b1) ≤ 1
  have h2 : A.cnt j (A.ks s.t1) + A.cnt j (A.ks (x :: r)) + A.cnt j (A.ks s.b1) ≤ 1 := h1
  rw [A.ks_cons, A.cnt_cons] at h2
  rw [A.ks_snoc, A.cnt_snoc]
  simp only []
  omega
theorem item_store {w : World} {B : Nat} {a v u1 u2 : Value} {t : TypeId} (h : w.heap[B]? = some (.cells #[a, v] t (0, 0))) : ((w.setCell ⟨B, 0, none⟩ u1).setCell ⟨B, 1, none⟩ u2).heap[B]? = some (.cells #[u1, u2] t (0, 0)) := by
  have h1 := block_setCell (j := 0) (u := u1) h
  have h2 := block_setCell (j := 1) (u := u2) h1
  simpa using h2
theorem keeps_store {a w : World} (h : Keeps D a w) {B : Nat} (hB : D B) (u1 u2 : Value) : Keeps D a ((w.setCell ⟨B, 0, none⟩ u1).setCell ⟨B, 1, none⟩ u2) :=
  (h.setCell (p := ⟨B, 0, none⟩) hB u1).setCell (p := ⟨B, 1, none⟩) hB u2
theorem AE.stored (H : AE e b s D w) {B : Nat} (hB : ¬ D B) (u1 u2 : Value) : AE e b s D ((w.setCell ⟨B, 0, none⟩ u1).setCell ⟨B, 1, none⟩ u2) :=
  EN.kept H (keeps_store (D := fun k => k = B) (Keeps.refl _ w) rfl u1 u2) (fun k _ hk e => hB (by subst e; exact hk))
set_option maxRecDepth 100000 in
set_option maxHeartbeats 4000000 in
theorem evictFromM_any (H : AE e b s D w) (ho : Single s) (hD : ∀ k, w.heap.size ≤ k → D k) (hb : b ≤ 600000) {x0 : Ls.It} {r0 : List Ls.It} (hq : s.t2 = x0 :: r0) :
    Calls Tryd.prog 62 #[.pointer (some ⟨e, 0, none⟩)] w fun ee w' => ∃ k m, A.fromM s.t2 = ([k], m) ∧ ee = .returned (.string k) ∧ AE e b { s with t2 := m } D w' ∧ Keeps D w w' := by
  have hold := oldest1 H (by omega) hq
  have HE : Hid (AE e b { s with t2 := x0 :: r0 } D w) := by
    have := H
    rw [show s = { s with t2 := x0 :: r0 } by rw [← hq]] at this
    exact this
  have HO : Hid (Single { s with t2 := x0 :: r0 }) := by
    have := ho
    rw [show s = { s with t2 := x0 :: r0 } by rw [← hq]] at this
    exact this
  have HD : Hid (∀ k, w.heap.size ≤ k → D k) := hD
  have HF : Hid (A.fromM s.t2 = A.fromM (x0 :: r0)) := by show A.fromM s.t2 = _; rw [hq]
  clear H ho hD hq
  go_enter Tryd.func62, Tryd.ntmps62
  go_wp2_with (go_at_call 83; refine Calls.mono hold ?_; clear hold; rintro ee w1 ⟨rfl, hb1⟩; have HB1 : Hid (Below w.heap.size w w1) := hb1; clear hb1)
  have hD1 : ∀ k, w1.heap.size ≤ k → D k := fun k h => HD.out k (Nat.le_trans HB1.out.size h)
  have hbx := AE.boxed (HE.out.below HB1.out) hD1 (.cells #[.string x0.key, .int .i64 (x0.n : Nat)] 71)
  have HA0 : Hid (AE e b { s with t2 := x0 :: r0 } (fun k => D k ∧ k ≠ w1.heap.size) (w1.alloc (.cells #[.string x0.key, .int .i64 (x0.n : Nat)] 71))) := hbx.1
  have HDb : Hid (D w1.heap.size) := hD1 _ (Nat.le_refl _)
  have HD1 : Hid (∀ k, (w1.alloc (.cells #[.string x0.key, .int .i64 (x0.n : Nat)] 71)).heap.size ≤ k → D k ∧ k ≠ w1.heap.size) := hbx.2
  clear hbx hD1
  go_loopg [] (A.total (x0 :: r0)) (fun n wr => ∃ (x : Ls.It) (r : List Ls.It), n = A.total (x :: r) ∧ A.fromM s.t2 = A.fromM (x :: r) ∧ Single { s with t2 := x :: r } ∧ AE e b { s with t2 := x :: r } (fun k => D k ∧ k ≠ w1.heap.size) wr ∧ wr.heap[w1.heap.size]? = some (.cells #[.string x.key, .int .i64 (x.n : Nat)] 71 (0, 0)) ∧ Keeps D w wr ∧ (w1.alloc (.cells #[.string x0.key, .int .i64 (x0.n : Nat)] 71)).heap.size ≤ wr.heap.size)
  case atStart => exact ⟨x0, r0, rfl, HF.out, HO.out, HA0.out, heap_alloc_new w1 _, (Keeps.of_below HB1.out).alloc _, Nat.le_refl _⟩
  case round =>
    clear HA0 HO HF HE
    obtain ⟨x, r, rfl, hf, ho, hA, hblk, hK, hsz⟩ := hrel
    have HF : Hid (A.fromM s.t2 = A.fromM (x :: r)) := hf
    have HO : Hid (Single { s with t2 := x :: r }) := ho
    have HA : Hid (AE e b { s with t2 := x :: r } (fun k => D k ∧ k ≠ w1.heap.size) wr) := hA
    have HK : Hid (Keeps D w wr) := hK
    have HBk : Hid (wr.heap[w1.heap.size]? = some (.cells #[.string x.key, .int .i64 (x.n : Nat)] 71 (0, 0))) := hblk
    have HSz : Hid ((w1.alloc (.cells #[.string x0.key, .int .i64 (x0.n : Nat)] 71)).heap.size ≤ wr.heap.size) := hsz
    have hDr : ∀ k, wr.heap.size ≤ k → D k ∧ k ≠ w1.heap.size := fun k h => HD1.out k (Nat.le_trans hsz h)
    have y1 := cell_of_block (j := 1) hblk
    have y0 := cell_of_block (j := 0) hblk
    have hlt := lt_of_block hblk
    simp at y1 y0
    obtain ⟨hks, hkn⟩ := (item_size hA).2.1 x (by simp)
    by_cases hx : 0 < x.n
    · have g1 : decide ((0 : Int) < (x.n : Int)) = true := decide_eq_true (by omega)
      have g2 : decide (0 < x.n) = true := decide_eq_true hx
      have hturn := turn_any (show EN _ _ _ _ _ _ from hA) hDr (by omega) (x := x) (r := r) (by simp [qs]) hx
      obtain ⟨x2, r2, h2⟩ : ∃ x2 r2, r ++ [⟨x.key, x.n - 1⟩] = x2 :: r2 := by
        cases r with
        | nil => exact ⟨_, _, rfl⟩
        | cons a t => exact ⟨_, _, rfl⟩
      have HTo : Hid (∀ W : World, EN (fun k => D k ∧ k ≠ w1.heap.size) W e s.c (fun j => if j = 1 then r ++ [⟨x.key, x.n - 1⟩] else qs { s with t2 := x :: r } j) (b + 3000) → AE e b { s with t2 := x2 :: r2 } (fun k => D k ∧ k ≠ w1.heap.size) W) := fun W hW => by
        rw [h2] at hW
        exact EN.congr hW (three (by simp [qs]) (by simp [qs]) (by simp [qs]))
      have HSg : Hid (Single { s with t2 := x2 :: r2 }) := by
        have := single_turn (x.n - 1) HO.out
        rw [h2] at this
        exact this
      have HF2 : Hid (A.fromM s.t2 = A.fromM (x2 :: r2)) := by
        have h5 := HF.out
        rw [A.fromM_more x r hx, h2] at h5
        exact h5
      have HM : Hid (A.total (x2 :: r2) < A.total (x :: r)) := by
        show A.total (x2 :: r2) < A.total (x :: r)
        rw [← h2, A.total_append]
        simp [A.total]
        omega
      clear hf ho hA hblk hK hsz hDr h2
      go_wp2_with (first
        | (go_at_call 85; refine Calls.mono hturn ?_; clear hturn; rintro ee w5 ⟨rfl, h5, hk5⟩; have H5 : Hid (AE e b { s with t2 := x2 :: r2 } (fun k => D k ∧ k ≠ w1.heap.size) w5) := HTo.out w5 h5; have HK5 : Hid (Keeps (fun k => D k ∧ k ≠ w1.heap.size) wr w5) := hk5; have hold2 := oldest1 H5.out (by omega) (x := x2) (r := r2) rfl; clear h5 hk5)
        | (go_at_call 83; refine Calls.mono hold2 ?_; clear hold2; rintro ee w6 ⟨rfl, hb6⟩; have HB6 : Hid (Below w5.heap.size w5 w6) := hb6; have hblk6 : w6.heap[w1.heap.size]? = some (.cells #[.string x.key, .int .i64 (x.n : Nat)] 71 (0, 0)) := (hb6.block _ (Nat.lt_of_lt_of_le hlt HK5.out.size)).trans ((HK5.out.block _ hlt (fun h => h.2 rfl)).trans HBk.out); have HBk6 : Hid _ := hblk6; have v0 := cell_of_block (j := 0) hblk6; have v1 := cell_of_block (j := 1) hblk6; have z0 := frozen_of_block (j := 0) hblk6; have z1 := frozen_of_block (j := 1) hblk6; have hlt6 := lt_of_block hblk6; simp at v0 v1; clear hb6 hblk6))
      go_roundg (A.total (x2 :: r2))
      case measure => exact HM.out
      case rel =>
        refine ⟨x2, r2, rfl, HF2.out, HSg.out, AE.stored (H5.out.below HB6.out) (fun h => h.2 rfl) _ _, item_store HBk6.out, keeps_store ((HK.out.trans (HK5.out.mono (fun _ _ h => h.1))).trans (Keeps.of_below HB6.out)) HDb.out _ _, ?_⟩
        have h1 := HSz.out
        have h2 := HK5.out.size
        have h3 := HB6.out.size
        simp only [World.size_setCell]
        omega
    · have g1 : decide ((0 : Int) < (x.n : Int)) = false := decide_eq_false (by omega)
      have g2 : decide (0 < x.n) = false := decide_eq_false hx
      have hx0 : x.n = 0 := by omega
      have htk := take_to (s' := { s with t2 := r }) hA hDr (by omega) x.key hks (less_m ho rfl) rfl
      clear hf ho hA hblk hK hsz hDr
      go_wp2_with (go_at_call 37; refine Calls.mono htk ?_; clear htk; rintro ee w7 ⟨rfl, h7, hk7⟩; have H7 : Hid (AE e b { s with t2 := r } (fun k => D k ∧ k ≠ w1.heap.size) w7) := h7; have HK7 : Hid (Keeps (fun k => D k ∧ k ≠ w1.heap.size) wr w7) := hk7; have hblk7 : w7.heap[w1.heap.size]? = some (.cells #[.string x.key, .int .i64 (x.n : Nat)] 71 (0, 0)) := ((hk7.block _ hlt (fun h => h.2 rfl)).trans HBk.out); have v0 := cell_of_block (j := 0) hblk7; have hlt7 := lt_of_block hblk7; simp at v0; clear h7 hk7 hblk7)
      go_ret
      exact ⟨x.key, r, HF.out.trans (A.fromM_zero x r hx0), rfl, H7.out.wide (fun _ _ h => h.1), HK.out.trans (HK7.out.mono (fun _ _ h => h.1))⟩
end
end Go.Proofs.YtnbfokmodjgaaabDoor
