/- The document's machine: one goes from M. The document's machine: Evict. The document's machine: is a key a ghost; Evict as a whole; Load; Remove. The document's machine: Remove, New, Ghosts. -/
import Derived.Test.YtnbfokmodjgaaabDoorRga
import Derived.Test.YtnbfokmodjgaaabDoorEw
import Derived.Test.YtnbfokmodjgaaabDoorEf
import Derived.Test.YtnbfokmodjgaaabDoorEu
namespace Go.Proofs.YtnbfokmodjgaaabDoor
open Go.RowKit

section
variable {D D' : Nat → Prop} {w w' : World} {x : Nat} {s : Stt}
/-- beside a new variable -/
theorem RE.boxed (H : RE x s D w) (hD : ∀ k, w.heap.size ≤ k → D k) (cs : Array Value) (t : TypeId) :
    RE x s (fun k => D k ∧ k ≠ w.heap.size) (w.alloc (.cells cs t)) ∧ ∀ k, (w.alloc (.cells cs t)).heap.size ≤ k → D k ∧ k ≠ w.heap.size :=
  ⟨(H.wide (D' := fun k => D k ∧ k ≠ w.heap.size) (fun k h hk => ⟨hk, by omega⟩)).below ((Below.refl _ w).alloc (Nat.le_refl _) _), fun k h => by simp at h; exact ⟨hD k (by omega), by omega⟩⟩
set_option maxRecDepth 100000 in
set_option maxHeartbeats 4000000 in
theorem rfromM_any (H : RE x s D w) (hl : s.t2.length ≤ 2100) (hn : ∀ it ∈ s.t2, it.n ≤ 3) (hD : ∀ k, w.heap.size ≤ k → D k) {x0 : Ls.It} {r0 : List Ls.It} (hq : s.t2 = x0 :: r0) :
    Calls Tryd.prog 74 #[.pointer (some ⟨x, 0, none⟩)] w fun e w' => ∃ k m, A.fromM s.t2 = ([k], m) ∧ e = .returned (.string k) ∧ RE x { s with t2 := m } D w' ∧ Keeps D w w' := by
  have HE : Hid (RE x { s with t2 := x0 :: r0 } D w) := by
    have := H
    rw [show s = { s with t2 := x0 :: r0 } by rw [← hq]] at this
    exact this
  have HD : Hid (∀ k, w.heap.size ≤ k → D k) := hD
  have HF : Hid (A.fromM s.t2 = A.fromM (x0 :: r0)) := by show A.fromM s.t2 = _; rw [hq]
  have HL : Hid ((x0 :: r0).length ≤ 2100) := by rw [← hq]; exact hl
  have HN : Hid (∀ it ∈ x0 :: r0, it.n ≤ 3) := by rw [← hq]; exact hn
  clear H hD hq hl hn
  go_enter Tryd.func74, Tryd.ntmps74
  go_wp2_with fail
  go_loopg [] (A.total (x0 :: r0)) (fun n wr => ∃ (y : Ls.It) (r : List Ls.It), n = A.total (y :: r) ∧ A.fromM s.t2 = A.fromM (y :: r) ∧ (y :: r).length ≤ 2100 ∧ (∀ it ∈ y :: r, it.n ≤ 3) ∧ RE x { s with t2 := y :: r } D wr ∧ Keeps D w wr)
  case atStart => exact ⟨x0, r0, rfl, HF.out, HL.out, HN.out, HE.out, Keeps.refl D w⟩
  case round =>
    clear HE HF HL HN
    obtain ⟨y, r, rfl, hf, hl, hn, hA, hK⟩ := hrel
    have HF : Hid (A.fromM s.t2 = A.fromM (y :: r)) := hf
    have HL : Hid ((y :: r).length ≤ 2100) := hl
    have HN : Hid (∀ it ∈ y :: r, it.n ≤ 3) := hn
    have HK : Hid (Keeps D w wr) := hK
    have hDr : ∀ k, wr.heap.size ≤ k → D k := fun k h => HD.out k (Nat.le_trans hK.size h)
    have hy3 : y.n ≤ 3 := hn y (by simp)
    obtain ⟨hA1, hD1⟩ := hA.boxed hDr #[.string y.key, .int .i64 (y.n : Nat)] 83
    obtain ⟨L, a1, c1, a2, c2, a3, c3, hA⟩ := hA
    obtain ⟨d0, d1, d2, d3⟩ := hA.cells
    obtain ⟨g, off, rfl, -, -, k0, k1, -⟩ := hA.r2.at (i := 0) (z := y) rfl
    rw [Nat.zero_mul, Nat.add_zero] at k0 k1
    have hxl := lt_of_block hA.top
    obtain ⟨W1, hW1⟩ : ∃ W1, W1 = wr.alloc (.cells #[.string y.key, .int .i64 (y.n : Nat)] 83) := ⟨_, rfl⟩
    rw [← hW1] at hA1 hD1
    have HA1 : Hid (RE x { s with t2 := y :: r } (fun k => D k ∧ k ≠ wr.heap.size) W1) := hA1
    clear hA hf hl hn hK
    obtain ⟨L1, b1, m1, b2, m2, b3, m3, hA1⟩ := hA1
    obtain ⟨u0, u1, u2, u3⟩ := hA1.cells
    obtain ⟨t0, t1, t2, t3⟩ := hA1.thaw
    rw [hW1] at u0 u1 u2 u3
    dsimp only at d0 d1 d2 d3 u0 u1 u2 u3
    rw [List.length_cons] at d1 u1
    have hwo := rwithout_any hA1.r2 (by have := HL.out; show (y :: r).length ≤ 10000; omega) (i := 0) (by simp)
    dsimp only at hwo
    rw [C.wout_zero, List.length_cons] at hwo
    have HR1 : Hid _ := hA1
    have HB0 : Hid (Below wr.heap.size wr W1) := by rw [hW1]; exact (Below.refl _ wr).alloc (Nat.le_refl _) _
    have hblk1 : W1.heap[wr.heap.size]? = some (.cells #[.string y.key, .int .i64 (y.n : Nat)] 83 (0, 0)) := by rw [hW1]; exact heap_alloc_new wr _
    have HDr : Hid (∀ k, wr.heap.size ≤ k → D k) := hDr
    rw [hW1] at hwo
    have HD1 : Hid (∀ k, W1.heap.size ≤ k → D k ∧ k ≠ wr.heap.size) := hD1
    clear hA1 hD1 hDr t0 t1 t2 t3
    have hne : ¬ x = wr.heap.size := by omega
    have hne2 : ¬ wr.heap.size = x := by omega
    go_upto_region 3 with (go_at_call 71; refine Calls.mono hwo ?_; clear hwo; rintro e w5 ⟨ad5, cp5, rfl, hr5, hb5⟩; rw [← hW1] at hr5 hb5; obtain ⟨v0, v1, v2, v3⟩ := (HR1.out.below hb5).cells; obtain ⟨t0, t1, t2, t3⟩ := (HR1.out.below hb5).thaw; dsimp only at v0 v1 v2 v3)
    have h6 := HR1.out.put2 HD1.out (Keeps.of_below hb5) (hr5.wide (D' := fun g => ((D g ∧ g ≠ wr.heap.size) ∧ L1 g = 2) ∨ W1.heap.size ≤ g) (fun _ _ h => .inr h))
    have hbk : (w5.setCell ⟨x, 1, none⟩ (.slice ad5 r.length cp5)).heap[wr.heap.size]? = some (.cells #[.string y.key, .int .i64 (y.n : Nat)] 83 (0, 0)) := by
      rw [Below.heap_setCell _ _ _ _ (by show wr.heap.size ≠ x; omega)]
      exact (hb5.block _ (lt_of_block hblk1)).trans hblk1
    have HK5 : Hid (Keeps D w (w5.setCell ⟨x, 1, none⟩ (.slice ad5 r.length cp5))) := ((HK.out.trans (Keeps.of_below HB0.out)).trans (Keeps.of_below hb5)).setCell (p := ⟨x, 1, none⟩) HR1.out.dx.1 _
    have HD5 : Hid (∀ k, (w5.setCell ⟨x, 1, none⟩ (.slice ad5 r.length cp5)).heap.size ≤ k → D k ∧ k ≠ wr.heap.size) := fun k h => HD1.out k (Nat.le_trans hb5.size (by simpa using h))
    dsimp only at h6
    have H6 : Hid (ReIn (fun k => D k ∧ k ≠ wr.heap.size) (lab L1 W1.heap.size 2) (w5.setCell ⟨x, 1, none⟩ (.slice ad5 r.length cp5)) x { s with t2 := r } b1 m1 ad5 cp5 b3 m3) := h6
    obtain ⟨z0, z1, z2, z3⟩ := h6.cells
    obtain ⟨t0', t1', t2', t3'⟩ := h6.thaw
    dsimp only at z0 z1 z2 z3
    have y1 := cell_of_block (j := 1) hbk
    have y0 := cell_of_block (j := 0) hbk
    simp at y1 y0
    have HBk : Hid _ := hbk
    clear h6 v0 v1 v2 v3 t0 t1 t2 t3 hb5 hr5 hbk hblk1 hW1 d0 d1 d2 d3 u0 u1 u2 u3 k0 k1
    generalize w5.setCell ⟨x, 1, none⟩ (.slice ad5 r.length cp5) = W5 at *
    by_cases hx0 : y.n = 0
    · have g1 : ((y.n : Int) == 0) = true := by simp [hx0]
      go_wp2_with fail
      go_ret
      exact ⟨y.key, r, HF.out.trans (A.fromM_zero y r hx0), rfl, ⟨_, _, _, _, _, _, _, H6.out.wide (fun _ _ h => h.1)⟩, HK5.out⟩
    · have g1 : ((y.n : Int) == 0) = false := by simp; exact hx0
      have hw1 : IntKind.i64.wrap ((y.n : Int) - 1) = ((y.n - 1 : Nat) : Int) := by rw [IntKind.wrap_i64]; omega
      have hrl : r.length ≤ 2100 := by have := HL.out; simp at this; omega
      have HRC : Hid (C.Row (fun g => (D g ∧ g ≠ wr.heap.size) ∧ lab L1 W1.heap.size 2 g = 2) W5 ad5 cp5 r) := H6.out.r2
      have HBW : Hid (Below W5.heap.size W5 (W5.alloc (.cells #[.string y.key, .int .i64 ((y.n - 1 : Nat) : Int)] 83)).drew) := ((Below.refl _ W5).alloc (Nat.le_refl _) _).drew
      have HSrc : Hid (Src Tryd.prog 2 78 (.slice (some ⟨W5.heap.size, 0, none⟩) 1 1) 1 (Ls.its [⟨y.key, y.n - 1⟩]) (W5.alloc (.cells #[.string y.key, .int .i64 ((y.n - 1 : Nat) : Int)] 83)).drew) := C.src_one W5.drew y.key (y.n - 1)
      obtain ⟨x2, r2, h2⟩ : ∃ x2 r2, r ++ [⟨y.key, y.n - 1⟩] = x2 :: r2 := by
        cases r with
        | nil => exact ⟨_, _, rfl⟩
        | cons a t => exact ⟨_, _, rfl⟩
      have HH2 : Hid (r ++ [⟨y.key, y.n - 1⟩] = x2 :: r2) := h2
      have HF2 : Hid (A.fromM s.t2 = A.fromM (x2 :: r2)) := by
        have h5 := HF.out
        rw [A.fromM_more y r (by omega), h2] at h5
        exact h5
      have HM : Hid (A.total (x2 :: r2) < A.total (y :: r)) := by
        show A.total (x2 :: r2) < A.total (y :: r)
        rw [← h2, A.total_append]
        simp [A.total]
        omega
      have HL2 : Hid ((x2 :: r2).length ≤ 2100) := by
        have := HL.out
        show (x2 :: r2).length ≤ 2100
        rw [← h2]
        simpa using this
      have HN2 : Hid (∀ it ∈ x2 :: r2, it.n ≤ 3) := by
        show ∀ it ∈ x2 :: r2, it.n ≤ 3
        rw [← h2]
        intro it hit
        simp only [List.mem_append, List.mem_singleton] at hit
        rcases hit with h | h
        · exact HN.out it (List.mem_cons_of_mem _ h)
        · subst h; simp only []; omega
      clear h2
      have e1 := (H6.out.below ((Below.refl _ W5).alloc (Nat.le_refl _) (.cells #[.string y.key, .int .i64 ((y.n - 1 : Nat) : Int)] 83))).cells.2.1
      dsimp only at e1
      have e2 := cell_later ((Below.refl _ W5).alloc (Nat.le_refl _) (.cells #[.string y.key, .int .i64 ((y.n - 1 : Nat) : Int)] 83)) y0
      have e3 := cell_later ((Below.refl _ W5).alloc (Nat.le_refl _) (.cells #[.string y.key, .int .i64 ((y.n - 1 : Nat) : Int)] 83)) y1
      go_wp2_with fail
      go_region_law (first
        | (refine C.step_append_row (zs := r) (ks := [⟨y.key, y.n - 1⟩]) (by rfl) _ _ (by rfl) (by rfl) (HRC.out.below HBW.out) (by rfl) (by first | exact HSrc.out) (by simp; omega) ?_
           intro a7 n7 w7 hr7 hk7
           obtain ⟨⟨p0, p1, p2, p3⟩, q0, q1, q2, q3⟩ := (H6.out.below HBW.out).still (by omega) hk7
           dsimp only at p0 p1 p2 p3
           have H7 : Hid (RE x { s with t2 := x2 :: r2 } D (w7.setCell ⟨x, 1, none⟩ (.slice a7 (r.length + 1) n7))) := by
             have h7 := (H6.out.below HBW.out).put2 (fun k h => HD5.out k (Nat.le_trans HBW.out.size h)) hk7 hr7
             dsimp only at h7
             rw [List.length_append, List.length_cons, List.length_nil, HH2.out] at h7
             exact ⟨_, _, _, _, _, _, _, h7.wide (fun _ _ h => h.1)⟩
           have HK7 : Hid (Keeps D w (w7.setCell ⟨x, 1, none⟩ (.slice a7 (r.length + 1) n7))) := ((HK5.out.trans (Keeps.of_below HBW.out)).trans (hk7.mono (fun _ _ h => h.1.1))).setCell (p := ⟨x, 1, none⟩) H6.out.dx.1 _
           clear hr7 hk7))
      all_goals go_wp2_with fail
      all_goals
        go_roundg (A.total (x2 :: r2))
        case measure => exact HM.out
        case rel => exact ⟨x2, r2, rfl, HF2.out, HL2.out, HN2.out, H7.out, HK7.out⟩
end
end Go.Proofs.YtnbfokmodjgaaabDoor
namespace Go.Proofs.YtnbfokmodjgaaabDoor
open Go.RowKit

section
variable {D D' : Nat → Prop} {w w' : World} {x : Nat} {s : Stt}
/-- what Evict tells -/
def Goes (x : Nat) (s : Stt) (D : Nat → Prop) (w : World) (e : Ending) (w' : World) : Prop := ∃ g s', A.goes s = ([g], s') ∧ e = .returned (.tuple #[.string g, .bool true]) ∧ RE x s' D w' ∧ Keeps D w w'
set_option maxRecDepth 100000 in
set_option maxHeartbeats 4000000 in
theorem rgoes_late (H : RE x s D w) (hok : A.Ok s) (hD : ∀ k, w.heap.size ≤ k → D k) (hl : A.late s = true) :
    Calls Tryd.prog 50 #[.pointer (some ⟨x, 0, none⟩)] w (Goes x s D w) := by
  have hs := Small.of hok
  have hlen := rlen_any H hs
  rw [A.keys_length] at hlen
  obtain ⟨h1, h2⟩ := (late_is s).1 hl
  obtain ⟨x0, r0, hq⟩ : ∃ x0 r0, s.t2 = x0 :: r0 := by
    cases hm : s.t2 with
    | nil => rw [hm] at h2; cases h2
    | cons x r => exact ⟨_, _, rfl⟩
  have HFm : Hid (∀ W : World, Below w.heap.size w W → Calls Tryd.prog 74 #[.pointer (some ⟨x, 0, none⟩)] W fun e w' => ∃ k m, A.fromM s.t2 = ([k], m) ∧ e = .returned (.string k) ∧ RE x { s with t2 := m } D w' ∧ Keeps D W w') := fun W hW => rfromM_any (H.below hW) hs.l2 (fun it h => hok.few it (by simp [h])) (fun k h => hD k (Nat.le_trans hW.size h)) hq
  have HSm : Hid (∀ W : World, Below w.heap.size w W → Calls Tryd.prog 72 #[.pointer (some ⟨x, 0, none⟩)] W fun e w' => e = .returned (.int .i64 (A.small s : Nat)) ∧ w' = W) := fun W hW => rsmall_any (H.below hW) hs.hc
  have HC : Hid (∀ W : World, Below w.heap.size w W → ∃ a1 c1 a2 c2, W.cell? ⟨x, 0, none⟩ = some (.slice a1 s.t1.length c1) ∧ W.cell? ⟨x, 1, none⟩ = some (.slice a2 s.t2.length c2) ∧ x < W.heap.size) := fun W hW => by
    obtain ⟨L, a1, c1, a2, c2, a3, c3, H⟩ := H
    obtain ⟨d0, d1, d2, d3⟩ := (H.below hW).cells
    exact ⟨_, _, _, _, d0, d1, Nat.lt_of_lt_of_le (lt_of_block H.top) hW.size⟩
  have HG : Hid (∀ (k : ByteArray) (m : List Ls.It), A.fromM s.t2 = ([k], m) → A.goes s = ([k], { s with t2 := m })) := fun k m hm => by
    unfold A.goes
    rw [if_pos hl]
    exact goesM_is hm
  have l1 := hs.l1
  have l2 := hs.l2
  obtain ⟨n1, hn1⟩ : ∃ n, n = s.t1.length := ⟨_, rfl⟩
  obtain ⟨n2, hn2⟩ : ∃ n, n = s.t2.length := ⟨_, rfl⟩
  obtain ⟨sm, hsm⟩ : ∃ n, n = A.small s := ⟨_, rfl⟩
  rw [← hn1] at HC h1 hlen l1
  rw [← hn2] at HC h2 hlen l2
  rw [← hsm] at HSm h1
  have z0 : (((n1 + n2 : Nat) : Int) == 0) = false := by simp; omega
  have z1 : decide ((sm : Int) < (n1 : Int)) = false := decide_eq_false (by omega)
  have z2 : ((n2 : Int) == 0) = false := by simp; omega
  clear H hok hs hD hl hq hn1 hn2 hsm
  unfold Goes
  go_enter Tryd.func50, Tryd.ntmps50
  go_wp2_with (go_at_call 69; refine Calls.mono hlen ?_; clear hlen; rintro e w1 ⟨rfl, q, hw1⟩; have HB1 : Hid (Below w.heap.size w w1) := (by rw [hw1]; exact below_drewN (Below.refl _ w) q); clear hw1)
  obtain ⟨a1, c1, a2, c2, d0, d1, hx⟩ := HC.out _ HB1.out
  have hsml : ∀ q, Calls Tryd.prog 72 #[.pointer (some ⟨x, 0, none⟩)] (w1.drewN q) fun e w' => e = .returned (.int .i64 (sm : Nat)) ∧ w' = w1.drewN q := fun q => HSm.out _ (below_drewN HB1.out q)
  go_quiet (first | (go_at_call 72; refine Calls.quiet_of_same (hsml _)))
  go_wp2_with (go_at_call 74; refine Calls.mono (HFm.out _ (below_drewN HB1.out _)) ?_; rintro e w2 ⟨k, m, hf, rfl, h3, hk3⟩; have HF : Hid (A.fromM s.t2 = ([k], m)) := hf; clear hf)
  go_ret2
  exact ⟨k, _, HG.out k m HF.out, rfl, h3, (Keeps.of_below (below_drewN HB1.out _)).trans hk3⟩
set_option maxRecDepth 100000 in
set_option maxHeartbeats 8000000 in
theorem rgoes_early (H : RE x s D w) (hok : A.Ok s) (hD : ∀ k, w.heap.size ≤ k → D k) (hl : A.late s = false) (hpos : 0 < s.t1.length + s.t2.length) :
    Calls Tryd.prog 50 #[.pointer (some ⟨x, 0, none⟩)] w (Goes x s D w) := by
  have hs := Small.of hok
  have hlen := rlen_any H hs
  rw [A.keys_length] at hlen
  have hcase : ¬ s.t1.length ≤ A.small s ∨ (s.t1.length ≤ A.small s ∧ s.t2.length = 0) := by
    by_cases h1 : s.t1.length ≤ A.small s
    · refine .inr ⟨h1, ?_⟩
      by_cases h2 : 0 < s.t2.length
      · rw [(late_is s).2 ⟨h1, h2⟩] at hl; cases hl
      · omega
    · exact .inl h1
  have HE : Hid (∀ W : World, Below w.heap.size w W → RE x s D W) := fun W hW => H.below hW
  have HD : Hid (∀ k, w.heap.size ≤ k → D k) := hD
  have HSm : Hid (∀ W : World, Below w.heap.size w W → Calls Tryd.prog 72 #[.pointer (some ⟨x, 0, none⟩)] W fun e w' => e = .returned (.int .i64 (A.small s : Nat)) ∧ w' = W) := fun W hW => rsmall_any (H.below hW) hs.hc
  have HC : Hid (∀ W : World, Below w.heap.size w W → ∃ a1 c1 a2 c2, W.cell? ⟨x, 0, none⟩ = some (.slice a1 s.t1.length c1) ∧ W.cell? ⟨x, 1, none⟩ = some (.slice a2 s.t2.length c2) ∧ x < W.heap.size) := fun W hW => by
    obtain ⟨L, a1, c1, a2, c2, a3, c3, H⟩ := H
    obtain ⟨d0, d1, d2, d3⟩ := (H.below hW).cells
    exact ⟨_, _, _, _, d0, d1, Nat.lt_of_lt_of_le (lt_of_block H.top) hW.size⟩
  have HGo : Hid (A.goes s = A.goesS s) := by
    show A.goes s = _
    unfold A.goes
    rw [if_neg (by rw [hl]; simp)]
  have HFew : Hid (∀ it ∈ s.t1 ++ s.t2, it.n ≤ 3) := hok.few
  have HTot : Hid (s.t1.length + s.t2.length ≤ 1024) := by have := hok.res; have := hok.hi; show s.t1.length + s.t2.length ≤ 1024; omega
  have HPos : Hid (0 < s.t1.length + s.t2.length) := hpos
  have HS : Hid (Small s) := hs
  have l1 := hs.l1
  have l2 := hs.l2
  obtain ⟨n1, hn1⟩ : ∃ n, n = s.t1.length := ⟨_, rfl⟩
  obtain ⟨n2, hn2⟩ : ∃ n, n = s.t2.length := ⟨_, rfl⟩
  obtain ⟨sm, hsm⟩ : ∃ n, n = A.small s := ⟨_, rfl⟩
  rw [← hn1] at HC hcase hlen l1 hpos
  rw [← hn2] at HC hcase hlen l2 hpos
  rw [← hsm] at HSm hcase
  obtain ⟨N, hN⟩ : ∃ N, N = n1 + n2 := ⟨_, rfl⟩
  rw [← hN] at hlen hpos
  have z0 : ((N : Int) == 0) = false := by simp; omega
  clear hN
  clear H hok hs hD hl hn1 hn2 hsm
  unfold Goes
  have hcs : (decide (sm < n1) = true ∧ 0 < n1) ∨ (decide (sm < n1) = false ∧ ((n2 : Int) == 0) = true) := by
    rcases hcase with h | ⟨h1, h2⟩
    · exact .inl ⟨decide_eq_true (by omega), by omega⟩
    · exact .inr ⟨decide_eq_false (by omega), by simp; omega⟩
  clear hcase
  rcases hcs with ⟨z1, z3⟩ | ⟨z1, z3⟩
  all_goals
    go_enter Tryd.func50, Tryd.ntmps50
    go_wp2_with (go_at_call 69; refine Calls.mono hlen ?_; clear hlen; rintro e w1 ⟨rfl, q, hw1⟩; have HB1 : Hid (Below w.heap.size w w1) := (by rw [hw1]; exact below_drewN (Below.refl _ w) q); clear hw1)
    obtain ⟨a1, c1, a2, c2, d0, d1, hx⟩ := HC.out _ HB1.out
    have hsml : ∀ q, Calls Tryd.prog 72 #[.pointer (some ⟨x, 0, none⟩)] (w1.drewN q) fun e w' => e = .returned (.int .i64 (sm : Nat)) ∧ w' = w1.drewN q := fun q => HSm.out _ (below_drewN HB1.out q)
    go_quiet (first | (go_at_call 72; refine Calls.quiet_of_same (hsml _)))
    clear hsml
    go_wp2_with fail
    go_loopg [] s.t1.length (fun n wr => ∃ (S M : List Ls.It), n = S.length ∧ A.fromS s.t1 s.t2 = A.fromS S M ∧ S.length + M.length = s.t1.length + s.t2.length ∧ (∀ it ∈ S ++ M, it.n ≤ 3) ∧ RE x { s with t1 := S, t2 := M } D wr ∧ Keeps D w wr)
    case atStart => exact ⟨s.t1, s.t2, rfl, rfl, rfl, HFew.out, HE.out _ (below_drewN HB1.out _), Keeps.of_below (below_drewN HB1.out _)⟩
    case round =>
      clear z1 z3 z0 l1 l2 hpos d0 d1 hx
      obtain ⟨S, M, rfl, hf, hln, hfw, hA, hK⟩ := hrel
      have HF : Hid (A.fromS s.t1 s.t2 = A.fromS S M) := hf
      have HLn : Hid (S.length + M.length = s.t1.length + s.t2.length) := hln
      have HFw : Hid (∀ it ∈ S ++ M, it.n ≤ 3) := hfw
      have HK : Hid (Keeps D w wr) := hK
      have HDr : Hid (∀ k, wr.heap.size ≤ k → D k) := fun k h => HD.out k (Nat.le_trans hK.size h)
      have HA : Hid (RE x { s with t1 := S, t2 := M } D wr) := hA
      clear hf hln hfw hK hA
      cases S with
      | nil =>
        have hA := HA.out
        have hln := HLn.out
        have hps := HPos.out
        have hto := HTot.out
        rw [List.length_nil, Nat.zero_add] at hln
        obtain ⟨x0, r0, hM⟩ : ∃ x0 r0, M = x0 :: r0 := by
          cases M with
          | nil => simp at hln; omega
          | cons a t => exact ⟨_, _, rfl⟩
        have hfm := rfromM_any hA (by show M.length ≤ 2100; omega) (fun it h => HFw.out it (by simpa using h)) HDr.out (x0 := x0) (r0 := r0) hM
        dsimp only at hfm
        have HFm : Hid _ := hfm
        have HG : Hid (∀ (k : ByteArray) (m : List Ls.It), A.fromM M = ([k], m) → A.goes s = ([k], { s with t1 := [], t2 := m })) := fun k m hm => by
          have h2 := HGo.out
          rw [h2]
          unfold A.goesS
          rw [HF.out]
          exact goesM_is (s := { s with t1 := [], t2 := M }) hm
        obtain ⟨L, b1, m1, b2, m2, b3, m3, hA⟩ := hA
        obtain ⟨d0, d1, d2, d3⟩ := hA.cells
        dsimp only at d0
        rw [List.length_nil] at d0
        clear hA hln hps hto hfm hM HA
        go_wp2_with (go_at_call 74; refine Calls.mono HFm.out ?_; rintro e w2 ⟨k, m, hf, rfl, h3, hk3⟩; have HF : Hid (A.fromM M = ([k], m)) := hf; clear hf)
        go_ret2
        exact ⟨k, _, HG.out k m HF.out, rfl, h3, HK.out.trans hk3⟩
      | cons y r =>
        have hA := HA.out
        have hln := HLn.out
        have hto := HTot.out
        have hy3 : y.n ≤ 3 := HFw.out y (by simp)
        obtain ⟨hA1, hD1⟩ := hA.boxed HDr.out #[.string y.key, .int .i64 (y.n : Nat)] 83
        obtain ⟨L, a1, c1, a2, c2, a3, c3, hA⟩ := hA
        obtain ⟨d0, d1, d2, d3⟩ := hA.cells
        obtain ⟨g, off, rfl, -, -, k0, k1, -⟩ := hA.r1.at (i := 0) (z := y) rfl
        rw [Nat.zero_mul, Nat.add_zero] at k0 k1
        have hxl := lt_of_block hA.top
        obtain ⟨W1, hW1⟩ : ∃ W1, W1 = wr.alloc (.cells #[.string y.key, .int .i64 (y.n : Nat)] 83) := ⟨_, rfl⟩
        rw [← hW1] at hA1 hD1
        clear hA HA
        obtain ⟨L1, b1, m1, b2, m2, b3, m3, hA1⟩ := hA1
        obtain ⟨u0, u1, u2, u3⟩ := hA1.cells
        rw [hW1] at u0 u1 u2 u3
        dsimp only at d0 d1 d2 d3 u0 u1 u2 u3
        rw [List.length_cons] at d0 u0
        have hrl : r.length + M.length ≤ 1024 := by simp at hln; omega
        have hwo := rwithout_any hA1.r1 (by show (y :: r).length ≤ 10000; simp; omega) (i := 0) (by simp)
        dsimp only at hwo
        rw [C.wout_zero, List.length_cons] at hwo
        have HR1 : Hid _ := hA1
        have HB0 : Hid (Below wr.heap.size wr W1) := by rw [hW1]; exact (Below.refl _ wr).alloc (Nat.le_refl _) _
        have hblk1 : W1.heap[wr.heap.size]? = some (.cells #[.string y.key, .int .i64 (y.n : Nat)] 83 (0, 0)) := by rw [hW1]; exact heap_alloc_new wr _
        rw [hW1] at hwo
        have HD1 : Hid (∀ k, W1.heap.size ≤ k → D k ∧ k ≠ wr.heap.size) := hD1
        clear hA1 hD1 hln hto
        have hne : ¬ x = wr.heap.size := by omega
        have hne2 : ¬ wr.heap.size = x := by omega
        go_upto_region 7 with (go_at_call 71; refine Calls.mono hwo ?_; clear hwo; rintro e w5 ⟨ad5, cp5, rfl, hr5, hb5⟩; rw [← hW1] at hr5 hb5; obtain ⟨v0, v1, v2, v3⟩ := (HR1.out.below hb5).cells; obtain ⟨t0, t1, t2, t3⟩ := (HR1.out.below hb5).thaw; dsimp only at v0 v1 v2 v3)
        have h6 := HR1.out.put1 HD1.out (Keeps.of_below hb5) (hr5.wide (D' := fun g => ((D g ∧ g ≠ wr.heap.size) ∧ L1 g = 1) ∨ W1.heap.size ≤ g) (fun _ _ h => .inr h))
        have hbk : (w5.setCell ⟨x, 0, none⟩ (.slice ad5 r.length cp5)).heap[wr.heap.size]? = some (.cells #[.string y.key, .int .i64 (y.n : Nat)] 83 (0, 0)) := by
          rw [Below.heap_setCell _ _ _ _ (by show wr.heap.size ≠ x; omega)]
          exact (hb5.block _ (lt_of_block hblk1)).trans hblk1
        have HK5 : Hid (Keeps D w (w5.setCell ⟨x, 0, none⟩ (.slice ad5 r.length cp5))) := ((HK.out.trans (Keeps.of_below HB0.out)).trans (Keeps.of_below hb5)).setCell (p := ⟨x, 0, none⟩) HR1.out.dx.1 _
        have HD5 : Hid (∀ k, (w5.setCell ⟨x, 0, none⟩ (.slice ad5 r.length cp5)).heap.size ≤ k → D k ∧ k ≠ wr.heap.size) := fun k h => HD1.out k (Nat.le_trans hb5.size (by simpa using h))
        dsimp only at h6
        have H6 : Hid (ReIn (fun k => D k ∧ k ≠ wr.heap.size) (lab L1 W1.heap.size 1) (w5.setCell ⟨x, 0, none⟩ (.slice ad5 r.length cp5)) x { s with t1 := r, t2 := M } ad5 cp5 b2 m2 b3 m3) := h6
        obtain ⟨z0, z1, z2, z3⟩ := h6.cells
        obtain ⟨t0', t1', t2', t3'⟩ := h6.thaw
        dsimp only at z0 z1 z2 z3
        have y1 := cell_of_block (j := 1) hbk
        have y0 := cell_of_block (j := 0) hbk
        simp at y1 y0
        have HBk : Hid _ := hbk
        clear h6 v0 v1 v2 v3 t0 t1 t2 t3 hb5 hr5 hbk hblk1 hW1 d0 d1 d2 d3 u0 u1 u2 u3 k0 k1
        generalize w5.setCell ⟨x, 0, none⟩ (.slice ad5 r.length cp5) = W5 at *
        by_cases hx0 : y.n ≤ 1
        · have g1 : decide ((y.n : Int) ≤ 1) = true := decide_eq_true (by omega)
          have g2 : decide (y.n ≤ 1) = true := decide_eq_true hx0
          have hre : RE x { s with t1 := r, t2 := M } (fun k => D k ∧ k ≠ wr.heap.size) W5 := ⟨_, _, _, _, _, _, _, H6.out⟩
          have hgh := rghost_any hre ⟨by show r.length ≤ 2100; omega, by show M.length ≤ 2100; omega, HS.out.l3, HS.out.hc⟩ HD5.out y.key
          have HG : Hid (A.goes s = ([y.key], A.ghosted { s with t1 := r, t2 := M } y.key)) := by
            show A.goes s = _
            have h2 := HGo.out
            rw [h2]
            unfold A.goesS
            rw [HF.out]
            have e : A.fromS (y :: r) M = (some y.key, r, M) := by
              show (if 1 < y.n then _ else _) = _
              rw [if_neg (by omega)]
            rw [e]
          go_wp2_with (go_at_call 73; refine Calls.mono hgh ?_; clear hgh hre; rintro e w7 ⟨rfl, h7, hk7⟩; have H7 : Hid (RE x (A.ghosted { s with t1 := r, t2 := M } y.key) (fun k => D k ∧ k ≠ wr.heap.size) w7) := h7; have HK7 : Hid (Keeps (fun k => D k ∧ k ≠ wr.heap.size) W5 w7) := hk7; have hblk7 : w7.heap[wr.heap.size]? = some (.cells #[.string y.key, .int .i64 (y.n : Nat)] 83 (0, 0)) := ((hk7.block _ (lt_of_block HBk.out) (fun h => h.2 rfl)).trans HBk.out); have y7 := cell_of_block (j := 0) hblk7; simp at y7; clear h7 hk7 hblk7)
          go_ret2
          exact ⟨y.key, _, HG.out, rfl, H7.out.wide (fun _ _ h => h.1), HK5.out.trans (HK7.out.mono (fun _ _ h => h.1))⟩
        · have g1 : decide ((y.n : Int) ≤ 1) = false := decide_eq_false (by omega)
          have g2 : decide (y.n ≤ 1) = false := decide_eq_false hx0
          have HRC : Hid (C.Row (fun g => (D g ∧ g ≠ wr.heap.size) ∧ lab L1 W1.heap.size 1 g = 2) W5 b2 m2 M) := H6.out.r2
          have HBW : Hid (Below W5.heap.size W5 (W5.alloc (.cells #[.string y.key, .int .i64 0] 83)).drew) := ((Below.refl _ W5).alloc (Nat.le_refl _) _).drew
          have HSrc : Hid (Src Tryd.prog 2 78 (.slice (some ⟨W5.heap.size, 0, none⟩) 1 1) 1 (Ls.its [⟨y.key, 0⟩]) (W5.alloc (.cells #[.string y.key, .int .i64 0] 83)).drew) := C.src_one W5.drew y.key 0
          have HF2 : Hid (A.fromS s.t1 s.t2 = A.fromS r (M ++ [⟨y.key, 0⟩])) := by
            have h5 := HF.out
            show A.fromS s.t1 s.t2 = _
            rw [h5]
            show (if 1 < y.n then _ else _) = _
            rw [if_pos (by omega)]
          have HL2 : Hid (r.length + (M ++ [⟨y.key, 0⟩] : List Ls.It).length = s.t1.length + s.t2.length) := by
            have := HLn.out
            show r.length + (M ++ [⟨y.key, 0⟩] : List Ls.It).length = _
            simp at this ⊢
            omega
          have HN2 : Hid (∀ it ∈ r ++ (M ++ [⟨y.key, 0⟩] : List Ls.It), it.n ≤ 3) := by
            intro it hit
            simp only [List.mem_append, List.mem_singleton] at hit
            rcases hit with h | h | h
            · exact HFw.out it (by simp [h])
            · exact HFw.out it (by simp [h])
            · subst h; simp
          have e1 := (H6.out.below ((Below.refl _ W5).alloc (Nat.le_refl _) (.cells #[.string y.key, .int .i64 0] 83))).cells.2.1
          dsimp only at e1
          have e2 := cell_later ((Below.refl _ W5).alloc (Nat.le_refl _) (.cells #[.string y.key, .int .i64 0] 83)) y0
          go_wp2_with fail
          go_region_law (first
            | (refine C.step_append_row (zs := M) (ks := [⟨y.key, 0⟩]) (by rfl) _ _ (by rfl) (by rfl) (HRC.out.below HBW.out) (by rfl) (by first | exact HSrc.out) (by simp; omega) ?_
               intro a7 n7 w7 hr7 hk7
               obtain ⟨⟨p0, p1, p2, p3⟩, q0, q1, q2, q3⟩ := (H6.out.below HBW.out).still (by omega) hk7
               dsimp only at p0 p1 p2 p3
               have H7 : Hid (RE x { s with t1 := r, t2 := M ++ [⟨y.key, 0⟩] } D (w7.setCell ⟨x, 1, none⟩ (.slice a7 (M.length + 1) n7))) := by
                 have h7 := (H6.out.below HBW.out).put2 (fun k h => HD5.out k (Nat.le_trans HBW.out.size h)) hk7 hr7
                 dsimp only at h7
                 rw [List.length_append, List.length_cons, List.length_nil] at h7
                 exact ⟨_, _, _, _, _, _, _, h7.wide (fun _ _ h => h.1)⟩
               have HK7 : Hid (Keeps D w (w7.setCell ⟨x, 1, none⟩ (.slice a7 (M.length + 1) n7))) := ((HK5.out.trans (Keeps.of_below HBW.out)).trans (hk7.mono (fun _ _ h => h.1.1))).setCell (p := ⟨x, 1, none⟩) H6.out.dx.1 _
               clear hr7 hk7))
          all_goals go_wp2_with fail
          all_goals
            go_roundg r.length
            case measure => simp
            case rel => exact ⟨r, M ++ [⟨y.key, 0⟩], rfl, HF2.out, HL2.out, HN2.out, H7.out, HK7.out⟩
end
end Go.Proofs.YtnbfokmodjgaaabDoor
namespace Go.Proofs.YtnbfokmodjgaaabDoor
open Go.RowKit

theorem rcut_no {zs : List ByteArray} {k : ByteArray} {j : Nat} (h : zs[j]? = some k) : A.cut (zs.take (j + 1)) k = A.cut (zs.take j) k := by
  rw [List.take_add_one, h]
  simp [A.cut]
theorem rcut_yes {zs : List ByteArray} {k z : ByteArray} {j : Nat} (h : zs[j]? = some z) (hz : z ≠ k) : A.cut (zs.take (j + 1)) k = A.cut (zs.take j) k ++ [z] := by
  rw [List.take_add_one, h]
  simp [A.cut, hz]
theorem rcut_len (zs : List ByteArray) (k : ByteArray) (j : Nat) : (A.cut (zs.take j) k).length ≤ zs.length := by
  have h1 := A.length_cut_le (zs.take j) k
  have h2 : (zs.take j).length ≤ zs.length := by simp; omega
  omega
theorem rrow_old {B : Nat} {w w' : World} {ad : Option Addr} {cap : Nat} {zs : List ByteArray} (h : Row (fun g => B ≤ g ∨ w.heap.size ≤ g) w' ad cap zs) (hB : B ≤ w.heap.size) : Row (B ≤ ·) w' ad cap zs := h.wide (fun g _ h => by
  show B ≤ g
  rcases h with h | h
  · exact h
  · omega)
theorem cut_shorter (zs : List ByteArray) (k : ByteArray) : decide ((A.cut zs k).length < zs.length) = inn k zs := by
  by_cases h : k ∈ zs
  · rw [inn_yes h, decide_eq_true_eq]
    unfold A.cut
    rw [List.length_filter_lt_length_iff_exists]
    exact ⟨k, h, by simp⟩
  · rw [inn_no h, A.cut_same h]
    simp
section
variable {D D' : Nat → Prop} {w w' : World} {x : Nat} {s : Stt}
set_option maxRecDepth 20000 in
set_option maxHeartbeats 4000000 in
theorem rknown_any (H : RE x s D w) (hs : Small s) (hD : ∀ k, w.heap.size ≤ k → D k) (key : ByteArray) :
    Calls Tryd.prog 70 #[.pointer (some ⟨x, 0, none⟩), .string key] w fun e w' => e = .returned (.bool (inn key (A.ghosts s))) ∧ RE x (A.noGhost s key) D w' ∧ Keeps D w w' := by
  have l3 := hs.l3
  obtain ⟨L, a1, c1, a2, c2, a3, c3, H⟩ := H
  have HH : Hid (ReIn D L w x s a1 c1 a2 c2 a3 c3) := H
  have HD : Hid (∀ k, w.heap.size ≤ k → D k) := hD
  have HI : Hid (inn key (A.ghosts s) = decide ((A.cut (A.ks s.b1) key).length < (A.ks s.b1).length)) := (cut_shorter _ _).symm
  have HP : Hid (∀ (W : World) (a4 : Option Addr) (c4 : Nat), Below w.heap.size w W → Row (w.heap.size ≤ ·) W a4 c4 (A.cut (A.ks s.b1) key) → RE x (A.noGhost s key) D (W.setCell ⟨x, 2, none⟩ (.slice a4 (A.cut (A.ks s.b1) key).length c4)) ∧ Keeps D w (W.setCell ⟨x, 2, none⟩ (.slice a4 (A.cut (A.ks s.b1) key).length c4))) := fun W a4 c4 hb hr => by
    have h := H.put3 hD (zs := A.less s.b1 key) (Keeps.of_below hb) (a := a4) (c := c4) (by rw [A.ks_less]; exact hr.wide (fun _ _ h => .inr h))
    rw [A.ks_less] at h
    exact ⟨⟨_, _, _, _, _, _, _, h⟩, (Keeps.of_below hb).setCell (p := ⟨x, 2, none⟩) H.dx _⟩
  have HC : Hid (∀ W : World, Below w.heap.size w W → W.cell? ⟨x, 2, none⟩ = some (.slice a3 (A.ks s.b1).length c3) ∧ W.frozen? ⟨x, 2, none⟩ = false) := fun W hW => ⟨(H.below hW).cells.2.2.1, (H.below hW).thaw.2.2.1⟩
  have HR3 : Hid (Row (fun g => D g ∧ L g = 3) w a3 c3 (A.ks s.b1)) := H.r3
  clear H hs hD HH
  generalize A.ks s.b1 = zs at *
  go_enter Tryd.func70, Tryd.ntmps70
  go_wp2
  go_loopw [5, 6] (fun v i wr => ∃ (j : Nat) (a2 : Option Addr) (c2 : Nat), j ≤ zs.length ∧ i = .int .i64 j ∧ v = .slice a2 (A.cut (zs.take j) key).length c2 ∧ Row (w.heap.size ≤ ·) wr a2 c2 (A.cut (zs.take j) key) ∧ Below w.heap.size w wr) (fun _ i _ => zs.length - (intOf i).toNat)
  case atStart => exact ⟨0, none, 0, Nat.zero_le _, rfl, rfl, Row.nil, Below.refl _ _⟩
  case round =>
    obtain ⟨j, a2, c2, hj, rfl, rfl, hrow, hb⟩ := hrel
    have hs := hb.size
    have hcl := rcut_len zs key j
    obtain ⟨d2, t2⟩ := HC.out wr hb
    rcases Nat.lt_or_ge j zs.length with hlt | hge
    · obtain ⟨z, hz⟩ : ∃ z, zs[j]? = some z := ⟨_, List.getElem?_eq_getElem hlt⟩
      obtain ⟨g, off, rfl, -, c0, -⟩ := (HR3.out.below hb).at hz
      have HY : Hid (z ≠ key → A.cut (zs.take (j + 1)) key = A.cut (zs.take j) key ++ [z]) := rcut_yes hz
      have HX : Hid (z = key → A.cut (zs.take (j + 1)) key = A.cut (zs.take j) key) := fun e => rcut_no (e ▸ hz)
      clear hz
      generalize A.cut (zs.take j) key = m at *
      by_cases he : z = key
      · have hE : (z.toList == key.toList) = true := by rw [bytes_beq, decide_eq_true he]
        have HE := HX.out he
        have HF : Hid (A.cut (zs.take (j + 1)) key = m) := HE
        clear HX HY he HE
        go_wp2_with fail
        go_roundw
        case rel => exact ⟨j + 1, a2, c2, hlt, by go_num, by rw [HF.out], by rw [HF.out]; exact hrow, hb⟩
        case measure => simp [intOf]; omega
      · have hE : (z.toList == key.toList) = false := by rw [bytes_beq, decide_eq_false he]
        have HE := HY.out he
        have HF : Hid (A.cut (zs.take (j + 1)) key = m ++ [z]) := HE
        clear HX HY he HE
        go_wp2_with (at_builtin; go_must (refine wpList_append_row (ks := [z]) rfl _ _ rfl rfl (hrow.below ((Below.refl _ wr).alloc (Nat.le_refl _) _)) rfl (src_one _ z) (by simp; omega) ?_); intro a3 c3 w3 hrow3 hk3; have hb3 : Below w.heap.size w w3 := (hb.alloc hs _).trans (hk3.below (by simp; omega) (fun _ h => h)); have hrow3' : Row (w.heap.size ≤ ·) w3 a3 c3 (m ++ [z]) := rrow_old hrow3 (by simp; omega); clear hrow3 hk3)
        go_roundw
        case rel => exact ⟨j + 1, a3, c3, hlt, by go_num, by rw [HF.out]; simp, by rw [HF.out]; exact hrow3', hb3⟩
        case measure => simp [intOf]; omega
    · have hj' : j = zs.length := by omega
      subst hj'
      rw [List.take_length] at *
      have HPP := HP.out wr a2 c2 hb hrow
      have HPo : Hid _ := HPP
      have hcl2 := A.length_cut_le zs key
      clear HPP hrow
      have HII : Hid _ := HI.out
      generalize (A.cut zs key).length = m at *
      go_wp2_with fail
      go_ret
      rw [HII.out]
      exact ⟨by simp, HPo.out.1, HPo.out.2⟩
theorem rgoes_any (H : RE x s D w) (hok : A.Ok s) (hD : ∀ k, w.heap.size ≤ k → D k) (h : 0 < s.t1.length + s.t2.length) :
    Calls Tryd.prog 50 #[.pointer (some ⟨x, 0, none⟩)] w (Goes x s D w) := by
  cases hl : A.late s with
  | true => exact rgoes_late H hok hD hl
  | false => exact rgoes_early H hok hD hl h
set_option maxRecDepth 100000 in
set_option maxHeartbeats 1000000 in
theorem revi_no (H : RE x s D w) (hs : Small s) (h0 : (A.keys s).length = 0) :
    Calls Tryd.prog 50 #[.pointer (some ⟨x, 0, none⟩)] w fun e w' => e = .returned (.tuple #[.string ⟨#[]⟩, .bool false]) ∧ ∃ q, w' = w.drewN q := by
  have hl := rlen_any H hs
  rw [h0] at hl
  clear H hs
  go_enter Tryd.func50, Tryd.ntmps50
  go_wp2_with (go_at_call 69; refine Calls.mono hl ?_; clear hl; rintro e w1 ⟨rfl, q, rfl⟩)
  go_ret2
  exact ⟨rfl, _, rfl⟩
theorem revict_any (H : RE x s D w) (hok : A.Ok s) (hD : ∀ k, w.heap.size ≤ k → D k) :
    Calls Tryd.prog 50 #[.pointer (some ⟨x, 0, none⟩)] w fun e w' => e = .returned (wentV (A.evict s).1) ∧ RE x (A.evict s).2 D w' ∧ Keeps D w w' := by
  have hkl := A.keys_length s
  by_cases h0 : (A.keys s).length = 0
  · rw [A.evi_no h0]
    refine (revi_no H (Small.of hok) h0).mono ?_
    rintro e w' ⟨rfl, q, rfl⟩
    exact ⟨rfl, H.below (below_drewN (Below.refl _ w) q), .of_below (below_drewN (Below.refl _ w) q)⟩
  · have e0 : A.evict s = A.goes s := by unfold A.evict; rw [if_neg h0]
    rw [e0]
    refine (rgoes_any H hok hD (by omega)).mono ?_
    rintro e w' ⟨g, s', hg, rfl, h2, hk⟩
    rw [hg]
    exact ⟨rfl, h2, hk⟩
set_option maxHeartbeats 1000000 in
theorem rload_no (H : RE x s D w) (hs : Small s) (key : ByteArray) (hk : key ∈ A.keys s ∨ s.c ≤ (A.keys s).length) :
    Calls Tryd.prog 48 #[.pointer (some ⟨x, 0, none⟩), .string key] w fun e w' => e = .returned (.bool false) ∧ ∃ q, w' = w.drewN q := by
  have hh := fun q => rhas_key (H.below (below_drewN (Below.refl _ w) q)) hs key
  have hlen := fun q => rlen_any (H.below (below_drewN (Below.refl _ w) q)) hs
  obtain ⟨L, a1, c1, a2, c2, a3, c3, H⟩ := H
  obtain ⟨d0, d1, d2, d3⟩ := H.cells
  have hhi := hs.hc
  by_cases h1 : key ∈ A.keys s
  · rw [inn_yes h1] at hh
    clear H hs
    go_enter Tryd.func48, Tryd.ntmps48
    go_wp2_with fail
    go_quiet (first | (go_at_call 51; refine Calls.quiet_of_same (hh _)) | (go_at_call 69; refine Calls.quiet_of (hlen _)))
    go_wp2_with fail
    go_ret
    exact ⟨rfl, _, rfl⟩
  · rw [inn_no h1] at hh
    have h2 : s.c ≤ (A.keys s).length := by rcases hk with h | h; exact absurd h h1; exact h
    generalize (A.keys s).length = n at *
    generalize s.c = c at *
    have hd : decide ((c : Int) ≤ (n : Int)) = true := decide_eq_true (by omega)
    clear H hs
    go_enter Tryd.func48, Tryd.ntmps48
    go_wp2_with fail
    go_quiet (first | (go_at_call 51; refine Calls.quiet_of_same (hh _)) | (go_at_call 69; refine Calls.quiet_of (hlen _)))
    go_wp2_with fail
    go_ret
    exact ⟨rfl, _, rfl⟩
set_option maxRecDepth 20000 in
set_option maxHeartbeats 4000000 in
theorem rload_yes (H : RE x s D w) (hok : A.Ok s) (hD : ∀ k, w.heap.size ≤ k → D k) (key : ByteArray) (hk : key ∉ A.keys s) (hl : (A.keys s).length < s.c) :
    Calls Tryd.prog 48 #[.pointer (some ⟨x, 0, none⟩), .string key] w fun e w' => e = .returned (.bool true) ∧ RE x (A.again (A.noGhost s key) key) D w' ∧ Keeps D w w' := by
  have hs := Small.of hok
  have hh := fun q => rhas_key (H.below (below_drewN (Below.refl _ w) q)) hs key
  have hlen := fun q => rlen_any (H.below (below_drewN (Below.refl _ w) q)) hs
  rw [inn_no hk] at hh
  have HKn : Hid (∀ W : World, Below w.heap.size w W → Calls Tryd.prog 70 #[.pointer (some ⟨x, 0, none⟩), .string key] W fun e w' => e = .returned (.bool (inn key (A.ghosts s))) ∧ RE x (A.noGhost s key) D w' ∧ Keeps D W w') := fun W hW => rknown_any (H.below hW) hs (fun k h => hD k (Nat.le_trans hW.size h)) key
  have HD : Hid (∀ k, w.heap.size ≤ k → D k) := hD
  have l2 := hs.l2
  obtain ⟨L, a1, c1, a2, c2, a3, c3, H⟩ := H
  obtain ⟨d0, d1, d2, d3⟩ := H.cells
  have hhi := hs.hc
  have hd : decide ((s.c : Int) ≤ ((A.keys s).length : Int)) = false := decide_eq_false (by omega)
  have hd2 : decide (s.c ≤ (A.keys s).length) = false := decide_eq_false (by omega)
  generalize (A.keys s).length = n at *
  clear H hs hD hok
  go_enter Tryd.func48, Tryd.ntmps48
  go_wp2_with fail
  go_quiet (first | (go_at_call 51; refine Calls.quiet_of_same (hh _)) | (go_at_call 69; refine Calls.quiet_of (hlen _)))
  clear hh hlen d0 d1 d2 d3
  go_wp2_with (first
    | (go_at_call 70; refine Calls.mono (HKn.out _ (below_drewN (Below.refl _ w) _)) ?_; rintro e w5 ⟨rfl, ⟨M, b1, n1, b2, n2, b3, n3, hM⟩, hk5⟩; obtain ⟨u0, u1, u2, u3⟩ := hM.cells; have HM : Hid (ReIn D M w5 x (A.noGhost s key) b1 n1 b2 n2 b3 n3) := hM; have HK5 : Hid (Keeps D w w5) := ((Keeps.of_below (below_drewN (Below.refl _ w) _)).trans hk5); clear hM hk5; replace u1 : w5.cell? ⟨x, 1, none⟩ = some (.slice b2 s.t2.length n2) := u1)
    | (at_builtin; go_must (refine C.wpList_append_row (zs := s.t2) (ks := [⟨key, 0⟩]) rfl _ _ rfl rfl (HM.out.r2.below ((Below.refl _ _).alloc (Nat.le_refl _) _)) rfl (C.src_one _ key 0) (by simp; omega) ?_); intro a7 n7 w7 hr7 hk7; obtain ⟨⟨x0, x1, x2, x3⟩, y0, y1, y2, y3⟩ := (HM.out.below ((Below.refl _ _).alloc (Nat.le_refl _) _)).still (by omega) hk7; have H7 : Hid (RE x (A.again (A.noGhost s key) key) D (w7.setCell ⟨x, 1, none⟩ (.slice a7 (s.t2.length + 1) n7))) := (by have h7 := ((HM.out.below ((Below.refl _ _).alloc (Nat.le_refl _) _)).put2 (fun k h => HD.out k (Nat.le_trans HK5.out.size (Nat.le_trans (by simp) h))) hk7 hr7); rw [List.length_append, List.length_cons, List.length_nil] at h7; exact ⟨_, _, _, _, _, _, _, h7⟩); have HK7 : Hid (Keeps D w (w7.setCell ⟨x, 1, none⟩ (.slice a7 (s.t2.length + 1) n7))) := (((HK5.out.alloc _).trans (hk7.mono (fun _ _ h => h.1))).setCell (p := ⟨x, 1, none⟩) HM.out.dx _); clear hr7 hk7))
  go_ret
  exact ⟨rfl, H7.out, HK7.out⟩
theorem rload_any (H : RE x s D w) (hok : A.Ok s) (hD : ∀ k, w.heap.size ≤ k → D k) (key : ByteArray) :
    Calls Tryd.prog 48 #[.pointer (some ⟨x, 0, none⟩), .string key] w fun e w' => e = .returned (.bool (A.load s key).1) ∧ RE x (A.load s key).2 D w' ∧ Keeps D w w' := by
  by_cases h : key ∈ A.keys s ∨ s.c ≤ (A.keys s).length
  · unfold A.load
    rw [if_pos h]
    refine (rload_no H (Small.of hok) key h).mono ?_
    rintro e w' ⟨rfl, q, rfl⟩
    exact ⟨rfl, H.below (below_drewN (Below.refl _ w) q), .of_below (below_drewN (Below.refl _ w) q)⟩
  · unfold A.load
    rw [if_neg h]
    exact rload_yes H hok hD key (fun h1 => h (.inl h1)) (by rcases Nat.lt_or_ge (A.keys s).length s.c with h1 | h1; exact h1; exact absurd (.inr h1) h)
end
end Go.Proofs.YtnbfokmodjgaaabDoor
namespace Go.Proofs.YtnbfokmodjgaaabDoor
open Go.RowKit

/-- the place of a key taken out: the row without the key -/
theorem wout_less {zs : List Ls.It} {key : ByteArray} {i : Nat} (ho : A.cnt key (A.ks zs) ≤ 1) (h : (A.ks zs)[i]? = some key) : C.wout zs i = A.less zs key := by
  induction zs generalizing i with
  | nil => simp [A.ks] at h
  | cons z zs ih =>
    rw [A.ks_cons, A.cnt_cons] at ho
    cases i with
    | zero =>
      have hz : z.key = key := by simpa [A.ks_cons] using h
      subst hz
      rw [A.one_self] at ho
      have hn : z.key ∉ A.ks zs := A.cnt_zero.1 (by omega)
      rw [C.wout_zero]
      have e : A.less (z :: zs) z.key = A.less zs z.key := by simp [A.less]
      rw [e, less_same hn]
    | succ i =>
      have h2 : (A.ks zs)[i]? = some key := by simpa [A.ks_cons] using h
      have hm : 0 < A.cnt key (A.ks zs) := A.cnt_pos.2 (List.mem_of_getElem? h2)
      have hne : z.key ≠ key := by
        intro e
        rw [e, A.one_self] at ho
        omega
      have e : A.less (z :: zs) key = z :: A.less zs key := by simp [A.less, hne]
      rw [e, ← ih (by omega) h2]
      simp [C.wout]
section
variable {D D' : Nat → Prop} {w w' : World} {x : Nat} {s : Stt}
/-- two rows looked at, one law for both calls -/
theorem at_both {w : World} {key : ByteArray} {v1 v2 : Value} {r1 r2 : Int} (h1 : ∀ q, Calls Tryd.prog 68 #[v1, .string key] (w.drewN q) fun e w' => e = .returned (.int .i64 r1) ∧ w' = w.drewN q)
    (h2 : ∀ q, Calls Tryd.prog 68 #[v2, .string key] (w.drewN q) fun e w' => e = .returned (.int .i64 r2) ∧ w' = w.drewN q) (q : Nat) (v : Value) (r : Int) (h : (v = v1 ∧ r = r1) ∨ (v = v2 ∧ r = r2)) :
    Calls Tryd.prog 68 #[v, .string key] (w.drewN q) fun e w' => e = .returned (.int .i64 r) ∧ w' = w.drewN q := by
  rcases h with ⟨rfl, rfl⟩ | ⟨rfl, rfl⟩
  · exact h1 q
  · exact h2 q
set_option maxRecDepth 20000 in
set_option maxHeartbeats 4000000 in
theorem rremove_any (H : RE x s D w) (hok : A.Ok s) (hD : ∀ k, w.heap.size ≤ k → D k) (key : ByteArray) :
    Calls Tryd.prog 49 #[.pointer (some ⟨x, 0, none⟩), .string key] w fun e w' => e = .returned (.bool (A.remove s key).1) ∧ RE x (A.remove s key).2 D w' ∧ Keeps D w w' := by
  have hs := Small.of hok
  have l1 := hs.l1
  have l2 := hs.l2
  have HRE : Hid (RE x s D w) := H
  have h1 := hok.one key
  obtain ⟨L, a1, c1, a2, c2, a3, c3, H⟩ := H
  have HH : Hid (ReIn D L w x s a1 c1 a2 c2 a3 c3) := H
  have HD : Hid (∀ k, w.heap.size ≤ k → D k) := hD
  obtain ⟨d0, d1, d2, d3⟩ := H.cells
  have e1 := fun q => rat_any (H.r1.below (below_drewN (Below.refl _ w) q)) (by omega) key
  have e2 := fun q => rat_any (H.r2.below (below_drewN (Below.refl _ w) q)) (by omega) key
  obtain ⟨n1, hn1⟩ : ∃ n, n = s.t1.length := ⟨_, rfl⟩
  obtain ⟨n2, hn2⟩ : ∃ n, n = s.t2.length := ⟨_, rfl⟩
  rw [← hn1] at d0 e1
  rw [← hn2] at d1 e2
  by_cases k1 : key ∈ A.ks s.t1
  · have k2 : key ∉ A.ks s.t2 := A.cnt_zero.1 (by have := A.cnt_pos.2 k1; omega)
    obtain ⟨i, hi, hat, -⟩ := idx_at k1
    rw [hi] at e1
    rw [idx_no k2] at e2
    have hil : i < s.t1.length := by have := lt_of_at hat; rwa [A.ks_len] at this
    have hwo := fun q => rwithout_any (H.r1.below (below_drewN (Below.refl _ w) q)) (by omega) hil
    rw [wout_less (by omega) hat, ← hn1] at hwo
    have HR : Hid (A.remove s key = (true, { s with t1 := A.less s.t1 key })) := by
      show A.remove s key = _
      unfold A.remove A.gone
      rw [if_pos (by simp [A.keys, k1]), less_same k2]
    clear H hs hD hok h1 k1 k2 hat hi HRE hn1 hn2
    have e12 := at_both e1 e2
    clear e1 e2
    go_enter Tryd.func49, Tryd.ntmps49
    go_wp2_with fail
    go_quiet (first | (go_at_call 68; refine Calls.quiet_of_same (e12 _ _ _ (by first | exact .inl ⟨rfl, rfl⟩ | exact .inr ⟨rfl, rfl⟩))))
    go_wp2_with (go_at_call 71; refine Calls.mono (hwo _) ?_; clear hwo; rintro e w5 ⟨ad5, cp5, rfl, hr5, hb5⟩; have hbw : Below w.heap.size w w5 := ((below_drewN (Below.refl _ w) _).trans hb5); obtain ⟨v0, v1, v2, v3⟩ := (HH.out.below hbw).cells; obtain ⟨t0, t1, t2, t3⟩ := (HH.out.below hbw).thaw; have H6 : Hid (ReIn D (lab L w.heap.size 1) (w5.setCell ⟨x, 0, none⟩ (.slice ad5 (A.less s.t1 key).length cp5)) x { s with t1 := A.less s.t1 key } ad5 cp5 a2 c2 a3 c3) := (HH.out.put1 HD.out (Keeps.of_below hbw) (hr5.wide (fun _ _ h => .inr h))); have HK6 : Hid (Keeps D w (w5.setCell ⟨x, 0, none⟩ (.slice ad5 (A.less s.t1 key).length cp5))) := ((Keeps.of_below hbw).setCell (p := ⟨x, 0, none⟩) HH.out.dx _); clear hr5)
    go_ret
    rw [HR.out]
    exact ⟨by simp, ⟨_, _, _, _, _, _, _, H6.out⟩, HK6.out⟩
  · by_cases k2 : key ∈ A.ks s.t2
    · obtain ⟨i, hi, hat, -⟩ := idx_at k2
      rw [hi] at e2
      rw [idx_no k1] at e1
      have hil : i < s.t2.length := by have := lt_of_at hat; rwa [A.ks_len] at this
      have hwo := fun q => rwithout_any (H.r2.below (below_drewN (Below.refl _ w) q)) (by omega) hil
      rw [wout_less (by omega) hat, ← hn2] at hwo
      have HR : Hid (A.remove s key = (true, { s with t2 := A.less s.t2 key })) := by
        show A.remove s key = _
        unfold A.remove A.gone
        rw [if_pos (by simp [A.keys, k2]), less_same k1]
      clear H hs hD hok h1 k1 k2 hat hi HRE hn1 hn2
      have e12 := at_both e1 e2
      clear e1 e2
      go_enter Tryd.func49, Tryd.ntmps49
      go_wp2_with fail
      go_quiet (first | (go_at_call 68; refine Calls.quiet_of_same (e12 _ _ _ (by first | exact .inl ⟨rfl, rfl⟩ | exact .inr ⟨rfl, rfl⟩))))
      go_wp2_with (go_at_call 71; refine Calls.mono (hwo _) ?_; clear hwo; rintro e w5 ⟨ad5, cp5, rfl, hr5, hb5⟩; have hbw : Below w.heap.size w w5 := ((below_drewN (Below.refl _ w) _).trans hb5); obtain ⟨v0, v1, v2, v3⟩ := (HH.out.below hbw).cells; obtain ⟨t0, t1, t2, t3⟩ := (HH.out.below hbw).thaw; have H6 : Hid (ReIn D (lab L w.heap.size 2) (w5.setCell ⟨x, 1, none⟩ (.slice ad5 (A.less s.t2 key).length cp5)) x { s with t2 := A.less s.t2 key } a1 c1 ad5 cp5 a3 c3) := (HH.out.put2 HD.out (Keeps.of_below hbw) (hr5.wide (fun _ _ h => .inr h))); have HK6 : Hid (Keeps D w (w5.setCell ⟨x, 1, none⟩ (.slice ad5 (A.less s.t2 key).length cp5))) := ((Keeps.of_below hbw).setCell (p := ⟨x, 1, none⟩) HH.out.dx _); clear hr5)
      go_ret
      rw [HR.out]
      exact ⟨by simp, ⟨_, _, _, _, _, _, _, H6.out⟩, HK6.out⟩
    · rw [idx_no k1] at e1
      rw [idx_no k2] at e2
      have HR : Hid (A.remove s key = (false, s)) := by
        show A.remove s key = _
        unfold A.remove
        rw [if_neg (by simp [A.keys, k1, k2])]
      clear H hs hD hok h1 k1 k2 HH hn1 hn2
      have e12 := at_both e1 e2
      clear e1 e2
      go_enter Tryd.func49, Tryd.ntmps49
      go_wp2_with fail
      go_quiet (first | (go_at_call 68; refine Calls.quiet_of_same (e12 _ _ _ (by first | exact .inl ⟨rfl, rfl⟩ | exact .inr ⟨rfl, rfl⟩))))
      go_wp2_with fail
      go_ret
      rw [HR.out]
      exact ⟨by simp, HRE.out.below (below_drewN (Below.refl _ w) _), Keeps.of_below (below_drewN (Below.refl _ w) _)⟩
theorem eng_start (c : Nat) (v : Int) (h : v = c) : some (Obj.cells #[.slice none 0 0, .slice none 0 0, .slice none 0 0, .int .i64 v] 80 (0, 0)) = some (Obj.cells (eng (A.start c) none 0 none 0 none 0) 80 (0, 0)) := by
  subst h
  rfl
theorem rnew_any (r : Int) (hD : ∀ k, w.heap.size ≤ k → D k) :
    Calls Tryd.prog 25 #[.int .i64 r] w fun e w' => ∃ x, e = .returned (.pointer (some ⟨x, 0, none⟩)) ∧ RE x (A.start (heldC r)) D w' ∧ Keeps D w w' := by
  have hc : ((heldC r : Nat) : Int) = min (max r 1) 1024 := by unfold heldC; omega
  go_enter Tryd.func25, Tryd.ntmps25
  go_wp2_with fail
  all_goals
    go_ret
    refine ⟨_, rfl, ⟨fun g => if g = w.heap.size then 0 else 1, none, 0, none, 0, none, 0, hD _ (Nat.le_refl _), by simp, ?_, C.Row.nil, C.Row.nil, Row.nil⟩, (Keeps.refl D w).alloc _⟩
    rw [heap_alloc_new]
    exact eng_start _ _ (by first | exact hc.symm | omega)
end
end Go.Proofs.YtnbfokmodjgaaabDoor
