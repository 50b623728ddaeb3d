/- Of an engine: turn (the oldest of M becomes its newest, for one of its uses). -/
import Derived.Test.YtnbfokmodjgaaabDoorEe
import Derived.Test.YtnbfokmodjgaaabDoorLc
import Derived.StillTailTactics
namespace Go.Proofs.YtnbfokmodjgaaabDoor
open Go.RowKit

section
variable {D : Nat → Prop} {w : World} {e c : Nat} {Q : Nat → List Ls.It} {b : Nat}
set_option maxRecDepth 20000 in
set_option maxHeartbeats 2000000 in
theorem turn_any (H : EN D w e c Q b) (hD : ∀ k, w.heap.size ≤ k → D k) (hb : b ≤ 900000) {x : Ls.It} {r : List Ls.It} (hq : Q 1 = x :: r) (hx : 0 < x.n) :
    Calls Tryd.prog 85 #[.pointer (some ⟨e, 0, none⟩)] w fun ee w' => ee = .returned (.tuple #[]) ∧ EN D w' e c (fun j => if j = 1 then r ++ [⟨x.key, x.n - 1⟩] else Q j) b ∧ Keeps D w w' := by
  obtain ⟨L, R, xx, m, H, r1⟩ := H
  have hk1 := r1.keys 1 (by omega)
  rw [hq] at hk1
  obtain ⟨h0, rt, hrow⟩ : ∃ h0 rt, (R 1).row = h0 :: rt := by
    cases hrow : (R 1).row with
    | nil => rw [hrow] at hk1; cases hk1
    | cons a t => exact ⟨a, t, rfl⟩
  rw [hrow, List.map_cons] at hk1
  injection hk1 with hv hr
  have hn3 : x.n ≤ 3 := (r1.size 1 (by omega) x (by rw [hq]; simp)).2
  have hn := r1.few 1 (by omega)
  have hmem : h0 ∈ (R 1).row := by rw [hrow]; simp
  have hnd : h0 ∉ rt := by
    have := r1.nodup 1 (by omega)
    rw [hrow, List.nodup_cons] at this
    exact this.1
  have hfr : Calls Tryd.prog 91 #[.pointer (some ⟨(R 1).pr, 0, none⟩)] w fun ee w' => ee = .returned (.int .i64 (h0 : Nat)) ∧ w' = w := by
    have := Ls.front_any (H.list (i := 1) (by omega))
    rw [show Ls.hdOf (R 1).row = h0 by rw [hrow]; rfl] at this
    exact this
  have hget : Calls Tryd.prog 54 #[.pointer (some ⟨(R 1).pr, 0, none⟩), .int .i64 (h0 : Nat)] w fun ee w' => ee = .returned (.tuple #[.agg #[.string x.key, .int .i64 (x.n : Nat)], .bool true]) ∧ Below w.heap.size w w' := by
    have := Ls.get_in (H.list (i := 1) (by omega)) h0 hmem (by omega)
    rw [hv] at this
    exact this
  have HSet : Hid (∀ W : World, Below w.heap.size w W → Calls Tryd.prog 56 #[.pointer (some ⟨(R 1).pr, 0, none⟩), .int .i64 (h0 : Nat), .agg #[.string x.key, .int .i64 ((x.n - 1 : Nat) : Int)]] W fun ee w' => ee = .returned (.bool true) ∧ (∃ L', EnIn D L' w' e c (fun j => if j = 1 then { R 1 with va := Ls.upd (R 1).va h0 ⟨x.key, x.n - 1⟩ } else R j) xx m b) ∧ Keeps D W w') := fun W hW => by
    have hDW : ∀ k, W.heap.size ≤ k → D k := fun k h => hD k (Nat.le_trans hW.size h)
    refine (Ls.set_in ((H.below hW).list (i := 1) (by omega)) h0 hmem ⟨x.key, x.n - 1⟩ (by omega)).mono ?_
    rintro ee w' ⟨h1, h2, h3⟩
    exact ⟨h1, ⟨_, (H.below hW).putL hDW (i := 1) (by omega) h3 h2 rfl⟩, own_keeps hDW h3⟩
  have HBack : Hid (∀ (W : World) (L' : Nat → Nat), EnIn D L' W e c (fun j => if j = 1 then { R 1 with va := Ls.upd (R 1).va h0 ⟨x.key, x.n - 1⟩ } else R j) xx m b → w.heap.size ≤ W.heap.size → Calls Tryd.prog 92 #[.pointer (some ⟨(R 1).pr, 0, none⟩), .int .i64 (h0 : Nat)] W fun ee w' => ee = .returned (.bool true) ∧ EN D w' e c (fun j => if j = 1 then r ++ [⟨x.key, x.n - 1⟩] else Q j) b ∧ Keeps D W w') := fun W L' hE hs => by
    have hDW : ∀ k, W.heap.size ≤ k → D k := fun k h => hD k (Nat.le_trans hs h)
    have hl := hE.list (i := 1) (by omega)
    rw [if_pos rfl, LiAt] at hl
    simp only [hrow] at hl
    refine (Ls.toBack_in (l := []) (r := rt) h0 hl (by omega)).mono ?_
    rintro ee w' ⟨h1, h2, h3⟩
    refine ⟨h1, ⟨_, _, _, _, hE.putL hDW (i := 1) (l := { R 1 with row := rt ++ [h0], va := Ls.upd (R 1).va h0 ⟨x.key, x.n - 1⟩ }) (by omega) h3 h2 rfl, ?_⟩, own_keeps hDW h3⟩
    have hp : (rt ++ [h0]).Perm (R 1).row := by
      rw [hrow]
      exact List.perm_append_comm
    have h5 := r1.set (i := 1) (h := h0) (by omega) hmem (x.n - 1) (by omega) hp
    rw [hv] at h5
    have e1 : (fun j => if j = 1 then ({ R 1 with row := rt ++ [h0], va := Ls.upd (R 1).va h0 ⟨x.key, x.n - 1⟩ } : Li) else if j = 1 then { R 1 with va := Ls.upd (R 1).va h0 ⟨x.key, x.n - 1⟩ } else R j) = fun j => if j = 1 then { R 1 with row := rt ++ [h0], va := Ls.upd (R 1).va h0 ⟨x.key, x.n - 1⟩ } else R j := by
      funext j
      by_cases e : j = 1 <;> simp [e]
    have e2 : (rt ++ [h0]).map (Ls.upd (R 1).va h0 ⟨x.key, x.n - 1⟩) = r ++ [⟨x.key, x.n - 1⟩] := by
      rw [List.map_append, List.map_cons, List.map_nil, Ls.upd_same, ← hr]
      congr 1
      exact List.map_congr_left (fun a ha => Ls.upd_far _ _ (by rintro rfl; exact hnd ha))
    rw [e2] at h5
    rw [e1]
    exact h5
  have HC : Hid (∀ W : World, Below w.heap.size w W → W.cell? ⟨e, 2, none⟩ = some (.pointer (some ⟨(R 1).pr, 0, none⟩)) ∧ e < W.heap.size) := fun W hW => ⟨(H.below hW).row (i := 1) (by omega), Nat.lt_of_lt_of_le (lt_of_block H.top) hW.size⟩
  have HC2 : Hid (∀ (W : World) (L' : Nat → Nat), EnIn D L' W e c (fun j => if j = 1 then { R 1 with va := Ls.upd (R 1).va h0 ⟨x.key, x.n - 1⟩ } else R j) xx m b → W.cell? ⟨e, 2, none⟩ = some (.pointer (some ⟨(R 1).pr, 0, none⟩)) ∧ e < W.heap.size) := fun W L' hE => ⟨by have := hE.row (i := 1) (by omega); rw [if_pos rfl] at this; exact this, lt_of_block hE.top⟩
  obtain ⟨d0, heo⟩ := HC.out w (Below.refl _ _)
  have hw1 : IntKind.i64.wrap ((x.n : Int) - 1) = ((x.n - 1 : Nat) : Int) := by rw [IntKind.wrap_i64]; omega
  clear H r1 hrow hv hr hmem hnd hq
  obtain ⟨q, hq⟩ : ∃ q, q = (R 1).pr := ⟨_, rfl⟩
  rw [← hq] at hfr hget HSet HBack HC HC2 d0
  clear hq
  obtain ⟨n1, hn1⟩ : ∃ n1, n1 = x.n - 1 := ⟨_, rfl⟩
  rw [← hn1] at hw1 HSet HBack HC2
  rw [← hn1]
  clear hn1
  go_enter Tryd.func85, Tryd.ntmps85
  go_wp2_with (first
    | (go_at_call 91; refine Calls.mono hfr ?_; clear hfr; rintro ee w1 ⟨rfl, rfl⟩)
    | (go_at_call 54; refine Calls.mono hget ?_; clear hget; rintro ee w2 ⟨rfl, hb2⟩; have HB2 : Hid (Below _ _ w2) := hb2; clear hb2))
  obtain ⟨W3, hW3⟩ : ∃ W, W = w2.alloc (.cells #[.string x.key, .int .i64 (n1 : Nat)] 71) := ⟨_, rfl⟩
  have HB3 : Hid (Below w1.heap.size w1 W3.drew) := by
    rw [hW3]
    exact (HB2.out.alloc HB2.out.size _).drew
  obtain ⟨d3, heo3⟩ := HC.out W3.drew HB3.out
  have hblk : W3.drew.heap[w2.heap.size]? = some (Obj.cells #[.string x.key, .int .i64 (n1 : Nat)] 71 (0, 0)) := by
    rw [hW3]
    exact heap_alloc_new w2 _
  have y0 := cell_of_block (j := 0) hblk
  have y1 := cell_of_block (j := 1) hblk
  have hlt := lt_of_block hblk
  simp at y0 y1
  rw [← hW3]
  clear hW3 hblk d0 heo
  refine wp_region_still_tail 7 (by kernel_rfl) (by kernel_rfl) ?_
  simp only [List.take_succ_cons, List.take_zero, List.drop_succ_cons, List.drop_zero]
  change wpStill Tryd.prog _ W3.drew (fun a' => wpList Tryd.prog _ _ _ a' W3.drew) _ _
  repeat still_step
  refine wpStill_nil ?_
  go_wp2_with (first
    | (go_at_call 56; refine Calls.mono (HSet.out _ HB3.out) ?_; rintro ee w4 ⟨rfl, ⟨L4, h4⟩, hk4⟩; obtain ⟨d4, heo4⟩ := HC2.out w4 L4 h4; have HK4 : Hid (Keeps D w1 w4) := ((Keeps.of_below HB3.out).trans hk4); have hbk := HBack.out w4 L4 h4 HK4.out.size; clear h4 hk4)
    | (go_at_call 92; refine Calls.mono hbk ?_; clear hbk; rintro ee w5 ⟨rfl, h5, hk5⟩))
  go_end0
  exact ⟨rfl, h5, HK4.out.trans hk5⟩
end
end Go.Proofs.YtnbfokmodjgaaabDoor
