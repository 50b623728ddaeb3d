/- Of an engine: move, howOften; the machine of chapter 14 in memory. -/
import Derived.Test.YtcphhlfbjkeikabGreatEe
namespace Go.Proofs.YtcphhlfbjkeikabGreat
open Go.RowKit

section
variable {R : Nat → Li} {m : ByteArray → Option Ix.Sp} {Q : Nat → List ByteArray} {b : Nat}
/-- a key becomes the newest of its own list -/
theorem Rel.touch (H : Rel R m Q b) {k : ByteArray} {i h : Nat} (hm : m k = .some (i, h)) {l r : List Nat} (hr : (R i).row = l ++ h :: r) :
    Rel (fun j => if j = i then { R i with row := l ++ r ++ [h] } else R j) m (fun j => if j = i then A.cut (Q j) k ++ [k] else Q j) b := by
  obtain ⟨hi, hin, hv⟩ := (H.spot k i h).1 hm
  have hnd := H.nodup i hi
  rw [hr] at hnd
  have hnd2 := (List.perm_middle.nodup_iff.1 hnd)
  rw [List.nodup_cons] at hnd2
  have hkey : ∀ a ∈ l ++ r, (R i).va a ≠ k := fun a ha e => by
    have ha' : a ∈ (R i).row := by rw [hr]; simp at ha ⊢; rcases ha with h | h <;> simp [h]
    have := (H.spot k i a).2 ⟨hi, ha', e⟩
    rw [hm] at this
    cases this
    exact hnd2.1 ha
  have hmem : ∀ a, a ∈ l ++ r ++ [h] ↔ a ∈ (R i).row := fun a => by rw [hr]; simp; constructor <;> (rintro (h | h | h) <;> simp [h])
  constructor
  · intro j hj
    by_cases e : j = i
    · subst e
      simp only [if_true]
      rw [← H.keys j hj, hr]
      unfold A.cut
      simp only [List.map_append, List.map_cons, List.map_nil, hv]
      rw [List.filter_append, List.filter_cons, if_neg (by simp), List.filter_eq_self.2, List.filter_eq_self.2]
      · intro y hy
        obtain ⟨a, ha, rfl⟩ := List.mem_map.1 hy
        simpa using hkey a (by simp [ha])
      · intro y hy
        obtain ⟨a, ha, rfl⟩ := List.mem_map.1 hy
        simpa using hkey a (by simp [ha])
    · simp only [if_neg e]
      exact H.keys j hj
  · intro k' j a
    rw [H.spot]
    by_cases e : j = i
    · subst e
      simp only [if_true]
      rw [hmem]
    · simp only [if_neg e]
  · intro j hj
    by_cases e : j = i
    · subst e
      simp only [if_true]
      exact H.few j hj
    · simp only [if_neg e]
      exact H.few j hj
  · intro j hj k' hk'
    by_cases e : j = i
    · subst e
      simp only [if_true, List.mem_append, List.mem_singleton] at hk'
      rcases hk' with h1 | h1
      · exact H.size j hj k' (List.mem_filter.1 h1).1
      · subst h1
        exact H.size j hj k' (H.some hm).2.1
    · simp only [if_neg e] at hk'
      exact H.size j hj k' hk'
  · intro j hj
    by_cases e : j = i
    · subst e
      simp only [if_true]
      rw [List.perm_append_comm.nodup_iff]
      exact List.nodup_cons.2 hnd2
    · simp only [if_neg e]
      exact H.nodup j hj
end
section
variable {D : Nat → Prop} {w : World} {e c : Nat} {Q : Nat → List ByteArray} {m : ByteArray → Option Ix.Sp} {b : Nat} {z : Dk}
theorem touch_end {L : Nat → Nat} {R : Nat → Li} {x : Nat} {w2 : World} {i : Nat} {row : List Nat} (hi : i < 3) (hD : ∀ k, w.heap.size ≤ k → D k) (H : EnIn D L w e c R x m b z)
    (hl : Ls.LA Value.string 113 93 (own D L w.heap.size i) w2 (R i).pr row (R i).free (R i).va (R i).n) (hk : Keeps (own D L w.heap.size i) w w2) :
    EnIn D (nlab L w.heap.size i) w2 e c (fun j => if j = i then { R i with row := row } else R j) x m b z ∧ Keeps D w w2 :=
  ⟨H.putL (l := { R i with row := row }) hD hi hk hl rfl, own_keeps hD hk⟩
set_option maxHeartbeats 1000000 in
theorem move_same (H : EM D w e c Q m b z) (hD : ∀ k, w.heap.size ≤ k → D k) (hb : b ≤ 900000) {k : ByteArray} {i h : Nat} (hm : m k = some (i, h)) :
    Calls Tryz.prog 70 #[.pointer (some ⟨e, 0, none⟩), Ix.V (i, h), .int .i64 (i : Nat)] w fun ee w' => ee = .returned (.tuple #[]) ∧ EM D w' e c (laid Q k i) m b z ∧ Keeps D w w' := by
  obtain ⟨L, R, x, H, r1⟩ := H
  obtain ⟨hi, hin, hv⟩ := (r1.spot k i h).1 hm
  obtain ⟨l, r, hr⟩ := split_mem hin
  have hot := (r1.some hm).2.2
  have HT : Hid (Rel (fun j => if j = i then { R i with row := l ++ r ++ [h] } else R j) m (laid Q k i) b) := by
    have h1 := r1.touch hm hr
    refine ⟨fun j hj => (h1.keys j hj).trans ?_, h1.spot, h1.few, fun j hj k' hk' => h1.size j hj k' ?_, h1.nodup⟩
    · unfold laid
      by_cases e2 : j = i
      · rw [if_pos e2, if_pos e2]
      · rw [if_neg e2, if_neg e2, A.cut_same (hot j hj e2)]
    · unfold laid at hk'
      by_cases e2 : j = i
      · rw [if_pos e2] at hk' ⊢; exact hk'
      · rw [if_neg e2] at hk' ⊢; rw [A.cut_same (hot j hj e2)] at hk'; exact hk'
  have HL : Hid ((R i).row = l ++ h :: r) := hr
  have HD : Hid (∀ k, w.heap.size ≤ k → D k) := hD
  have hn : (R i).n ≤ 1000000 := by have := r1.few i hi; omega
  obtain ⟨W, hW⟩ : ∃ W, W = w.alloc (.cells #[.int .i64 (i : Nat), .int .i64 (h : Nat)] 44) := ⟨_, rfl⟩
  have hbW : Below w.heap.size w W := by rw [hW]; exact (Below.refl _ w).alloc (Nat.le_refl _) _
  have HB : Hid (Below w.heap.size w W) := hbW
  have H1 : Hid (EnIn D L W e c R x m b z) := H.below hbW
  have hbox : W.heap[w.heap.size]? = some (.cells #[.int .i64 (i : Nat), .int .i64 (h : Nat)] 44 (0, 0)) := by rw [hW]; exact heap_alloc_new w _
  have y0 := cell_of_block (j := 0) hbox
  have y1 := cell_of_block (j := 1) hbox
  have yl := lt_of_block hbox
  simp at y0 y1
  have hrow := H1.out.row hi
  have heo := lt_of_block H1.out.top
  have HHi : Hid (Ls.LA Value.string 113 93 (own D L W.drew.heap.size i) W.drew (R i).pr (l ++ h :: r) (R i).free (R i).va (R i).n) := by
    have := H1.out.drew.list hi
    rw [LiAt, HL.out] at this
    exact this
  have HD1 : Hid (∀ k, W.heap.size ≤ k → D k) := fun k hk => HD.out k (Nat.le_trans hbW.size hk)
  clear H hm r1 hin hr hD hbW hbox hot
  go_enter Tryz.func70, Tryz.ntmps70
  go_wp2_with fail
  rw [← hW]
  clear hW
  go_region_with (go_at_call 96; refine (Ls.toBack_in (w := W.drew) h HHi.out hn).mono ?_; rintro ee w2 ⟨rfl, hl2, hk2⟩; have h3 := touch_end hi (w := W.drew) HD1.out H1.out.drew hl2 hk2; have H3 : Hid (EnIn D _ w2 e c (fun j => if j = i then { R i with row := l ++ r ++ [h] } else R j) x m b z) := h3.1; have HK3 : Hid (Keeps D w w2) := (Keeps.of_below HB.out).trans (Keeps.undrew h3.2); clear hl2 hk2 h3)
  all_goals
    go_wp2_with fail
    exact bodyPost_ret (results_none rfl _ _ _) rfl ⟨rfl, ⟨_, _, x, H3.out, HT.out⟩, HK3.out⟩
/-- a key becomes the last one of a row, wherever it stood; all others stay where they were -/
theorem move_any (H : EM D w e c Q m b z) (hD : ∀ k, w.heap.size ≤ k → D k) (hb : b ≤ 900000) {k : ByteArray} {i h : Nat} (hm : m k = some (i, h)) {i' : Nat} (hi' : i' < 3) (hf : (Q 0).length + (Q 1).length + (Q 2).length + 1 ≤ b) :
    Calls Tryz.prog 70 #[.pointer (some ⟨e, 0, none⟩), Ix.V (i, h), .int .i64 (i' : Nat)] w fun ee w' => ee = .returned (.tuple #[]) ∧ (∃ h', EM D w' e c (laid Q k i') (Ix.put m k (some (i', h'))) b z) ∧ Keeps D w w' := by
  by_cases hne : i' = i
  · subst hne
    refine (move_same H hD hb hm).mono ?_
    rintro ee w' ⟨rfl, h', hk⟩
    have e : Ix.put m k (some (i', h)) = m := by
      funext j
      by_cases e : j = k
      · subst e; rw [Ix.put_same, hm]
      · rw [Ix.put_far e]
    exact ⟨rfl, ⟨h, by rw [e]; exact h'⟩, hk⟩
  · exact move_far H hD hb hm hi' hne hf
set_option maxHeartbeats 1000000 in
theorem often_any (H : EM D w e c Q m b z) (hb : b ≤ 900000) {k : ByteArray} {i h : Nat} (hm : m k = some (i, h)) :
    Calls Tryz.prog 75 #[.pointer (some ⟨e, 0, none⟩), Ix.V (i, h)] w fun ee w' => ee = .returned (.int .i64 (fq z k : Nat)) ∧ Below w.heap.size w w' := by
  have hi : i < 3 := (H.spot hm).1
  have hks : k.size ≤ 1000 := H.size hi (H.spot hm).2.1
  have hlow := H.lowK k
  have HE : Hid (EM D w e c Q m b z) := H
  obtain ⟨W, hW⟩ : ∃ W, W = w.alloc (.cells #[.int .i64 (i : Nat), .int .i64 (h : Nat)] 44) := ⟨_, rfl⟩
  have hbW : Below w.heap.size w W := by rw [hW]; exact (Below.refl _ w).alloc (Nat.le_refl _) _
  have HB : Hid (Below w.heap.size w W) := hbW
  have hbox : W.heap[w.heap.size]? = some (.cells #[.int .i64 (i : Nat), .int .i64 (h : Nat)] 44 (0, 0)) := by rw [hW]; exact heap_alloc_new w _
  have y0 := cell_of_block (j := 0) hbox
  have y1 := cell_of_block (j := 1) hbox
  have yl := lt_of_block hbox
  simp at y0 y1
  have H1 : Hid (EM D W e c Q m b z) := H.below hbW
  obtain ⟨-, -, -, heo, -, c5, c6⟩ := H1.out.cells
  obtain ⟨p, hrow, -⟩ := H1.out.at hb hm
  have HG : Hid (∀ q : Nat, Calls Tryz.prog 99 #[.pointer (some ⟨p, 0, none⟩), .int .i64 (h : Nat)] (W.drewN q) fun ee w' => ee = .returned (.tuple #[.string k, .bool true]) ∧ w' = W.drewN q) := fun q => by
    obtain ⟨p', h1, h2⟩ := (H1.out.drewN q).at hb hm
    have e : (W.drewN q).cell? ⟨e, 1 + i, none⟩ = W.cell? ⟨e, 1 + i, none⟩ := rfl
    rw [e, hrow] at h1
    cases h1
    exact h2
  obtain ⟨t, ht⟩ : ∃ t, t = fq z k := ⟨_, rfl⟩
  have HT : Hid (t = Sk.lw z.ct z.N k + if Dr.has z.bs (64 * z.K) k = true then 1 else 0) := ht
  rw [← ht]
  clear H hm hbW hbox ht
  go_enter Tryz.func75, Tryz.ntmps75
  go_wp2_with fail
  rw [← hW]
  clear hW
  go_quiet (first | (go_at_call 99; exact Calls.quiet_of_same (HG.out _)))
  have H2 : Hid (EM D (W.drewN nq) e c Q m b z) := H1.out.drewN nq
  have HB2 : Hid (Below w.heap.size w (W.drewN nq)) := below_drewN HB.out nq
  have hcnt := H2.out.countK k hks
  clear y0 y1 yl hrow HG H1 HB
  obtain ⟨n, hnn⟩ : ∃ n, n = Sk.lw z.ct z.N k := ⟨_, rfl⟩
  have HNn : Hid (n = Sk.lw z.ct z.N k) := hnn
  rw [← hnn] at hlow hcnt
  clear hnn
  cases hh : Dr.has z.bs (64 * z.K) k with
  | true =>
    have HH : Hid (Dr.has z.bs (64 * z.K) k = true) := hh
    clear hh
    go_wp2_with (first
      | (go_at_call 100; refine Calls.mono hcnt ?_; clear hcnt; rintro ee w3 ⟨rfl, hb3⟩; have H3 : Hid (EM D w3 e c Q m b z) := H2.out.below hb3; have HB3 : Hid (Below w.heap.size w w3) := below_trans HB2.out hb3; obtain ⟨-, -, -, heo3, -, d5, d6⟩ := H3.out.cells; have hhas := H3.out.hasD k hks; rw [HH.out] at hhas; clear hb3 c5 c6 heo)
      | (go_at_call 101; refine Calls.mono hhas ?_; clear hhas; rintro ee w4 ⟨rfl, hb4⟩; have HB4 : Hid (Below w.heap.size w w4) := below_trans HB3.out hb4; clear hb4))
    go_ret
    have e : t = n + 1 := by have := HT.out; rw [HH.out, ← HNn.out] at this; simpa using this
    rw [e]
    exact ⟨by go_num, HB4.out⟩
  | false =>
    have HH : Hid (Dr.has z.bs (64 * z.K) k = false) := hh
    clear hh
    go_wp2_with (first
      | (go_at_call 100; refine Calls.mono hcnt ?_; clear hcnt; rintro ee w3 ⟨rfl, hb3⟩; have H3 : Hid (EM D w3 e c Q m b z) := H2.out.below hb3; have HB3 : Hid (Below w.heap.size w w3) := below_trans HB2.out hb3; obtain ⟨-, -, -, heo3, -, d5, d6⟩ := H3.out.cells; have hhas := H3.out.hasD k hks; rw [HH.out] at hhas; clear hb3 c5 c6 heo)
      | (go_at_call 101; refine Calls.mono hhas ?_; clear hhas; rintro ee w4 ⟨rfl, hb4⟩; have HB4 : Hid (Below w.heap.size w w4) := below_trans HB3.out hb4; clear hb4))
    go_ret
    have e : t = n := by have := HT.out; rw [HH.out, ← HNn.out] at this; simpa using this
    rw [e]
    exact ⟨rfl, HB4.out⟩
end
end Go.Proofs.YtcphhlfbjkeikabGreat
