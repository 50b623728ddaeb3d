/- An engine as the machine of chapter 14: settle. -/
import Derived.Test.YtcphhlfbjkeikabGreatEg
import Derived.Test.YtcphhlfbjkeikabGreatRg
namespace Go.Proofs.YtcphhlfbjkeikabGreat
open Go.RowKit

/-- an engine in memory, as a machine, wherever its keys stand -/
def MB (e : Nat) (z : Dk) (s : Stt) (D : Nat → Prop) (w : World) : Prop := ∃ m, MA e z s m D w
section
variable {D D' : Nat → Prop} {w w' : World} {e : Nat} {s : Stt} {m : ByteArray → Option Ix.Sp} {z : Dk}
theorem MB.below (H : MB e z s D w) (hb : Below w.heap.size w w') : MB e z s D w' := by obtain ⟨m, h⟩ := H; exact ⟨m, h.below hb⟩
theorem MB.wide (H : MB e z s D w) (hD : ∀ k, k < w.heap.size → D k → D' k) : MB e z s D' w := by obtain ⟨m, h⟩ := H; exact ⟨m, h.wide hD⟩
theorem MB.narrow (H : MB e z s D w) : MB e z s (fun k => D k ∧ k < w.heap.size) w := H.wide (fun _ a h => ⟨h, a⟩)
theorem MB.bare (H : MB e z s D w) : Beside (MB e z s) none 0 [] D w := ⟨_, fun _ h => h, H.narrow, Row.nil⟩
theorem MB.lit {w2 : World} (g : ByteArray) (h2 : MB e z s D w2) (hk : Keeps D w w2) (hD : ∀ k, w.heap.size ≤ k → D k) :
    Beside (MB e z s) (some ⟨w2.heap.size, 0, none⟩) 1 [g] D (w2.alloc (.cells #[.string g] 9)) ∧ Keeps D w (w2.alloc (.cells #[.string g] 9)) :=
  ⟨⟨fun k => D k ∧ k < w2.heap.size, fun k h => ⟨h.1, by rw [World.size_alloc]; omega⟩, h2.narrow.below ((Below.refl _ w2).alloc (Nat.le_refl _) _), row_lit g ⟨hD _ hk.size, fun h => Nat.lt_irrefl _ h.2⟩⟩, hk.alloc _⟩
/-! ### what becomes of the rows -/
section
variable {x v : ByteArray} {r : List ByteArray}
theorem cut_first (ho : Single s) (ht : s.t1 = x :: r) : A.cut s.t1 x = r ∧ x ∉ s.b1 ∧ x ∉ s.t2 := by
  have h := (ho.out (k := x)).1 (by rw [ht]; simp)
  have hc : A.cut (x :: r) x = r := A.cut_head (fun j => by have := ho j; rw [ht] at this; omega)
  exact ⟨by rw [ht]; exact hc, h.2, h.1⟩
theorem rows_room (ho : Single s) (ht : s.t1 = x :: r) : ∀ j, j < 3 → qs { s with t1 := r, b1 := s.b1 ++ [x] } j = laid (qs s) x 1 j := by
  obtain ⟨h1, h2, h3⟩ := cut_first ho ht
  refine three ?_ ?_ ?_
  · simp [qs, laid, h1]
  · simp [qs, laid, A.cut_same h2]
  · simp [qs, laid, A.cut_same h3]
theorem rows_drop (ho : Single s) (ht : s.t1 = x :: r) : ∀ j, j < 3 → qs { s with t1 := r } j = A.cut (qs s j) x := by
  obtain ⟨h1, h2, h3⟩ := cut_first ho ht
  refine three ?_ ?_ ?_
  · simp [qs, h1]
  · simp [qs, A.cut_same h2]
  · simp [qs, A.cut_same h3]
theorem rows_swap (ho : Single s) (ht : s.t1 = x :: r) (hv : v ∉ s.t1) : ∀ j, j < 3 → qs { s with t1 := r, b1 := A.cut s.b1 v ++ [x], t2 := A.cut s.t2 v } j = laid (fun j => A.cut (qs s j) v) x 1 j := by
  obtain ⟨h1, h2, h3⟩ := cut_first ho ht
  have h4 : x ∉ A.cut s.b1 v := fun h => h2 (List.mem_filter.1 h).1
  have h5 : x ∉ A.cut s.t2 v := fun h => h3 (List.mem_filter.1 h).1
  refine three ?_ ?_ ?_
  · simp [qs, laid, A.cut_same hv, h1]
  · simp [qs, laid, A.cut_same h4]
  · simp [qs, laid, A.cut_same h5]
end
set_option maxHeartbeats 2000000 in
theorem settle_room {x : ByteArray} {r : List ByteArray} {hx : Nat} (H : MA e z s m D w) (ho : Single s) (hD : ∀ k, w.heap.size ≤ k → D k) (h1 : 1 ≤ s.c) (hc : s.c ≤ 1024) (hl : s.t1.length + s.b1.length + s.t2.length ≤ 2000) (ht : s.t1 = x :: r) (hm : m x = some (0, hx)) (hr : s.b1.length + s.t2.length < mr s.c) :
    Calls Tryz.prog 52 #[.pointer (some ⟨e, 0, none⟩), Ix.V (0, hx)] w fun ee w' => ee = .returned (.slice none 0 0) ∧ MB e z { s with t1 := r, b1 := s.b1 ++ [x] } D w' ∧ Keeps D w w' := by
  have HE : Hid (MA e z s m D w) := H
  have HD : Hid (∀ k, w.heap.size ≤ k → D k) := hD
  have HU : Hid (∀ j, j < 3 → qs { s with t1 := r, b1 := s.b1 ++ [x] } j = laid (qs s) x 1 j) := rows_room ho ht
  have hbW : Hid (Below w.heap.size w (w.alloc (.cells #[.int .i64 0, .int .i64 (hx : Nat)] 44))) := (Below.refl _ w).alloc (Nat.le_refl _) _
  have hfull := full_any (HE.out.below hbW.out) h1 hc (by omega)
  have hd : decide (mr s.c ≤ (qs s 1).length + (qs s 2).length) = false := by simp [qs]; omega
  rw [hd] at hfull
  have HM : Hid (m x = some (0, hx)) := hm
  have HLen : Hid ((qs s 0).length + (qs s 1).length + (qs s 2).length + 1 ≤ 20000) := by show s.t1.length + s.b1.length + s.t2.length + 1 ≤ 20000; omega
  clear H ho hD hm hd hr hl
  go_enter Tryz.func52, Tryz.ntmps52
  go_wp2_with (first
    | (go_at_call 58; refine Calls.mono hfull ?_; clear hfull; rintro ee w2 ⟨rfl, hb2⟩; have HB2 : Hid (Below w.heap.size w w2) := below_trans hbW.out hb2; have hbx := (hb2.block w.heap.size (by rw [World.size_alloc]; omega)).trans (heap_alloc_new w _); have y0 := cell_of_block (j := 0) hbx; have y1 := cell_of_block (j := 1) hbx; have yl := lt_of_block hbx; simp at y0 y1; clear hb2 hbx)
    | (go_at_call 70; refine (move_any (HE.out.below HB2.out) (fun k hk => HD.out k (Nat.le_trans HB2.out.size hk)) (by omega) HM.out (i' := 1) (by omega) HLen.out).mono ?_; rintro ee w6 ⟨rfl, ⟨h6, hA6⟩, hk6⟩; have HA6 : Hid (MB e z { s with t1 := r, b1 := s.b1 ++ [x] } D w6) := ⟨_, hA6.congr HU.out⟩; have HK6 : Hid (Keeps D w w6) := (Keeps.of_below HB2.out).trans hk6; clear hA6 hk6))
  go_ret
  exact ⟨rfl, HA6.out, HK6.out⟩
set_option maxHeartbeats 2000000 in
theorem settle_none {x : ByteArray} {r : List ByteArray} {hx : Nat} (H : MA e z s m D w) (ho : Single s) (hD : ∀ k, w.heap.size ≤ k → D k) (h1 : 1 ≤ s.c) (hc : s.c ≤ 1024) (ht : s.t1 = x :: r) (hm : m x = some (0, hx)) (hr : mr s.c ≤ s.b1.length + s.t2.length) (hb : s.b1 = []) (hp : s.t2 = []) :
    Calls Tryz.prog 52 #[.pointer (some ⟨e, 0, none⟩), Ix.V (0, hx)] w fun ee w' => ∃ g, ee = .returned (.slice (some ⟨g, 0, none⟩) 1 1) ∧ Beside (MB e z { s with t1 := r }) (some ⟨g, 0, none⟩) 1 [x] D w' ∧ Keeps D w w' := by
  have HE : Hid (MA e z s m D w) := H
  have HD : Hid (∀ k, w.heap.size ≤ k → D k) := hD
  have HU : Hid (∀ j, j < 3 → qs { s with t1 := r } j = A.cut (qs s j) x) := rows_drop ho ht
  have hbW : Hid (Below w.heap.size w (w.alloc (.cells #[.int .i64 0, .int .i64 (hx : Nat)] 44))) := (Below.refl _ w).alloc (Nat.le_refl _) _
  have hfull := full_any (HE.out.below hbW.out) h1 hc (by omega)
  have hd : decide (mr s.c ≤ (qs s 1).length + (qs s 2).length) = true := by simp [qs]; omega
  rw [hd] at hfull
  have HM : Hid (m x = some (0, hx)) := hm
  have HFst : Hid (∀ W, Below w.heap.size w W → Calls Tryz.prog 51 #[.pointer (some ⟨e, 0, none⟩), .slice (some ⟨W.heap.size, 0, none⟩) 2 2] (W.alloc (.cells #[.int .i64 1, .int .i64 2] 3)) fun ee w' => ee = .returned (.tuple #[Ix.V (0, 0), .bool false]) ∧ Below W.heap.size W w') := fun W hW => by
    have hW2 : Below W.heap.size W (W.alloc (.cells #[.int .i64 1, .int .i64 2] 3)) := (Below.refl _ W).alloc (Nat.le_refl _) _
    exact (first_none (HE.out.below (below_trans hW hW2)) (ints_two W 1 2) (by simp) (by simp) (by simp [qs, hb, hp])).mono (by rintro ee w' ⟨rfl, hb⟩; exact ⟨rfl, below_trans hW2 hb⟩)
  clear H ho hD hm hd hr
  go_enter Tryz.func52, Tryz.ntmps52
  go_wp2_with (first
    | (go_at_call 58; refine Calls.mono hfull ?_; clear hfull; rintro ee w2 ⟨rfl, hb2⟩; have HB2 : Hid (Below w.heap.size w w2) := below_trans hbW.out hb2; have hbx := (hb2.block w.heap.size (by rw [World.size_alloc]; omega)).trans (heap_alloc_new w _); have HBx : Hid (w2.heap[w.heap.size]? = some (.cells #[.int .i64 0, .int .i64 (hx : Nat)] 44 (0, 0))) := hbx; clear hb2 hbx)
    | (go_at_call 51; refine (HFst.out _ HB2.out).mono ?_; rintro ee w5 ⟨rfl, hb5⟩; have hB5 := (below_trans HB2.out hb5).alloc (below_trans HB2.out hb5).size (.cells #[.int .i64 0, .int .i64 0] 44); have HB5 : Hid (Below w.heap.size w (w5.alloc (.cells #[.int .i64 0, .int .i64 0] 44))) := hB5; have hbx := ((hb5.alloc hb5.size (.cells #[.int .i64 0, .int .i64 0] 44)).block w.heap.size (lt_of_block HBx.out)).trans HBx.out; have y0 := cell_of_block (j := 0) hbx; have y1 := cell_of_block (j := 1) hbx; have yl := lt_of_block hbx; simp only [World.size_alloc] at yl; simp at y0 y1; clear hb5 hbx hB5))
  go_quiet (fail)
  go_wp2_with (first
    | (go_at_call 61; refine (drop_any ((HE.out.below HB5.out).drewN nq) (fun k hk => HD.out k (Nat.le_trans HB5.out.size hk)) (by omega) HM.out).mono ?_; rintro ee w6 ⟨rfl, hA6, hk6⟩; have HA6 : Hid (MB e z { s with t1 := r } D w6) := ⟨_, hA6.congr HU.out⟩; have HK6 : Hid (Keeps D w w6) := ((Keeps.of_below HB5.out).drewN nq).trans hk6; clear hA6 hk6))
  go_ret
  have h9 := HA6.out.lit x HK6.out HD.out
  exact ⟨_, rfl, h9.1, h9.2⟩
/-- who is looked at: v, at place hv of row i -/
structure Looks (s : Stt) (v : ByteArray) (i : Nat) : Prop where
  main : i = 1 ∨ i = 2
  ahead : i = 2 → s.b1 = []
  first : ∃ r, qs s i = v :: r
theorem Looks.call {v : ByteArray} {i : Nat} (H : MA e z s m D w) (h : Looks s v i) :
    ∃ hv, m v = some (i, hv) ∧ ∀ W, Below w.heap.size w W → Calls Tryz.prog 51 #[.pointer (some ⟨e, 0, none⟩), .slice (some ⟨W.heap.size, 0, none⟩) 2 2] (W.alloc (.cells #[.int .i64 1, .int .i64 2] 3)) fun ee w' => ee = .returned (.tuple #[Ix.V (i, hv), .bool true]) ∧ Below W.heap.size W w' := by
  obtain ⟨r, hr⟩ := h.first
  have hi : i < 3 := by have := h.main; omega
  obtain ⟨hv, hm⟩ := H.has hi (k := v) (by rw [hr]; simp)
  refine ⟨hv, hm, fun W hW => ?_⟩
  have hW2 : Below W.heap.size W (W.alloc (.cells #[.int .i64 1, .int .i64 2] 3)) := (Below.refl _ W).alloc (Nat.le_refl _) _
  rcases h.main with e1 | e1 <;> subst e1
  · obtain ⟨h', h1, h2⟩ := first_at (p := []) (q := [2]) (i := 1) (k := v) (r := r) (H.below (below_trans hW hW2)) (ints_two W 1 2) (by simp) (by simp) (by simp) hr
    rw [hm] at h1
    cases h1
    exact h2.mono (by rintro ee w' ⟨rfl, hb⟩; exact ⟨rfl, below_trans hW2 hb⟩)
  · have hb := h.ahead rfl
    obtain ⟨h', h1, h2⟩ := first_at (p := [1]) (q := []) (i := 2) (k := v) (r := r) (H.below (below_trans hW hW2)) (ints_two W 1 2) (by simp) (by simp) (by simp [qs, hb]) hr
    rw [hm] at h1
    cases h1
    exact h2.mono (by rintro ee w' ⟨rfl, hb⟩; exact ⟨rfl, below_trans hW2 hb⟩)
theorem Looks.not_in {v : ByteArray} {i : Nat} (h : Looks s v i) (ho : Single s) : v ∉ s.t1 := by
  obtain ⟨r, hr⟩ := h.first
  intro hv
  have hh := (ho.out (k := v)).1 hv
  rcases h.main with e1 | e1 <;> subst e1
  · have hr' : s.b1 = v :: r := hr
    exact hh.2 (by rw [hr']; simp)
  · have hr' : s.t2 = v :: r := hr
    exact hh.1 (by rw [hr']; simp)
set_option maxRecDepth 100000 in
set_option maxHeartbeats 4000000 in
theorem settle_stay {x v : ByteArray} {r : List ByteArray} {hx i : Nat} (H : MA e z s m D w) (ho : Single s) (hD : ∀ k, w.heap.size ≤ k → D k) (h1 : 1 ≤ s.c) (hc : s.c ≤ 1024) (ht : s.t1 = x :: r) (hm : m x = some (0, hx)) (hr : mr s.c ≤ s.b1.length + s.t2.length) (hk : Looks s v i) (hf : fq z x ≤ fq z v) :
    Calls Tryz.prog 52 #[.pointer (some ⟨e, 0, none⟩), Ix.V (0, hx)] w fun ee w' => ∃ g, ee = .returned (.slice (some ⟨g, 0, none⟩) 1 1) ∧ Beside (MB e z { s with t1 := r }) (some ⟨g, 0, none⟩) 1 [x] D w' ∧ Keeps D w w' := by
  have HE : Hid (MA e z s m D w) := H
  have HD : Hid (∀ k, w.heap.size ≤ k → D k) := hD
  have HU : Hid (∀ j, j < 3 → qs { s with t1 := r } j = A.cut (qs s j) x) := rows_drop ho ht
  have hbW : Hid (Below w.heap.size w (w.alloc (.cells #[.int .i64 0, .int .i64 (hx : Nat)] 44))) := (Below.refl _ w).alloc (Nat.le_refl _) _
  have hfull := full_any (HE.out.below hbW.out) h1 hc (by omega)
  have hd : decide (mr s.c ≤ (qs s 1).length + (qs s 2).length) = true := by simp [qs]; omega
  rw [hd] at hfull
  have HM : Hid (m x = some (0, hx)) := hm
  obtain ⟨hv, hmv, hfst⟩ := hk.call H
  have HMv : Hid (m v = some (i, hv)) := hmv
  have HFst : Hid _ := hfst
  obtain ⟨nx, hnx⟩ : ∃ nx, nx = fq z x := ⟨_, rfl⟩
  obtain ⟨nv, hnv⟩ : ∃ nv, nv = fq z v := ⟨_, rfl⟩
  rw [← hnx, ← hnv] at hf
  have HNx : Hid (nx = fq z x) := hnx
  have HNv : Hid (nv = fq z v) := hnv
  have hfN : nx ≤ nv := hf
  clear H ho hD hm hd hr hk hmv hfst hf hnx hnv
  go_enter Tryz.func52, Tryz.ntmps52
  go_wp2_with (first
    | (go_at_call 58; refine Calls.mono hfull ?_; clear hfull; rintro ee w2 ⟨rfl, hb2⟩; have HB2 : Hid (Below w.heap.size w w2) := below_trans hbW.out hb2; have hbx := (hb2.block w.heap.size (by rw [World.size_alloc]; omega)).trans (heap_alloc_new w _); have HBx : Hid (w2.heap[w.heap.size]? = some (.cells #[.int .i64 0, .int .i64 (hx : Nat)] 44 (0, 0))) := hbx; clear hb2 hbx)
    | (go_at_call 51; refine (HFst.out _ HB2.out).mono ?_; rintro ee w5 ⟨rfl, hb5⟩; have hB5 := (below_trans HB2.out hb5).alloc (below_trans HB2.out hb5).size (.cells #[.int .i64 (i : Nat), .int .i64 (hv : Nat)] 44); have HB5 : Hid (Below w.heap.size w (w5.alloc (.cells #[.int .i64 (i : Nat), .int .i64 (hv : Nat)] 44))) := hB5; have HBx5 : Hid ((w5.alloc (.cells #[.int .i64 (i : Nat), .int .i64 (hv : Nat)] 44)).heap[w.heap.size]? = some (.cells #[.int .i64 0, .int .i64 (hx : Nat)] 44 (0, 0))) := ((hb5.alloc hb5.size (.cells #[.int .i64 (i : Nat), .int .i64 (hv : Nat)] 44)).block w.heap.size (lt_of_block HBx.out)).trans HBx.out; clear hb5 hB5))
  obtain ⟨V, hV⟩ : ∃ V, V = w5.alloc (.cells #[.int .i64 (i : Nat), .int .i64 (hv : Nat)] 44) := ⟨_, rfl⟩
  have HVx : Hid (V.heap[w5.heap.size]? = some (.cells #[.int .i64 (i : Nat), .int .i64 (hv : Nat)] 44 (0, 0))) := by rw [hV]; exact heap_alloc_new w5 _
  have HCx : Hid (V.heap[w.heap.size]? = some (.cells #[.int .i64 0, .int .i64 (hx : Nat)] 44 (0, 0))) := by rw [hV]; exact HBx5.out
  have HA : Hid (MA e z s m D V) := by show MA e z s m D V; rw [hV]; exact HE.out.below HB5.out
  have HBV : Hid (Below w.heap.size w V) := by show Below w.heap.size w V; rw [hV]; exact HB5.out
  have HO1 : Hid (∀ W, Below V.heap.size V W → Calls Tryz.prog 75 #[.pointer (some ⟨e, 0, none⟩), .agg #[.int .i64 0, .int .i64 (hx : Nat)]] W fun ee w' => ee = .returned (.int .i64 (nx : Nat)) ∧ Below W.heap.size W w') := fun W hW => by
    have := often_any (HA.out.below hW) (by omega) HM.out
    rw [← HNx.out] at this
    exact this
  have HO2 : Hid (∀ W, Below V.heap.size V W → Calls Tryz.prog 75 #[.pointer (some ⟨e, 0, none⟩), .agg #[.int .i64 (i : Nat), .int .i64 (hv : Nat)]] W fun ee w' => ee = .returned (.int .i64 (nv : Nat)) ∧ Below W.heap.size W w') := fun W hW => by
    have := often_any (HA.out.below hW) (by omega) HMv.out
    rw [← HNv.out] at this
    exact this
  rw [← hV]
  generalize w5.heap.size = n5 at *
  clear hV
  refine Rg.region_low (by kernel_rfl) 10 20 rfl (Rg.Is (fun slot => [(.bool true : Value), (.bool false : Value), (.bool false : Value), (.pointer (some ⟨e, 0, none⟩) : Value), (.agg #[.int .i64 0, .int .i64 (hx : Nat)] : Value), (.int .i64 (nx : Nat) : Value), (.pointer (some ⟨e, 0, none⟩) : Value), (.agg #[.int .i64 (i : Nat), .int .i64 (hv : Nat)] : Value), (.int .i64 (nv : Nat) : Value), (.bool true : Value), (.bool true : Value)].getD slot undef)) (fun W => Below V.heap.size V W) (Rg.lex_of (by kernel_rfl)) (Rg.wait_of (by kernel_rfl)) (by simp) (Below.refl _ _).drew ?_ ?_
  · intro i hi a' W hC hst hdep
    have hcase : i = 0 ∨ i = 1 ∨ i = 2 ∨ i = 3 ∨ i = 4 ∨ i = 5 ∨ i = 6 ∨ i = 7 ∨ i = 8 ∨ i = 9 ∨ i = 10 := by omega
    rcases hcase with e1 | e1 | e1 | e1 | e1 | e1 | e1 | e1 | e1 | e1 | e1
    · subst e1
      have o6 := Rg.Still.at hst 6 (by omega)
      simp at o6
      refine Rg.low_same (v := .bool true) ?_ hC (Rg.Is.mk (j := 0))
      intro Kc hKc
      refine Rg.still_op rfl rfl ?_
      simp [Oper.wp, execOp, Act.eval, go_sem, o6]
      exact hKc
    · subst e1
      have d0 : a'.tmps[20]?.getD undef = .bool true := by simpa using (Rg.Is.is (hdep 0 (by kernel_rfl)))
      refine Rg.low_same (v := .bool false) ?_ hC (Rg.Is.mk (j := 1))
      intro Kc hKc
      refine Rg.still_op rfl rfl ?_
      simp [Oper.wp, execOp, Act.eval, go_sem, d0]
      exact hKc
    · subst e1
      have d1 : a'.tmps[21]?.getD undef = .bool false := by simpa using (Rg.Is.is (hdep 1 (by kernel_rfl)))
      refine Rg.low_same (v := .bool false) ?_ hC (Rg.Is.mk (j := 2))
      intro Kc hKc
      refine Rg.still_op rfl rfl ?_
      simp [Oper.wp, execOp, Act.eval, go_sem, d1]
      exact hKc
    · subst e1
      have o0 := Rg.Still.at hst 0 (by omega)
      simp at o0
      refine Rg.low_same (v := .pointer (some ⟨e, 0, none⟩)) ?_ hC (Rg.Is.mk (j := 3))
      intro Kc hKc
      refine Rg.still_on rfl rfl rfl rfl (Rg.Is.is (hdep 2 (by kernel_rfl))) ?_
      simp [Oper.wp, execOp, Act.eval, go_sem, o0]
      exact hKc
    · subst e1
      have o3 := Rg.Still.at hst 3 (by omega)
      simp at o3
      have hbx' := (hC.block _ (lt_of_block HCx.out)).trans HCx.out
      have y0 := cell_of_block (j := 0) hbx'
      have y1 := cell_of_block (j := 1) hbx'
      simp at y0 y1
      refine Rg.low_same (v := .agg #[.int .i64 0, .int .i64 (hx : Nat)]) ?_ hC (Rg.Is.mk (j := 4))
      intro Kc hKc
      refine Rg.still_on rfl rfl rfl rfl (Rg.Is.is (hdep 2 (by kernel_rfl))) ?_
      simp [Oper.wp, execOp, Act.eval, go_sem, o3, y0, y1]
      exact hKc
    · subst e1
      have d3 : a'.tmps[23]?.getD undef = .pointer (some ⟨e, 0, none⟩) := by simpa using (Rg.Is.is (hdep 3 (by kernel_rfl)))
      have d4 : a'.tmps[24]?.getD undef = .agg #[.int .i64 0, .int .i64 (hx : Nat)] := by simpa using (Rg.Is.is (hdep 4 (by kernel_rfl)))
      refine Rg.low_new (fun v w1 => v = .int .i64 (nx : Nat) ∧ Below W.heap.size W w1) ?_ ?_
      · intro Kc hKc
        refine Rg.still_on rfl rfl rfl rfl (Rg.Is.is (hdep 2 (by kernel_rfl))) ?_
        simp [Oper.wp, execOp, Act.eval, go_sem, d3, d4]
        refine Calls.mono (HO1.out W hC) ?_
        rintro ee w5 ⟨rfl, hb5⟩
        exact hKc _ _ ⟨rfl, hb5⟩
      · rintro v w1 ⟨rfl, hb1⟩
        exact ⟨below_trans hC hb1, Rg.Is.mk (j := 5), fun _ _ h => h⟩
    · subst e1
      have o0 := Rg.Still.at hst 0 (by omega)
      simp at o0
      refine Rg.low_same (v := .pointer (some ⟨e, 0, none⟩)) ?_ hC (Rg.Is.mk (j := 6))
      intro Kc hKc
      refine Rg.still_on rfl rfl rfl rfl (Rg.Is.is (hdep 2 (by kernel_rfl))) ?_
      simp [Oper.wp, execOp, Act.eval, go_sem, o0]
      exact hKc
    · subst e1
      have o5 := Rg.Still.at hst 5 (by omega)
      simp at o5
      have hbx' := (hC.block _ (lt_of_block HVx.out)).trans HVx.out
      have y0 := cell_of_block (j := 0) hbx'
      have y1 := cell_of_block (j := 1) hbx'
      simp at y0 y1
      refine Rg.low_same (v := .agg #[.int .i64 (i : Nat), .int .i64 (hv : Nat)]) ?_ hC (Rg.Is.mk (j := 7))
      intro Kc hKc
      refine Rg.still_on rfl rfl rfl rfl (Rg.Is.is (hdep 2 (by kernel_rfl))) ?_
      simp [Oper.wp, execOp, Act.eval, go_sem, o5, y0, y1]
      exact hKc
    · subst e1
      have d6 : a'.tmps[26]?.getD undef = .pointer (some ⟨e, 0, none⟩) := by simpa using (Rg.Is.is (hdep 6 (by kernel_rfl)))
      have d7 : a'.tmps[27]?.getD undef = .agg #[.int .i64 (i : Nat), .int .i64 (hv : Nat)] := by simpa using (Rg.Is.is (hdep 7 (by kernel_rfl)))
      refine Rg.low_new (fun v w1 => v = .int .i64 (nv : Nat) ∧ Below W.heap.size W w1) ?_ ?_
      · intro Kc hKc
        refine Rg.still_on rfl rfl rfl rfl (Rg.Is.is (hdep 2 (by kernel_rfl))) ?_
        simp [Oper.wp, execOp, Act.eval, go_sem, d6, d7]
        refine Calls.mono (HO2.out W hC) ?_
        rintro ee w5 ⟨rfl, hb5⟩
        exact hKc _ _ ⟨rfl, hb5⟩
      · rintro v w1 ⟨rfl, hb1⟩
        exact ⟨below_trans hC hb1, Rg.Is.mk (j := 8), fun _ _ h => h⟩
    · subst e1
      have d5 : a'.tmps[25]?.getD undef = .int .i64 (nx : Nat) := by simpa using (Rg.Is.is (hdep 5 (by kernel_rfl)))
      have d8 : a'.tmps[28]?.getD undef = .int .i64 (nv : Nat) := by simpa using (Rg.Is.is (hdep 8 (by kernel_rfl)))
      refine Rg.low_same (v := .bool true) ?_ hC (Rg.Is.mk (j := 9))
      intro Kc hKc
      refine Rg.still_on rfl rfl rfl rfl (Rg.Is.is (hdep 2 (by kernel_rfl))) ?_
      simp [Oper.wp, execOp, Act.eval, go_sem, d5, d8, hfN]
      exact hKc
    · subst e1
      have d2 : a'.tmps[22]?.getD undef = .bool false := by simpa using (Rg.Is.is (hdep 2 (by kernel_rfl)))
      have d9 : a'.tmps[29]?.getD undef = .bool true := by simpa using (Rg.Is.is (hdep 9 (by kernel_rfl)))
      refine Rg.low_same (v := .bool true) ?_ hC (Rg.Is.mk (j := 10))
      intro Kc hKc
      refine Rg.still_op rfl rfl ?_
      simp [Oper.wp, execOp, Act.eval, go_sem, d2, d9]
      exact hKc
  intro vs W hC hF
  have hv0 : vs 0 = .bool true := Rg.Is.is (hF 0 (by omega))
  have hv1 : vs 1 = .bool false := Rg.Is.is (hF 1 (by omega))
  have hv2 : vs 2 = .bool false := Rg.Is.is (hF 2 (by omega))
  have hv3 : vs 3 = .pointer (some ⟨e, 0, none⟩) := Rg.Is.is (hF 3 (by omega))
  have hv4 : vs 4 = .agg #[.int .i64 0, .int .i64 (hx : Nat)] := Rg.Is.is (hF 4 (by omega))
  have hv5 : vs 5 = .int .i64 (nx : Nat) := Rg.Is.is (hF 5 (by omega))
  have hv6 : vs 6 = .pointer (some ⟨e, 0, none⟩) := Rg.Is.is (hF 6 (by omega))
  have hv7 : vs 7 = .agg #[.int .i64 (i : Nat), .int .i64 (hv : Nat)] := Rg.Is.is (hF 7 (by omega))
  have hv8 : vs 8 = .int .i64 (nv : Nat) := Rg.Is.is (hF 8 (by omega))
  have hv9 : vs 9 = .bool true := Rg.Is.is (hF 9 (by omega))
  have hv10 : vs 10 = .bool true := Rg.Is.is (hF 10 (by omega))
  simp only [Rg.fillA, Act.put, List.setIfInBounds_toArray, List.set_cons_succ, List.set_cons_zero, Nat.reduceAdd, Nat.add_zero]
  rw [hv0, hv1, hv2, hv3, hv4, hv5, hv6, hv7, hv8, hv9, hv10]
  have HC : Hid (Below V.heap.size V W) := hC
  have hbx := (hC.block _ (lt_of_block HCx.out)).trans HCx.out
  have y0 := cell_of_block (j := 0) hbx
  have y1 := cell_of_block (j := 1) hbx
  have yl := lt_of_block hbx
  simp at y0 y1
  clear hC hF hbx
  go_wp2_with (go_at_call 61; refine (drop_any (HA.out.below HC.out) (fun k hk => HD.out k (Nat.le_trans (below_trans HBV.out HC.out).size hk)) (by omega) HM.out).mono ?_; rintro ee w8 ⟨rfl, hA8, hk8⟩; have HA8 : Hid (MB e z { s with t1 := r } D w8) := ⟨_, hA8.congr HU.out⟩; have HK8 : Hid (Keeps D w w8) := (Keeps.of_below (below_trans HBV.out HC.out)).trans hk8; clear hA8 hk8)
  go_ret
  have h9 := HA8.out.lit x HK8.out HD.out
  exact ⟨_, rfl, h9.1, h9.2⟩
set_option maxRecDepth 100000 in
set_option maxHeartbeats 4000000 in
theorem settle_swap {x v : ByteArray} {r : List ByteArray} {hx i : Nat} (H : MA e z s m D w) (ho : Single s) (hD : ∀ k, w.heap.size ≤ k → D k) (h1 : 1 ≤ s.c) (hc : s.c ≤ 1024) (hl : s.t1.length + s.b1.length + s.t2.length ≤ 2000) (ht : s.t1 = x :: r) (hm : m x = some (0, hx)) (hr : mr s.c ≤ s.b1.length + s.t2.length) (hk : Looks s v i) (hf : ¬ fq z x ≤ fq z v) :
    Calls Tryz.prog 52 #[.pointer (some ⟨e, 0, none⟩), Ix.V (0, hx)] w fun ee w' => ∃ g, ee = .returned (.slice (some ⟨g, 0, none⟩) 1 1) ∧ Beside (MB e z { s with t1 := r, b1 := A.cut s.b1 v ++ [x], t2 := A.cut s.t2 v }) (some ⟨g, 0, none⟩) 1 [v] D w' ∧ Keeps D w w' := by
  have hvn : v ∉ s.t1 := hk.not_in ho
  have hxv : x ≠ v := by rintro rfl; exact hvn (by rw [ht]; simp)
  have HE : Hid (MA e z s m D w) := H
  have HD : Hid (∀ k, w.heap.size ≤ k → D k) := hD
  have HU : Hid (∀ j, j < 3 → qs { s with t1 := r, b1 := A.cut s.b1 v ++ [x], t2 := A.cut s.t2 v } j = laid (fun j => A.cut (qs s j) v) x 1 j) := rows_swap ho ht hvn
  have hbW : Hid (Below w.heap.size w (w.alloc (.cells #[.int .i64 0, .int .i64 (hx : Nat)] 44))) := (Below.refl _ w).alloc (Nat.le_refl _) _
  have hfull := full_any (HE.out.below hbW.out) h1 hc (by omega)
  have hd : decide (mr s.c ≤ (qs s 1).length + (qs s 2).length) = true := by simp [qs]; omega
  rw [hd] at hfull
  have HM : Hid (m x = some (0, hx)) := hm
  obtain ⟨hv, hmv, hfst⟩ := hk.call H
  have HMv : Hid (m v = some (i, hv)) := hmv
  have HFst : Hid _ := hfst
  obtain ⟨nx, hnx⟩ : ∃ nx, nx = fq z x := ⟨_, rfl⟩
  obtain ⟨nv, hnv⟩ : ∃ nv, nv = fq z v := ⟨_, rfl⟩
  rw [← hnx, ← hnv] at hf
  have HNx : Hid (nx = fq z x) := hnx
  have HNv : Hid (nv = fq z v) := hnv
  have hfN : ¬ nx ≤ nv := hf
  have HLen : Hid ((A.cut (qs s 0) v).length + (A.cut (qs s 1) v).length + (A.cut (qs s 2) v).length + 1 ≤ 20000) := by
    have g0 := A.length_cut_le s.t1 v
    have g1 := A.length_cut_le s.b1 v
    have g2 := A.length_cut_le s.t2 v
    show (A.cut s.t1 v).length + (A.cut s.b1 v).length + (A.cut s.t2 v).length + 1 ≤ 20000
    omega
  have HMx : Hid (Ix.put m v none x = some (0, hx)) := by show Ix.put m v none x = some (0, hx); rw [Ix.put_far hxv]; exact hm
  clear H ho hD hm hd hr hk hmv hfst hf hnx hnv
  go_enter Tryz.func52, Tryz.ntmps52
  go_wp2_with (first
    | (go_at_call 58; refine Calls.mono hfull ?_; clear hfull; rintro ee w2 ⟨rfl, hb2⟩; have HB2 : Hid (Below w.heap.size w w2) := below_trans hbW.out hb2; have hbx := (hb2.block w.heap.size (by rw [World.size_alloc]; omega)).trans (heap_alloc_new w _); have HBx : Hid (w2.heap[w.heap.size]? = some (.cells #[.int .i64 0, .int .i64 (hx : Nat)] 44 (0, 0))) := hbx; clear hb2 hbx)
    | (go_at_call 51; refine (HFst.out _ HB2.out).mono ?_; rintro ee w5 ⟨rfl, hb5⟩; have hB5 := (below_trans HB2.out hb5).alloc (below_trans HB2.out hb5).size (.cells #[.int .i64 (i : Nat), .int .i64 (hv : Nat)] 44); have HB5 : Hid (Below w.heap.size w (w5.alloc (.cells #[.int .i64 (i : Nat), .int .i64 (hv : Nat)] 44))) := hB5; have HBx5 : Hid ((w5.alloc (.cells #[.int .i64 (i : Nat), .int .i64 (hv : Nat)] 44)).heap[w.heap.size]? = some (.cells #[.int .i64 0, .int .i64 (hx : Nat)] 44 (0, 0))) := ((hb5.alloc hb5.size (.cells #[.int .i64 (i : Nat), .int .i64 (hv : Nat)] 44)).block w.heap.size (lt_of_block HBx.out)).trans HBx.out; clear hb5 hB5))
  obtain ⟨V, hV⟩ : ∃ V, V = w5.alloc (.cells #[.int .i64 (i : Nat), .int .i64 (hv : Nat)] 44) := ⟨_, rfl⟩
  have HVx : Hid (V.heap[w5.heap.size]? = some (.cells #[.int .i64 (i : Nat), .int .i64 (hv : Nat)] 44 (0, 0))) := by rw [hV]; exact heap_alloc_new w5 _
  have HCx : Hid (V.heap[w.heap.size]? = some (.cells #[.int .i64 0, .int .i64 (hx : Nat)] 44 (0, 0))) := by rw [hV]; exact HBx5.out
  have HA : Hid (MA e z s m D V) := by show MA e z s m D V; rw [hV]; exact HE.out.below HB5.out
  have HBV : Hid (Below w.heap.size w V) := by show Below w.heap.size w V; rw [hV]; exact HB5.out
  have HO1 : Hid (∀ W, Below V.heap.size V W → Calls Tryz.prog 75 #[.pointer (some ⟨e, 0, none⟩), .agg #[.int .i64 0, .int .i64 (hx : Nat)]] W fun ee w' => ee = .returned (.int .i64 (nx : Nat)) ∧ Below W.heap.size W w') := fun W hW => by
    have := often_any (HA.out.below hW) (by omega) HM.out
    rw [← HNx.out] at this
    exact this
  have HO2 : Hid (∀ W, Below V.heap.size V W → Calls Tryz.prog 75 #[.pointer (some ⟨e, 0, none⟩), .agg #[.int .i64 (i : Nat), .int .i64 (hv : Nat)]] W fun ee w' => ee = .returned (.int .i64 (nv : Nat)) ∧ Below W.heap.size W w') := fun W hW => by
    have := often_any (HA.out.below hW) (by omega) HMv.out
    rw [← HNv.out] at this
    exact this
  rw [← hV]
  generalize w5.heap.size = n5 at *
  clear hV
  refine Rg.region_low (by kernel_rfl) 10 20 rfl (Rg.Is (fun slot => [(.bool true : Value), (.bool false : Value), (.bool false : Value), (.pointer (some ⟨e, 0, none⟩) : Value), (.agg #[.int .i64 0, .int .i64 (hx : Nat)] : Value), (.int .i64 (nx : Nat) : Value), (.pointer (some ⟨e, 0, none⟩) : Value), (.agg #[.int .i64 (i : Nat), .int .i64 (hv : Nat)] : Value), (.int .i64 (nv : Nat) : Value), (.bool false : Value), (.bool false : Value)].getD slot undef)) (fun W => Below V.heap.size V W) (Rg.lex_of (by kernel_rfl)) (Rg.wait_of (by kernel_rfl)) (by simp) (Below.refl _ _).drew ?_ ?_
  · intro i hi a' W hC hst hdep
    have hcase : i = 0 ∨ i = 1 ∨ i = 2 ∨ i = 3 ∨ i = 4 ∨ i = 5 ∨ i = 6 ∨ i = 7 ∨ i = 8 ∨ i = 9 ∨ i = 10 := by omega
    rcases hcase with e1 | e1 | e1 | e1 | e1 | e1 | e1 | e1 | e1 | e1 | e1
    · subst e1
      have o6 := Rg.Still.at hst 6 (by omega)
      simp at o6
      refine Rg.low_same (v := .bool true) ?_ hC (Rg.Is.mk (j := 0))
      intro Kc hKc
      refine Rg.still_op rfl rfl ?_
      simp [Oper.wp, execOp, Act.eval, go_sem, o6]
      exact hKc
    · subst e1
      have d0 : a'.tmps[20]?.getD undef = .bool true := by simpa using (Rg.Is.is (hdep 0 (by kernel_rfl)))
      refine Rg.low_same (v := .bool false) ?_ hC (Rg.Is.mk (j := 1))
      intro Kc hKc
      refine Rg.still_op rfl rfl ?_
      simp [Oper.wp, execOp, Act.eval, go_sem, d0]
      exact hKc
    · subst e1
      have d1 : a'.tmps[21]?.getD undef = .bool false := by simpa using (Rg.Is.is (hdep 1 (by kernel_rfl)))
      refine Rg.low_same (v := .bool false) ?_ hC (Rg.Is.mk (j := 2))
      intro Kc hKc
      refine Rg.still_op rfl rfl ?_
      simp [Oper.wp, execOp, Act.eval, go_sem, d1]
      exact hKc
    · subst e1
      have o0 := Rg.Still.at hst 0 (by omega)
      simp at o0
      refine Rg.low_same (v := .pointer (some ⟨e, 0, none⟩)) ?_ hC (Rg.Is.mk (j := 3))
      intro Kc hKc
      refine Rg.still_on rfl rfl rfl rfl (Rg.Is.is (hdep 2 (by kernel_rfl))) ?_
      simp [Oper.wp, execOp, Act.eval, go_sem, o0]
      exact hKc
    · subst e1
      have o3 := Rg.Still.at hst 3 (by omega)
      simp at o3
      have hbx' := (hC.block _ (lt_of_block HCx.out)).trans HCx.out
      have y0 := cell_of_block (j := 0) hbx'
      have y1 := cell_of_block (j := 1) hbx'
      simp at y0 y1
      refine Rg.low_same (v := .agg #[.int .i64 0, .int .i64 (hx : Nat)]) ?_ hC (Rg.Is.mk (j := 4))
      intro Kc hKc
      refine Rg.still_on rfl rfl rfl rfl (Rg.Is.is (hdep 2 (by kernel_rfl))) ?_
      simp [Oper.wp, execOp, Act.eval, go_sem, o3, y0, y1]
      exact hKc
    · subst e1
      have d3 : a'.tmps[23]?.getD undef = .pointer (some ⟨e, 0, none⟩) := by simpa using (Rg.Is.is (hdep 3 (by kernel_rfl)))
      have d4 : a'.tmps[24]?.getD undef = .agg #[.int .i64 0, .int .i64 (hx : Nat)] := by simpa using (Rg.Is.is (hdep 4 (by kernel_rfl)))
      refine Rg.low_new (fun v w1 => v = .int .i64 (nx : Nat) ∧ Below W.heap.size W w1) ?_ ?_
      · intro Kc hKc
        refine Rg.still_on rfl rfl rfl rfl (Rg.Is.is (hdep 2 (by kernel_rfl))) ?_
        simp [Oper.wp, execOp, Act.eval, go_sem, d3, d4]
        refine Calls.mono (HO1.out W hC) ?_
        rintro ee w5 ⟨rfl, hb5⟩
        exact hKc _ _ ⟨rfl, hb5⟩
      · rintro v w1 ⟨rfl, hb1⟩
        exact ⟨below_trans hC hb1, Rg.Is.mk (j := 5), fun _ _ h => h⟩
    · subst e1
      have o0 := Rg.Still.at hst 0 (by omega)
      simp at o0
      refine Rg.low_same (v := .pointer (some ⟨e, 0, none⟩)) ?_ hC (Rg.Is.mk (j := 6))
      intro Kc hKc
      refine Rg.still_on rfl rfl rfl rfl (Rg.Is.is (hdep 2 (by kernel_rfl))) ?_
      simp [Oper.wp, execOp, Act.eval, go_sem, o0]
      exact hKc
    · subst e1
      have o5 := Rg.Still.at hst 5 (by omega)
      simp at o5
      have hbx' := (hC.block _ (lt_of_block HVx.out)).trans HVx.out
      have y0 := cell_of_block (j := 0) hbx'
      have y1 := cell_of_block (j := 1) hbx'
      simp at y0 y1
      refine Rg.low_same (v := .agg #[.int .i64 (i : Nat), .int .i64 (hv : Nat)]) ?_ hC (Rg.Is.mk (j := 7))
      intro Kc hKc
      refine Rg.still_on rfl rfl rfl rfl (Rg.Is.is (hdep 2 (by kernel_rfl))) ?_
      simp [Oper.wp, execOp, Act.eval, go_sem, o5, y0, y1]
      exact hKc
    · subst e1
      have d6 : a'.tmps[26]?.getD undef = .pointer (some ⟨e, 0, none⟩) := by simpa using (Rg.Is.is (hdep 6 (by kernel_rfl)))
      have d7 : a'.tmps[27]?.getD undef = .agg #[.int .i64 (i : Nat), .int .i64 (hv : Nat)] := by simpa using (Rg.Is.is (hdep 7 (by kernel_rfl)))
      refine Rg.low_new (fun v w1 => v = .int .i64 (nv : Nat) ∧ Below W.heap.size W w1) ?_ ?_
      · intro Kc hKc
        refine Rg.still_on rfl rfl rfl rfl (Rg.Is.is (hdep 2 (by kernel_rfl))) ?_
        simp [Oper.wp, execOp, Act.eval, go_sem, d6, d7]
        refine Calls.mono (HO2.out W hC) ?_
        rintro ee w5 ⟨rfl, hb5⟩
        exact hKc _ _ ⟨rfl, hb5⟩
      · rintro v w1 ⟨rfl, hb1⟩
        exact ⟨below_trans hC hb1, Rg.Is.mk (j := 8), fun _ _ h => h⟩
    · subst e1
      have d5 : a'.tmps[25]?.getD undef = .int .i64 (nx : Nat) := by simpa using (Rg.Is.is (hdep 5 (by kernel_rfl)))
      have d8 : a'.tmps[28]?.getD undef = .int .i64 (nv : Nat) := by simpa using (Rg.Is.is (hdep 8 (by kernel_rfl)))
      refine Rg.low_same (v := .bool false) ?_ hC (Rg.Is.mk (j := 9))
      intro Kc hKc
      refine Rg.still_on rfl rfl rfl rfl (Rg.Is.is (hdep 2 (by kernel_rfl))) ?_
      simp [Oper.wp, execOp, Act.eval, go_sem, d5, d8, hfN]
      exact hKc
    · subst e1
      have d2 : a'.tmps[22]?.getD undef = .bool false := by simpa using (Rg.Is.is (hdep 2 (by kernel_rfl)))
      have d9 : a'.tmps[29]?.getD undef = .bool false := by simpa using (Rg.Is.is (hdep 9 (by kernel_rfl)))
      refine Rg.low_same (v := .bool false) ?_ hC (Rg.Is.mk (j := 10))
      intro Kc hKc
      refine Rg.still_op rfl rfl ?_
      simp [Oper.wp, execOp, Act.eval, go_sem, d2, d9]
      exact hKc
  intro vs W hC hF
  have hv0 : vs 0 = .bool true := Rg.Is.is (hF 0 (by omega))
  have hv1 : vs 1 = .bool false := Rg.Is.is (hF 1 (by omega))
  have hv2 : vs 2 = .bool false := Rg.Is.is (hF 2 (by omega))
  have hv3 : vs 3 = .pointer (some ⟨e, 0, none⟩) := Rg.Is.is (hF 3 (by omega))
  have hv4 : vs 4 = .agg #[.int .i64 0, .int .i64 (hx : Nat)] := Rg.Is.is (hF 4 (by omega))
  have hv5 : vs 5 = .int .i64 (nx : Nat) := Rg.Is.is (hF 5 (by omega))
  have hv6 : vs 6 = .pointer (some ⟨e, 0, none⟩) := Rg.Is.is (hF 6 (by omega))
  have hv7 : vs 7 = .agg #[.int .i64 (i : Nat), .int .i64 (hv : Nat)] := Rg.Is.is (hF 7 (by omega))
  have hv8 : vs 8 = .int .i64 (nv : Nat) := Rg.Is.is (hF 8 (by omega))
  have hv9 : vs 9 = .bool false := Rg.Is.is (hF 9 (by omega))
  have hv10 : vs 10 = .bool false := Rg.Is.is (hF 10 (by omega))
  simp only [Rg.fillA, Act.put, List.setIfInBounds_toArray, List.set_cons_succ, List.set_cons_zero, Nat.reduceAdd, Nat.add_zero]
  rw [hv0, hv1, hv2, hv3, hv4, hv5, hv6, hv7, hv8, hv9, hv10]
  have HC : Hid (Below V.heap.size V W) := hC
  have hbx := (hC.block _ (lt_of_block HCx.out)).trans HCx.out
  have HBx6 : Hid (W.heap[w.heap.size]? = some (.cells #[.int .i64 0, .int .i64 (hx : Nat)] 44 (0, 0))) := hbx
  have hvx := (hC.block _ (lt_of_block HVx.out)).trans HVx.out
  have v0 := cell_of_block (j := 0) hvx
  have v1 := cell_of_block (j := 1) hvx
  have vl := lt_of_block hvx
  simp at v0 v1
  clear hC hF hbx hvx
  have HW1 : Hid (w.heap.size < W.heap.size) := lt_of_block HBx6.out
  have HA1 : Hid (MA e z s m (fun k => D k ∧ k ≠ w.heap.size) W) := ((HE.out.wide (D' := fun k => D k ∧ k ≠ w.heap.size) (fun k hk hd => ⟨hd, by omega⟩)).below HBV.out).below HC.out
  have HD1 : Hid (∀ k, W.heap.size ≤ k → (D k ∧ k ≠ w.heap.size)) := fun k hk => ⟨HD.out k (Nat.le_trans (below_trans HBV.out HC.out).size hk), by have := HW1.out; omega⟩
  go_wp2_with (first
    | (go_at_call 61; refine (drop_any HA1.out HD1.out (by omega) HMv.out).mono ?_; rintro ee w8 ⟨rfl, hA8, hk8⟩; have HA8 : Hid (EM (fun k => D k ∧ k ≠ w.heap.size) w8 e s.c (fun j => A.cut (qs s j) v) (Ix.put m v none) 20000 z) := hA8; have HK8 : Hid (Keeps (fun k => D k ∧ k ≠ w.heap.size) W w8) := hk8; have hbx8 := (hk8.block _ (lt_of_block HBx6.out) (fun h => h.2 rfl)).trans HBx6.out; have y0 := cell_of_block (j := 0) hbx8; have y1 := cell_of_block (j := 1) hbx8; have yl := lt_of_block hbx8; simp at y0 y1; clear hA8 hk8 hbx8 v0 v1 vl)
    | (go_at_call 70; refine (move_any HA8.out (fun k hk => HD1.out k (Nat.le_trans HK8.out.size hk)) (by omega) HMx.out (i' := 1) (by omega) HLen.out).mono ?_; rintro ee w9 ⟨rfl, ⟨h9, hA9⟩, hk9⟩; have HA9 : Hid (MB e z { s with t1 := r, b1 := A.cut s.b1 v ++ [x], t2 := A.cut s.t2 v } D w9) := ⟨_, (hA9.congr HU.out).wide (fun k _ h => h.1)⟩; have HK9 : Hid (Keeps D w w9) := (Keeps.of_below (below_trans HBV.out HC.out)).trans ((HK8.out.trans hk9).mono (fun k _ h => h.1)); clear hA9 hk9))
  go_ret
  have h9 := HA9.out.lit v HK9.out HD.out
  exact ⟨_, rfl, h9.1, h9.2⟩
end
end Go.Proofs.YtcphhlfbjkeikabGreat
