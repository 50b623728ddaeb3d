/- An engine as the machine of chapter 14: Room, Len, Has, Load, Remove, Evict. -/
import Derived.Test.YtcphhlfbjkeikabGreatEi
namespace Go.Proofs.YtcphhlfbjkeikabGreat
open Go.RowKit

/-- is a key in a row? -/
def inb (key : ByteArray) (zs : List ByteArray) : Bool := decide (0 < A.cnt key zs)
theorem inb_yes {key : ByteArray} {zs : List ByteArray} (h : key ∈ zs) : inb key zs = true := by
  unfold inb
  rw [decide_eq_true_eq]
  exact A.cnt_pos.2 h
theorem inb_no {key : ByteArray} {zs : List ByteArray} (h : key ∉ zs) : inb key zs = false := by
  unfold inb
  rw [decide_eq_false_iff_not, A.cnt_zero.2 h]
  omega
theorem inb_iff {key : ByteArray} {zs : List ByteArray} : inb key zs = true ↔ key ∈ zs := by
  unfold inb
  rw [decide_eq_true_eq]
  exact A.cnt_pos
/-- what Evict answers -/
def wentV (l : List ByteArray) : Value := match l with
  | [] => .tuple #[.string ⟨#[]⟩, .bool false]
  | g :: _ => .tuple #[.string g, .bool true]
section
variable {D : Nat → Prop} {w : World} {e : Nat} {s : Stt} {m : ByteArray → Option Ix.Sp} {z : Dk}
theorem IX_len {te tl : TypeId} {p b : Nat} {m : ByteArray → Option Ix.Sp} (H : Ix.IX te tl D w p m b) : ∃ n : Nat, w.cell? ⟨p, 3, none⟩ = some (.int .i64 (n : Nat)) ∧ n ≤ b ∧ ∀ l : List ByteArray, l.Nodup → (∀ k, k ∈ l ↔ m k ≠ none) → l.length = n := by
  obtain ⟨seed, sl, used, count, ad, hs0, H, o⟩ := H
  refine ⟨count, H.top.2.2.2.1, o.few, fun l h1 h2 => ?_⟩
  obtain ⟨l', h3, h4, h5⟩ := Ix.Ok.keys o
  have a := nodup_len h1 (m := (sl.filter (fun s => s.st == 2)).map (·.key)) (fun k hk => by
    cases hm : m k with
    | none => exact absurd hm ((h2 k).1 hk)
    | some v =>
      obtain ⟨i, t, hi, ht, hk', -⟩ := (o.map k v).1 hm
      exact List.mem_map.2 ⟨t, List.mem_filter.2 ⟨List.mem_of_getElem? hi, by simp [ht]⟩, hk'⟩)
  have b := nodup_len h3 (m := l) (fun k hk => (h2 k).2 (h5 k hk))
  rw [List.length_map, ← List.countP_eq_length_filter, o.count_] at a
  omega
theorem xlen_any {p n : Nat} (h : w.cell? ⟨p, 3, none⟩ = some (.int .i64 (n : Nat))) : Calls Tryz.prog 63 #[.pointer (some ⟨p, 0, none⟩)] w fun ee w' => ee = .returned (.int .i64 (n : Nat)) ∧ w' = w := by
  go_enter Tryz.func63, Tryz.ntmps63
  go_wp2
  go_ret
  exact ⟨rfl, rfl⟩
theorem keys_nodup (ho : Single s) : (A.keys s).Nodup := A.Once.nodup (fun k => by
  have := ho k
  unfold A.keys
  rw [A.cnt_append, A.cnt_append]
  omega)
set_option maxHeartbeats 1000000 in
theorem lenM (H : MA e z s m D w) (ho : Single s) : Calls Tryz.prog 37 #[.pointer (some ⟨e, 0, none⟩)] w fun ee w' => ee = .returned (.int .i64 ((A.keys s).length : Nat)) ∧ w' = w := by
  have HE : Hid (MA e z s m D w) := H
  have hx : ∃ x : Nat, w.cell? ⟨e, 4, none⟩ = some (.pointer (some ⟨x, 0, none⟩)) ∧ w.cell? ⟨x, 3, none⟩ = some (.int .i64 ((A.keys s).length : Nat)) := by
    have hout : ∀ k, m k = none ↔ ∀ i, i < 3 → k ∉ qs s i := fun k => H.out
    obtain ⟨L, R, x, h, r⟩ := H
    obtain ⟨n', h1, h2, h3⟩ := IX_len h.ix
    have := h3 (A.keys s) (keys_nodup ho) (fun k => by
      rw [ne_eq, hout, keys_in]
      constructor
      · rintro ⟨i, hi, hk⟩ h4
        exact h4 i hi hk
      · intro h4
        rcases Classical.em (∃ i, i < 3 ∧ k ∈ qs s i) with h5 | h5
        · exact h5
        · exact absurd (fun i hi hk => h5 ⟨i, hi, hk⟩) h4)
    rw [this]
    exact ⟨x, h.cells.2.2.1, h1⟩
  obtain ⟨x, c4, c3⟩ := hx
  have hxl := xlen_any c3
  have heo := H.cells.2.2.2.1
  clear H ho c3
  generalize (A.keys s).length = n at *
  go_enter Tryz.func37, Tryz.ntmps37
  go_wp2_with (first
    | (go_at_call 34; refine (blank_any HE.out).mono ?_; rintro ee w1 ⟨rfl, rfl⟩)
    | (go_at_call 63; refine Calls.mono hxl ?_; clear hxl; rintro ee w1 ⟨rfl, rfl⟩))
  go_ret
  exact ⟨rfl, rfl⟩
theorem MA.found_any (H : MA e z s m D w) (key : ByteArray) : (m key).isSome = inb key (A.keys s) := by
  by_cases hin : key ∈ A.keys s
  · obtain ⟨i, h, -, hm⟩ := H.found hin
    rw [inb_yes hin, hm]; rfl
  · rw [inb_no hin, H.lost hin]; rfl
set_option maxHeartbeats 1000000 in
theorem hasM (H : MA e z s m D w) (key : ByteArray) (hk : key.size ≤ 1000) :
    Calls Tryz.prog 11 #[.pointer (some ⟨e, 0, none⟩), .string key] w fun ee w' => ee = .returned (.bool (inb key (A.keys s))) ∧ Below w.heap.size w w' := by
  have HE : Hid (MA e z s m D w) := H
  obtain ⟨x, c4, hget⟩ := H.get (by omega) key hk
  rw [H.found_any key] at hget
  have heo := H.cells.2.2.2.1
  clear H
  generalize (m key).getD (0, 0) = v at *
  generalize inb key (A.keys s) = t at *
  go_enter Tryz.func11, Tryz.ntmps11
  go_wp2_with (first
    | (go_at_call 34; refine (blank_any HE.out).mono ?_; rintro ee w1 ⟨rfl, rfl⟩)
    | (go_at_call 35; refine Calls.mono hget ?_; clear hget; rintro ee w3 ⟨rfl, hb3⟩))
  go_ret
  first
    | exact ⟨rfl, hb3⟩
    | exact ⟨rfl, hb3.alloc hb3.size _⟩
theorem load_main {key : ByteArray} (hin : key ∉ A.keys s) : ∀ j, j < 3 → qs { s with b1 := s.b1 ++ [key] } j = laid (qs s) key 1 j := by
  have h : ∀ i, i < 3 → key ∉ qs s i := fun i hi hk => hin (keys_in.2 ⟨i, hi, hk⟩)
  refine three ?_ ?_ ?_
  · simp [qs, laid, A.cut_same (show key ∉ s.t1 from h 0 (by omega))]
  · simp [qs, laid, A.cut_same (show key ∉ s.b1 from h 1 (by omega))]
  · simp [qs, laid, A.cut_same (show key ∉ s.t2 from h 2 (by omega))]
set_option maxHeartbeats 2000000 in
theorem loadM (H : MA e z s m D w) (hok : A.Ok s) (hD : ∀ k, w.heap.size ≤ k → D k) (key : ByteArray) (hk : key.size ≤ 1000) :
    Calls Tryz.prog 28 #[.pointer (some ⟨e, 0, none⟩), .string key] w fun ee w' => ee = .returned (.bool (A.load s key).1) ∧ MB e z (A.load s key).2 D w' ∧ Keeps D w w' := by
  have HE : Hid (MA e z s m D w) := H
  have HD : Hid (∀ k, w.heap.size ≤ k → D k) := hD
  have HO : Hid (Single s) := Single.of hok
  have heo := H.cells.2.2.2.1
  have hc1 := hok.hi
  have hlo := hok.lo
  have hll := lens_ok hok
  have HTot : Hid ((qs s 0).length + (qs s 1).length + (qs s 2).length + 1 ≤ 20000) := by show s.t1.length + s.b1.length + s.t2.length + 1 ≤ 20000; omega
  obtain ⟨n, hn⟩ : ∃ n, n = (A.keys s).length := ⟨_, rfl⟩
  obtain ⟨c, hc⟩ : ∃ c, c = s.c := ⟨_, rfl⟩
  obtain ⟨t, ht⟩ : ∃ t, t = inb key (A.keys s) := ⟨_, rfl⟩
  have HBl : Hid (∀ W, Below w.heap.size w W → Calls Tryz.prog 34 #[.pointer (some ⟨e, 0, none⟩)] W fun ee w' => ee = .returned (.bool false) ∧ Below W.heap.size W w') := fun W hW => (blank_any (HE.out.below hW)).mono (by rintro ee w' ⟨rfl, rfl⟩; exact ⟨rfl, Below.refl _ _⟩)
  have HHa : Hid (∀ W, Below w.heap.size w W → Calls Tryz.prog 11 #[.pointer (some ⟨e, 0, none⟩), .string key] W fun ee w' => ee = .returned (.bool t) ∧ Below W.heap.size W w') := fun W hW => by rw [ht]; exact hasM (HE.out.below hW) key hk
  have HLe : Hid (∀ W, Below w.heap.size w W → Calls Tryz.prog 37 #[.pointer (some ⟨e, 0, none⟩)] W fun ee w' => ee = .returned (.int .i64 (n : Nat)) ∧ Below W.heap.size W w') := fun W hW => by
    rw [hn]
    exact (lenM (HE.out.below hW) HO.out).mono (by rintro ee w' ⟨rfl, rfl⟩; exact ⟨rfl, Below.refl _ _⟩)
  have HC0 : Hid (∀ W, Below w.heap.size w W → W.cell? ⟨e, 0, none⟩ = some (.int .i64 (c : Nat))) := fun W hW => by rw [hc]; exact (HE.out.below hW).cells.1
  by_cases hin : key ∈ A.keys s
  · rw [A.load_no (.inl hin)]
    have ht2 : t = true := ht.trans (inb_yes hin)
    subst ht2
    clear H hD hok hin ht hn hc
    go_enter Tryz.func28, Tryz.ntmps28
    go_wp2_with fail
    refine Rg.region_low (by kernel_rfl) 15 5 rfl (Rg.Is (fun slot => [(.pointer (some ⟨e, 0, none⟩) : Value), (.bool false : Value), (.bool false : Value), (.pointer (some ⟨e, 0, none⟩) : Value), (.string key : Value), (.bool true : Value), (.bool true : Value), (.bool true : Value), (undef : Value), (undef : Value), (undef : Value), (undef : Value), (undef : Value), (undef : Value), (undef : Value), (.bool true : Value)].getD slot undef)) (fun W => Below w.heap.size w W) (Rg.lex_of (by kernel_rfl)) (Rg.wait_of (by kernel_rfl)) (by simp) (Below.refl _ _).drew ?_ ?_
    · intro i hi a' W hC hst hdep
      have hcase : i = 0 ∨ i = 1 ∨ i = 2 ∨ i = 3 ∨ i = 4 ∨ i = 5 ∨ i = 6 ∨ i = 7 ∨ i = 8 ∨ i = 9 ∨ i = 10 ∨ i = 11 ∨ i = 12 ∨ i = 13 ∨ i = 14 ∨ i = 15 := by omega
      rcases hcase with e1 | e1 | e1 | e1 | e1 | e1 | e1 | e1 | e1 | e1 | e1 | e1 | e1 | e1 | e1 | e1
      · subst e1
        have o0 := Rg.Still.at hst 0 (by omega)
        simp at o0
        refine Rg.low_same (v := .pointer (some ⟨e, 0, none⟩)) ?_ hC (Rg.Is.mk (j := 0))
        intro Kc hKc
        refine Rg.still_op rfl rfl ?_
        simp [Oper.wp, execOp, Act.eval, go_sem, o0]
        exact hKc
      · subst e1
        have d0 : a'.tmps[5]?.getD undef = .pointer (some ⟨e, 0, none⟩) := by simpa using (Rg.Is.is (hdep 0 (by kernel_rfl)))
        refine Rg.low_new (fun v w1 => v = .bool false ∧ Below W.heap.size W w1) ?_ ?_
        · intro Kc hKc
          refine Rg.still_op rfl rfl ?_
          simp [Oper.wp, execOp, Act.eval, go_sem, d0]
          refine Calls.mono (HBl.out W hC) ?_
          rintro ee w5 ⟨rfl, hb5⟩
          exact hKc _ _ ⟨rfl, hb5⟩
        · rintro v w1 ⟨rfl, hb1⟩
          exact ⟨below_trans hC hb1, Rg.Is.mk (j := 1), fun _ _ h => h⟩
      · subst e1
        have d1 : a'.tmps[6]?.getD undef = .bool false := by simpa using (Rg.Is.is (hdep 1 (by kernel_rfl)))
        refine Rg.low_same (v := .bool false) ?_ hC (Rg.Is.mk (j := 2))
        intro Kc hKc
        refine Rg.still_op rfl rfl ?_
        simp [Oper.wp, execOp, Act.eval, go_sem, d1]
        exact hKc
      · subst e1
        have o0 := Rg.Still.at hst 0 (by omega)
        simp at o0
        refine Rg.low_same (v := .pointer (some ⟨e, 0, none⟩)) ?_ hC (Rg.Is.mk (j := 3))
        intro Kc hKc
        refine Rg.still_on rfl rfl rfl rfl (Rg.Is.is (hdep 2 (by kernel_rfl))) ?_
        simp [Oper.wp, execOp, Act.eval, go_sem, o0]
        exact hKc
      · subst e1
        have o1 := Rg.Still.at hst 1 (by omega)
        simp at o1
        refine Rg.low_same (v := .string key) ?_ hC (Rg.Is.mk (j := 4))
        intro Kc hKc
        refine Rg.still_on rfl rfl rfl rfl (Rg.Is.is (hdep 2 (by kernel_rfl))) ?_
        simp [Oper.wp, execOp, Act.eval, go_sem, o1]
        exact hKc
      · subst e1
        have d3 : a'.tmps[8]?.getD undef = .pointer (some ⟨e, 0, none⟩) := by simpa using (Rg.Is.is (hdep 3 (by kernel_rfl)))
        have d4 : a'.tmps[9]?.getD undef = .string key := by simpa using (Rg.Is.is (hdep 4 (by kernel_rfl)))
        refine Rg.low_new (fun v w1 => v = .bool true ∧ Below W.heap.size W w1) ?_ ?_
        · intro Kc hKc
          refine Rg.still_on rfl rfl rfl rfl (Rg.Is.is (hdep 2 (by kernel_rfl))) ?_
          simp [Oper.wp, execOp, Act.eval, go_sem, d3, d4]
          refine Calls.mono (HHa.out W hC) ?_
          rintro ee w5 ⟨rfl, hb5⟩
          exact hKc _ _ ⟨rfl, hb5⟩
        · rintro v w1 ⟨rfl, hb1⟩
          exact ⟨below_trans hC hb1, Rg.Is.mk (j := 5), fun _ _ h => h⟩
      · subst e1
        have d2 : a'.tmps[7]?.getD undef = .bool false := by simpa using (Rg.Is.is (hdep 2 (by kernel_rfl)))
        have d5 : a'.tmps[10]?.getD undef = .bool true := by simpa using (Rg.Is.is (hdep 5 (by kernel_rfl)))
        refine Rg.low_same (v := .bool true) ?_ hC (Rg.Is.mk (j := 6))
        intro Kc hKc
        refine Rg.still_op rfl rfl ?_
        simp [Oper.wp, execOp, Act.eval, go_sem, d2, d5]
        exact hKc
      · subst e1
        have d6 : a'.tmps[11]?.getD undef = .bool true := by simpa using (Rg.Is.is (hdep 6 (by kernel_rfl)))
        refine Rg.low_same (v := .bool true) ?_ hC (Rg.Is.mk (j := 7))
        intro Kc hKc
        refine Rg.still_op rfl rfl ?_
        simp [Oper.wp, execOp, Act.eval, go_sem, d6]
        exact hKc
      · subst e1
        refine Rg.low_same (v := undef) ?_ hC (Rg.Is.mk (j := 8))
        intro Kc hKc
        exact Rg.still_off rfl rfl rfl rfl (Rg.Is.is (hdep 7 (by kernel_rfl))) rfl hKc
      · subst e1
        refine Rg.low_same (v := undef) ?_ hC (Rg.Is.mk (j := 9))
        intro Kc hKc
        exact Rg.still_off rfl rfl rfl rfl (Rg.Is.is (hdep 7 (by kernel_rfl))) rfl hKc
      · subst e1
        refine Rg.low_same (v := undef) ?_ hC (Rg.Is.mk (j := 10))
        intro Kc hKc
        exact Rg.still_off rfl rfl rfl rfl (Rg.Is.is (hdep 7 (by kernel_rfl))) rfl hKc
      · subst e1
        refine Rg.low_same (v := undef) ?_ hC (Rg.Is.mk (j := 11))
        intro Kc hKc
        exact Rg.still_off rfl rfl rfl rfl (Rg.Is.is (hdep 7 (by kernel_rfl))) rfl hKc
      · subst e1
        refine Rg.low_same (v := undef) ?_ hC (Rg.Is.mk (j := 12))
        intro Kc hKc
        exact Rg.still_off rfl rfl rfl rfl (Rg.Is.is (hdep 7 (by kernel_rfl))) rfl hKc
      · subst e1
        refine Rg.low_same (v := undef) ?_ hC (Rg.Is.mk (j := 13))
        intro Kc hKc
        exact Rg.still_off rfl rfl rfl rfl (Rg.Is.is (hdep 7 (by kernel_rfl))) rfl hKc
      · subst e1
        refine Rg.low_same (v := undef) ?_ hC (Rg.Is.mk (j := 14))
        intro Kc hKc
        exact Rg.still_off rfl rfl rfl rfl (Rg.Is.is (hdep 7 (by kernel_rfl))) rfl hKc
      · subst e1
        have d7 : a'.tmps[12]?.getD undef = .bool true := by simpa using (Rg.Is.is (hdep 7 (by kernel_rfl)))
        refine Rg.low_same (v := .bool true) ?_ hC (Rg.Is.mk (j := 15))
        intro Kc hKc
        refine Rg.still_op rfl rfl ?_
        simp [Oper.wp, execOp, Act.eval, go_sem, d7]
        exact hKc
    intro vs W hC hF
    have hv0 : vs 0 = .pointer (some ⟨e, 0, none⟩) := Rg.Is.is (hF 0 (by omega))
    have hv1 : vs 1 = .bool false := Rg.Is.is (hF 1 (by omega))
    have hv2 : vs 2 = .bool false := Rg.Is.is (hF 2 (by omega))
    have hv3 : vs 3 = .pointer (some ⟨e, 0, none⟩) := Rg.Is.is (hF 3 (by omega))
    have hv4 : vs 4 = .string key := Rg.Is.is (hF 4 (by omega))
    have hv5 : vs 5 = .bool true := Rg.Is.is (hF 5 (by omega))
    have hv6 : vs 6 = .bool true := Rg.Is.is (hF 6 (by omega))
    have hv7 : vs 7 = .bool true := Rg.Is.is (hF 7 (by omega))
    have hv8 : vs 8 = undef := Rg.Is.is (hF 8 (by omega))
    have hv9 : vs 9 = undef := Rg.Is.is (hF 9 (by omega))
    have hv10 : vs 10 = undef := Rg.Is.is (hF 10 (by omega))
    have hv11 : vs 11 = undef := Rg.Is.is (hF 11 (by omega))
    have hv12 : vs 12 = undef := Rg.Is.is (hF 12 (by omega))
    have hv13 : vs 13 = undef := Rg.Is.is (hF 13 (by omega))
    have hv14 : vs 14 = undef := Rg.Is.is (hF 14 (by omega))
    have hv15 : vs 15 = .bool true := Rg.Is.is (hF 15 (by omega))
    simp only [Rg.fillA, Act.put, List.setIfInBounds_toArray, List.set_cons_succ, List.set_cons_zero, Nat.reduceAdd, Nat.add_zero]
    rw [hv0, hv1, hv2, hv3, hv4, hv5, hv6, hv7, hv8, hv9, hv10, hv11, hv12, hv13, hv14, hv15]
    go_wp2_with fail
    go_ret
    exact ⟨rfl, ⟨_, HE.out.below hC⟩, .of_below hC⟩
  · have ht2 : t = false := ht.trans (inb_no hin)
    subst ht2
    by_cases hfull : c ≤ n
    · rw [A.load_no (.inr (by omega))]
      clear H hD hok hin ht hn hc
      go_enter Tryz.func28, Tryz.ntmps28
      go_wp2_with fail
      refine Rg.region_low (by kernel_rfl) 15 5 rfl (Rg.Is (fun slot => [(.pointer (some ⟨e, 0, none⟩) : Value), (.bool false : Value), (.bool false : Value), (.pointer (some ⟨e, 0, none⟩) : Value), (.string key : Value), (.bool false : Value), (.bool false : Value), (.bool false : Value), (.pointer (some ⟨e, 0, none⟩) : Value), (.int .i64 (n : Nat) : Value), (.pointer (some ⟨e, 0, none⟩) : Value), (.pointer (some ⟨e, 0, none⟩) : Value), (.pointer (some ⟨e, 0, none⟩) : Value), (.int .i64 (c : Nat) : Value), (.bool true : Value), (.bool true : Value)].getD slot undef)) (fun W => Below w.heap.size w W) (Rg.lex_of (by kernel_rfl)) (Rg.wait_of (by kernel_rfl)) (by simp) (Below.refl _ _).drew ?_ ?_
      · intro i hi a' W hC hst hdep
        have hcase : i = 0 ∨ i = 1 ∨ i = 2 ∨ i = 3 ∨ i = 4 ∨ i = 5 ∨ i = 6 ∨ i = 7 ∨ i = 8 ∨ i = 9 ∨ i = 10 ∨ i = 11 ∨ i = 12 ∨ i = 13 ∨ i = 14 ∨ i = 15 := by omega
        rcases hcase with e1 | e1 | e1 | e1 | e1 | e1 | e1 | e1 | e1 | e1 | e1 | e1 | e1 | e1 | e1 | e1
        · subst e1
          have o0 := Rg.Still.at hst 0 (by omega)
          simp at o0
          refine Rg.low_same (v := .pointer (some ⟨e, 0, none⟩)) ?_ hC (Rg.Is.mk (j := 0))
          intro Kc hKc
          refine Rg.still_op rfl rfl ?_
          simp [Oper.wp, execOp, Act.eval, go_sem, o0]
          exact hKc
        · subst e1
          have d0 : a'.tmps[5]?.getD undef = .pointer (some ⟨e, 0, none⟩) := by simpa using (Rg.Is.is (hdep 0 (by kernel_rfl)))
          refine Rg.low_new (fun v w1 => v = .bool false ∧ Below W.heap.size W w1) ?_ ?_
          · intro Kc hKc
            refine Rg.still_op rfl rfl ?_
            simp [Oper.wp, execOp, Act.eval, go_sem, d0]
            refine Calls.mono (HBl.out W hC) ?_
            rintro ee w5 ⟨rfl, hb5⟩
            exact hKc _ _ ⟨rfl, hb5⟩
          · rintro v w1 ⟨rfl, hb1⟩
            exact ⟨below_trans hC hb1, Rg.Is.mk (j := 1), fun _ _ h => h⟩
        · subst e1
          have d1 : a'.tmps[6]?.getD undef = .bool false := by simpa using (Rg.Is.is (hdep 1 (by kernel_rfl)))
          refine Rg.low_same (v := .bool false) ?_ hC (Rg.Is.mk (j := 2))
          intro Kc hKc
          refine Rg.still_op rfl rfl ?_
          simp [Oper.wp, execOp, Act.eval, go_sem, d1]
          exact hKc
        · subst e1
          have o0 := Rg.Still.at hst 0 (by omega)
          simp at o0
          refine Rg.low_same (v := .pointer (some ⟨e, 0, none⟩)) ?_ hC (Rg.Is.mk (j := 3))
          intro Kc hKc
          refine Rg.still_on rfl rfl rfl rfl (Rg.Is.is (hdep 2 (by kernel_rfl))) ?_
          simp [Oper.wp, execOp, Act.eval, go_sem, o0]
          exact hKc
        · subst e1
          have o1 := Rg.Still.at hst 1 (by omega)
          simp at o1
          refine Rg.low_same (v := .string key) ?_ hC (Rg.Is.mk (j := 4))
          intro Kc hKc
          refine Rg.still_on rfl rfl rfl rfl (Rg.Is.is (hdep 2 (by kernel_rfl))) ?_
          simp [Oper.wp, execOp, Act.eval, go_sem, o1]
          exact hKc
        · subst e1
          have d3 : a'.tmps[8]?.getD undef = .pointer (some ⟨e, 0, none⟩) := by simpa using (Rg.Is.is (hdep 3 (by kernel_rfl)))
          have d4 : a'.tmps[9]?.getD undef = .string key := by simpa using (Rg.Is.is (hdep 4 (by kernel_rfl)))
          refine Rg.low_new (fun v w1 => v = .bool false ∧ Below W.heap.size W w1) ?_ ?_
          · intro Kc hKc
            refine Rg.still_on rfl rfl rfl rfl (Rg.Is.is (hdep 2 (by kernel_rfl))) ?_
            simp [Oper.wp, execOp, Act.eval, go_sem, d3, d4]
            refine Calls.mono (HHa.out W hC) ?_
            rintro ee w5 ⟨rfl, hb5⟩
            exact hKc _ _ ⟨rfl, hb5⟩
          · rintro v w1 ⟨rfl, hb1⟩
            exact ⟨below_trans hC hb1, Rg.Is.mk (j := 5), fun _ _ h => h⟩
        · subst e1
          have d2 : a'.tmps[7]?.getD undef = .bool false := by simpa using (Rg.Is.is (hdep 2 (by kernel_rfl)))
          have d5 : a'.tmps[10]?.getD undef = .bool false := by simpa using (Rg.Is.is (hdep 5 (by kernel_rfl)))
          refine Rg.low_same (v := .bool false) ?_ hC (Rg.Is.mk (j := 6))
          intro Kc hKc
          refine Rg.still_op rfl rfl ?_
          simp [Oper.wp, execOp, Act.eval, go_sem, d2, d5]
          exact hKc
        · subst e1
          have d6 : a'.tmps[11]?.getD undef = .bool false := by simpa using (Rg.Is.is (hdep 6 (by kernel_rfl)))
          refine Rg.low_same (v := .bool false) ?_ hC (Rg.Is.mk (j := 7))
          intro Kc hKc
          refine Rg.still_op rfl rfl ?_
          simp [Oper.wp, execOp, Act.eval, go_sem, d6]
          exact hKc
        · subst e1
          have o0 := Rg.Still.at hst 0 (by omega)
          simp at o0
          refine Rg.low_same (v := .pointer (some ⟨e, 0, none⟩)) ?_ hC (Rg.Is.mk (j := 8))
          intro Kc hKc
          refine Rg.still_on rfl rfl rfl rfl (Rg.Is.is (hdep 7 (by kernel_rfl))) ?_
          simp [Oper.wp, execOp, Act.eval, go_sem, o0]
          exact hKc
        · subst e1
          have d8 : a'.tmps[13]?.getD undef = .pointer (some ⟨e, 0, none⟩) := by simpa using (Rg.Is.is (hdep 8 (by kernel_rfl)))
          refine Rg.low_new (fun v w1 => v = .int .i64 (n : Nat) ∧ Below W.heap.size W w1) ?_ ?_
          · intro Kc hKc
            refine Rg.still_on rfl rfl rfl rfl (Rg.Is.is (hdep 7 (by kernel_rfl))) ?_
            simp [Oper.wp, execOp, Act.eval, go_sem, d8]
            refine Calls.mono (HLe.out W hC) ?_
            rintro ee w5 ⟨rfl, hb5⟩
            exact hKc _ _ ⟨rfl, hb5⟩
          · rintro v w1 ⟨rfl, hb1⟩
            exact ⟨below_trans hC hb1, Rg.Is.mk (j := 9), fun _ _ h => h⟩
        · subst e1
          have o0 := Rg.Still.at hst 0 (by omega)
          simp at o0
          refine Rg.low_same (v := .pointer (some ⟨e, 0, none⟩)) ?_ hC (Rg.Is.mk (j := 10))
          intro Kc hKc
          refine Rg.still_on rfl rfl rfl rfl (Rg.Is.is (hdep 7 (by kernel_rfl))) ?_
          simp [Oper.wp, execOp, Act.eval, go_sem, o0]
          exact hKc
        · subst e1
          have d10 : a'.tmps[15]?.getD undef = .pointer (some ⟨e, 0, none⟩) := by simpa using (Rg.Is.is (hdep 10 (by kernel_rfl)))
          refine Rg.low_same (v := .pointer (some ⟨e, 0, none⟩)) ?_ hC (Rg.Is.mk (j := 11))
          intro Kc hKc
          refine Rg.still_on rfl rfl rfl rfl (Rg.Is.is (hdep 7 (by kernel_rfl))) ?_
          simp [Oper.wp, execOp, Act.eval, go_sem, d10]
          exact hKc
        · subst e1
          have d11 : a'.tmps[16]?.getD undef = .pointer (some ⟨e, 0, none⟩) := by simpa using (Rg.Is.is (hdep 11 (by kernel_rfl)))
          refine Rg.low_same (v := .pointer (some ⟨e, 0, none⟩)) ?_ hC (Rg.Is.mk (j := 12))
          intro Kc hKc
          refine Rg.still_on rfl rfl rfl rfl (Rg.Is.is (hdep 7 (by kernel_rfl))) ?_
          simp [Oper.wp, execOp, Act.eval, go_sem, d11]
          exact hKc
        · subst e1
          have d12 : a'.tmps[17]?.getD undef = .pointer (some ⟨e, 0, none⟩) := by simpa using (Rg.Is.is (hdep 12 (by kernel_rfl)))
          have c0' := HC0.out W hC
          refine Rg.low_same (v := .int .i64 (c : Nat)) ?_ hC (Rg.Is.mk (j := 13))
          intro Kc hKc
          refine Rg.still_on rfl rfl rfl rfl (Rg.Is.is (hdep 7 (by kernel_rfl))) ?_
          simp [Oper.wp, execOp, Act.eval, go_sem, d12, c0']
          exact hKc
        · subst e1
          have d9 : a'.tmps[14]?.getD undef = .int .i64 (n : Nat) := by simpa using (Rg.Is.is (hdep 9 (by kernel_rfl)))
          have d13 : a'.tmps[18]?.getD undef = .int .i64 (c : Nat) := by simpa using (Rg.Is.is (hdep 13 (by kernel_rfl)))
          refine Rg.low_same (v := .bool true) ?_ hC (Rg.Is.mk (j := 14))
          intro Kc hKc
          refine Rg.still_on rfl rfl rfl rfl (Rg.Is.is (hdep 7 (by kernel_rfl))) ?_
          simp [Oper.wp, execOp, Act.eval, go_sem, d9, d13, hfull]
          exact hKc
        · subst e1
          have d7 : a'.tmps[12]?.getD undef = .bool false := by simpa using (Rg.Is.is (hdep 7 (by kernel_rfl)))
          have d14 : a'.tmps[19]?.getD undef = .bool true := by simpa using (Rg.Is.is (hdep 14 (by kernel_rfl)))
          refine Rg.low_same (v := .bool true) ?_ hC (Rg.Is.mk (j := 15))
          intro Kc hKc
          refine Rg.still_op rfl rfl ?_
          simp [Oper.wp, execOp, Act.eval, go_sem, d7, d14]
          exact hKc
      intro vs W hC hF
      have hv0 : vs 0 = .pointer (some ⟨e, 0, none⟩) := Rg.Is.is (hF 0 (by omega))
      have hv1 : vs 1 = .bool false := Rg.Is.is (hF 1 (by omega))
      have hv2 : vs 2 = .bool false := Rg.Is.is (hF 2 (by omega))
      have hv3 : vs 3 = .pointer (some ⟨e, 0, none⟩) := Rg.Is.is (hF 3 (by omega))
      have hv4 : vs 4 = .string key := Rg.Is.is (hF 4 (by omega))
      have hv5 : vs 5 = .bool false := Rg.Is.is (hF 5 (by omega))
      have hv6 : vs 6 = .bool false := Rg.Is.is (hF 6 (by omega))
      have hv7 : vs 7 = .bool false := Rg.Is.is (hF 7 (by omega))
      have hv8 : vs 8 = .pointer (some ⟨e, 0, none⟩) := Rg.Is.is (hF 8 (by omega))
      have hv9 : vs 9 = .int .i64 (n : Nat) := Rg.Is.is (hF 9 (by omega))
      have hv10 : vs 10 = .pointer (some ⟨e, 0, none⟩) := Rg.Is.is (hF 10 (by omega))
      have hv11 : vs 11 = .pointer (some ⟨e, 0, none⟩) := Rg.Is.is (hF 11 (by omega))
      have hv12 : vs 12 = .pointer (some ⟨e, 0, none⟩) := Rg.Is.is (hF 12 (by omega))
      have hv13 : vs 13 = .int .i64 (c : Nat) := Rg.Is.is (hF 13 (by omega))
      have hv14 : vs 14 = .bool true := Rg.Is.is (hF 14 (by omega))
      have hv15 : vs 15 = .bool true := Rg.Is.is (hF 15 (by omega))
      simp only [Rg.fillA, Act.put, List.setIfInBounds_toArray, List.set_cons_succ, List.set_cons_zero, Nat.reduceAdd, Nat.add_zero]
      rw [hv0, hv1, hv2, hv3, hv4, hv5, hv6, hv7, hv8, hv9, hv10, hv11, hv12, hv13, hv14, hv15]
      go_wp2_with fail
      go_ret
      exact ⟨rfl, ⟨_, HE.out.below hC⟩, .of_below hC⟩
    · have HM : Hid (m key = none) := H.lost hin
      have hmf : ∀ W, Below w.heap.size w W → Calls Tryz.prog 58 #[.pointer (some ⟨e, 0, none⟩)] W fun ee w' => ee = .returned (.bool (decide (mr s.c ≤ s.b1.length + s.t2.length))) ∧ Below W.heap.size W w' := fun W hW => full_any (HE.out.below hW) hlo hc1 (by omega)
      by_cases hm : mr s.c ≤ s.b1.length + s.t2.length
      · have e0 : A.load s key = (true, { s with t1 := s.t1 ++ [key] }) := by
          unfold A.load
          rw [if_neg (by intro h3; rcases h3 with h3 | h3; exact hin h3; omega), if_pos (show A.mroom s ≤ _ from hm)]
        rw [e0]
        rw [decide_eq_true hm] at hmf
        have HMf : Hid _ := hmf
        have HU : Hid (∀ j, j < 3 → qs { s with t1 := s.t1 ++ [key] } j = laid (qs s) key 0 j) := come_rows hin
        clear H hD hok hin ht hn hc e0 hm hmf hll
        go_enter Tryz.func28, Tryz.ntmps28
        go_wp2_with fail
        refine Rg.region_low (by kernel_rfl) 15 5 rfl (Rg.Is (fun slot => [(.pointer (some ⟨e, 0, none⟩) : Value), (.bool false : Value), (.bool false : Value), (.pointer (some ⟨e, 0, none⟩) : Value), (.string key : Value), (.bool false : Value), (.bool false : Value), (.bool false : Value), (.pointer (some ⟨e, 0, none⟩) : Value), (.int .i64 (n : Nat) : Value), (.pointer (some ⟨e, 0, none⟩) : Value), (.pointer (some ⟨e, 0, none⟩) : Value), (.pointer (some ⟨e, 0, none⟩) : Value), (.int .i64 (c : Nat) : Value), (.bool false : Value), (.bool false : Value)].getD slot undef)) (fun W => Below w.heap.size w W) (Rg.lex_of (by kernel_rfl)) (Rg.wait_of (by kernel_rfl)) (by simp) (Below.refl _ _).drew ?_ ?_
        · intro i hi a' W hC hst hdep
          have hcase : i = 0 ∨ i = 1 ∨ i = 2 ∨ i = 3 ∨ i = 4 ∨ i = 5 ∨ i = 6 ∨ i = 7 ∨ i = 8 ∨ i = 9 ∨ i = 10 ∨ i = 11 ∨ i = 12 ∨ i = 13 ∨ i = 14 ∨ i = 15 := by omega
          rcases hcase with e1 | e1 | e1 | e1 | e1 | e1 | e1 | e1 | e1 | e1 | e1 | e1 | e1 | e1 | e1 | e1
          · subst e1
            have o0 := Rg.Still.at hst 0 (by omega)
            simp at o0
            refine Rg.low_same (v := .pointer (some ⟨e, 0, none⟩)) ?_ hC (Rg.Is.mk (j := 0))
            intro Kc hKc
            refine Rg.still_op rfl rfl ?_
            simp [Oper.wp, execOp, Act.eval, go_sem, o0]
            exact hKc
          · subst e1
            have d0 : a'.tmps[5]?.getD undef = .pointer (some ⟨e, 0, none⟩) := by simpa using (Rg.Is.is (hdep 0 (by kernel_rfl)))
            refine Rg.low_new (fun v w1 => v = .bool false ∧ Below W.heap.size W w1) ?_ ?_
            · intro Kc hKc
              refine Rg.still_op rfl rfl ?_
              simp [Oper.wp, execOp, Act.eval, go_sem, d0]
              refine Calls.mono (HBl.out W hC) ?_
              rintro ee w5 ⟨rfl, hb5⟩
              exact hKc _ _ ⟨rfl, hb5⟩
            · rintro v w1 ⟨rfl, hb1⟩
              exact ⟨below_trans hC hb1, Rg.Is.mk (j := 1), fun _ _ h => h⟩
          · subst e1
            have d1 : a'.tmps[6]?.getD undef = .bool false := by simpa using (Rg.Is.is (hdep 1 (by kernel_rfl)))
            refine Rg.low_same (v := .bool false) ?_ hC (Rg.Is.mk (j := 2))
            intro Kc hKc
            refine Rg.still_op rfl rfl ?_
            simp [Oper.wp, execOp, Act.eval, go_sem, d1]
            exact hKc
          · subst e1
            have o0 := Rg.Still.at hst 0 (by omega)
            simp at o0
            refine Rg.low_same (v := .pointer (some ⟨e, 0, none⟩)) ?_ hC (Rg.Is.mk (j := 3))
            intro Kc hKc
            refine Rg.still_on rfl rfl rfl rfl (Rg.Is.is (hdep 2 (by kernel_rfl))) ?_
            simp [Oper.wp, execOp, Act.eval, go_sem, o0]
            exact hKc
          · subst e1
            have o1 := Rg.Still.at hst 1 (by omega)
            simp at o1
            refine Rg.low_same (v := .string key) ?_ hC (Rg.Is.mk (j := 4))
            intro Kc hKc
            refine Rg.still_on rfl rfl rfl rfl (Rg.Is.is (hdep 2 (by kernel_rfl))) ?_
            simp [Oper.wp, execOp, Act.eval, go_sem, o1]
            exact hKc
          · subst e1
            have d3 : a'.tmps[8]?.getD undef = .pointer (some ⟨e, 0, none⟩) := by simpa using (Rg.Is.is (hdep 3 (by kernel_rfl)))
            have d4 : a'.tmps[9]?.getD undef = .string key := by simpa using (Rg.Is.is (hdep 4 (by kernel_rfl)))
            refine Rg.low_new (fun v w1 => v = .bool false ∧ Below W.heap.size W w1) ?_ ?_
            · intro Kc hKc
              refine Rg.still_on rfl rfl rfl rfl (Rg.Is.is (hdep 2 (by kernel_rfl))) ?_
              simp [Oper.wp, execOp, Act.eval, go_sem, d3, d4]
              refine Calls.mono (HHa.out W hC) ?_
              rintro ee w5 ⟨rfl, hb5⟩
              exact hKc _ _ ⟨rfl, hb5⟩
            · rintro v w1 ⟨rfl, hb1⟩
              exact ⟨below_trans hC hb1, Rg.Is.mk (j := 5), fun _ _ h => h⟩
          · subst e1
            have d2 : a'.tmps[7]?.getD undef = .bool false := by simpa using (Rg.Is.is (hdep 2 (by kernel_rfl)))
            have d5 : a'.tmps[10]?.getD undef = .bool false := by simpa using (Rg.Is.is (hdep 5 (by kernel_rfl)))
            refine Rg.low_same (v := .bool false) ?_ hC (Rg.Is.mk (j := 6))
            intro Kc hKc
            refine Rg.still_op rfl rfl ?_
            simp [Oper.wp, execOp, Act.eval, go_sem, d2, d5]
            exact hKc
          · subst e1
            have d6 : a'.tmps[11]?.getD undef = .bool false := by simpa using (Rg.Is.is (hdep 6 (by kernel_rfl)))
            refine Rg.low_same (v := .bool false) ?_ hC (Rg.Is.mk (j := 7))
            intro Kc hKc
            refine Rg.still_op rfl rfl ?_
            simp [Oper.wp, execOp, Act.eval, go_sem, d6]
            exact hKc
          · subst e1
            have o0 := Rg.Still.at hst 0 (by omega)
            simp at o0
            refine Rg.low_same (v := .pointer (some ⟨e, 0, none⟩)) ?_ hC (Rg.Is.mk (j := 8))
            intro Kc hKc
            refine Rg.still_on rfl rfl rfl rfl (Rg.Is.is (hdep 7 (by kernel_rfl))) ?_
            simp [Oper.wp, execOp, Act.eval, go_sem, o0]
            exact hKc
          · subst e1
            have d8 : a'.tmps[13]?.getD undef = .pointer (some ⟨e, 0, none⟩) := by simpa using (Rg.Is.is (hdep 8 (by kernel_rfl)))
            refine Rg.low_new (fun v w1 => v = .int .i64 (n : Nat) ∧ Below W.heap.size W w1) ?_ ?_
            · intro Kc hKc
              refine Rg.still_on rfl rfl rfl rfl (Rg.Is.is (hdep 7 (by kernel_rfl))) ?_
              simp [Oper.wp, execOp, Act.eval, go_sem, d8]
              refine Calls.mono (HLe.out W hC) ?_
              rintro ee w5 ⟨rfl, hb5⟩
              exact hKc _ _ ⟨rfl, hb5⟩
            · rintro v w1 ⟨rfl, hb1⟩
              exact ⟨below_trans hC hb1, Rg.Is.mk (j := 9), fun _ _ h => h⟩
          · subst e1
            have o0 := Rg.Still.at hst 0 (by omega)
            simp at o0
            refine Rg.low_same (v := .pointer (some ⟨e, 0, none⟩)) ?_ hC (Rg.Is.mk (j := 10))
            intro Kc hKc
            refine Rg.still_on rfl rfl rfl rfl (Rg.Is.is (hdep 7 (by kernel_rfl))) ?_
            simp [Oper.wp, execOp, Act.eval, go_sem, o0]
            exact hKc
          · subst e1
            have d10 : a'.tmps[15]?.getD undef = .pointer (some ⟨e, 0, none⟩) := by simpa using (Rg.Is.is (hdep 10 (by kernel_rfl)))
            refine Rg.low_same (v := .pointer (some ⟨e, 0, none⟩)) ?_ hC (Rg.Is.mk (j := 11))
            intro Kc hKc
            refine Rg.still_on rfl rfl rfl rfl (Rg.Is.is (hdep 7 (by kernel_rfl))) ?_
            simp [Oper.wp, execOp, Act.eval, go_sem, d10]
            exact hKc
          · subst e1
            have d11 : a'.tmps[16]?.getD undef = .pointer (some ⟨e, 0, none⟩) := by simpa using (Rg.Is.is (hdep 11 (by kernel_rfl)))
            refine Rg.low_same (v := .pointer (some ⟨e, 0, none⟩)) ?_ hC (Rg.Is.mk (j := 12))
            intro Kc hKc
            refine Rg.still_on rfl rfl rfl rfl (Rg.Is.is (hdep 7 (by kernel_rfl))) ?_
            simp [Oper.wp, execOp, Act.eval, go_sem, d11]
            exact hKc
          · subst e1
            have d12 : a'.tmps[17]?.getD undef = .pointer (some ⟨e, 0, none⟩) := by simpa using (Rg.Is.is (hdep 12 (by kernel_rfl)))
            have c0' := HC0.out W hC
            refine Rg.low_same (v := .int .i64 (c : Nat)) ?_ hC (Rg.Is.mk (j := 13))
            intro Kc hKc
            refine Rg.still_on rfl rfl rfl rfl (Rg.Is.is (hdep 7 (by kernel_rfl))) ?_
            simp [Oper.wp, execOp, Act.eval, go_sem, d12, c0']
            exact hKc
          · subst e1
            have d9 : a'.tmps[14]?.getD undef = .int .i64 (n : Nat) := by simpa using (Rg.Is.is (hdep 9 (by kernel_rfl)))
            have d13 : a'.tmps[18]?.getD undef = .int .i64 (c : Nat) := by simpa using (Rg.Is.is (hdep 13 (by kernel_rfl)))
            refine Rg.low_same (v := .bool false) ?_ hC (Rg.Is.mk (j := 14))
            intro Kc hKc
            refine Rg.still_on rfl rfl rfl rfl (Rg.Is.is (hdep 7 (by kernel_rfl))) ?_
            simp [Oper.wp, execOp, Act.eval, go_sem, d9, d13, hfull]
            exact hKc
          · subst e1
            have d7 : a'.tmps[12]?.getD undef = .bool false := by simpa using (Rg.Is.is (hdep 7 (by kernel_rfl)))
            have d14 : a'.tmps[19]?.getD undef = .bool false := by simpa using (Rg.Is.is (hdep 14 (by kernel_rfl)))
            refine Rg.low_same (v := .bool false) ?_ hC (Rg.Is.mk (j := 15))
            intro Kc hKc
            refine Rg.still_op rfl rfl ?_
            simp [Oper.wp, execOp, Act.eval, go_sem, d7, d14]
            exact hKc
        intro vs W hC hF
        have hv0 : vs 0 = .pointer (some ⟨e, 0, none⟩) := Rg.Is.is (hF 0 (by omega))
        have hv1 : vs 1 = .bool false := Rg.Is.is (hF 1 (by omega))
        have hv2 : vs 2 = .bool false := Rg.Is.is (hF 2 (by omega))
        have hv3 : vs 3 = .pointer (some ⟨e, 0, none⟩) := Rg.Is.is (hF 3 (by omega))
        have hv4 : vs 4 = .string key := Rg.Is.is (hF 4 (by omega))
        have hv5 : vs 5 = .bool false := Rg.Is.is (hF 5 (by omega))
        have hv6 : vs 6 = .bool false := Rg.Is.is (hF 6 (by omega))
        have hv7 : vs 7 = .bool false := Rg.Is.is (hF 7 (by omega))
        have hv8 : vs 8 = .pointer (some ⟨e, 0, none⟩) := Rg.Is.is (hF 8 (by omega))
        have hv9 : vs 9 = .int .i64 (n : Nat) := Rg.Is.is (hF 9 (by omega))
        have hv10 : vs 10 = .pointer (some ⟨e, 0, none⟩) := Rg.Is.is (hF 10 (by omega))
        have hv11 : vs 11 = .pointer (some ⟨e, 0, none⟩) := Rg.Is.is (hF 11 (by omega))
        have hv12 : vs 12 = .pointer (some ⟨e, 0, none⟩) := Rg.Is.is (hF 12 (by omega))
        have hv13 : vs 13 = .int .i64 (c : Nat) := Rg.Is.is (hF 13 (by omega))
        have hv14 : vs 14 = .bool false := Rg.Is.is (hF 14 (by omega))
        have hv15 : vs 15 = .bool false := Rg.Is.is (hF 15 (by omega))
        simp only [Rg.fillA, Act.put, List.setIfInBounds_toArray, List.set_cons_succ, List.set_cons_zero, Nat.reduceAdd, Nat.add_zero]
        rw [hv0, hv1, hv2, hv3, hv4, hv5, hv6, hv7, hv8, hv9, hv10, hv11, hv12, hv13, hv14, hv15]
        have HCw : Hid (Below w.heap.size w W) := hC
        clear hC hF
        go_wp2_with (first
          | (go_at_call 58; refine (HMf.out W HCw.out).mono ?_; rintro ee w3 ⟨rfl, hb3⟩; have HB3 : Hid (Below w.heap.size w w3) := below_trans HCw.out hb3; clear hb3)
          | (go_at_call 48; refine (admit_any (HE.out.below HB3.out) (fun k hk => HD.out k (Nat.le_trans HB3.out.size hk)) (by omega) key hk HM.out 0 (by omega) HTot.out).mono ?_; rintro ee w4 ⟨rfl, ⟨h', h4⟩, hk4⟩; have H4 : Hid (MB e z { s with t1 := s.t1 ++ [key] } D w4) := ⟨_, h4.congr HU.out⟩; clear h4))
        go_ret
        exact ⟨rfl, H4.out, (Keeps.of_below HB3.out).trans hk4⟩
      · have e0 : A.load s key = (true, { s with b1 := s.b1 ++ [key] }) := by
          unfold A.load
          rw [if_neg (by intro h3; rcases h3 with h3 | h3; exact hin h3; omega), if_neg (show ¬ A.mroom s ≤ _ from hm)]
        rw [e0]
        rw [decide_eq_false hm] at hmf
        have HMf : Hid _ := hmf
        have HU : Hid (∀ j, j < 3 → qs { s with b1 := s.b1 ++ [key] } j = laid (qs s) key 1 j) := load_main hin
        clear H hD hok hin ht hn hc e0 hm hmf hll
        go_enter Tryz.func28, Tryz.ntmps28
        go_wp2_with fail
        refine Rg.region_low (by kernel_rfl) 15 5 rfl (Rg.Is (fun slot => [(.pointer (some ⟨e, 0, none⟩) : Value), (.bool false : Value), (.bool false : Value), (.pointer (some ⟨e, 0, none⟩) : Value), (.string key : Value), (.bool false : Value), (.bool false : Value), (.bool false : Value), (.pointer (some ⟨e, 0, none⟩) : Value), (.int .i64 (n : Nat) : Value), (.pointer (some ⟨e, 0, none⟩) : Value), (.pointer (some ⟨e, 0, none⟩) : Value), (.pointer (some ⟨e, 0, none⟩) : Value), (.int .i64 (c : Nat) : Value), (.bool false : Value), (.bool false : Value)].getD slot undef)) (fun W => Below w.heap.size w W) (Rg.lex_of (by kernel_rfl)) (Rg.wait_of (by kernel_rfl)) (by simp) (Below.refl _ _).drew ?_ ?_
        · intro i hi a' W hC hst hdep
          have hcase : i = 0 ∨ i = 1 ∨ i = 2 ∨ i = 3 ∨ i = 4 ∨ i = 5 ∨ i = 6 ∨ i = 7 ∨ i = 8 ∨ i = 9 ∨ i = 10 ∨ i = 11 ∨ i = 12 ∨ i = 13 ∨ i = 14 ∨ i = 15 := by omega
          rcases hcase with e1 | e1 | e1 | e1 | e1 | e1 | e1 | e1 | e1 | e1 | e1 | e1 | e1 | e1 | e1 | e1
          · subst e1
            have o0 := Rg.Still.at hst 0 (by omega)
            simp at o0
            refine Rg.low_same (v := .pointer (some ⟨e, 0, none⟩)) ?_ hC (Rg.Is.mk (j := 0))
            intro Kc hKc
            refine Rg.still_op rfl rfl ?_
            simp [Oper.wp, execOp, Act.eval, go_sem, o0]
            exact hKc
          · subst e1
            have d0 : a'.tmps[5]?.getD undef = .pointer (some ⟨e, 0, none⟩) := by simpa using (Rg.Is.is (hdep 0 (by kernel_rfl)))
            refine Rg.low_new (fun v w1 => v = .bool false ∧ Below W.heap.size W w1) ?_ ?_
            · intro Kc hKc
              refine Rg.still_op rfl rfl ?_
              simp [Oper.wp, execOp, Act.eval, go_sem, d0]
              refine Calls.mono (HBl.out W hC) ?_
              rintro ee w5 ⟨rfl, hb5⟩
              exact hKc _ _ ⟨rfl, hb5⟩
            · rintro v w1 ⟨rfl, hb1⟩
              exact ⟨below_trans hC hb1, Rg.Is.mk (j := 1), fun _ _ h => h⟩
          · subst e1
            have d1 : a'.tmps[6]?.getD undef = .bool false := by simpa using (Rg.Is.is (hdep 1 (by kernel_rfl)))
            refine Rg.low_same (v := .bool false) ?_ hC (Rg.Is.mk (j := 2))
            intro Kc hKc
            refine Rg.still_op rfl rfl ?_
            simp [Oper.wp, execOp, Act.eval, go_sem, d1]
            exact hKc
          · subst e1
            have o0 := Rg.Still.at hst 0 (by omega)
            simp at o0
            refine Rg.low_same (v := .pointer (some ⟨e, 0, none⟩)) ?_ hC (Rg.Is.mk (j := 3))
            intro Kc hKc
            refine Rg.still_on rfl rfl rfl rfl (Rg.Is.is (hdep 2 (by kernel_rfl))) ?_
            simp [Oper.wp, execOp, Act.eval, go_sem, o0]
            exact hKc
          · subst e1
            have o1 := Rg.Still.at hst 1 (by omega)
            simp at o1
            refine Rg.low_same (v := .string key) ?_ hC (Rg.Is.mk (j := 4))
            intro Kc hKc
            refine Rg.still_on rfl rfl rfl rfl (Rg.Is.is (hdep 2 (by kernel_rfl))) ?_
            simp [Oper.wp, execOp, Act.eval, go_sem, o1]
            exact hKc
          · subst e1
            have d3 : a'.tmps[8]?.getD undef = .pointer (some ⟨e, 0, none⟩) := by simpa using (Rg.Is.is (hdep 3 (by kernel_rfl)))
            have d4 : a'.tmps[9]?.getD undef = .string key := by simpa using (Rg.Is.is (hdep 4 (by kernel_rfl)))
            refine Rg.low_new (fun v w1 => v = .bool false ∧ Below W.heap.size W w1) ?_ ?_
            · intro Kc hKc
              refine Rg.still_on rfl rfl rfl rfl (Rg.Is.is (hdep 2 (by kernel_rfl))) ?_
              simp [Oper.wp, execOp, Act.eval, go_sem, d3, d4]
              refine Calls.mono (HHa.out W hC) ?_
              rintro ee w5 ⟨rfl, hb5⟩
              exact hKc _ _ ⟨rfl, hb5⟩
            · rintro v w1 ⟨rfl, hb1⟩
              exact ⟨below_trans hC hb1, Rg.Is.mk (j := 5), fun _ _ h => h⟩
          · subst e1
            have d2 : a'.tmps[7]?.getD undef = .bool false := by simpa using (Rg.Is.is (hdep 2 (by kernel_rfl)))
            have d5 : a'.tmps[10]?.getD undef = .bool false := by simpa using (Rg.Is.is (hdep 5 (by kernel_rfl)))
            refine Rg.low_same (v := .bool false) ?_ hC (Rg.Is.mk (j := 6))
            intro Kc hKc
            refine Rg.still_op rfl rfl ?_
            simp [Oper.wp, execOp, Act.eval, go_sem, d2, d5]
            exact hKc
          · subst e1
            have d6 : a'.tmps[11]?.getD undef = .bool false := by simpa using (Rg.Is.is (hdep 6 (by kernel_rfl)))
            refine Rg.low_same (v := .bool false) ?_ hC (Rg.Is.mk (j := 7))
            intro Kc hKc
            refine Rg.still_op rfl rfl ?_
            simp [Oper.wp, execOp, Act.eval, go_sem, d6]
            exact hKc
          · subst e1
            have o0 := Rg.Still.at hst 0 (by omega)
            simp at o0
            refine Rg.low_same (v := .pointer (some ⟨e, 0, none⟩)) ?_ hC (Rg.Is.mk (j := 8))
            intro Kc hKc
            refine Rg.still_on rfl rfl rfl rfl (Rg.Is.is (hdep 7 (by kernel_rfl))) ?_
            simp [Oper.wp, execOp, Act.eval, go_sem, o0]
            exact hKc
          · subst e1
            have d8 : a'.tmps[13]?.getD undef = .pointer (some ⟨e, 0, none⟩) := by simpa using (Rg.Is.is (hdep 8 (by kernel_rfl)))
            refine Rg.low_new (fun v w1 => v = .int .i64 (n : Nat) ∧ Below W.heap.size W w1) ?_ ?_
            · intro Kc hKc
              refine Rg.still_on rfl rfl rfl rfl (Rg.Is.is (hdep 7 (by kernel_rfl))) ?_
              simp [Oper.wp, execOp, Act.eval, go_sem, d8]
              refine Calls.mono (HLe.out W hC) ?_
              rintro ee w5 ⟨rfl, hb5⟩
              exact hKc _ _ ⟨rfl, hb5⟩
            · rintro v w1 ⟨rfl, hb1⟩
              exact ⟨below_trans hC hb1, Rg.Is.mk (j := 9), fun _ _ h => h⟩
          · subst e1
            have o0 := Rg.Still.at hst 0 (by omega)
            simp at o0
            refine Rg.low_same (v := .pointer (some ⟨e, 0, none⟩)) ?_ hC (Rg.Is.mk (j := 10))
            intro Kc hKc
            refine Rg.still_on rfl rfl rfl rfl (Rg.Is.is (hdep 7 (by kernel_rfl))) ?_
            simp [Oper.wp, execOp, Act.eval, go_sem, o0]
            exact hKc
          · subst e1
            have d10 : a'.tmps[15]?.getD undef = .pointer (some ⟨e, 0, none⟩) := by simpa using (Rg.Is.is (hdep 10 (by kernel_rfl)))
            refine Rg.low_same (v := .pointer (some ⟨e, 0, none⟩)) ?_ hC (Rg.Is.mk (j := 11))
            intro Kc hKc
            refine Rg.still_on rfl rfl rfl rfl (Rg.Is.is (hdep 7 (by kernel_rfl))) ?_
            simp [Oper.wp, execOp, Act.eval, go_sem, d10]
            exact hKc
          · subst e1
            have d11 : a'.tmps[16]?.getD undef = .pointer (some ⟨e, 0, none⟩) := by simpa using (Rg.Is.is (hdep 11 (by kernel_rfl)))
            refine Rg.low_same (v := .pointer (some ⟨e, 0, none⟩)) ?_ hC (Rg.Is.mk (j := 12))
            intro Kc hKc
            refine Rg.still_on rfl rfl rfl rfl (Rg.Is.is (hdep 7 (by kernel_rfl))) ?_
            simp [Oper.wp, execOp, Act.eval, go_sem, d11]
            exact hKc
          · subst e1
            have d12 : a'.tmps[17]?.getD undef = .pointer (some ⟨e, 0, none⟩) := by simpa using (Rg.Is.is (hdep 12 (by kernel_rfl)))
            have c0' := HC0.out W hC
            refine Rg.low_same (v := .int .i64 (c : Nat)) ?_ hC (Rg.Is.mk (j := 13))
            intro Kc hKc
            refine Rg.still_on rfl rfl rfl rfl (Rg.Is.is (hdep 7 (by kernel_rfl))) ?_
            simp [Oper.wp, execOp, Act.eval, go_sem, d12, c0']
            exact hKc
          · subst e1
            have d9 : a'.tmps[14]?.getD undef = .int .i64 (n : Nat) := by simpa using (Rg.Is.is (hdep 9 (by kernel_rfl)))
            have d13 : a'.tmps[18]?.getD undef = .int .i64 (c : Nat) := by simpa using (Rg.Is.is (hdep 13 (by kernel_rfl)))
            refine Rg.low_same (v := .bool false) ?_ hC (Rg.Is.mk (j := 14))
            intro Kc hKc
            refine Rg.still_on rfl rfl rfl rfl (Rg.Is.is (hdep 7 (by kernel_rfl))) ?_
            simp [Oper.wp, execOp, Act.eval, go_sem, d9, d13, hfull]
            exact hKc
          · subst e1
            have d7 : a'.tmps[12]?.getD undef = .bool false := by simpa using (Rg.Is.is (hdep 7 (by kernel_rfl)))
            have d14 : a'.tmps[19]?.getD undef = .bool false := by simpa using (Rg.Is.is (hdep 14 (by kernel_rfl)))
            refine Rg.low_same (v := .bool false) ?_ hC (Rg.Is.mk (j := 15))
            intro Kc hKc
            refine Rg.still_op rfl rfl ?_
            simp [Oper.wp, execOp, Act.eval, go_sem, d7, d14]
            exact hKc
        intro vs W hC hF
        have hv0 : vs 0 = .pointer (some ⟨e, 0, none⟩) := Rg.Is.is (hF 0 (by omega))
        have hv1 : vs 1 = .bool false := Rg.Is.is (hF 1 (by omega))
        have hv2 : vs 2 = .bool false := Rg.Is.is (hF 2 (by omega))
        have hv3 : vs 3 = .pointer (some ⟨e, 0, none⟩) := Rg.Is.is (hF 3 (by omega))
        have hv4 : vs 4 = .string key := Rg.Is.is (hF 4 (by omega))
        have hv5 : vs 5 = .bool false := Rg.Is.is (hF 5 (by omega))
        have hv6 : vs 6 = .bool false := Rg.Is.is (hF 6 (by omega))
        have hv7 : vs 7 = .bool false := Rg.Is.is (hF 7 (by omega))
        have hv8 : vs 8 = .pointer (some ⟨e, 0, none⟩) := Rg.Is.is (hF 8 (by omega))
        have hv9 : vs 9 = .int .i64 (n : Nat) := Rg.Is.is (hF 9 (by omega))
        have hv10 : vs 10 = .pointer (some ⟨e, 0, none⟩) := Rg.Is.is (hF 10 (by omega))
        have hv11 : vs 11 = .pointer (some ⟨e, 0, none⟩) := Rg.Is.is (hF 11 (by omega))
        have hv12 : vs 12 = .pointer (some ⟨e, 0, none⟩) := Rg.Is.is (hF 12 (by omega))
        have hv13 : vs 13 = .int .i64 (c : Nat) := Rg.Is.is (hF 13 (by omega))
        have hv14 : vs 14 = .bool false := Rg.Is.is (hF 14 (by omega))
        have hv15 : vs 15 = .bool false := Rg.Is.is (hF 15 (by omega))
        simp only [Rg.fillA, Act.put, List.setIfInBounds_toArray, List.set_cons_succ, List.set_cons_zero, Nat.reduceAdd, Nat.add_zero]
        rw [hv0, hv1, hv2, hv3, hv4, hv5, hv6, hv7, hv8, hv9, hv10, hv11, hv12, hv13, hv14, hv15]
        have HCw : Hid (Below w.heap.size w W) := hC
        clear hC hF
        go_wp2_with (first
          | (go_at_call 58; refine (HMf.out W HCw.out).mono ?_; rintro ee w3 ⟨rfl, hb3⟩; have HB3 : Hid (Below w.heap.size w w3) := below_trans HCw.out hb3; clear hb3)
          | (go_at_call 48; refine (admit_any (HE.out.below HB3.out) (fun k hk => HD.out k (Nat.le_trans HB3.out.size hk)) (by omega) key hk HM.out 1 (by omega) HTot.out).mono ?_; rintro ee w4 ⟨rfl, ⟨h', h4⟩, hk4⟩; have H4 : Hid (MB e z { s with b1 := s.b1 ++ [key] } D w4) := ⟨_, h4.congr HU.out⟩; clear h4))
        go_ret
        exact ⟨rfl, H4.out, (Keeps.of_below HB3.out).trans hk4⟩
set_option maxHeartbeats 2000000 in
theorem removeM (H : MA e z s m D w) (_ : A.Ok s) (hD : ∀ k, w.heap.size ≤ k → D k) (key : ByteArray) (hk : key.size ≤ 1000) :
    Calls Tryz.prog 30 #[.pointer (some ⟨e, 0, none⟩), .string key] w fun ee w' => ee = .returned (.bool (A.remove s key).1) ∧ MB e z (A.remove s key).2 D w' ∧ Keeps D w w' := by
  have HE : Hid (MA e z s m D w) := H
  have HD : Hid (∀ k, w.heap.size ≤ k → D k) := hD
  obtain ⟨x, c4, hget⟩ := H.get (by omega) key hk
  have heo := H.cells.2.2.2.1
  by_cases hin : key ∈ A.keys s
  · obtain ⟨i, h, hi, hm⟩ := H.found hin
    rw [hm] at hget
    have e0 : A.remove s key = (true, { s with t1 := A.cut s.t1 key, b1 := A.cut s.b1 key, t2 := A.cut s.t2 key }) := by unfold A.remove; rw [if_pos hin]
    rw [e0]
    have HM : Hid (m key = some (i, h)) := hm
    clear H hD hin hm e0
    go_enter Tryz.func30, Tryz.ntmps30
    go_wp2_with (first
      | (go_at_call 34; refine (blank_any HE.out).mono ?_; rintro ee w1 ⟨rfl, rfl⟩)
      | (go_at_call 35; refine Calls.mono hget ?_; clear hget; rintro ee w3 ⟨rfl, hb3⟩; have HB3 : Hid (Below w1.heap.size w1 (w3.alloc (.cells #[.int .i64 (i : Nat), .int .i64 (h : Nat)] 44))) := hb3.alloc hb3.size _; clear hb3)
      | (go_at_call 61; refine (drop_any (HE.out.below HB3.out) (fun k hk => HD.out k (Nat.le_trans HB3.out.size hk)) (by omega) HM.out).mono ?_; rintro ee w4 ⟨rfl, h4, hk4⟩))
    go_ret
    exact ⟨rfl, ⟨_, h4.congr (three rfl rfl rfl)⟩, (Keeps.of_below HB3.out).trans hk4⟩
  · have hm := H.lost hin
    rw [hm] at hget
    rw [A.rem_no hin]
    clear H hD hin hm
    go_enter Tryz.func30, Tryz.ntmps30
    go_wp2_with (first
      | (go_at_call 34; refine (blank_any HE.out).mono ?_; rintro ee w1 ⟨rfl, rfl⟩)
      | (go_at_call 35; refine Calls.mono hget ?_; clear hget; rintro ee w3 ⟨rfl, hb3⟩; have HB3 : Hid (Below w1.heap.size w1 (w3.alloc (.cells #[.int .i64 0, .int .i64 0] 44))) := hb3.alloc hb3.size _; clear hb3))
    go_ret
    exact ⟨rfl, ⟨_, HE.out.below HB3.out⟩, .of_below HB3.out⟩
end
end Go.Proofs.YtcphhlfbjkeikabGreat
