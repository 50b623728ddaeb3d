/- Of an engine: first, count, blank, Len, hots, mostHots, full; the machine of chapter 13 in memory. -/
import Derived.Test.YtcbaalodhgkgmaaEc
import Derived.WalkSmall
namespace Go.Proofs.Ytcbaalodhgkgmaa
open Go.RowKit

section
variable {D : Nat → Prop} {w : World} {e c : Nat} {Q : Nat → List ByteArray} {b : Nat}
theorem EN.front (H : EN D w e c Q b) {i : Nat} (hi : i < 3) {k : ByteArray} {r : List ByteArray} (hq : Q i = k :: r) :
    ∃ l : Li, LiAt (own D (fun _ => 0) 0 0) w l ∧ w.cell? ⟨e, 1 + i, none⟩ = some (.pointer (some ⟨l.pr, 0, none⟩)) ∧ Ls.hdOf l.row ∈ l.row ∧ l.va (Ls.hdOf l.row) = k ∧ l.n ≤ b := by
  obtain ⟨L, R, x, m, sp, H, r1⟩ := H
  refine ⟨R i, Ls.LA.wide (H.li i hi) (fun _ _ => .inr (Nat.zero_le _)), H.row hi, ?_, ?_, r1.few i hi⟩
  · have h := r1.keys i hi
    rw [hq] at h
    cases hrow : (R i).row with
    | nil => rw [hrow] at h; cases h
    | cons a t => simp [Ls.hdOf]
  · have h := r1.keys i hi
    rw [hq] at h
    cases hrow : (R i).row with
    | nil => rw [hrow] at h; cases h
    | cons a t => rw [hrow] at h; simp [Ls.hdOf]; simp at h; exact h.1
theorem first_any (H : EN D w e c Q b) (hb : b ≤ 900000) {i : Nat} (hi : i < 3) {k : ByteArray} {r : List ByteArray} (hq : Q i = k :: r) :
    Calls Try.prog 83 #[.pointer (some ⟨e, 0, none⟩), .int .i64 (i : Nat)] w fun ee w' => ee = .returned (.string k) ∧ Below w.heap.size w w' := by
  obtain ⟨l, hl, hr, h1, h2, h3⟩ := H.front hi hq
  have HL : Hid _ := hl
  subst h2
  clear H hl hq
  go_enter Try.func83, Try.ntmps83
  go_wp2_with fail
  have hq : ∀ q : Nat, LiAt (own D (fun _ => 0) 0 0) (w.drewN q) l := fun q => Ls.LA.below HL.out (below_drewN (Below.refl _ w) q)
  go_quiet (first | (go_at_call 93; exact Calls.quiet_of_same (Ls.front_any (hq _))) | (go_at_call 92; exact Calls.quiet_of_same (Ls.get_in (hq _) _ h1 (by omega))))
  go_wp2
  go_ret
  exact ⟨rfl, below_drewN (Below.refl _ w) _⟩
theorem blank_any (H : EN D w e c Q b) : Calls Try.prog 41 #[.pointer (some ⟨e, 0, none⟩)] w fun ee w' => ee = .returned (.bool false) ∧ w' = w := by
  obtain ⟨c0, c1, f1, heo, x, c6⟩ := H.cells
  clear H
  go_enter Try.func41, Try.ntmps41
  go_wp2
  go_ret
  exact ⟨rfl, rfl⟩
theorem EN.len (H : EN D w e c Q b) {i : Nat} (hi : i < 3) : ∃ l : Li, (∀ q, LiAt (own D (fun _ => 0) 0 0) (w.drewN q) l) ∧ w.cell? ⟨e, 1 + i, none⟩ = some (.pointer (some ⟨l.pr, 0, none⟩)) ∧ l.row.length = (Q i).length ∧ l.n ≤ b := by
  obtain ⟨L, R, x, m, sp, H, r1⟩ := H
  refine ⟨R i, fun q => Ls.LA.below (Ls.LA.wide (H.li i hi) (fun _ _ => .inr (Nat.zero_le _))) (below_drewN (Below.refl _ w) q), H.row hi, ?_, r1.few i hi⟩
  rw [← r1.keys i hi, List.length_map]
theorem EN.lens (H : EN D w e c Q b) {i : Nat} (hi : i < 3) : (Q i).length ≤ b := by
  obtain ⟨L, R, x, m, sp, H, r1⟩ := H
  rw [← r1.keys i hi, List.length_map]
  have := Ls.LA.lens (H.li i hi)
  have := r1.few i hi
  omega
set_option maxHeartbeats 1000000 in
theorem count_any (H : EN D w e c Q b) {i : Nat} (hi : i < 3) :
    Calls Try.prog 48 #[.pointer (some ⟨e, 0, none⟩), .int .i64 (i : Nat)] w fun ee w' => ee = .returned (.int .i64 ((Q i).length : Nat)) ∧ w' = w := by
  obtain ⟨l, HL, c2, hlen, hln⟩ := H.len hi
  have HLq : Hid (LiAt (own D (fun _ => 0) 0 0) w l) := HL 0
  clear H HL
  go_enter Try.func48, Try.ntmps48
  go_wp2_with (go_at_call 79; refine (Ls.len_any HLq.out).mono ?_; rintro ee w1 ⟨rfl, rfl⟩; rw [hlen])
  go_ret
  exact ⟨rfl, rfl⟩
/-- as many keys as an index counts -/
theorem IX_len {te tl : TypeId} {p b : Nat} {m : ByteArray → Option Ix.Sp} (H : Ix.IX te tl D w p m b) : ∃ n : Nat, w.cell? ⟨p, 3, none⟩ = some (.int .i64 (n : Nat)) ∧ n ≤ b ∧ ∀ l : List ByteArray, l.Nodup → (∀ k, k ∈ l ↔ m k ≠ none) → l.length = n := by
  obtain ⟨seed, sl, used, count, ad, hs0, H, o⟩ := H
  refine ⟨count, H.top.2.2.2.1, o.few, fun l h1 h2 => ?_⟩
  obtain ⟨l', h3, h4, h5⟩ := Ix.Ok.keys o
  have a := nodup_len h1 (m := (sl.filter (fun s => s.st == 2)).map (·.key)) (fun k hk => by
    cases hm : m k with
    | none => exact absurd hm ((h2 k).1 hk)
    | some v =>
      obtain ⟨i, t, hi, ht, hk', -⟩ := (o.map k v).1 hm
      exact List.mem_map.2 ⟨t, List.mem_filter.2 ⟨List.mem_of_getElem? hi, by simp [ht]⟩, hk'⟩)
  have b := nodup_len h3 (m := l) (fun k hk => (h2 k).2 (h5 k hk))
  rw [List.length_map, ← List.countP_eq_length_filter, o.count_] at a
  omega
theorem xlen_any {p n : Nat} (h : w.cell? ⟨p, 3, none⟩ = some (.int .i64 (n : Nat))) : Calls Try.prog 47 #[.pointer (some ⟨p, 0, none⟩)] w fun ee w' => ee = .returned (.int .i64 (n : Nat)) ∧ w' = w := by
  go_enter Try.func47, Try.ntmps47
  go_wp2
  go_ret
  exact ⟨rfl, rfl⟩
set_option maxHeartbeats 1000000 in
theorem len_any (H : EN D w e c Q b) (hb : b ≤ 900000) {ks : List ByteArray} (hn : ks.Nodup) (hm : ∀ k, k ∈ ks ↔ ∃ i, i < 3 ∧ k ∈ Q i) {n : Nat} (hl : ks.length = n + (Q 2).length) : Calls Try.prog 15 #[.pointer (some ⟨e, 0, none⟩)] w fun ee w' => ee = .returned (.int .i64 (n : Nat)) ∧ w' = w := by
  have HE : Hid (EN D w e c Q b) := H
  have hc2 : Calls Try.prog 48 #[.pointer (some ⟨e, 0, none⟩), .int .i64 2] w fun ee w' => ee = .returned (.int .i64 ((Q 2).length : Nat)) ∧ w' = w := count_any H (i := 2) (by omega)
  have hx : ∃ x : Nat, w.cell? ⟨e, 4, none⟩ = some (.pointer (some ⟨x, 0, none⟩)) ∧ w.cell? ⟨x, 3, none⟩ = some (.int .i64 (ks.length : Nat)) ∧ ks.length ≤ b := by
    obtain ⟨L, R, x, m, sp, h, r⟩ := H
    obtain ⟨n', h1, h2, h3⟩ := IX_len h.ix
    have := h3 ks hn (fun k => by
      rw [hm k, ne_eq, r.none]
      constructor
      · rintro ⟨i, hi, hk⟩ h4
        exact h4 i hi hk
      · intro h4
        rcases Classical.em (∃ i, i < 3 ∧ k ∈ Q i) with h5 | h5
        · exact h5
        · exact absurd (fun i hi hk => h5 ⟨i, hi, hk⟩) h4)
    rw [this]
    exact ⟨x, h.cells.2.2.1, h1, h2⟩
  obtain ⟨x, c6, c3, hle⟩ := hx
  have hxl := xlen_any c3
  rw [hl] at hxl hle
  clear H hm hn
  generalize (Q 2).length = n2 at *
  clear hl c3
  go_enter Try.func15, Try.ntmps15
  go_wp2_with (first
    | (go_at_call 41; refine (blank_any HE.out).mono ?_; rintro ee w1 ⟨rfl, rfl⟩)
    | (go_at_call 47; refine Calls.mono hxl ?_; clear hxl; rintro ee w1 ⟨rfl, rfl⟩)
    | (go_at_call 48; refine Calls.mono hc2 ?_; clear hc2; rintro ee w1 ⟨rfl, rfl⟩))
  go_ret
  exact ⟨by go_num, rfl⟩
theorem most_any (H : EN D w e c Q b) (h1 : 1 ≤ c) (hc : c ≤ 1024) : Calls Try.prog 61 #[.pointer (some ⟨e, 0, none⟩)] w fun ee w' => ee = .returned (.int .i64 ((c - max 1 (c / 10) : Nat) : Int)) ∧ Below w.heap.size w w' := by
  obtain ⟨c0, c1, f1, heo, x, c6⟩ := EN.cells H
  clear H
  go_enter Try.func61, Try.ntmps61
  go_wp2_with fail
  go_quiet (fail)
  go_wp2
  go_ret
  exact ⟨by simp; omega, below_drewN (Below.refl _ w) _⟩
end
/-- the machine's three rows -/
def qs (s : Stt) : Nat → List ByteArray := fun i => if i = 0 then s.t1 else if i = 1 then s.b1 else s.t2
/-- an engine in memory, as a machine (b: of no account) -/
def AM (e _b : Nat) (s : Stt) (D : Nat → Prop) (w : World) : Prop := EN D w e s.c (qs s) 20000
theorem three {P : Nat → Prop} (h0 : P 0) (h1 : P 1) (h2 : P 2) : ∀ i, i < 3 → P i := by
  intro i hi
  have : i = 0 ∨ i = 1 ∨ i = 2 := by omega
  rcases this with e | e | e <;> subst e <;> assumption
/-- no more than so many in all rows -/
def Few (n : Nat) (s : Stt) : Prop := s.t1.length + s.b1.length + s.t2.length ≤ n
theorem Few.of {s : Stt} (h : A.Ok s) : Few 5000 s := by
  have h1 := h.toBase.small
  have h2 := h.res
  have h3 := h.gho
  have h4 := h.hi
  rw [A.keys_length] at h2
  unfold Few
  omega
section
variable {D : Nat → Prop} {w w' : World} {e b : Nat} {s s' : Stt}
theorem AM.below (H : AM e b s D w) (hb : Below w.heap.size w w') : AM e b s D w' := EN.below H hb
theorem AM.wide {D' : Nat → Prop} (H : AM e b s D w) (hD : ∀ k, k < w.heap.size → D k → D' k) : AM e b s D' w := EN.wide H hD
theorem AM.narrow (H : AM e b s D w) : AM e b s (fun k => D k ∧ k < w.heap.size) w := H.wide (fun _ a h => ⟨h, a⟩)
theorem AM.more {b' : Nat} (H : AM e b s D w) (_ : b ≤ b') : AM e b' s D w := H
theorem lay_to (H : AM e b s D w) (hD : ∀ k, w.heap.size ≤ k → D k) (k : ByteArray) (hk : k.size ≤ 1000) (i : Nat) (hi : i < 3) (hf : Few 19999 s) (hs : ∀ j, j < 3 → qs s' j = layAt (qs s) k i j) (hc : s'.c = s.c) :
    Calls Try.prog 84 #[.pointer (some ⟨e, 0, none⟩), .string k, .int .i64 (i : Nat)] w fun ee w' => ee = .returned (.tuple #[]) ∧ AM e b s' D w' ∧ Keeps D w w' := by
  refine (lay_any H hD (by omega) k hk i hi (by unfold Few at hf; simp only [qs]; simp; omega)).mono ?_
  rintro ee w' ⟨rfl, h, hk⟩
  refine ⟨rfl, ?_, hk⟩
  unfold AM
  rw [hc]
  exact EN.congr h hs
theorem leave_to (H : AM e b s D w) (hD : ∀ k, w.heap.size ≤ k → D k) (k : ByteArray) (hk : k.size ≤ 1000) (i : Nat) (hi : i < 3) (hs : ∀ j, j < 3 → qs s' j = cutAt (qs s) k i j) (hc : s'.c = s.c) :
    Calls Try.prog 65 #[.pointer (some ⟨e, 0, none⟩), .string k, .int .i64 (i : Nat)] w fun ee w' => ee = .returned (.tuple #[]) ∧ AM e b s' D w' ∧ Keeps D w w' := by
  refine (leave_any H hD (by omega) k hk i hi).mono ?_
  rintro ee w' ⟨rfl, h, hk⟩
  refine ⟨rfl, ?_, hk⟩
  unfold AM
  rw [hc]
  exact EN.congr h hs
theorem AM.size (H : AM e b s D w) {k : ByteArray} (h : k ∈ s.t1 ∨ k ∈ s.b1 ∨ k ∈ s.t2) : k.size ≤ 1000 := by
  rcases h with h | h | h
  · exact EN.size (i := 0) H (by omega) h
  · exact EN.size (i := 1) H (by omega) h
  · exact EN.size (i := 2) H (by omega) h
theorem count0 (H : AM e b s D w) : Calls Try.prog 48 #[.pointer (some ⟨e, 0, none⟩), .int .i64 0] w fun ee w' => ee = .returned (.int .i64 (s.t1.length : Nat)) ∧ w' = w := count_any H (i := 0) (by omega)
theorem count1 (H : AM e b s D w) : Calls Try.prog 48 #[.pointer (some ⟨e, 0, none⟩), .int .i64 1] w fun ee w' => ee = .returned (.int .i64 (s.b1.length : Nat)) ∧ w' = w := count_any H (i := 1) (by omega)
theorem count2 (H : AM e b s D w) : Calls Try.prog 48 #[.pointer (some ⟨e, 0, none⟩), .int .i64 2] w fun ee w' => ee = .returned (.int .i64 (s.t2.length : Nat)) ∧ w' = w := count_any H (i := 2) (by omega)
theorem first0 (H : AM e b s D w) {k : ByteArray} {r : List ByteArray} (hq : s.t1 = k :: r) : Calls Try.prog 83 #[.pointer (some ⟨e, 0, none⟩), .int .i64 0] w fun ee w' => ee = .returned (.string k) ∧ Below w.heap.size w w' := first_any H (by omega) (i := 0) (by omega) (r := r) (by simp [qs, hq])
theorem first1 (H : AM e b s D w) {k : ByteArray} {r : List ByteArray} (hq : s.b1 = k :: r) : Calls Try.prog 83 #[.pointer (some ⟨e, 0, none⟩), .int .i64 1] w fun ee w' => ee = .returned (.string k) ∧ Below w.heap.size w w' := first_any H (by omega) (i := 1) (by omega) (r := r) (by simp [qs, hq])
theorem first2 (H : AM e b s D w) {k : ByteArray} {r : List ByteArray} (hq : s.t2 = k :: r) : Calls Try.prog 83 #[.pointer (some ⟨e, 0, none⟩), .int .i64 2] w fun ee w' => ee = .returned (.string k) ∧ Below w.heap.size w w' := first_any H (by omega) (i := 2) (by omega) (r := r) (by simp [qs, hq])
theorem keys_all (hB : A.Base s) : (A.keys s ++ s.t2).Nodup ∧ ∀ k, k ∈ A.keys s ++ s.t2 ↔ ∃ i, i < 3 ∧ k ∈ qs s i := by
  constructor
  · apply A.Once.nodup
    intro k
    rw [A.cnt_append]
    have h1 := hB.once k
    have h2 := hB.og k
    by_cases h : k ∈ s.t2
    · have := A.cnt_zero.2 (hB.ghost h)
      omega
    · have := A.cnt_zero.2 h
      omega
  · intro k
    rw [List.mem_append, A.mem_keys, A.mem_hots]
    constructor
    · rintro ((h | h) | h)
      · exact ⟨1, by omega, h⟩
      · exact ⟨0, by omega, h.1⟩
      · exact ⟨2, by omega, h⟩
    · rintro ⟨i, hi, h⟩
      have : i = 0 ∨ i = 1 ∨ i = 2 := by omega
      rcases this with e | e | e <;> subst e
      · have h : k ∈ s.t1 := h
        by_cases h1 : k ∈ s.b1
        · exact .inl (.inl h1)
        · by_cases h2 : k ∈ s.t2
          · exact .inr h2
          · exact .inl (.inr ⟨h, h1, h2⟩)
      · exact .inl (.inl h)
      · exact .inr h
theorem lenA (H : AM e b s D w) (hB : A.Base s) : Calls Try.prog 15 #[.pointer (some ⟨e, 0, none⟩)] w fun ee w' => ee = .returned (.int .i64 ((A.keys s).length : Nat)) ∧ w' = w :=
  len_any H (by omega) (keys_all hB).1 (keys_all hB).2 (n := (A.keys s).length) (by simp [qs])
theorem hots_any (H : AM e b s D w) (hB : A.Base s) : Calls Try.prog 60 #[.pointer (some ⟨e, 0, none⟩)] w fun ee w' => ee = .returned (.int .i64 ((A.hots s).length : Nat)) ∧ w' = w := by
  have hl := lenA H hB
  have hc := count1 H
  have hle := EN.lens H (i := 1) (by omega)
  have hle : s.b1.length ≤ 20000 := hle
  have hk : (A.keys s).length ≤ 40000 := by
    rw [A.keys_length]
    have h2 : s.t1.length ≤ 20000 := EN.lens H (i := 0) (by omega)
    have : (A.hots s).length ≤ s.t1.length := List.length_filter_le _ _
    omega
  have e1 := A.keys_length s
  clear H hB
  generalize (A.keys s).length = n at *
  generalize s.b1.length = n1 at *
  generalize (A.hots s).length = n2 at *
  go_enter Try.func60, Try.ntmps60
  go_wp2_with (first
    | (go_at_call 15; refine Calls.mono hl ?_; clear hl; rintro ee w1 ⟨rfl, rfl⟩)
    | (go_at_call 48; refine Calls.mono hc ?_; clear hc; rintro ee w1 ⟨rfl, rfl⟩))
  go_ret
  exact ⟨ret_int (by omega), rfl⟩
theorem mostA (H : AM e b s D w) (h1 : 1 ≤ s.c) (hc : s.c ≤ 1024) : Calls Try.prog 61 #[.pointer (some ⟨e, 0, none⟩)] w fun ee w' => ee = .returned (.int .i64 ((A.most s : Nat) : Int)) ∧ Below w.heap.size w w' := most_any H h1 hc
theorem fullA (H : AM e b s D w) (hB : A.Base s) : Calls Try.prog 55 #[.pointer (some ⟨e, 0, none⟩)] w fun ee w' => ee = .returned (.bool (decide (s.c ≤ (A.keys s).length))) ∧ Below w.heap.size w w' := by
  obtain ⟨c0, c1, f1, heo, x, c6⟩ := EN.cells H
  have hl : ∀ q : Nat, Calls Try.prog 15 #[.pointer (some ⟨e, 0, none⟩)] (w.drewN q) fun ee w' => ee = .returned (.int .i64 ((A.keys s).length : Nat)) ∧ w' = w.drewN q := fun q => lenA (H.below (below_drewN (Below.refl _ w) q)) hB
  clear H hB
  generalize (A.keys s).length = n at *
  go_enter Try.func55, Try.ntmps55
  go_wp2_with fail
  go_quiet (first | (go_at_call 15; exact Calls.quiet_of_same (hl _)))
  go_wp2
  go_ret
  exact ⟨rfl, below_drewN (Below.refl _ w) _⟩
end
end Go.Proofs.Ytcbaalodhgkgmaa
