/- An engine as the machine of chapter 10: who goes; replace. -/
import Derived.Test.YtfbdmoineahfgaaDoorEd
import Derived.Test.YtfbdmoineahfgaaDoorBs
namespace Go.Proofs.YtfbdmoineahfgaaDoor
open Go.RowKit

/-- the machine's four rows -/
def qs (s : Stt) : Nat → List ByteArray := fun i => if i = 0 then s.t1 else if i = 1 then s.t2 else if i = 2 then s.b1 else s.b2
/-- an engine in memory, as a machine -/
def AE (e b : Nat) (s : Stt) (D : Nat → Prop) (w : World) : Prop := EN D w e s.c s.p (qs s) b
theorem four {P : Nat → Prop} (h0 : P 0) (h1 : P 1) (h2 : P 2) (h3 : P 3) : ∀ i, i < 4 → P i := by
  intro i hi
  have : i = 0 ∨ i = 1 ∨ i = 2 ∨ i = 3 := by omega
  rcases this with e | e | e | e <;> subst e <;> assumption
theorem Single.out {s : Stt} (ho : Single s) {k : ByteArray} : (k ∈ s.t1 → k ∉ s.t2 ∧ k ∉ s.b1 ∧ k ∉ s.b2) ∧ (k ∈ s.t2 → k ∉ s.t1 ∧ k ∉ s.b1 ∧ k ∉ s.b2) ∧ (k ∈ s.b1 → k ∉ s.t1 ∧ k ∉ s.t2 ∧ k ∉ s.b2) ∧ (k ∈ s.b2 → k ∉ s.t1 ∧ k ∉ s.t2 ∧ k ∉ s.b1) := by
  have h := ho k
  refine ⟨fun hk => ?_, fun hk => ?_, fun hk => ?_, fun hk => ?_⟩ <;> have h1 := A.cnt_pos.2 hk <;> exact ⟨fun h2 => by have := A.cnt_pos.2 h2; omega, fun h2 => by have := A.cnt_pos.2 h2; omega, fun h2 => by have := A.cnt_pos.2 h2; omega⟩
section
variable {D : Nat → Prop} {w w' : World} {e b : Nat} {s : Stt}
theorem AE.below (H : AE e b s D w) (hb : Below w.heap.size w w') : AE e b s D w' := EN.below H hb
theorem AE.wide {D' : Nat → Prop} (H : AE e b s D w) (hD : ∀ k, k < w.heap.size → D k → D' k) : AE e b s D' w := EN.wide H hD
theorem AE.narrow (H : AE e b s D w) : AE e b s (fun k => D k ∧ k < w.heap.size) w := H.wide (fun _ a h => ⟨h, a⟩)
theorem AE.more {b' : Nat} (H : AE e b s D w) (h : b ≤ b') : AE e b' s D w := EN.more H h
theorem evict_goes (H : AE e b s D w) (ho : Single s) (hD : ∀ k, w.heap.size ≤ k → D k) (hb : b ≤ 700000) (f : Bool) (h : 0 < s.t1.length + s.t2.length) :
    Calls Tryd.prog 56 #[.pointer (some ⟨e, 0, none⟩), .bool f] w fun ee w' => ∃ g s', A.goes s ((decide (0 < s.t1.length) && f) || decide (s.t2.length = 0)) = ([g], s') ∧ ee = .returned (.string g) ∧ AE e (b + 1) s' D w' ∧ Keeps D w w' := by
  have one : (decide (0 < s.t1.length) && f || decide (s.t2.length = 0)) = true ∨ (decide (0 < s.t1.length) && f || decide (s.t2.length = 0)) = false := by cases (decide (0 < s.t1.length) && f || decide (s.t2.length = 0)) <;> simp
  rcases one with e1 | e1
  · rw [e1]
    cases ht : s.t1 with
    | nil => rw [ht] at h e1; simp at h e1; rw [e1] at h; simp at h
    | cons k r =>
      have hf : f = true ∨ qs s 1 = [] := by
        simp at e1
        rcases e1 with e1 | e1
        · exact .inl e1.2
        · exact .inr (by simpa [qs] using e1)
      refine (evict_t1 H hD hb f (k := k) (r := r) (by simp [qs, ht]) hf).mono ?_
      rintro ee w' ⟨rfl, h2, hk⟩
      have hout := (ho.out (k := k)).1 (by rw [ht]; simp)
      have hc : A.cut (k :: r) k = r := A.cut_head (fun j => by have := ho j; rw [ht] at this; omega)
      refine ⟨k, { s with t1 := r, b1 := s.b1 ++ [k] }, by simp [A.goes, ht], rfl, EN.congr h2 (four ?_ ?_ ?_ ?_), hk⟩
      · simp [qs, laid, ht, hc]
      · simp [qs, laid, A.cut_same hout.1]
      · simp [qs, laid, A.cut_same hout.2.1]
      · simp [qs, laid, A.cut_same hout.2.2]
  · rw [e1]
    cases ht : s.t2 with
    | nil => rw [ht] at e1; simp at e1
    | cons k r =>
      have hf : f = false ∨ qs s 0 = [] := by
        simp [ht] at e1
        by_cases h0 : s.t1 = []
        · exact .inr (by simpa [qs] using h0)
        · exact .inl (by
            cases f with
            | false => rfl
            | true => exact absurd (e1 (List.length_pos_iff.2 h0)) (by simp))
      refine (evict_t2 H hD hb f (k := k) (r := r) (by simp [qs, ht]) hf).mono ?_
      rintro ee w' ⟨rfl, h2, hk⟩
      have hout := (ho.out (k := k)).2.1 (by rw [ht]; simp)
      have hc : A.cut (k :: r) k = r := A.cut_head (fun j => by have := ho j; rw [ht] at this; omega)
      refine ⟨k, { s with t2 := r, b2 := s.b2 ++ [k] }, by simp [A.goes, ht], rfl, EN.congr h2 (four ?_ ?_ ?_ ?_), hk⟩
      · simp [qs, laid, A.cut_same hout.1]
      · simp [qs, laid, ht, hc]
      · simp [qs, laid, A.cut_same hout.2.1]
      · simp [qs, laid, A.cut_same hout.2.2]
theorem first_goes (s : Stt) (f : Bool) (h : 0 < s.t1.length + s.t2.length) : ((decide (0 < s.t1.length) && (decide (s.p < s.t1.length) || (decide (s.t1.length = s.p) && f))) || decide (s.t2.length = 0)) = A.first s f := by
  unfold A.first
  by_cases h1 : s.t2.length = 0
  · have : 0 < s.t1.length := by omega
    simp [h1, this]
  · simp [h1]
def rep (s : Stt) (f : Bool) : List ByteArray × Stt := if s.t1.length + s.t2.length < s.c then ([], s) else A.goes s (A.first s f)
set_option maxHeartbeats 1000000 in
theorem replace_room (H : AE e b s D w) (hb : b ≤ 700000) (f : Bool) (hl : s.t1.length + s.t2.length < s.c) :
    Calls Tryd.prog 55 #[.pointer (some ⟨e, 0, none⟩), .bool f] w fun ee w' => ee = .returned (.slice none 0 0) ∧ Below w.heap.size w w' := by
  have HE : Hid (EN D w e s.c s.p (qs s) b) := H
  obtain ⟨c0, c1, f1, heo, x, c6⟩ := EN.cells H
  have hlen : ∀ W : World, Below w.heap.size w W → Calls Tryd.prog 15 #[.pointer (some ⟨e, 0, none⟩)] W fun ee w' => ee = .returned (.int .i64 (s.t1.length + s.t2.length : Nat)) ∧ Below W.heap.size W w' := fun W hW => by
    have := len_any (HE.out.below hW) (by omega)
    simpa [qs] using this
  have HLen : Hid _ := hlen
  generalize s.t1.length + s.t2.length = n at *
  clear H hlen
  go_enter Tryd.func55, Tryd.ntmps55
  go_wp2_with fail
  go_region_with (go_at_call 15; refine (HLen.out _ ((Keeps.refl (fun k => w.heap.size ≤ k) w).drew.below (Nat.le_refl _) (fun _ h => h))).mono ?_; rintro ee w1 ⟨rfl, hb1⟩; have HE1 : Hid (EN D w1 e s.c s.p (qs s) b) := HE.out.below (undrew hb1); obtain ⟨d0, d1, -, -⟩ := EN.cells HE1.out)
  all_goals
    go_wp2
    go_ret
    exact ⟨rfl, undrew hb1⟩
theorem full_end {w0 w2 : World} (g : ByteArray) {s' : Stt} (h2 : AE e (b + 1) s' D w2) (hk : Keeps D w w0) (hk2 : Keeps D w0 w2) (hD : ∀ k, w.heap.size ≤ k → D k) :
    Beside (AE e (b + 1) s') (some ⟨w2.heap.size, 0, none⟩) 1 [g] D (w2.alloc (.cells #[.string g] 9)) ∧ Keeps D w (w2.alloc (.cells #[.string g] 9)) := by
  have hs2 := (hk.trans hk2).size
  exact ⟨⟨fun k => D k ∧ k < w2.heap.size, fun k h => ⟨h.1, by rw [World.size_alloc]; omega⟩, h2.narrow.below ((Below.refl _ w2).alloc (Nat.le_refl _) _), row_lit g ⟨hD _ hs2, fun h => Nat.lt_irrefl _ h.2⟩⟩, (hk.trans hk2).alloc _⟩
set_option maxHeartbeats 2000000 in
theorem replace_full (H : AE e b s D w) (ho : Single s) (hD : ∀ k, w.heap.size ≤ k → D k) (hb : b ≤ 700000) (hlo : 1 ≤ s.c) (f : Bool) (hl : s.c ≤ s.t1.length + s.t2.length) :
    Calls Tryd.prog 55 #[.pointer (some ⟨e, 0, none⟩), .bool f] w fun ee w' => ∃ g s' ad cap, A.goes s (A.first s f) = ([g], s') ∧ ee = .returned (.slice ad 1 cap) ∧ Beside (AE e (b + 1) s') ad cap [g] D w' ∧ Keeps D w w' := by
  have HE : Hid (EN D w e s.c s.p (qs s) b) := H
  have HD : Hid (∀ k, w.heap.size ≤ k → D k) := hD
  obtain ⟨c0, c1, f1, heo, x, c6⟩ := EN.cells H
  have HF : Hid _ := first_goes s f (by omega)
  have hlen : ∀ W : World, Below w.heap.size w W → Calls Tryd.prog 15 #[.pointer (some ⟨e, 0, none⟩)] W fun ee w' => ee = .returned (.int .i64 (s.t1.length + s.t2.length : Nat)) ∧ Below W.heap.size W w' := fun W hW => by
    have := len_any (HE.out.below hW) (by omega)
    simpa [qs] using this
  have HLen : Hid _ := hlen
  have HO : Hid (Single s) := ho
  obtain ⟨n, hn⟩ : ∃ n, n = s.t1.length + s.t2.length := ⟨_, rfl⟩
  have HN : Hid (n = s.t1.length + s.t2.length) := hn
  rw [← hn] at hl HLen
  clear H hlen ho hD hn
  go_enter Tryd.func55, Tryd.ntmps55
  go_wp2_with fail
  go_cut [12] from 13 (fun z wx => z = .bool false ∧ Below w.heap.size w wx)
  case first =>
    go_region_with (go_at_call 15; refine (HLen.out _ ((Keeps.refl (fun k => w.heap.size ≤ k) w).drew.below (Nat.le_refl _) (fun _ h => h))).mono ?_; rintro ee w1 ⟨rfl, hb1⟩; have HE1 : Hid (EN D w1 e s.c s.p (qs s) b) := HE.out.below (undrew hb1); obtain ⟨d0, d1, -, -⟩ := EN.cells HE1.out)
    all_goals (go_wp2_with fail; go_meet; case rel => exact ⟨by simp; omega, undrew hb1⟩)
  case rest =>
    obtain ⟨rfl, hb1⟩ := hcut
    have HEc : Hid (EN D wc e s.c s.p (qs s) b) := HE.out.below hb1
    have hcnt := count_any (HEc.out.alloc (.cells #[.int .i64 0] 3)) (by omega) (ints0 wc) (by simp) (by simp)
    rw [tot1, show qs s 0 = s.t1 from rfl] at hcnt
    obtain ⟨d0, d1, -, hec, -⟩ := EN.cells HEc.out
    have hl1 : s.t1.length ≤ 700000 := Nat.le_trans (EN.lens HEc.out (i := 0) (by omega)) hb
    clear c0 c1 f1 heo c6 HLen
    have HK : Hid (Keeps D w (wc.alloc (.cells #[.int .i64 0] 3))) := (Keeps.of_below hb1).alloc _
    have HEv : Hid (∀ F : Bool, (decide (s.p < s.t1.length) || (decide (s.t1.length = s.p) && f)) = F → Calls Tryd.prog 56 #[.pointer (some ⟨e, 0, none⟩), .bool F] (wc.alloc (.cells #[.int .i64 0] 3)) fun ee w' => ∃ g s', A.goes s (A.first s f) = ([g], s') ∧ ee = .returned (.string g) ∧ AE e (b + 1) s' D w' ∧ Keeps D (wc.alloc (.cells #[.int .i64 0] 3)) w') := by
      intro F hF
      have h9 := evict_goes (s := s) (HEc.out.alloc (.cells #[.int .i64 0] 3)) HO.out (fun k h => HD.out k (Nat.le_trans (HK.out.size) h)) hb F (by have := HN.out; omega)
      rw [← hF, HF.out] at h9
      rw [← hF]
      exact h9
    rcases Nat.lt_trichotomy s.p s.t1.length with h | h | h
    · have hF0 : (decide (s.p < s.t1.length) || (decide (s.t1.length = s.p) && f)) = true := by simp [h]
      have HF' : Hid ((decide (s.p < s.t1.length) || (decide (s.t1.length = s.p) && f)) = true) := hF0
      clear hF0
      go_wp2_with (first
        | (go_at_call 48; refine hcnt.mono ?_; clear hcnt; rintro ee w1 ⟨rfl, rfl⟩)
        | (go_at_call 56; refine (HEv.out _ HF'.out).mono ?_; rintro ee w2 ⟨g, s', hg, rfl, h2, hk2⟩))
      go_ret
      exact ⟨g, s', _, _, hg, rfl, full_end g h2 HK.out hk2 HD.out⟩
    · have hF0 : (decide (s.p < s.t1.length) || (decide (s.t1.length = s.p) && f)) = f := by simp [h]
      have HF' : Hid ((decide (s.p < s.t1.length) || (decide (s.t1.length = s.p) && f)) = f) := hF0
      have h1 : ¬ s.p < s.t1.length := by omega
      have h2' : s.t1.length = s.p := h.symm
      clear hF0 h
      go_wp2_with (first
        | (go_at_call 48; refine hcnt.mono ?_; clear hcnt; rintro ee w1 ⟨rfl, rfl⟩)
        | (go_at_call 56; refine (HEv.out _ HF'.out).mono ?_; rintro ee w2 ⟨g, s', hg, rfl, h2, hk2⟩))
      go_ret
      exact ⟨g, s', _, _, hg, rfl, full_end g h2 HK.out hk2 HD.out⟩
    · have hF0 : (decide (s.p < s.t1.length) || (decide (s.t1.length = s.p) && f)) = false := by simp; omega
      have HF' : Hid ((decide (s.p < s.t1.length) || (decide (s.t1.length = s.p) && f)) = false) := hF0
      clear hF0
      have h1 : ¬ s.p < s.t1.length := by omega
      have h2' : ¬ s.t1.length = s.p := by omega
      go_wp2_with (first
        | (go_at_call 48; refine hcnt.mono ?_; clear hcnt; rintro ee w1 ⟨rfl, rfl⟩)
        | (go_at_call 56; refine (HEv.out _ HF'.out).mono ?_; rintro ee w2 ⟨g, s', hg, rfl, h2, hk2⟩))
      go_ret
      exact ⟨g, s', _, _, hg, rfl, full_end g h2 HK.out hk2 HD.out⟩
end
end Go.Proofs.YtfbdmoineahfgaaDoor
