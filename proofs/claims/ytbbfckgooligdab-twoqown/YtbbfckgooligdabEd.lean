/- Of an engine: Len, full, kin, kout; the machine of chapter 11 in memory; drop. -/
import Derived.Test.YtbbfckgooligdabEc
import Derived.Test.YtbbfckgooligdabBs
import Derived.BigQuiet
import Derived.WalkSmall
namespace Go.Proofs.Ytbbfckgooligdab
open Go.RowKit

theorem EN.alloc {D : Nat → Prop} {w : World} {e c : Nat} {Q : Nat → List ByteArray} {b : Nat} (H : EN D w e c Q b) (o : Obj) : EN D (w.alloc o) e c Q b := H.below ((Below.refl _ w).alloc (Nat.le_refl _) o)
theorem EN.drew {D : Nat → Prop} {w : World} {e c : Nat} {Q : Nat → List ByteArray} {b : Nat} (H : EN D w e c Q b) : EN D w.drew e c Q b := H.kept (D' := fun _ => False) (Keeps.refl _ w).drew (fun _ _ _ e => e)
theorem EN.drewN {D : Nat → Prop} {w : World} {e c : Nat} {Q : Nat → List ByteArray} {b : Nat} (H : EN D w e c Q b) (q : Nat) : EN D (w.drewN q) e c Q b := H.kept (D' := fun _ => False) ((Keeps.refl _ w).drewN q) (fun _ _ _ e => e)
section
variable {D : Nat → Prop} {w : World} {e c : Nat} {Q : Nat → List ByteArray} {b : Nat}
set_option maxHeartbeats 1000000 in
theorem len_any (H : EN D w e c Q b) (hb : b ≤ 900000) : Calls Try.prog 17 #[.pointer (some ⟨e, 0, none⟩)] w fun ee w' => ee = .returned (.int .i64 ((Q 0).length + (Q 2).length : Nat)) ∧ Below w.heap.size w w' := by
  have HE : Hid (EN D w e c Q b) := H
  have h0 := H.lens (i := 0) (by omega)
  have h2 := H.lens (i := 2) (by omega)
  have hc0 : Calls Try.prog 42 #[.pointer (some ⟨e, 0, none⟩), .int .i64 0] w fun ee w' => ee = .returned (.int .i64 ((Q 0).length : Nat)) ∧ w' = w := count_any H (i := 0) (by omega)
  have hc2 : Calls Try.prog 42 #[.pointer (some ⟨e, 0, none⟩), .int .i64 2] w fun ee w' => ee = .returned (.int .i64 ((Q 2).length : Nat)) ∧ w' = w := count_any H (i := 2) (by omega)
  generalize (Q 0).length = n0 at *
  generalize (Q 2).length = n2 at *
  clear H
  go_enter Try.func17, Try.ntmps17
  go_wp2_with (first
    | (go_at_call 29; refine (blank_any HE.out).mono ?_; rintro ee w1 ⟨rfl, rfl⟩)
    | (go_at_call 42; refine Calls.mono hc0 ?_; clear hc0; rintro ee w1 ⟨rfl, rfl⟩)
    | (go_at_call 42; refine Calls.mono hc2 ?_; clear hc2; rintro ee w1 ⟨rfl, rfl⟩))
  go_ret
  exact ⟨by go_num, Below.refl _ _⟩
theorem kin_any (H : EN D w e c Q b) (hc : c ≤ 1024) : Calls Try.prog 60 #[.pointer (some ⟨e, 0, none⟩)] w fun ee w' => ee = .returned (.int .i64 ((max 1 (c / 4) : Nat) : Int)) ∧ w' = w := by
  obtain ⟨c0, c1, f1, heo, x, c6⟩ := EN.cells H
  clear H
  go_enter Try.func60, Try.ntmps60
  go_wp2
  go_ret
  exact ⟨by simp; omega, rfl⟩
theorem kout_any (H : EN D w e c Q b) (hc : c ≤ 1024) : Calls Try.prog 63 #[.pointer (some ⟨e, 0, none⟩)] w fun ee w' => ee = .returned (.int .i64 ((max 1 (c / 2) : Nat) : Int)) ∧ w' = w := by
  obtain ⟨c0, c1, f1, heo, x, c6⟩ := EN.cells H
  clear H
  go_enter Try.func63, Try.ntmps63
  go_wp2
  go_ret
  exact ⟨by simp; omega, rfl⟩
theorem full_any (H : EN D w e c Q b) (hb : b ≤ 900000) : Calls Try.prog 37 #[.pointer (some ⟨e, 0, none⟩)] w fun ee w' => ee = .returned (.bool (decide (c ≤ (Q 0).length + (Q 2).length))) ∧ Below w.heap.size w w' := by
  have HE : Hid (EN D w e c Q b) := H
  obtain ⟨c0, c1, f1, heo, x, c6⟩ := EN.cells H
  have HX : Hid (decide ((c : Int) ≤ ((Q 0).length : Int) + ((Q 2).length : Int)) = decide (c ≤ (Q 0).length + (Q 2).length)) := decide_eq_decide.2 (by omega)
  clear H
  go_enter Try.func37, Try.ntmps37
  go_wp2_with fail
  go_region_with (go_at_call 17; refine (len_any (HE.out.drew) hb).mono ?_; rintro ee w1 ⟨rfl, hb1⟩; have HE1 : Hid (EN D w1 e c Q b) := HE.out.below (undrew hb1); obtain ⟨d0, d1, -, -⟩ := EN.cells HE1.out)
  all_goals
    go_wp2
    go_ret
    exact ⟨congrArg (fun x => Ending.returned (Value.bool x)) HX.out, undrew hb1⟩
end
/-- the machine's three rows -/
def qs (s : Stt) : Nat → List ByteArray := fun i => if i = 0 then s.t1 else if i = 1 then s.b1 else s.t2
/-- an engine in memory, as a machine -/
def AE (e b : Nat) (s : Stt) (D : Nat → Prop) (w : World) : Prop := EN D w e s.c (qs s) b
theorem three {P : Nat → Prop} (h0 : P 0) (h1 : P 1) (h2 : P 2) : ∀ i, i < 3 → P i := by
  intro i hi
  have : i = 0 ∨ i = 1 ∨ i = 2 := by omega
  rcases this with e | e | e <;> subst e <;> assumption
theorem Single.out {s : Stt} (ho : Single s) {k : ByteArray} : (k ∈ s.t1 → k ∉ s.t2 ∧ k ∉ s.b1) ∧ (k ∈ s.t2 → k ∉ s.t1 ∧ k ∉ s.b1) ∧ (k ∈ s.b1 → k ∉ s.t1 ∧ k ∉ s.t2) := by
  have h := ho k
  refine ⟨fun hk => ?_, fun hk => ?_, fun hk => ?_⟩ <;> have h1 := A.cnt_pos.2 hk <;> exact ⟨fun h2 => by have := A.cnt_pos.2 h2; omega, fun h2 => by have := A.cnt_pos.2 h2; omega⟩
section
variable {D : Nat → Prop} {w w' : World} {e b : Nat} {s : Stt}
theorem AE.below (H : AE e b s D w) (hb : Below w.heap.size w w') : AE e b s D w' := EN.below H hb
theorem AE.wide {D' : Nat → Prop} (H : AE e b s D w) (hD : ∀ k, k < w.heap.size → D k → D' k) : AE e b s D' w := EN.wide H hD
theorem AE.narrow (H : AE e b s D w) : AE e b s (fun k => D k ∧ k < w.heap.size) w := H.wide (fun _ a h => ⟨h, a⟩)
theorem AE.more {b' : Nat} (H : AE e b s D w) (h : b ≤ b') : AE e b' s D w := EN.more H h
theorem drop_am (H : AE e b s D w) (ho : Single s) (hD : ∀ k, w.heap.size ≤ k → D k) (hb : b ≤ 900000) {k : ByteArray} {r : List ByteArray} (hq : s.t2 = k :: r) :
    Calls Try.prog 61 #[.pointer (some ⟨e, 0, none⟩), .int .i64 2] w fun ee w' => ee = .returned (.string k) ∧ AE e b { s with t2 := r } D w' ∧ Keeps D w w' := by
  refine (drop_any (i := 2) (k := k) (r := r) H hD hb (by omega) (by simp [qs, hq])).mono ?_
  rintro ee w' ⟨rfl, h2, hk⟩
  have hout := (ho.out (k := k)).2.1 (by rw [hq]; simp)
  have hc : A.cut (k :: r) k = r := A.cut_head (fun j => by have := ho j; rw [hq] at this; omega)
  refine ⟨rfl, EN.congr h2 (three ?_ ?_ ?_), hk⟩
  · simp [qs, A.cut_same hout.1]
  · simp [qs, A.cut_same hout.2]
  · simp [qs, hq, hc]
theorem drop_out (H : AE e b s D w) (ho : Single s) (hD : ∀ k, w.heap.size ≤ k → D k) (hb : b ≤ 900000) {k : ByteArray} {r : List ByteArray} (hq : s.b1 = k :: r) :
    Calls Try.prog 61 #[.pointer (some ⟨e, 0, none⟩), .int .i64 1] w fun ee w' => ee = .returned (.string k) ∧ AE e b { s with b1 := r } D w' ∧ Keeps D w w' := by
  refine (drop_any (i := 1) (k := k) (r := r) H hD hb (by omega) (by simp [qs, hq])).mono ?_
  rintro ee w' ⟨rfl, h2, hk⟩
  have hout := (ho.out (k := k)).2.2 (by rw [hq]; simp)
  have hc : A.cut (k :: r) k = r := A.cut_head (fun j => by have := ho j; rw [hq] at this; omega)
  refine ⟨rfl, EN.congr h2 (three ?_ ?_ ?_), hk⟩
  · simp [qs, A.cut_same hout.1]
  · simp [qs, hq, hc]
  · simp [qs, A.cut_same hout.2]
theorem lay_to {s' : Stt} (H : AE e b s D w) (hD : ∀ k, w.heap.size ≤ k → D k) (hb : b ≤ 800000) (k : ByteArray) (hk : k.size ≤ 1000) (i : Nat) (hi : i < 3) (hs : ∀ j, j < 3 → qs s' j = laid (qs s) k i j) (hc : s'.c = s.c) :
    Calls Try.prog 35 #[.pointer (some ⟨e, 0, none⟩), .string k, .int .i64 (i : Nat)] w fun ee w' => ee = .returned (.tuple #[]) ∧ AE e (b + 1) s' D w' ∧ Keeps D w w' := by
  refine (lay_any H hD hb k hk i hi).mono ?_
  rintro ee w' ⟨rfl, h, hk⟩
  refine ⟨rfl, ?_, hk⟩
  unfold AE
  rw [hc]
  exact EN.congr h hs
theorem keys_any (H : AE e b s D w) (hb : b ≤ 900000) : Calls Try.prog 17 #[.pointer (some ⟨e, 0, none⟩)] w fun ee w' => ee = .returned (.int .i64 ((A.keys s).length : Nat)) ∧ Below w.heap.size w w' := by
  have := len_any H hb
  rw [A.keys_length]
  exact this
end
end Go.Proofs.Ytbbfckgooligdab
