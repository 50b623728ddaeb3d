/- Of an engine: Len, full, small, ghostRoom; the machine of chapter 12 in memory; take, lay. -/
import Derived.Test.YtnbfokmodjgaaabDoorEc
import Derived.Test.YtnbfokmodjgaaabDoorBs
import Derived.BigQuiet
import Derived.WalkSmall
namespace Go.Proofs.YtnbfokmodjgaaabDoor
open Go.RowKit

theorem EN.alloc {D : Nat → Prop} {w : World} {e c : Nat} {Q : Nat → List Ls.It} {b : Nat} (H : EN D w e c Q b) (o : Obj) : EN D (w.alloc o) e c Q b := H.below ((Below.refl _ w).alloc (Nat.le_refl _) o)
theorem EN.drew {D : Nat → Prop} {w : World} {e c : Nat} {Q : Nat → List Ls.It} {b : Nat} (H : EN D w e c Q b) : EN D w.drew e c Q b := H.kept (D' := fun _ => False) (Keeps.refl _ w).drew (fun _ _ _ e => e)
theorem EN.drewN {D : Nat → Prop} {w : World} {e c : Nat} {Q : Nat → List Ls.It} {b : Nat} (H : EN D w e c Q b) (q : Nat) : EN D (w.drewN q) e c Q b := H.kept (D' := fun _ => False) ((Keeps.refl _ w).drewN q) (fun _ _ _ e => e)
section
variable {D : Nat → Prop} {w : World} {e c : Nat} {Q : Nat → List Ls.It} {b : Nat}
set_option maxHeartbeats 1000000 in
theorem len_any (H : EN D w e c Q b) (hb : b ≤ 900000) : Calls Tryd.prog 17 #[.pointer (some ⟨e, 0, none⟩)] w fun ee w' => ee = .returned (.int .i64 ((Q 0).length + (Q 1).length : Nat)) ∧ Below w.heap.size w w' := by
  have HE : Hid (EN D w e c Q b) := H
  have h0 := H.lens (i := 0) (by omega)
  have h2 := H.lens (i := 1) (by omega)
  have hc0 : Calls Tryd.prog 43 #[.pointer (some ⟨e, 0, none⟩), .int .i64 0] w fun ee w' => ee = .returned (.int .i64 ((Q 0).length : Nat)) ∧ w' = w := count_any H (i := 0) (by omega)
  have hc2 : Calls Tryd.prog 43 #[.pointer (some ⟨e, 0, none⟩), .int .i64 1] w fun ee w' => ee = .returned (.int .i64 ((Q 1).length : Nat)) ∧ w' = w := count_any H (i := 1) (by omega)
  generalize (Q 0).length = n0 at *
  generalize (Q 1).length = n2 at *
  clear H
  go_enter Tryd.func17, Tryd.ntmps17
  go_wp2_with (first
    | (go_at_call 29; refine (blank_any HE.out).mono ?_; rintro ee w1 ⟨rfl, rfl⟩)
    | (go_at_call 43; refine Calls.mono hc0 ?_; clear hc0; rintro ee w1 ⟨rfl, rfl⟩)
    | (go_at_call 43; refine Calls.mono hc2 ?_; clear hc2; rintro ee w1 ⟨rfl, rfl⟩))
  go_ret
  exact ⟨by go_num, Below.refl _ _⟩
theorem small_any (H : EN D w e c Q b) (hc : c ≤ 1024) : Calls Tryd.prog 60 #[.pointer (some ⟨e, 0, none⟩)] w fun ee w' => ee = .returned (.int .i64 ((max 1 (c / 10) : Nat) : Int)) ∧ w' = w := by
  obtain ⟨c0, c1, f1, heo, x, c6⟩ := EN.cells H
  clear H
  go_enter Tryd.func60, Tryd.ntmps60
  go_wp2
  go_ret
  exact ⟨by simp; omega, rfl⟩
theorem ghostRoom_any (H : EN D w e c Q b) (hc : c ≤ 1024) : Calls Tryd.prog 84 #[.pointer (some ⟨e, 0, none⟩)] w fun ee w' => ee = .returned (.int .i64 ((max 1 (c - max 1 (c / 10)) : Nat) : Int)) ∧ Below w.heap.size w w' := by
  have HE : Hid (EN D w e c Q b) := H
  obtain ⟨c0, c1, f1, heo, x, c6⟩ := EN.cells H
  obtain ⟨sm, hsm⟩ : ∃ sm, sm = max 1 (c / 10) := ⟨_, rfl⟩
  have hs := small_any (H.drew) hc
  rw [← hsm]
  rw [← hsm] at hs
  have h1 : sm ≤ 1024 := by omega
  have HX : Hid (max ((c : Int) - (sm : Int)) 1 = ((max 1 (c - sm) : Nat) : Int)) := by show max ((c : Int) - (sm : Int)) 1 = _; omega
  have hws : IntKind.i64.wrap ((c : Int) - (sm : Int)) = (c : Int) - (sm : Int) := by rw [IntKind.wrap_i64]; omega
  clear H hsm
  go_enter Tryd.func84, Tryd.ntmps84
  go_wp2_with fail
  go_region_with (go_at_call 60; refine Calls.mono hs ?_; clear hs; rintro ee w1 ⟨rfl, rfl⟩)
  all_goals
    go_wp2
    go_ret
    refine ⟨ret_int ?_, (Below.refl _ _).drew⟩
    have := HX.out
    first | exact this | omega
theorem full_any (H : EN D w e c Q b) (hb : b ≤ 900000) : Calls Tryd.prog 36 #[.pointer (some ⟨e, 0, none⟩)] w fun ee w' => ee = .returned (.bool (decide (c ≤ (Q 0).length + (Q 1).length))) ∧ Below w.heap.size w w' := by
  have HE : Hid (EN D w e c Q b) := H
  obtain ⟨c0, c1, f1, heo, x, c6⟩ := EN.cells H
  have HX : Hid (decide ((c : Int) ≤ ((Q 0).length : Int) + ((Q 1).length : Int)) = decide (c ≤ (Q 0).length + (Q 1).length)) := decide_eq_decide.2 (by omega)
  clear H
  go_enter Tryd.func36, Tryd.ntmps36
  go_wp2_with fail
  go_region_with (go_at_call 17; refine (len_any (HE.out.drew) hb).mono ?_; rintro ee w1 ⟨rfl, hb1⟩; have HE1 : Hid (EN D w1 e c Q b) := HE.out.below (undrew hb1); obtain ⟨d0, d1, -, -⟩ := EN.cells HE1.out)
  all_goals
    go_wp2
    go_ret
    exact ⟨congrArg (fun x => Ending.returned (Value.bool x)) HX.out, undrew hb1⟩
end
/-- the machine's three rows -/
def qs (s : Stt) : Nat → List Ls.It := fun i => if i = 0 then s.t1 else if i = 1 then s.t2 else s.b1
/-- an engine in memory, as a machine -/
def AE (e b : Nat) (s : Stt) (D : Nat → Prop) (w : World) : Prop := EN D w e s.c (qs s) (b + 3000)
theorem three {P : Nat → Prop} (h0 : P 0) (h1 : P 1) (h2 : P 2) : ∀ i, i < 3 → P i := by
  intro i hi
  have : i = 0 ∨ i = 1 ∨ i = 2 := by omega
  rcases this with e | e | e <;> subst e <;> assumption
theorem Single.out {s : Stt} (ho : Single s) {k : ByteArray} : (k ∈ A.ks s.t1 → k ∉ A.ks s.t2 ∧ k ∉ A.ks s.b1) ∧ (k ∈ A.ks s.t2 → k ∉ A.ks s.t1 ∧ k ∉ A.ks s.b1) ∧ (k ∈ A.ks s.b1 → k ∉ A.ks s.t1 ∧ k ∉ A.ks s.t2) := by
  have h := ho k
  refine ⟨fun hk => ?_, fun hk => ?_, fun hk => ?_⟩ <;> have h1 := A.cnt_pos.2 hk <;> exact ⟨fun h2 => by have := A.cnt_pos.2 h2; omega, fun h2 => by have := A.cnt_pos.2 h2; omega⟩
theorem less_head {x : Ls.It} {l : List Ls.It} (h : ∀ k, A.cnt k (A.ks (x :: l)) ≤ 1) : A.less (x :: l) x.key = l := by
  have hx : x.key ∉ A.ks l := by
    rw [← A.cnt_zero]
    have := h x.key
    rw [A.ks_cons, A.cnt_cons, A.one_self] at this
    omega
  have e : A.less (x :: l) x.key = A.less l x.key := by simp [A.less]
  rw [e, less_same hx]
section
variable {D : Nat → Prop} {w w' : World} {e b : Nat} {s : Stt}
theorem AE.below (H : AE e b s D w) (hb : Below w.heap.size w w') : AE e b s D w' := EN.below H hb
theorem AE.wide {D' : Nat → Prop} (H : AE e b s D w) (hD : ∀ k, k < w.heap.size → D k → D' k) : AE e b s D' w := EN.wide H hD
theorem AE.narrow (H : AE e b s D w) : AE e b s (fun k => D k ∧ k < w.heap.size) w := H.wide (fun _ a h => ⟨h, a⟩)
theorem AE.more {b' : Nat} (H : AE e b s D w) (h : b ≤ b') : AE e b' s D w := EN.more H (by omega)
theorem less_len (l : List Ls.It) (k : ByteArray) : (A.less l k).length ≤ l.length := List.length_filter_le _ _
theorem lay_to {s' : Stt} (H : AE e b s D w) (hD : ∀ k, w.heap.size ≤ k → D k) (hb : b ≤ 700000) (hz : s.t1.length + s.t2.length + s.b1.length ≤ 2900) (k : ByteArray) (hk : k.size ≤ 1000) (i : Nat) (hi : i < 3) (hs : ∀ j, j < 3 → qs s' j = laid (qs s) k i j) (hc : s'.c = s.c) :
    Calls Tryd.prog 34 #[.pointer (some ⟨e, 0, none⟩), .string k, .int .i64 (i : Nat)] w fun ee w' => ee = .returned (.tuple #[]) ∧ AE e b s' D w' ∧ Keeps D w w' := by
  refine (lay_any H hD (by omega) k hk i hi ?_).mono ?_
  · have h1 := less_len s.t1 k
    have h2 := less_len s.t2 k
    have h3 := less_len s.b1 k
    show (A.less s.t1 k).length + (A.less s.t2 k).length + (A.less s.b1 k).length + 1 ≤ _
    omega
  rintro ee w' ⟨rfl, h, hk⟩
  refine ⟨rfl, ?_, hk⟩
  unfold AE
  rw [hc]
  exact EN.congr h hs
theorem take_to {s' : Stt} (H : AE e b s D w) (hD : ∀ k, w.heap.size ≤ k → D k) (hb : b ≤ 800000) (k : ByteArray) (hk : k.size ≤ 1000) (hs : ∀ j, j < 3 → qs s' j = A.less (qs s j) k) (hc : s'.c = s.c) :
    Calls Tryd.prog 37 #[.pointer (some ⟨e, 0, none⟩), .string k] w fun ee w' => ee = .returned (.tuple #[]) ∧ AE e b s' D w' ∧ Keeps D w w' := by
  refine (take_any H hD (by omega) k hk).mono ?_
  rintro ee w' ⟨rfl, h, hk⟩
  refine ⟨rfl, ?_, hk⟩
  unfold AE
  rw [hc]
  exact EN.congr h hs
theorem keys_any (H : AE e b s D w) (hb : b ≤ 800000) : Calls Tryd.prog 17 #[.pointer (some ⟨e, 0, none⟩)] w fun ee w' => ee = .returned (.int .i64 ((A.keys s).length : Nat)) ∧ Below w.heap.size w w' := by
  have := len_any H (by omega)
  rw [A.keys_length]
  exact this
theorem count0 (H : AE e b s D w) : Calls Tryd.prog 43 #[.pointer (some ⟨e, 0, none⟩), .int .i64 0] w fun ee w' => ee = .returned (.int .i64 (s.t1.length : Nat)) ∧ w' = w := count_any H (i := 0) (by omega)
theorem count1 (H : AE e b s D w) : Calls Tryd.prog 43 #[.pointer (some ⟨e, 0, none⟩), .int .i64 1] w fun ee w' => ee = .returned (.int .i64 (s.t2.length : Nat)) ∧ w' = w := count_any H (i := 1) (by omega)
theorem count2 (H : AE e b s D w) : Calls Tryd.prog 43 #[.pointer (some ⟨e, 0, none⟩), .int .i64 2] w fun ee w' => ee = .returned (.int .i64 (s.b1.length : Nat)) ∧ w' = w := count_any H (i := 2) (by omega)
theorem smallA (H : AE e b s D w) (hc : s.c ≤ 1024) : Calls Tryd.prog 60 #[.pointer (some ⟨e, 0, none⟩)] w fun ee w' => ee = .returned (.int .i64 ((A.small s : Nat) : Int)) ∧ w' = w := small_any H hc
theorem ghostRoomA (H : AE e b s D w) (hc : s.c ≤ 1024) : Calls Tryd.prog 84 #[.pointer (some ⟨e, 0, none⟩)] w fun ee w' => ee = .returned (.int .i64 ((A.gmax s : Nat) : Int)) ∧ Below w.heap.size w w' := ghostRoom_any H hc
end
end Go.Proofs.YtnbfokmodjgaaabDoor
