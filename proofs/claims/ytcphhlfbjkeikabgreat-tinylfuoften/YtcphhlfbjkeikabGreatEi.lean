/- An engine as the machine of chapter 14: settle as a whole; Access. -/
import Derived.Test.YtcphhlfbjkeikabGreatEh
namespace Go.Proofs.YtcphhlfbjkeikabGreat
open Go.RowKit

section
variable {D : Nat → Prop} {w w' : World} {e : Nat} {s : Stt} {m : ByteArray → Option Ix.Sp} {z : Dk}
theorem settle_any {x : ByteArray} {r : List ByteArray} {hx : Nat} (H : MA e z s m D w) (ho : Single s) (hD : ∀ k, w.heap.size ≤ k → D k) (h1 : 1 ≤ s.c) (hc : s.c ≤ 1024) (hl : s.t1.length + s.b1.length + s.t2.length ≤ 2000) (ht : s.t1 = x :: r) (hm : m x = some (0, hx)) :
    Calls Tryz.prog 52 #[.pointer (some ⟨e, 0, none⟩), Ix.V (0, hx)] w fun ee w' => ∃ ad cap, ee = .returned (.slice ad (A.settle (fq z) { s with t1 := r } x).1.length cap) ∧ Beside (MB e z (A.settle (fq z) { s with t1 := r } x).2) ad cap (A.settle (fq z) { s with t1 := r } x).1 D w' ∧ Keeps D w w' := by
  have hmr : A.mroom ({ s with t1 := r } : Stt) = mr s.c := rfl
  by_cases hr : s.b1.length + s.t2.length < mr s.c
  · have e0 : A.settle (fq z) { s with t1 := r } x = ([], { s with t1 := r, b1 := s.b1 ++ [x] }) := by unfold A.settle; rw [hmr, if_pos (show ({ s with t1 := r } : Stt).b1.length + ({ s with t1 := r } : Stt).t2.length < mr s.c from hr)]
    rw [e0]
    refine (settle_room H ho hD h1 hc hl ht hm hr).mono ?_
    rintro ee w' ⟨rfl, h2, hk⟩
    exact ⟨none, 0, rfl, h2.bare, hk⟩
  · have hr' : mr s.c ≤ s.b1.length + s.t2.length := by omega
    have hne : ¬ ({ s with t1 := r } : Stt).b1.length + ({ s with t1 := r } : Stt).t2.length < A.mroom ({ s with t1 := r } : Stt) := hr
    have hlook : ∀ v i, Looks s v i → A.victim ({ s with t1 := r } : Stt) = [v] → Calls Tryz.prog 52 #[.pointer (some ⟨e, 0, none⟩), Ix.V (0, hx)] w fun ee w' => ∃ ad cap, ee = .returned (.slice ad (A.settle (fq z) { s with t1 := r } x).1.length cap) ∧ Beside (MB e z (A.settle (fq z) { s with t1 := r } x).2) ad cap (A.settle (fq z) { s with t1 := r } x).1 D w' ∧ Keeps D w w' := fun v i hk hv => by
      by_cases hf : fq z x ≤ fq z v
      · have e0 : A.settle (fq z) { s with t1 := r } x = ([x], { s with t1 := r }) := by unfold A.settle; rw [if_neg hne, hv]; simp only; rw [if_pos hf]
        rw [e0]
        refine (settle_stay H ho hD h1 hc ht hm hr' hk hf).mono ?_
        rintro ee w' ⟨g, rfl, h2, hk⟩
        exact ⟨_, 1, rfl, h2, hk⟩
      · have e0 : A.settle (fq z) { s with t1 := r } x = ([v], { s with t1 := r, b1 := A.cut s.b1 v ++ [x], t2 := A.cut s.t2 v }) := by unfold A.settle; rw [if_neg hne, hv]; simp only; rw [if_neg hf]
        rw [e0]
        refine (settle_swap H ho hD h1 hc hl ht hm hr' hk hf).mono ?_
        rintro ee w' ⟨g, rfl, h2, hk⟩
        exact ⟨_, 1, rfl, h2, hk⟩
    rcases A.victim_is ({ s with t1 := r } : Stt) with ⟨h2, h3, h4⟩ | ⟨v, q, h2, h3⟩ | ⟨v, q, h2, h3, h4⟩
    · have e0 : A.settle (fq z) { s with t1 := r } x = ([x], { s with t1 := r }) := by unfold A.settle; rw [if_neg hne, h2]
      rw [e0]
      refine (settle_none H ho hD h1 hc ht hm hr' h3 h4).mono ?_
      rintro ee w' ⟨g, rfl, h2, hk⟩
      exact ⟨_, 1, rfl, h2, hk⟩
    · exact hlook v 1 ⟨.inl rfl, fun h => by omega, q, h3⟩ h2
    · exact hlook v 2 ⟨.inr rfl, fun _ => h3, q, h4⟩ h2
/-- what Access answers: whether it was a hit, and a row that is none of the engine's -/
def Says (e : Nat) (z : Dk) (r : Bool × List ByteArray × Stt) (D : Nat → Prop) (w : World) (ee : Ending) (w' : World) : Prop :=
  ∃ ad cap, ee = .returned (.tuple #[.bool r.1, .slice ad r.2.1.length cap]) ∧ Beside (MB e z r.2.2) ad cap r.2.1 D w' ∧ Keeps D w w'
theorem keys_in {k : ByteArray} : k ∈ A.keys s ↔ ∃ i, i < 3 ∧ k ∈ qs s i := by
  unfold A.keys
  rw [List.mem_append, List.mem_append]
  constructor
  · rintro (h | h | h)
    · exact ⟨0, by omega, h⟩
    · exact ⟨1, by omega, h⟩
    · exact ⟨2, by omega, h⟩
  · rintro ⟨i, hi, h⟩
    have : i = 0 ∨ i = 1 ∨ i = 2 := by omega
    rcases this with e | e | e <;> subst e
    · exact .inl h
    · exact .inr (.inl h)
    · exact .inr (.inr h)
theorem MA.found (H : MA e z s m D w) {k : ByteArray} (h : k ∈ A.keys s) : ∃ i hh, i < 3 ∧ m k = some (i, hh) := by
  obtain ⟨i, hi, hk⟩ := keys_in.1 h
  obtain ⟨hh, hm⟩ := H.has hi hk
  exact ⟨i, hh, hi, hm⟩
theorem MA.lost (H : MA e z s m D w) {k : ByteArray} (h : k ∉ A.keys s) : m k = none :=
  H.out.2 (fun i hi hk => h (keys_in.2 ⟨i, hi, hk⟩))
theorem lens_ok (hok : A.Ok s) : s.t1.length + s.b1.length + s.t2.length ≤ 1024 := by
  have h1 := hok.res
  have h2 := hok.hi
  rw [A.keys_length] at h1
  omega
theorem use_any (H : MA e z s m D w) (hok : A.Ok s) (hD : ∀ k, w.heap.size ≤ k → D k) {k : ByteArray} {i h : Nat} (hm : m k = some (i, h)) :
    Calls Tryz.prog 47 #[.pointer (some ⟨e, 0, none⟩), Ix.V (i, h)] w fun ee w' => ee = .returned (.tuple #[]) ∧ MB e z (A.use s k) D w' ∧ Keeps D w w' := by
  by_cases hi : i = 0
  · subst hi
    exact use_win H (Single.of hok) hD (by have := lens_ok hok; omega) hm
  · exact use_main H hok hD hm hi
set_option maxHeartbeats 2000000 in
theorem acc_hit (H : MA e z s m D w) (hok : A.Ok s) (hD : ∀ k, w.heap.size ≤ k → D k) (key : ByteArray) (hk : key.size ≤ 1000) (hin : key ∈ A.keys s) :
    Calls Tryz.prog 26 #[.pointer (some ⟨e, 0, none⟩), .string key] w fun ee w' => ee = .returned (.tuple #[.bool true, .slice none 0 0]) ∧ MB e (nt z key) (A.use s key) D w' ∧ Keeps D w w' := by
  have HE : Hid (MA e z s m D w) := H
  have HD : Hid (∀ k, w.heap.size ≤ k → D k) := hD
  obtain ⟨i, h, hi, hm⟩ := H.found hin
  have HM : Hid (m key = some (i, h)) := hm
  have HOk : Hid (A.Ok s) := hok
  have heo := H.cells.2.2.2.1
  clear H hD hm hok hin
  go_enter Tryz.func26, Tryz.ntmps26
  go_wp2_with (first
    | (go_at_call 34; refine (blank_any HE.out).mono ?_; rintro ee w1 ⟨rfl, rfl⟩)
    | (go_at_call 46; refine (note_any HE.out HD.out key hk).mono ?_; rintro ee w2 ⟨rfl, h2, hk2⟩; have H2 : Hid (MA e (nt z key) s m D w2) := h2; have HK2 : Hid (Keeps D w1 w2) := hk2; obtain ⟨xp, c4, hget⟩ := h2.get (by omega) key hk; have heo2 := h2.cells.2.2.2.1; rw [HM.out] at hget; clear h2 hk2)
    | (go_at_call 35; refine Calls.mono hget ?_; clear hget; rintro ee w3 ⟨rfl, hb3⟩; have HB3 : Hid (Below w2.heap.size w2 (w3.alloc (.cells #[.int .i64 (i : Nat), .int .i64 (h : Nat)] 44))) := hb3.alloc hb3.size _; clear hb3)
    | (go_at_call 47; refine (use_any (H2.out.below HB3.out) HOk.out (fun k hk => HD.out k (Nat.le_trans HK2.out.size (Nat.le_trans HB3.out.size hk))) HM.out).mono ?_; rintro ee w4 ⟨rfl, h4, hk4⟩; have HK4 : Hid (Keeps D w1 w4) := (HK2.out.trans (.of_below HB3.out)).trans hk4; clear hk4))
  go_ret2
  exact ⟨rfl, h4, HK4.out⟩
theorem come_rows {key : ByteArray} (hin : key ∉ A.keys s) : ∀ j, j < 3 → qs { s with t1 := s.t1 ++ [key] } j = laid (qs s) key 0 j := by
  have h : ∀ i, i < 3 → key ∉ qs s i := fun i hi hk => hin (keys_in.2 ⟨i, hi, hk⟩)
  refine three ?_ ?_ ?_
  · simp [qs, laid, A.cut_same (show key ∉ s.t1 from h 0 (by omega))]
  · simp [qs, laid, A.cut_same (show key ∉ s.b1 from h 1 (by omega))]
  · simp [qs, laid, A.cut_same (show key ∉ s.t2 from h 2 (by omega))]
theorem come_single {key : ByteArray} (hok : A.Ok s) (hin : key ∉ A.keys s) : Single { s with t1 := s.t1 ++ [key] } := by
  intro j
  obtain ⟨k1, k2, k3⟩ := A.cnt_nokey hin
  have h := hok.one j
  show A.cnt j (s.t1 ++ [key]) + A.cnt j s.t2 + A.cnt j s.b1 ≤ 1
  rw [A.cnt_snoc]
  by_cases e : key = j
  · subst e; rw [A.one_self]; omega
  · rw [A.one_ne e]; omega
set_option maxHeartbeats 2000000 in
theorem acc_room (H : MA e z s m D w) (hok : A.Ok s) (hD : ∀ k, w.heap.size ≤ k → D k) (key : ByteArray) (hk : key.size ≤ 1000) (hin : key ∉ A.keys s) (hl : s.t1.length < A.wroom s) :
    Calls Tryz.prog 26 #[.pointer (some ⟨e, 0, none⟩), .string key] w fun ee w' => ee = .returned (.tuple #[.bool false, .slice none 0 0]) ∧ MB e (nt z key) { s with t1 := s.t1 ++ [key] } D w' ∧ Keeps D w w' := by
  have HE : Hid (MA e z s m D w) := H
  have HD : Hid (∀ k, w.heap.size ≤ k → D k) := hD
  have HM : Hid (m key = none) := H.lost hin
  have HU : Hid (∀ j, j < 3 → qs { s with t1 := s.t1 ++ [key] } j = laid (qs s) key 0 j) := come_rows hin
  have HTot : Hid ((qs s 0).length + (qs s 1).length + (qs s 2).length + 1 ≤ 20000) := by have := lens_ok hok; show s.t1.length + s.b1.length + s.t2.length + 1 ≤ 20000; omega
  have hc := hok.hi
  have hwr : s.t1.length + 1 ≤ wr s.c := hl
  have hwl : wr s.c ≤ 1024 := by have := wr_le hok.lo; omega
  have heo := H.cells.2.2.2.1
  clear H hD hok hin hl
  go_enter Tryz.func26, Tryz.ntmps26
  go_wp2_with (first
    | (go_at_call 34; refine (blank_any HE.out).mono ?_; rintro ee w1 ⟨rfl, rfl⟩)
    | (go_at_call 46; refine (note_any HE.out HD.out key hk).mono ?_; rintro ee w2 ⟨rfl, h2, hk2⟩; have H2 : Hid (MA e (nt z key) s m D w2) := h2; have HK2 : Hid (Keeps D w1 w2) := hk2; obtain ⟨xp, c4, hget⟩ := h2.get (by omega) key hk; have heo2 := h2.cells.2.2.2.1; rw [HM.out] at hget; clear h2 hk2)
    | (go_at_call 35; refine Calls.mono hget ?_; clear hget; rintro ee w3 ⟨rfl, hb3⟩; have HB3 : Hid (Below w2.heap.size w2 (w3.alloc (.cells #[.int .i64 0, .int .i64 0] 44))) := hb3.alloc hb3.size _; clear hb3)
    | (go_at_call 48; refine (admit_any (H2.out.below HB3.out) (fun k hk => HD.out k (Nat.le_trans HK2.out.size (Nat.le_trans HB3.out.size hk))) (by omega) key hk HM.out 0 (by omega) HTot.out).mono ?_; rintro ee w4 ⟨rfl, ⟨h', h4⟩, hk4⟩; have H4 : Hid (MA e (nt z key) { s with t1 := s.t1 ++ [key] } (Ix.put m key (some (0, h'))) D w4) := h4.congr HU.out; have HK4 : Hid (Keeps D w1 w4) := (HK2.out.trans (.of_below HB3.out)).trans hk4; have hcnt : Calls Tryz.prog 49 #[.pointer (some ⟨e, 0, none⟩), .int .i64 0] w4 fun ee w' => ee = .returned (.int .i64 ((s.t1.length + 1 : Nat) : Int)) ∧ w' = w4 := (by have := count_any H4.out (i := 0) (by omega); simpa [qs] using this); have hwin := window_any H4.out hc; clear h4 hk4)
    | (go_at_call 49; refine Calls.mono hcnt ?_; clear hcnt; rintro ee w5 ⟨rfl, rfl⟩)
    | (go_at_call 50; refine Calls.mono hwin ?_; clear hwin; rintro ee w6 ⟨rfl, rfl⟩))
  go_ret2
  exact ⟨rfl, ⟨_, H4.out⟩, HK4.out⟩
theorem first_win {S : Stt} {x : ByteArray} {r : List ByteArray} (H : MA e z S m D w) (ht : S.t1 = x :: r) :
    ∃ hx, m x = some (0, hx) ∧ Calls Tryz.prog 51 #[.pointer (some ⟨e, 0, none⟩), .slice (some ⟨w.heap.size, 0, none⟩) 1 1] (w.alloc (.cells #[.int .i64 0] 3)) fun ee w' => ee = .returned (.tuple #[Ix.V (0, hx), .bool true]) ∧ Below (w.alloc (.cells #[.int .i64 0] 3)).heap.size (w.alloc (.cells #[.int .i64 0] 3)) w' :=
  first_at (p := []) (q := []) (i := 0) (k := x) (r := r) (H.below ((Below.refl _ w).alloc (Nat.le_refl _) _)) (ints_one w 0) (by simp) (by simp) (by simp) (by simp [qs, ht])
set_option maxHeartbeats 2000000 in
theorem acc_full {x : ByteArray} {r : List ByteArray} (H : MA e z s m D w) (hok : A.Ok s) (hD : ∀ k, w.heap.size ≤ k → D k) (key : ByteArray) (hk : key.size ≤ 1000) (hin : key ∉ A.keys s) (hl : ¬ s.t1.length < A.wroom s) (ht : s.t1 = x :: r) :
    Calls Tryz.prog 26 #[.pointer (some ⟨e, 0, none⟩), .string key] w (Says e (nt z key) (false, A.settle (fq (nt z key)) { s with t1 := r ++ [key] } x) D w) := by
  have HE : Hid (MA e z s m D w) := H
  have HD : Hid (∀ k, w.heap.size ≤ k → D k) := hD
  have HM : Hid (m key = none) := H.lost hin
  have hll := lens_ok hok
  have HTot : Hid ((qs s 0).length + (qs s 1).length + (qs s 2).length + 1 ≤ 20000) := by show s.t1.length + s.b1.length + s.t2.length + 1 ≤ 20000; omega
  have hlo := hok.lo
  have hc := hok.hi
  have hwr : ¬ s.t1.length + 1 ≤ wr s.c := by have : A.wroom s = wr s.c := rfl; omega
  have hwl : wr s.c ≤ 1024 := by have := wr_le hok.lo; omega
  have heo := H.cells.2.2.2.1
  obtain ⟨S, hS⟩ : ∃ S : Stt, S = { s with t1 := s.t1 ++ [key] } := ⟨_, rfl⟩
  have HU : Hid (∀ j, j < 3 → qs S j = laid (qs s) key 0 j) := by rw [hS]; exact come_rows hin
  have HSi : Hid (Single S) := by rw [hS]; exact come_single hok hin
  have hSt : S.t1 = x :: (r ++ [key]) := by rw [hS]; show s.t1 ++ [key] = _; rw [ht]; rfl
  have HSc : Hid (S.c = s.c) := by show S.c = s.c; rw [hS]
  have hlo2 : 1 ≤ S.c := by rw [HSc.out]; exact hlo
  have hc2 : S.c ≤ 1024 := by rw [HSc.out]; exact hc
  have hSl : S.t1.length + S.b1.length + S.t2.length ≤ 2000 := by rw [hS]; show (s.t1 ++ [key]).length + s.b1.length + s.t2.length ≤ 2000; simp; omega
  have hS1 : S.t1.length = s.t1.length + 1 := by rw [hS]; simp
  have hSe : ({ s with t1 := r ++ [key] } : Stt) = { S with t1 := r ++ [key] } := by rw [hS]
  rw [hSe]
  clear H hD hok hin hl hS hSe ht
  generalize s.t1.length = n1 at *
  go_enter Tryz.func26, Tryz.ntmps26
  go_wp2_with (first
    | (go_at_call 34; refine (blank_any HE.out).mono ?_; rintro ee w1 ⟨rfl, rfl⟩)
    | (go_at_call 46; refine (note_any HE.out HD.out key hk).mono ?_; rintro ee w2 ⟨rfl, h2, hk2⟩; have H2 : Hid (MA e (nt z key) s m D w2) := h2; have HK2 : Hid (Keeps D w1 w2) := hk2; obtain ⟨xp, c4, hget⟩ := h2.get (by omega) key hk; have heo2 := h2.cells.2.2.2.1; rw [HM.out] at hget; clear h2 hk2)
    | (go_at_call 35; refine Calls.mono hget ?_; clear hget; rintro ee w3 ⟨rfl, hb3⟩; have HB3 : Hid (Below w2.heap.size w2 (w3.alloc (.cells #[.int .i64 0, .int .i64 0] 44))) := hb3.alloc hb3.size _; clear hb3)
    | (go_at_call 48; refine (admit_any (H2.out.below HB3.out) (fun k hk => HD.out k (Nat.le_trans HK2.out.size (Nat.le_trans HB3.out.size hk))) (by omega) key hk HM.out 0 (by omega) HTot.out).mono ?_; rintro ee w4 ⟨rfl, ⟨h', h4⟩, hk4⟩; have H4 : Hid (MA e (nt z key) S (Ix.put m key (some (0, h'))) D w4) := (by show MA e (nt z key) S (Ix.put m key (some (0, h'))) D w4; unfold MA; rw [HSc.out]; exact h4.congr HU.out); have HK4 : Hid (Keeps D w1 w4) := (HK2.out.trans (.of_below HB3.out)).trans hk4; have hcnt : Calls Tryz.prog 49 #[.pointer (some ⟨e, 0, none⟩), .int .i64 0] w4 fun ee w' => ee = .returned (.int .i64 ((n1 + 1 : Nat) : Int)) ∧ w' = w4 := (by rw [← hS1]; exact count_any H4.out (i := 0) (by omega)); have hwin := window_any H4.out hc2; rw [HSc.out] at hwin; clear h4 hk4)
    | (go_at_call 49; refine Calls.mono hcnt ?_; clear hcnt; rintro ee w5 ⟨rfl, rfl⟩)
    | (go_at_call 50; refine Calls.mono hwin ?_; clear hwin; rintro ee w6 ⟨rfl, rfl⟩; obtain ⟨hx, hmx, hfst⟩ := first_win H4.out hSt; have HMx : Hid (Ix.put m key (some (0, h')) x = some (0, hx)) := hmx; clear hmx)
    | (go_at_call 51; refine Calls.mono hfst ?_; clear hfst; rintro ee w7 ⟨rfl, hb7⟩; have HB7 : Hid (Below w6.heap.size w6 (w7.alloc (.cells #[.int .i64 0, .int .i64 (hx : Nat)] 44))) := (below_trans ((Below.refl _ w6).alloc (Nat.le_refl _) _) hb7).alloc (below_trans ((Below.refl _ w6).alloc (Nat.le_refl _) (.cells #[.int .i64 0] 3)) hb7).size _; clear hb7)
    | (go_at_call 52; refine (settle_any (H4.out.below HB7.out) HSi.out (fun k hk => HD.out k (Nat.le_trans HK4.out.size (Nat.le_trans HB7.out.size hk))) hlo2 hc2 hSl hSt HMx.out).mono ?_; rintro ee w8 ⟨ad, cap, rfl, h8, hk8⟩; have HK8 : Hid (Keeps D w1 w8) := (HK4.out.trans (.of_below HB7.out)).trans hk8; clear hk8))
  go_ret2
  exact ⟨ad, cap, rfl, h8, HK8.out⟩
theorem acc_any (H : MB e z s D w) (hok : A.Ok s) (hD : ∀ k, w.heap.size ≤ k → D k) (key : ByteArray) (hk : key.size ≤ 1000) :
    Calls Tryz.prog 26 #[.pointer (some ⟨e, 0, none⟩), .string key] w (Says e (nt z key) (A.access (fq (nt z key)) s key) D w) := by
  obtain ⟨m, H⟩ := H
  by_cases hin : key ∈ A.keys s
  · have e0 : A.access (fq (nt z key)) s key = (true, [], A.use s key) := by unfold A.access; rw [if_pos hin]
    rw [e0]
    refine (acc_hit H hok hD key hk hin).mono ?_
    rintro ee w' ⟨rfl, h1, hk1⟩
    exact ⟨none, 0, rfl, h1.bare, hk1⟩
  · by_cases hl : s.t1.length < A.wroom s
    · have e0 : A.access (fq (nt z key)) s key = (false, [], { s with t1 := s.t1 ++ [key] }) := by unfold A.access A.come; rw [if_neg hin, if_pos hl]
      rw [e0]
      refine (acc_room H hok hD key hk hin hl).mono ?_
      rintro ee w' ⟨rfl, h1, hk1⟩
      exact ⟨none, 0, rfl, h1.bare, hk1⟩
    · obtain ⟨x, r, ht⟩ : ∃ x r, s.t1 = x :: r := by
        cases hx : s.t1 with
        | nil => rw [hx] at hl; exact absurd (show ([] : List ByteArray).length < A.wroom s by unfold A.wroom; simp; omega) hl
        | cons x r => exact ⟨x, r, rfl⟩
      have e0 : A.access (fq (nt z key)) s key = (false, A.settle (fq (nt z key)) { s with t1 := r ++ [key] } x) := by unfold A.access A.come; rw [if_neg hin, if_neg hl, ht]
      rw [e0]
      exact acc_full H hok hD key hk hin hl ht
end
end Go.Proofs.YtcphhlfbjkeikabGreat
