/- An engine as the machine of chapter 10: Access of a key that is not resident. -/
import Derived.Test.YtfbdmoineahfgaaDoorEj
namespace Go.Proofs.YtfbdmoineahfgaaDoor
open Go.RowKit

section
variable {D : Nat → Prop} {w w' : World} {e b : Nat} {s : Stt}
/-- what Access answers: whether it was a hit, and a row that is none of the engine's -/
def Says (e b : Nat) (r : Bool × List ByteArray × Stt) (D : Nat → Prop) (w : World) (ee : Ending) (w' : World) : Prop :=
  ∃ ad cap, ee = .returned (.tuple #[.bool r.1, .slice ad r.2.1.length cap]) ∧ Beside (AE e b r.2.2) ad cap r.2.1 D w' ∧ Keeps D w w'
theorem Beside.wide {D' : Nat → Prop} {A : (Nat → Prop) → World → Prop} {ad : Option Addr} {cap : Nat} {zs : List ByteArray} (h : Beside A ad cap zs D w) (hD : ∀ k, D k → D' k) : Beside A ad cap zs D' w := by
  obtain ⟨D1, h1, h2, h3⟩ := h
  exact ⟨D1, fun g hg => ⟨hD g (h1 g hg).1, (h1 g hg).2⟩, h2, h3.wide (fun g _ hg => ⟨hD g hg.1, hg.2⟩)⟩
set_option maxHeartbeats 2000000 in
theorem acc_new {x : Nat} (H : AE e b s D w) (hok : A.Ok s) (hD : ∀ k, w.heap.size ≤ k → D k) (hb : b ≤ 600000) (key : ByteArray) (hk : key.size ≤ 1000) (c6 : w.cell? ⟨e, 6, none⟩ = some (.pointer (some ⟨x, 0, none⟩))) (hf : Finds x key (0, 0) false w) (hn : ∀ i, i < 4 → key ∉ qs s i) :
    Calls Tryd.prog 28 #[.pointer (some ⟨e, 0, none⟩), .string key] w (Says e (b + 2) (false, A.fresh s key) D w) := by
  have HE : Hid (AE e b s D w) := H
  have HD : Hid (∀ k, w.heap.size ≤ k → D k) := hD
  have HF : Hid (Finds x key (0, 0) false w) := hf
  have HOk : Hid (A.Ok s) := hok
  have hnb : key ∉ s.b2 := hn 3 (by omega)
  have HM : Hid (A.Missed s (A.fresh s key).2 key (A.fresh s key).1) := A.fresh_missed hok (by
    have h0 := A.cnt_zero.2 (hn 0 (by omega)); have h1 := A.cnt_zero.2 (hn 1 (by omega)); have h2 := A.cnt_zero.2 (hn 2 (by omega)); have h3 := A.cnt_zero.2 (hn 3 (by omega))
    simp only [qs, if_true] at h0
    have e1 : A.cnt key s.t2 = 0 := h1
    have e2 : A.cnt key s.b1 = 0 := h2
    have e3 : A.cnt key s.b2 = 0 := h3
    omega)
  have heo := (EN.cells H).2.2.2.1
  clear H hD hf hn hok
  obtain ⟨l, s1, hcl⟩ : ∃ l s1, A.clears s key = (l, s1) := ⟨_, _, rfl⟩
  have HCl : Hid (A.clears s key = (l, s1)) := hcl
  have HLa : Hid (∀ i, i < 4 → qs (A.newest s1 key) i = laid (qs s1) key 0 i) := laid_newest (by
    have h := HM.out.ok
    unfold A.fresh at h
    rw [hcl] at h
    exact h.one)
  clear hcl
  go_enter Tryd.func28, Tryd.ntmps28
  go_wp2_with (first
    | (go_at_call 41; refine (blank_any HE.out).mono ?_; rintro ee w1 ⟨rfl, rfl⟩)
    | (go_at_call 50; refine (HF.out _ (Below.refl _ _)).mono ?_; rintro ee w2 ⟨rfl, hb2⟩; have hb2' : Below w1.heap.size w1 (w2.alloc (.cells #[.int .i64 0, .int .i64 0] 53)) := hb2.alloc hb2.size _)
    | (go_at_call 51; refine (admit_any (EN.below HE.out hb2') HOk.out (fun k h => HD.out k (Nat.le_trans hb2'.size h)) (by omega) key hnb).mono ?_; rw [HCl.out]; rintro ee w3 ⟨ad, cap, rfl, h3, hk3⟩)
    | (go_at_call 52; refine (Beside.step (Qe := fun ee => ee = .returned (.tuple #[])) h3 (fun k h => HD.out k (Nat.le_trans (Nat.le_trans hb2'.size hk3.size) h)) (fun D1 hA hD1 => lay_to (s' := A.newest s1 key) hA hD1 (by omega) key hk 0 (by omega) HLa.out rfl rfl)).mono ?_; rintro ee w4 ⟨rfl, h4, hk4⟩))
  go_ret2
  refine ⟨ad, cap, ?_, ?_, ((Keeps.of_below hb2').trans hk3).trans hk4⟩
  · unfold A.fresh
    rw [HCl.out]
    rfl
  · unfold A.fresh
    rw [HCl.out]
    exact h4
/-- adapt, of a key in list i -/
def Adapts (e b : Nat) (s s' : Stt) (i : Nat) : Prop := ∀ (D : Nat → Prop) (W : World), AE e b s D W → (∀ k, W.heap.size ≤ k → D k) →
  Calls Tryd.prog 54 #[.pointer (some ⟨e, 0, none⟩), .int .i64 (i : Nat)] W fun ee w' => ee = .returned (.tuple #[]) ∧ AE e b s' D w' ∧ Keeps D W w'
set_option maxHeartbeats 4000000 in
theorem acc_ghost {x i h : Nat} {s2 s3 : Stt} {l : List ByteArray} (H : AE e b s D w) (hD : ∀ k, w.heap.size ≤ k → D k) (hb : b ≤ 600000) (key : ByteArray) (hk : key.size ≤ 1000) (c6 : w.cell? ⟨e, 6, none⟩ = some (.pointer (some ⟨x, 0, none⟩))) (hf : Finds x key (i, h) true w) (hi : i = 2 ∨ i = 3)
    (ha : Adapts e b s s2 i) (ho2 : Single s2) (hlo : 1 ≤ s2.c) (hr : rep s2 (decide (i = 3)) = (l, s3)) (s4 : Stt) (hs4 : ∀ j, j < 4 → qs s4 j = laid (qs s3) key 1 j) (hc4 : s4.c = s3.c) (hp4 : s4.p = s3.p) :
    Calls Tryd.prog 28 #[.pointer (some ⟨e, 0, none⟩), .string key] w (Says e (b + 2) (false, l, s4) D w) := by
  have HE : Hid (AE e b s D w) := H
  have HD : Hid (∀ k, w.heap.size ≤ k → D k) := hD
  have HF : Hid (Finds x key (i, h) true w) := hf
  have HA : Hid (Adapts e b s s2 i) := ha
  have HO2 : Hid (Single s2) := ho2
  have HR : Hid (rep s2 (decide (i = 3)) = (l, s3)) := hr
  have HS4 : Hid (∀ j, j < 4 → qs s4 j = laid (qs s3) key 1 j) := hs4
  have heo := (EN.cells H).2.2.2.1
  have hi2 : ¬ i < 2 := by omega
  have hi3 : ((i : Int) == 3) = decide (i = 3) := by
    rcases hi with h | h <;> subst h <;> rfl
  clear H hD hf ha ho2 hr hs4
  go_enter Tryd.func28, Tryd.ntmps28
  go_wp2_with (first
    | (go_at_call 41; refine (blank_any HE.out).mono ?_; rintro ee w1 ⟨rfl, rfl⟩)
    | (go_at_call 50; refine (HF.out _ (Below.refl _ _)).mono ?_; rintro ee w2 ⟨rfl, hb2⟩; have hb2' : Below w1.heap.size w1 (w2.alloc (.cells #[.int .i64 (i : Nat), .int .i64 (h : Nat)] 53)) := hb2.alloc hb2.size _; have HS2 : Hid (Ix.SpotAt (w2.alloc (.cells #[.int .i64 (i : Nat), .int .i64 (h : Nat)] 53)) w2.heap.size (i, h)) := heap_alloc_new w2 _)
    | (go_at_call 53; refine (resident_any (i, h)).mono ?_; rintro ee w3 ⟨rfl, hb3⟩; have hb3' := below_trans hb2' hb3; have hd : decide (((i, h) : Ix.Sp).1 < 2) = false := (by simpa using hi2); rw [hd]; have HS3 : Hid (Ix.SpotAt w3 w2.heap.size (i, h)) := HS2.out.below hb3; obtain ⟨y0, y1, yl⟩ := HS3.out.cells; obtain ⟨D1, hD1⟩ : ∃ D1 : Nat → Prop, D1 = (fun k => (D k ∧ k < w1.heap.size) ∨ w2.heap.size < k) := ⟨_, rfl⟩; have HE3 : Hid (AE e b s D1 w3) := (AE.wide (AE.below (AE.narrow HE.out) hb3') (fun k _ hk => by rw [hD1]; exact .inl hk)); have HN : Hid (¬ D1 w2.heap.size) := (by rw [hD1]; rintro (⟨_, h⟩ | h); (have := hb2.size; omega); omega); have HD1 : Hid (∀ k, w3.heap.size ≤ k → D1 k) := (by rw [hD1]; exact fun k hk => .inr (by omega)); have HW : Hid (∀ k, D1 k → D k) := (by rw [hD1]; rintro k (hk | hk); exact hk.1; exact HD.out k (by have := hb2.size; omega)); clear hD1)
    | (go_at_call 54; refine (HA.out D1 w3 HE3.out HD1.out).mono ?_; rintro ee w4 ⟨rfl, h4, hk4⟩; obtain ⟨z0, z1, zl⟩ := (HS3.out.kept hk4 HN.out).cells))
  go_wp2_with (first
    | (go_at_call 55; refine (replace_any h4 HO2.out (fun k h => HD1.out k (Nat.le_trans hk4.size h)) (by omega) hlo _).mono ?_; rw [HR.out]; rintro ee w5 ⟨ad, cap, rfl, h5, hk5⟩)
    | (go_at_call 52; refine (Beside.step (Qe := fun ee => ee = .returned (.tuple #[])) h5 (fun k h => HD1.out k (Nat.le_trans (Nat.le_trans hk4.size hk5.size) h)) (fun D2 hA hD2 => lay_to (s' := s4) hA hD2 (by omega) key hk 1 (by omega) HS4.out hc4 hp4)).mono ?_; rintro ee w6 ⟨rfl, h6, hk6⟩))
  go_ret2
  exact ⟨ad, cap, rfl, h6.wide HW.out, (Keeps.of_below hb3').trans (((hk4.trans hk5).trans hk6).mono (fun k _ => HW.out k))⟩
end
end Go.Proofs.YtfbdmoineahfgaaDoor
