/- An engine as the machine of chapter 11: Access as a whole. -/
import Derived.Test.YtbbfckgooligdabEi
namespace Go.Proofs.Ytbbfckgooligdab
open Go.RowKit

section
variable {D : Nat → Prop} {w w' : World} {e b : Nat} {s : Stt}
theorem Single.of {s : Stt} (h : A.Ok s) : Single s := h.one
theorem none_of {k : ByteArray} {l : List ByteArray} (h : A.cnt k l = 0) : k ∉ l := A.cnt_zero.1 h
/-- what Access answers: whether it was a hit, and a row that is none of the engine's -/
def Says (e b : Nat) (r : Bool × List ByteArray × Stt) (D : Nat → Prop) (w : World) (ee : Ending) (w' : World) : Prop :=
  ∃ ad cap, ee = .returned (.tuple #[.bool r.1, .slice ad r.2.1.length cap]) ∧ Beside (AE e b r.2.2) ad cap r.2.1 D w' ∧ Keeps D w w'
theorem Beside.wide {D' : Nat → Prop} {A : (Nat → Prop) → World → Prop} {ad : Option Addr} {cap : Nat} {zs : List ByteArray} (h : Beside A ad cap zs D w) (hD : ∀ k, D k → D' k) : Beside A ad cap zs D' w := by
  obtain ⟨D1, h1, h2, h3⟩ := h
  exact ⟨D1, fun g hg => ⟨hD g (h1 g hg).1, (h1 g hg).2⟩, h2, h3.wide (fun g _ hg => ⟨hD g hg.1, hg.2⟩)⟩
set_option maxHeartbeats 2000000 in
theorem acc_in {x h : Nat} (H : AE e b s D w) (key : ByteArray) (c6 : w.cell? ⟨e, 4, none⟩ = some (.pointer (some ⟨x, 0, none⟩))) (hf : Finds x key (0, h) true w) :
    Calls Try.prog 9 #[.pointer (some ⟨e, 0, none⟩), .string key] w fun ee w' => ee = .returned (.tuple #[.bool true, .slice none 0 0]) ∧ Below w.heap.size w w' := by
  have HE : Hid (AE e b s D w) := H
  have HF : Hid (Finds x key (0, h) true w) := hf
  have heo := (EN.cells H).2.2.2.1
  clear H hf
  go_enter Try.func9, Try.ntmps9
  go_wp2_with (first
    | (go_at_call 29; refine (blank_any HE.out).mono ?_; rintro ee w1 ⟨rfl, rfl⟩)
    | (go_at_call 30; refine (HF.out _ (Below.refl _ _)).mono ?_; rintro ee w2 ⟨rfl, hb2⟩; have hb2' : Below w1.heap.size w1 (w2.alloc (.cells #[.int .i64 0, .int .i64 (h : Nat)] 47)) := hb2.alloc hb2.size _; have HS2 : Hid (Ix.SpotAt (w2.alloc (.cells #[.int .i64 0, .int .i64 (h : Nat)] 47)) w2.heap.size (0, h)) := heap_alloc_new w2 _)
    | (go_at_call 31; refine (resident_any (0, h)).mono ?_; rintro ee w3 ⟨rfl, hb3⟩; have hb3' := below_trans hb2' hb3; have hd : decide (((0, h) : Ix.Sp).1 ≠ 1) = true := rfl; rw [hd]; have HS3 : Hid (Ix.SpotAt w3 w2.heap.size (0, h)) := HS2.out.below hb3; obtain ⟨y0, y1, yl⟩ := HS3.out.cells))
  go_ret2
  exact ⟨rfl, hb3'⟩
theorem laid_newest {key : ByteArray} (ho : Single (A.newest s key)) : ∀ i, i < 3 → qs (A.newest s key) i = laid (qs s) key 0 i := by
  have h := ho key
  simp only [A.newest, A.cnt_snoc, A.one_self] at h
  refine three ?_ ?_ ?_
  · simp [qs, laid, A.newest, A.cut_same (none_of (k := key) (l := s.t1) (by omega))]
  · simp [qs, laid, A.newest, A.cut_same (none_of (k := key) (l := s.b1) (by omega))]
  · simp [qs, laid, A.newest, A.cut_same (none_of (k := key) (l := s.t2) (by omega))]
theorem laid_again {key : ByteArray} (ho : Single (A.again s key)) : ∀ i, i < 3 → qs (A.again s key) i = laid (qs s) key 2 i := by
  have h := ho key
  simp only [A.again, A.cnt_snoc, A.one_self] at h
  refine three ?_ ?_ ?_
  · simp [qs, laid, A.again, A.cut_same (none_of (k := key) (l := s.t1) (by omega))]
  · simp [qs, laid, A.again, A.cut_same (none_of (k := key) (l := s.b1) (by omega))]
  · simp [qs, laid, A.again, A.cut_same (none_of (k := key) (l := s.t2) (by omega))]
theorem take_to {s' : Stt} (H : AE e b s D w) (hD : ∀ k, w.heap.size ≤ k → D k) (hb : b ≤ 900000) (k : ByteArray) (hk : k.size ≤ 1000) (hs : ∀ j, j < 3 → qs s' j = A.cut (qs s j) k) (hc : s'.c = s.c) :
    Calls Try.prog 33 #[.pointer (some ⟨e, 0, none⟩), .string k] w fun ee w' => ee = .returned (.tuple #[]) ∧ AE e b s' D w' ∧ Keeps D w w' := by
  refine (take_any H hD hb k hk).mono ?_
  rintro ee w' ⟨rfl, h, hk⟩
  refine ⟨rfl, ?_, hk⟩
  unfold AE
  rw [hc]
  exact EN.congr h hs
set_option maxHeartbeats 2000000 in
theorem acc_new {x : Nat} (H : AE e b s D w) (hok : A.Ok s) (hD : ∀ k, w.heap.size ≤ k → D k) (hb : b ≤ 600000) (key : ByteArray) (hk : key.size ≤ 1000) (c6 : w.cell? ⟨e, 4, none⟩ = some (.pointer (some ⟨x, 0, none⟩))) (hf : Finds x key (0, 0) false w) (hn : ∀ i, i < 3 → key ∉ qs s i) :
    Calls Try.prog 9 #[.pointer (some ⟨e, 0, none⟩), .string key] w (Says e (b + 2) (false, A.fresh s key) D w) := by
  have HE : Hid (AE e b s D w) := H
  have HD : Hid (∀ k, w.heap.size ≤ k → D k) := hD
  have HF : Hid (Finds x key (0, 0) false w) := hf
  have HOk : Hid (A.Ok s) := hok
  have hlo := hok.lo
  have hhi := hok.hi
  have HN : Hid (∀ j, j < 3 → qs s j = A.cut (qs s j) key) := fun j hj => (A.cut_same (hn j hj)).symm
  have HM : Hid (A.Missed s (A.fresh s key).2 key (A.fresh s key).1) := A.fresh_missed hok (by
    have h0 : A.cnt key s.t1 = 0 := A.cnt_zero.2 (hn 0 (by omega))
    have h1 : A.cnt key s.b1 = 0 := A.cnt_zero.2 (hn 1 (by omega))
    have h2 : A.cnt key s.t2 = 0 := A.cnt_zero.2 (hn 2 (by omega))
    omega)
  have heo := (EN.cells H).2.2.2.1
  clear H hD hf hn hok
  obtain ⟨l, s1, hcl⟩ : ∃ l s1, A.reclaim s = (l, s1) := ⟨_, _, rfl⟩
  have HCl : Hid (A.reclaim s = (l, s1)) := hcl
  have HLa : Hid (∀ i, i < 3 → qs (A.newest s1 key) i = laid (qs s1) key 0 i) := laid_newest (by
    have h := HM.out.ok
    unfold A.fresh at h
    rw [hcl] at h
    exact h.one)
  clear hcl
  go_enter Try.func9, Try.ntmps9
  go_wp2_with (first
    | (go_at_call 29; refine (blank_any HE.out).mono ?_; rintro ee w1 ⟨rfl, rfl⟩)
    | (go_at_call 30; refine (HF.out _ (Below.refl _ _)).mono ?_; rintro ee w2 ⟨rfl, hb2⟩; have hb2' : Below w1.heap.size w1 (w2.alloc (.cells #[.int .i64 0, .int .i64 0] 47)) := hb2.alloc hb2.size _)
    | (go_at_call 33; refine (take_to (s' := s) (AE.below HE.out hb2') (fun k h => HD.out k (Nat.le_trans hb2'.size h)) (by omega) key hk HN.out rfl).mono ?_; rintro ee w25 ⟨rfl, h25, hk25⟩)
    | (go_at_call 34; refine (reclaim_any h25 (Single.of HOk.out) (fun k h => HD.out k (Nat.le_trans (Nat.le_trans hb2'.size hk25.size) h)) (by omega) hlo hhi).mono ?_; rw [HCl.out]; rintro ee w3 ⟨ad, cap, rfl, h3, hk3⟩)
    | (go_at_call 35; refine (Beside.step (Qe := fun ee => ee = .returned (.tuple #[])) h3 (fun k h => HD.out k (Nat.le_trans (Nat.le_trans (Nat.le_trans hb2'.size hk25.size) hk3.size) h)) (fun D1 hA hD1 => lay_to (s' := A.newest s1 key) hA hD1 (by omega) key hk 0 (by omega) HLa.out rfl)).mono ?_; rintro ee w4 ⟨rfl, h4, hk4⟩))
  go_ret2
  refine ⟨ad, cap, ?_, ?_, (((Keeps.of_below hb2').trans hk25).trans hk3).trans hk4⟩
  · unfold A.fresh
    rw [HCl.out]
    rfl
  · unfold A.fresh
    rw [HCl.out]
    exact h4
set_option maxHeartbeats 2000000 in
theorem acc_ghost {x h : Nat} (H : AE e b s D w) (hok : A.Ok s) (hD : ∀ k, w.heap.size ≤ k → D k) (hb : b ≤ 600000) (key : ByteArray) (hk : key.size ≤ 1000) (c6 : w.cell? ⟨e, 4, none⟩ = some (.pointer (some ⟨x, 0, none⟩))) (hf : Finds x key (1, h) true w) (hin : key ∈ s.b1) :
    Calls Try.prog 9 #[.pointer (some ⟨e, 0, none⟩), .string key] w (Says e (b + 2) (false, A.known s key) D w) := by
  have HE : Hid (AE e b s D w) := H
  have HD : Hid (∀ k, w.heap.size ≤ k → D k) := hD
  have HF : Hid (Finds x key (1, h) true w) := hf
  have HOk : Hid (A.Ok (A.noGhost s key)) := hok.noGhost key
  have hlo := hok.lo
  have hhi := hok.hi
  have hout := ((Single.of hok).out (k := key)).2.2 hin
  have HN : Hid (∀ j, j < 3 → qs (A.noGhost s key) j = A.cut (qs s j) key) := by
    refine three ?_ ?_ ?_
    · simp [qs, A.noGhost, A.cut_same hout.1]
    · simp [qs, A.noGhost]
    · simp [qs, A.noGhost, A.cut_same hout.2]
  have HM : Hid (A.Missed s (A.known s key).2 key (A.known s key).1) := A.known_missed hok (by
    have h0 := A.cnt_zero.2 hout.1
    have h2 := A.cnt_zero.2 hout.2
    omega)
  have heo := (EN.cells H).2.2.2.1
  clear H hD hf hok hin hout
  obtain ⟨l, s1, hcl⟩ : ∃ l s1, A.reclaim (A.noGhost s key) = (l, s1) := ⟨_, _, rfl⟩
  have HCl : Hid (A.reclaim (A.noGhost s key) = (l, s1)) := hcl
  have HLa : Hid (∀ i, i < 3 → qs (A.again s1 key) i = laid (qs s1) key 2 i) := laid_again (by
    have h := HM.out.ok
    unfold A.known at h
    rw [hcl] at h
    exact h.one)
  clear hcl
  go_enter Try.func9, Try.ntmps9
  go_wp2_with (first
    | (go_at_call 29; refine (blank_any HE.out).mono ?_; rintro ee w1 ⟨rfl, rfl⟩)
    | (go_at_call 30; refine (HF.out _ (Below.refl _ _)).mono ?_; rintro ee w2 ⟨rfl, hb2⟩; have hb2' : Below w1.heap.size w1 (w2.alloc (.cells #[.int .i64 1, .int .i64 (h : Nat)] 47)) := hb2.alloc hb2.size _)
    | (go_at_call 31; refine (resident_any (1, h)).mono ?_; rintro ee w23 ⟨rfl, hb23⟩; have hb3' := below_trans hb2' hb23; have hd : decide (((1, h) : Ix.Sp).1 ≠ 1) = false := rfl; rw [hd])
    | (go_at_call 33; refine (take_to (s' := A.noGhost s key) (AE.below HE.out hb3') (fun k h => HD.out k (Nat.le_trans hb3'.size h)) (by omega) key hk HN.out rfl).mono ?_; rintro ee w25 ⟨rfl, h25, hk25⟩)
    | (go_at_call 34; refine (reclaim_any h25 (Single.of HOk.out) (fun k h => HD.out k (Nat.le_trans (Nat.le_trans hb3'.size hk25.size) h)) (by omega) hlo hhi).mono ?_; rw [HCl.out]; rintro ee w3 ⟨ad, cap, rfl, h3, hk3⟩)
    | (go_at_call 35; refine (Beside.step (Qe := fun ee => ee = .returned (.tuple #[])) h3 (fun k h => HD.out k (Nat.le_trans (Nat.le_trans (Nat.le_trans hb3'.size hk25.size) hk3.size) h)) (fun D1 hA hD1 => lay_to (s' := A.again s1 key) hA hD1 (by omega) key hk 2 (by omega) HLa.out rfl)).mono ?_; rintro ee w4 ⟨rfl, h4, hk4⟩))
  go_ret2
  refine ⟨ad, cap, ?_, ?_, (((Keeps.of_below hb3').trans hk25).trans hk3).trans hk4⟩
  · unfold A.known
    rw [HCl.out]
    rfl
  · unfold A.known
    rw [HCl.out]
    exact h4
theorem acc_any (H : AE e b s D w) (hok : A.Ok s) (hD : ∀ k, w.heap.size ≤ k → D k) (hb : b ≤ 600000) (key : ByteArray) (hk : key.size ≤ 1000) :
    Calls Try.prog 9 #[.pointer (some ⟨e, 0, none⟩), .string key] w (Says e (b + 2) (A.access s key) D w) := by
  obtain ⟨x, c6, hx⟩ := EN.get H (by omega) key hk
  rcases hx with ⟨hn, hf⟩ | ⟨i, h, hi, hin, hot, hf⟩
  · have e0 : A.access s key = (false, A.fresh s key) := by
      unfold A.access
      rw [if_neg (show key ∉ s.t2 from hn 2 (by omega)), if_neg (show key ∉ s.t1 from hn 0 (by omega)), if_neg (show key ∉ s.b1 from hn 1 (by omega))]
    rw [e0]
    exact acc_new H hok hD hb key hk c6 hf hn
  · have : i = 0 ∨ i = 1 ∨ i = 2 := by omega
    rcases this with e1 | e1 | e1
    · subst e1
      have e0 : A.access s key = (true, [], s) := by
        unfold A.access
        rw [if_neg (show key ∉ s.t2 from hot 2 (by omega) (by omega)), if_pos (show key ∈ s.t1 from hin)]
      rw [e0]
      refine (acc_in H key c6 hf).mono ?_
      rintro ee w' ⟨rfl, hb1⟩
      exact ⟨_, _, rfl, ((H.below hb1).more (by omega)).bare, .of_below hb1⟩
    · subst e1
      have e0 : A.access s key = (false, A.known s key) := by
        unfold A.access
        rw [if_neg (show key ∉ s.t2 from hot 2 (by omega) (by omega)), if_neg (show key ∉ s.t1 from hot 0 (by omega) (by omega)), if_pos (show key ∈ s.b1 from hin)]
      rw [e0]
      exact acc_ghost H hok hD hb key hk c6 hf hin
    · subst e1
      have e0 : A.access s key = (true, [], A.touch s key) := by
        unfold A.access
        rw [if_pos (show key ∈ s.t2 from hin)]
      rw [e0]
      refine (acc_am H hD (by omega) key hk hin).mono ?_
      rintro ee w' ⟨rfl, h1, hk1⟩
      exact ⟨_, _, rfl, (h1.more (by omega)).bare, hk1⟩
end
end Go.Proofs.Ytbbfckgooligdab
