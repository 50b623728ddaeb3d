/- An engine as the machine of chapter 12: Access. -/
import Derived.Test.YtnbfokmodjgaaabDoorEi
namespace Go.Proofs.YtnbfokmodjgaaabDoor
open Go.RowKit

section
variable {D : Nat → Prop} {w w' : World} {e b c : Nat} {Q : Nat → List Ls.It} {s : Stt}
theorem Single.of {s : Stt} (h : A.Ok s) : Single s := h.one
theorem none_of {k : ByteArray} {l : List ByteArray} (h : A.cnt k l = 0) : k ∉ l := A.cnt_zero.1 h
/-- what Access answers: whether it was a hit, and a row that is none of the engine's -/
def Says (e b : Nat) (r : Bool × List ByteArray × Stt) (D : Nat → Prop) (w : World) (ee : Ending) (w' : World) : Prop :=
  ∃ ad cap, ee = .returned (.tuple #[.bool r.1, .slice ad r.2.1.length cap]) ∧ Beside (AE e b r.2.2) ad cap r.2.1 D w' ∧ Keeps D w w'
theorem Beside.wide {D' : Nat → Prop} {A : (Nat → Prop) → World → Prop} {ad : Option Addr} {cap : Nat} {zs : List ByteArray} (h : Beside A ad cap zs D w) (hD : ∀ k, D k → D' k) : Beside A ad cap zs D' w := by
  obtain ⟨D1, h1, h2, h3⟩ := h
  exact ⟨D1, fun g hg => ⟨hD g (h1 g hg).1, (h1 g hg).2⟩, h2, h3.wide (fun g _ hg => ⟨hD g hg.1, hg.2⟩)⟩
theorem Uses.later {i h n pr : Nat} {key : ByteArray} (H : Uses e c b i h n pr key Q D w) (hb : Below w.heap.size w w') : Uses e c b i h n pr key Q D w' :=
  ⟨fun W hW => H.row W (below_tr hb hW), fun W hW => H.get W (below_tr hb hW), fun W hW => H.set W (below_tr hb hW)⟩
theorem EN.miss (H : EN D w e c Q b) (hb : b ≤ 900000) (key : ByteArray) (hk : key.size ≤ 1000) (hn : ∀ i, i < 3 → key ∉ A.ks (Q i)) :
    ∃ x, w.cell? ⟨e, 4, none⟩ = some (.pointer (some ⟨x, 0, none⟩)) ∧ Finds x key (0, 0) false w := by
  obtain ⟨x, c6, h | ⟨i, h, h1, h2, _⟩⟩ := EN.get H hb key hk
  · exact ⟨x, c6, h.2⟩
  · exact absurd h2 (hn i h1)
theorem EN.hit (H : EN D w e c Q b) (hb : b ≤ 900000) (key : ByteArray) (hk : key.size ≤ 1000) {i : Nat} (hi : i < 3) (hin : key ∈ A.ks (Q i)) :
    ∃ x h, w.cell? ⟨e, 4, none⟩ = some (.pointer (some ⟨x, 0, none⟩)) ∧ Finds x key (i, h) true w := by
  obtain ⟨x, c6, h | ⟨j, h, h1, h2, h3, h4⟩⟩ := EN.get H hb key hk
  · exact absurd hin (h.1 i hi)
  · have : i = j := by
      by_cases e : i = j
      · exact e
      · exact absurd hin (h3 i hi e)
    subst this
    exact ⟨x, h, c6, h4⟩
theorem Ok.sizes {s : Stt} (h : A.Ok s) : s.t1.length + s.t2.length + s.b1.length ≤ 2900 := by
  have h1 := h.res
  have h2 := h.out
  have h3 := h.hi
  unfold A.gmax at h2
  omega
set_option maxRecDepth 20000 in
set_option maxHeartbeats 2000000 in
theorem acc_hit (H : AE e b s D w) (hok : A.Ok s) (hD : ∀ k, w.heap.size ≤ k → D k) (hb : b ≤ 700000) (key : ByteArray) (hk : key.size ≤ 1000) {i : Nat} (hi : i < 2) (hin : key ∈ A.ks (qs s i)) :
    Calls Tryd.prog 9 #[.pointer (some ⟨e, 0, none⟩), .string key] w fun ee w' => ee = .returned (.tuple #[.bool true, .slice none 0 0]) ∧ AE e b (A.touch s key) D w' ∧ Keeps D w w' := by
  have HE : Hid (AE e b s D w) := H
  obtain ⟨x, h, n, pr, c6, hf, hn, hh, hU⟩ := EN.uses H hD (by omega) key hk (i := i) (by omega) hin
  have HF : Hid (Finds x key (i, h) true w) := hf
  have HU : Hid (Uses e s.c (b + 3000) i h n pr key (qs s) D w) := hU
  have heo := (EN.cells H).2.2.2.1
  have HT : Hid (∀ j, j < 3 → qs (A.touch s key) j = if j = i then (qs s j).map (A.used key) else qs s j) := by
    have ho := (Single.of hok).out (k := key)
    have hi2 : i = 0 ∨ i = 1 := by omega
    rcases hi2 with rfl | rfl
    · have h1 := ho.1 hin
      refine three ?_ ?_ ?_
      · simp [qs, A.touch]
      · simp [qs, A.touch, used_same h1.1]
      · simp [qs, A.touch]
    · have h1 := ho.2.1 hin
      refine three ?_ ?_ ?_
      · simp [qs, A.touch, used_same h1.1]
      · simp [qs, A.touch]
      · simp [qs, A.touch]
  clear H hD hf hU hok hin
  go_enter Tryd.func9, Tryd.ntmps9
  go_wp2_with (first
    | (go_at_call 29; refine (blank_any HE.out).mono ?_; rintro ee w1 ⟨rfl, rfl⟩)
    | (go_at_call 30; refine (HF.out _ (Below.refl _ _)).mono ?_; rintro ee w2 ⟨rfl, hb2⟩; have hb2' : Below w1.heap.size w1 (w2.alloc (.cells #[.int .i64 (i : Nat), .int .i64 (h : Nat)] 47)) := hb2.alloc hb2.size _; have HS2 : Hid (Ix.SpotAt (w2.alloc (.cells #[.int .i64 (i : Nat), .int .i64 (h : Nat)] 47)) w2.heap.size (i, h)) := heap_alloc_new w2 _)
    | (go_at_call 31; refine (resident_any (i, h)).mono ?_; rintro ee w3 ⟨rfl, hb3⟩; have hb3' := below_tr hb2' hb3; have hd : decide (((i, h) : Ix.Sp).1 ≠ 2) = true := decide_eq_true (by show i ≠ 2; omega); rw [hd]; have HS3 : Hid (Ix.SpotAt w3 w2.heap.size (i, h)) := HS2.out.below hb3; obtain ⟨y0, y1, yl⟩ := HS3.out.cells; have huse := use_any (by omega) hn (HU.out.later hb3'))
    | (go_at_call 32; refine Calls.mono huse ?_; clear huse; rintro ee w4 ⟨rfl, h4, hk4⟩))
  go_ret2
  exact ⟨rfl, EN.congr h4 HT.out, (Keeps.of_below hb3').trans hk4⟩
theorem laid_newest {key : ByteArray} (h1 : key ∉ A.ks s.t1) (h2 : key ∉ A.ks s.t2) (h3 : key ∉ A.ks s.b1) : ∀ i, i < 3 → qs (A.newest s key) i = laid (qs s) key 0 i := by
  refine three ?_ ?_ ?_
  · simp [qs, laid, A.newest, less_same h1]
  · simp [qs, laid, A.newest, less_same h2]
  · simp [qs, laid, A.newest, less_same h3]
theorem laid_again {key : ByteArray} (h1 : key ∉ A.ks s.t1) (h2 : key ∉ A.ks s.t2) : ∀ i, i < 3 → qs (A.again (A.noGhost s key) key) i = laid (qs s) key 1 i := by
  refine three ?_ ?_ ?_
  · simp [qs, laid, A.again, A.noGhost, less_same h1]
  · simp [qs, laid, A.again, A.noGhost, less_same h2]
  · simp [qs, laid, A.again, A.noGhost]
set_option maxRecDepth 20000 in
set_option maxHeartbeats 2000000 in
theorem miss_nn (H : AE e b s D w) (hok : A.Ok s) (hD : ∀ k, w.heap.size ≤ k → D k) (hb : b ≤ 600000) (key : ByteArray) (hk : key.size ≤ 1000) (hn : key ∉ A.ks s.t1 ∧ key ∉ A.ks s.t2) (hgh : key ∉ A.ks s.b1) {l : List ByteArray} {s1 : Stt} (hcl : A.reclaim s = (l, s1)) (hok1 : A.Ok s1) (hn1 : key ∉ A.ks s1.t1 ∧ key ∉ A.ks s1.t2) (hse : key ∉ A.ghosts s1) :
    Calls Tryd.prog 9 #[.pointer (some ⟨e, 0, none⟩), .string key] w (Says e b (false, l, A.newest s1 key) D w) := by
  have HE : Hid (AE e b s D w) := H
  have HD : Hid (∀ k, w.heap.size ≤ k → D k) := hD
  obtain ⟨x, c6, hf⟩ := EN.miss H (by omega) key hk (three (by simpa [qs] using hn.1) (by simpa [qs] using hn.2) (by simpa [qs] using hgh))
  have HF : Hid (Finds x key (0, 0) false w) := hf
  have heo := (EN.cells H).2.2.2.1
  have HRec : Hid (∀ W : World, Below w.heap.size w W → Calls Tryd.prog 33 #[.pointer (some ⟨e, 0, none⟩)] W fun ee w' => ∃ ad cap, ee = .returned (.slice ad l.length cap) ∧ Beside (AE e b s1) ad cap l D w' ∧ Keeps D W w') := fun W hW => by
    have := reclaim_any (H.below hW) hok (fun k h => hD k (Nat.le_trans hW.size h)) hb
    rw [hcl] at this
    exact this
  have HIn : Hid (∀ i, i < 3 → key ∉ A.ks (qs s1 i)) := three (by simpa [qs] using hn1.1) (by simpa [qs] using hn1.2) (by simpa [qs, A.ghosts] using hse)
  have HLa : Hid (∀ i, i < 3 → qs (A.newest s1 key) i = laid (qs s1) key 0 i) := laid_newest hn1.1 hn1.2 hse
  have HSz : Hid (s1.t1.length + s1.t2.length + s1.b1.length ≤ 2900) := Ok.sizes hok1
  clear H hD hf hn hok hcl hok1 hn1 hse hgh
  go_enter Tryd.func9, Tryd.ntmps9
  go_wp2_with (first
    | (go_at_call 29; refine (blank_any HE.out).mono ?_; rintro ee w1 ⟨rfl, rfl⟩)
    | (go_at_call 30; refine (HF.out _ (Below.refl _ _)).mono ?_; clear HF; rintro ee w2 ⟨rfl, hb2⟩; have hb2' : Below w1.heap.size w1 (w2.alloc (.cells #[.int .i64 0, .int .i64 0] 47)) := hb2.alloc hb2.size _; have hb3' := hb2'; have hrec := HRec.out _ hb2')
    | (go_at_call 33; refine Calls.mono hrec ?_; clear hrec; rintro ee w4 ⟨ad, cap, rfl, h4, hk4⟩; have H4 : Hid (Beside (AE e b s1) ad cap l D w4) := h4; have HK4 : Hid (Keeps D w1 w4) := (Keeps.of_below hb3').trans hk4; obtain ⟨D1, g1, hA4, hR4⟩ := h4; obtain ⟨x2, c62, hf2⟩ := EN.miss hA4 (by omega) key hk HIn.out; have HF2 : Hid _ := hf2; have heo4 := (EN.cells hA4).2.2.2.1; clear hk4 hf2 hA4 hR4 g1)
    | (go_at_call 30; refine (HF2.out _ (Below.refl _ _)).mono ?_; clear HF2; rintro ee w5 ⟨rfl, hb5⟩; have hb5' : Below w4.heap.size w4 (w5.alloc (.cells #[.int .i64 0, .int .i64 0] 47)) := hb5.alloc hb5.size _; have HK5 : Hid (Keeps D w1 (w5.alloc (.cells #[.int .i64 0, .int .i64 0] 47))) := HK4.out.trans (Keeps.of_below hb5'); have hlay := Beside.step (Qe := fun ee => ee = .returned (.tuple #[])) (H4.out.under hb5') (fun k h => HD.out k (Nat.le_trans HK5.out.size h)) (fun D1 hA hD1 => lay_to (s' := A.newest s1 key) hA hD1 (by omega) HSz.out key hk 0 (by omega) HLa.out rfl); clear hb5 hb5')
    | (go_at_call 34; refine Calls.mono hlay ?_; clear hlay; rintro ee w6 ⟨rfl, h6, hk6⟩))
  go_ret2
  exact ⟨ad, cap, rfl, h6, HK5.out.trans hk6⟩
set_option maxRecDepth 20000 in
set_option maxHeartbeats 2000000 in
theorem miss_gg (H : AE e b s D w) (hok : A.Ok s) (hD : ∀ k, w.heap.size ≤ k → D k) (hb : b ≤ 600000) (key : ByteArray) (hk : key.size ≤ 1000) (hgh : key ∈ A.ks s.b1) {l : List ByteArray} {s1 : Stt} (hcl : A.reclaim s = (l, s1)) (hok1 : A.Ok s1) (hn1 : key ∉ A.ks s1.t1 ∧ key ∉ A.ks s1.t2) (hse : key ∈ A.ghosts s1) :
    Calls Tryd.prog 9 #[.pointer (some ⟨e, 0, none⟩), .string key] w (Says e b (false, l, A.again (A.noGhost s1 key) key) D w) := by
  have HE : Hid (AE e b s D w) := H
  have HD : Hid (∀ k, w.heap.size ≤ k → D k) := hD
  obtain ⟨x, h, c6, hf⟩ := EN.hit H (by omega) key hk (i := 2) (by omega) (by simpa [qs] using hgh)
  have HF : Hid (Finds x key (2, h) true w) := hf
  have heo := (EN.cells H).2.2.2.1
  have HRec : Hid (∀ W : World, Below w.heap.size w W → Calls Tryd.prog 33 #[.pointer (some ⟨e, 0, none⟩)] W fun ee w' => ∃ ad cap, ee = .returned (.slice ad l.length cap) ∧ Beside (AE e b s1) ad cap l D w' ∧ Keeps D W w') := fun W hW => by
    have := reclaim_any (H.below hW) hok (fun k h => hD k (Nat.le_trans hW.size h)) hb
    rw [hcl] at this
    exact this
  have HIn : Hid (key ∈ A.ks (qs s1 2)) := by show key ∈ A.ks (qs s1 2); simpa [qs, A.ghosts] using hse
  have HLa : Hid (∀ i, i < 3 → qs (A.again (A.noGhost s1 key) key) i = laid (qs s1) key 1 i) := laid_again hn1.1 hn1.2
  have HSz : Hid (s1.t1.length + s1.t2.length + s1.b1.length ≤ 2900) := Ok.sizes hok1
  clear H hD hf hok hcl hok1 hn1 hse hgh
  go_enter Tryd.func9, Tryd.ntmps9
  go_wp2_with (first
    | (go_at_call 29; refine (blank_any HE.out).mono ?_; rintro ee w1 ⟨rfl, rfl⟩)
    | (go_at_call 30; refine (HF.out _ (Below.refl _ _)).mono ?_; clear HF; rintro ee w2 ⟨rfl, hb2⟩; have hb2' : Below w1.heap.size w1 (w2.alloc (.cells #[.int .i64 2, .int .i64 (h : Nat)] 47)) := hb2.alloc hb2.size _)
    | (go_at_call 31; refine (resident_any (2, h)).mono ?_; rintro ee w23 ⟨rfl, hb23⟩; have hb3' := below_tr hb2' hb23; have hd : decide (((2, h) : Ix.Sp).1 ≠ 2) = false := rfl; rw [hd]; have hrec := HRec.out w23 hb3')
    | (go_at_call 33; refine Calls.mono hrec ?_; clear hrec; rintro ee w4 ⟨ad, cap, rfl, h4, hk4⟩; have H4 : Hid (Beside (AE e b s1) ad cap l D w4) := h4; have HK4 : Hid (Keeps D w1 w4) := (Keeps.of_below hb3').trans hk4; obtain ⟨D1, g1, hA4, hR4⟩ := h4; obtain ⟨x2, h2, c62, hf2⟩ := EN.hit hA4 (by omega) key hk (i := 2) (by omega) (HIn.out); have HF2 : Hid _ := hf2; have heo4 := (EN.cells hA4).2.2.2.1; clear hk4 hf2 hA4 hR4 g1)
    | (go_at_call 30; refine (HF2.out _ (Below.refl _ _)).mono ?_; clear HF2; rintro ee w5 ⟨rfl, hb5⟩; have hb5' : Below w4.heap.size w4 (w5.alloc (.cells #[.int .i64 2, .int .i64 (h2 : Nat)] 47)) := hb5.alloc hb5.size _; have HK5 : Hid (Keeps D w1 (w5.alloc (.cells #[.int .i64 2, .int .i64 (h2 : Nat)] 47))) := HK4.out.trans (Keeps.of_below hb5'); have hlay := Beside.step (Qe := fun ee => ee = .returned (.tuple #[])) (H4.out.under hb5') (fun k h => HD.out k (Nat.le_trans HK5.out.size h)) (fun D1 hA hD1 => lay_to (s' := A.again (A.noGhost s1 key) key) hA hD1 (by omega) HSz.out key hk 1 (by omega) HLa.out rfl); clear hb5 hb5')
    | (go_at_call 34; refine Calls.mono hlay ?_; clear hlay; rintro ee w6 ⟨rfl, h6, hk6⟩))
  go_ret2
  exact ⟨ad, cap, rfl, h6, HK5.out.trans hk6⟩
set_option maxRecDepth 20000 in
set_option maxHeartbeats 2000000 in
theorem miss_gn (H : AE e b s D w) (hok : A.Ok s) (hD : ∀ k, w.heap.size ≤ k → D k) (hb : b ≤ 600000) (key : ByteArray) (hk : key.size ≤ 1000) (hgh : key ∈ A.ks s.b1) {l : List ByteArray} {s1 : Stt} (hcl : A.reclaim s = (l, s1)) (hok1 : A.Ok s1) (hn1 : key ∉ A.ks s1.t1 ∧ key ∉ A.ks s1.t2) (hse : key ∉ A.ghosts s1) :
    Calls Tryd.prog 9 #[.pointer (some ⟨e, 0, none⟩), .string key] w (Says e b (false, l, A.newest s1 key) D w) := by
  have HE : Hid (AE e b s D w) := H
  have HD : Hid (∀ k, w.heap.size ≤ k → D k) := hD
  obtain ⟨x, h, c6, hf⟩ := EN.hit H (by omega) key hk (i := 2) (by omega) (by simpa [qs] using hgh)
  have HF : Hid (Finds x key (2, h) true w) := hf
  have heo := (EN.cells H).2.2.2.1
  have HRec : Hid (∀ W : World, Below w.heap.size w W → Calls Tryd.prog 33 #[.pointer (some ⟨e, 0, none⟩)] W fun ee w' => ∃ ad cap, ee = .returned (.slice ad l.length cap) ∧ Beside (AE e b s1) ad cap l D w' ∧ Keeps D W w') := fun W hW => by
    have := reclaim_any (H.below hW) hok (fun k h => hD k (Nat.le_trans hW.size h)) hb
    rw [hcl] at this
    exact this
  have HIn : Hid (∀ i, i < 3 → key ∉ A.ks (qs s1 i)) := three (by simpa [qs] using hn1.1) (by simpa [qs] using hn1.2) (by simpa [qs, A.ghosts] using hse)
  have HLa : Hid (∀ i, i < 3 → qs (A.newest s1 key) i = laid (qs s1) key 0 i) := laid_newest hn1.1 hn1.2 hse
  have HSz : Hid (s1.t1.length + s1.t2.length + s1.b1.length ≤ 2900) := Ok.sizes hok1
  clear H hD hf hok hcl hok1 hn1 hse hgh
  go_enter Tryd.func9, Tryd.ntmps9
  go_wp2_with (first
    | (go_at_call 29; refine (blank_any HE.out).mono ?_; rintro ee w1 ⟨rfl, rfl⟩)
    | (go_at_call 30; refine (HF.out _ (Below.refl _ _)).mono ?_; clear HF; rintro ee w2 ⟨rfl, hb2⟩; have hb2' : Below w1.heap.size w1 (w2.alloc (.cells #[.int .i64 2, .int .i64 (h : Nat)] 47)) := hb2.alloc hb2.size _)
    | (go_at_call 31; refine (resident_any (2, h)).mono ?_; rintro ee w23 ⟨rfl, hb23⟩; have hb3' := below_tr hb2' hb23; have hd : decide (((2, h) : Ix.Sp).1 ≠ 2) = false := rfl; rw [hd]; have hrec := HRec.out w23 hb3')
    | (go_at_call 33; refine Calls.mono hrec ?_; clear hrec; rintro ee w4 ⟨ad, cap, rfl, h4, hk4⟩; have H4 : Hid (Beside (AE e b s1) ad cap l D w4) := h4; have HK4 : Hid (Keeps D w1 w4) := (Keeps.of_below hb3').trans hk4; obtain ⟨D1, g1, hA4, hR4⟩ := h4; obtain ⟨x2, c62, hf2⟩ := EN.miss hA4 (by omega) key hk HIn.out; have HF2 : Hid _ := hf2; have heo4 := (EN.cells hA4).2.2.2.1; clear hk4 hf2 hA4 hR4 g1)
    | (go_at_call 30; refine (HF2.out _ (Below.refl _ _)).mono ?_; clear HF2; rintro ee w5 ⟨rfl, hb5⟩; have hb5' : Below w4.heap.size w4 (w5.alloc (.cells #[.int .i64 0, .int .i64 0] 47)) := hb5.alloc hb5.size _; have HK5 : Hid (Keeps D w1 (w5.alloc (.cells #[.int .i64 0, .int .i64 0] 47))) := HK4.out.trans (Keeps.of_below hb5'); have hlay := Beside.step (Qe := fun ee => ee = .returned (.tuple #[])) (H4.out.under hb5') (fun k h => HD.out k (Nat.le_trans HK5.out.size h)) (fun D1 hA hD1 => lay_to (s' := A.newest s1 key) hA hD1 (by omega) HSz.out key hk 0 (by omega) HLa.out rfl); clear hb5 hb5')
    | (go_at_call 34; refine Calls.mono hlay ?_; clear hlay; rintro ee w6 ⟨rfl, h6, hk6⟩))
  go_ret2
  exact ⟨ad, cap, rfl, h6, HK5.out.trans hk6⟩
/-- who is not resident is not behind a reclaim either; who is no ghost was none, if it did not go -/
theorem rec_keys {key : ByteArray} (hok : A.Ok s) (hk : key ∉ A.keys s) {l : List ByteArray} {s1 : Stt} (hcl : A.reclaim s = (l, s1)) : A.Ok s1 ∧ (key ∉ A.ks s1.t1 ∧ key ∉ A.ks s1.t2) ∧ (key ∉ A.ks s.b1 → key ∉ A.ghosts s1) := by
  have hr : A.Rep s s1 l := by
    have := A.rec_any hok.lo hok.res
    rw [hcl] at this
    exact this
  have h0 := A.cnt_zero.2 hk
  rw [A.keys_cnt] at h0
  refine ⟨hr.ok hok, ?_, fun hg => ?_⟩
  · rcases hr with ⟨_, h2, _⟩ | ⟨g, _, _, hw⟩
    · rw [h2]
      exact ⟨A.cnt_zero.1 (by omega), A.cnt_zero.1 (by omega)⟩
    · have := hw.key key
      exact ⟨A.cnt_zero.1 (by omega), A.cnt_zero.1 (by omega)⟩
  · have h1 := A.cnt_zero.2 hg
    refine A.cnt_zero.1 ?_
    rw [A.ghosts_cnt]
    rcases hr with ⟨_, h2, _⟩ | ⟨g, _, _, hw⟩
    · rw [h2]; exact h1
    · have h2 := hw.gho key
      have h3 := hw.key key
      rcases Nat.eq_zero_or_pos (A.one g key) with h4 | h4
      · omega
      · omega
theorem acc_any (H : AE e b s D w) (hok : A.Ok s) (hD : ∀ k, w.heap.size ≤ k → D k) (hb : b ≤ 600000) (key : ByteArray) (hk : key.size ≤ 1000) :
    Calls Tryd.prog 9 #[.pointer (some ⟨e, 0, none⟩), .string key] w (Says e (b + 2) (A.access s key) D w) := by
  have hmore : ∀ {r : Bool × List ByteArray × Stt} {ee : Ending} {w' : World}, Says e b r D w ee w' → Says e (b + 2) r D w ee w' := by
    rintro r ee w' ⟨ad, cap, h1, h2, h3⟩
    exact ⟨ad, cap, h1, h2.more (by omega), h3⟩
  by_cases hin : key ∈ A.keys s
  · have e0 : A.access s key = (true, [], A.touch s key) := by unfold A.access; rw [if_pos hin]
    rw [e0]
    unfold A.keys at hin
    rcases List.mem_append.1 hin with h | h
    · refine (acc_hit H hok hD (by omega) key hk (i := 0) (by omega) (by simpa [qs] using h)).mono ?_
      rintro ee w' ⟨rfl, h1, hk1⟩
      exact ⟨_, _, rfl, (h1.more (by omega)).bare, hk1⟩
    · refine (acc_hit H hok hD (by omega) key hk (i := 1) (by omega) (by simpa [qs] using h)).mono ?_
      rintro ee w' ⟨rfl, h1, hk1⟩
      exact ⟨_, _, rfl, (h1.more (by omega)).bare, hk1⟩
  · have e0 : A.access s key = (false, (A.reclaim s).1, A.comes (A.reclaim s).2 key) := by unfold A.access; rw [if_neg hin]
    rw [e0]
    obtain ⟨l, s1, hcl⟩ : ∃ l s1, A.reclaim s = (l, s1) := ⟨_, _, rfl⟩
    rw [hcl]
    obtain ⟨hok1, hn1, hg1⟩ := rec_keys hok hin hcl
    have hn : key ∉ A.ks s.t1 ∧ key ∉ A.ks s.t2 := by
      unfold A.keys at hin
      rw [List.mem_append] at hin
      exact ⟨fun h => hin (.inl h), fun h => hin (.inr h)⟩
    by_cases hgh : key ∈ A.ks s.b1
    · by_cases hse : key ∈ A.ghosts s1
      · have e1 : A.comes s1 key = A.again (A.noGhost s1 key) key := by unfold A.comes; rw [if_pos hse]
        show Calls Tryd.prog _ _ w (Says e (b + 2) (false, l, A.comes s1 key) D w)
        rw [e1]
        exact (miss_gg H hok hD hb key hk hgh hcl hok1 hn1 hse).mono (fun _ _ h => hmore h)
      · have e1 : A.comes s1 key = A.newest s1 key := by unfold A.comes; rw [if_neg hse]
        show Calls Tryd.prog _ _ w (Says e (b + 2) (false, l, A.comes s1 key) D w)
        rw [e1]
        exact (miss_gn H hok hD hb key hk hgh hcl hok1 hn1 hse).mono (fun _ _ h => hmore h)
    · have hse := hg1 hgh
      have e1 : A.comes s1 key = A.newest s1 key := by unfold A.comes; rw [if_neg hse]
      show Calls Tryd.prog _ _ w (Says e (b + 2) (false, l, A.comes s1 key) D w)
      rw [e1]
      exact (miss_nn H hok hD hb key hk hn hgh hcl hok1 hn1 hse).mono (fun _ _ h => hmore h)
end
end Go.Proofs.YtnbfokmodjgaaabDoor
