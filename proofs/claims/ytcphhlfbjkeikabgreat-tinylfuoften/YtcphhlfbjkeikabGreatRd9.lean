/- The document's machine, the rest: Access, New, Load, Evict, Keys, Ghosts, State; both side by side; an Access in both. -/
import Derived.Test.YtcphhlfbjkeikabGreatRca
import Derived.Test.YtcphhlfbjkeikabGreatRcb
import Derived.Test.YtcphhlfbjkeikabGreatRcc
import Derived.Test.YtcphhlfbjkeikabGreatEo
import Derived.Test.YtcphhlfbjkeikabGreatAk
import Derived.Laws.Concat
/- The document's machine: Access of a resident key. -/
namespace Go.Proofs.YtcphhlfbjkeikabGreat
open Go.RowKit

section
variable {D D' : Nat → Prop} {w w' : World} {x : Nat} {y : Dk} {s : Stt}
set_option maxRecDepth 100000 in
set_option maxHeartbeats 2000000 in
theorem racc_w (H : RE x y s D w) (hok : A.Ok s) (hD : ∀ k, w.heap.size ≤ k → D k) (key : ByteArray) (hk : key.size ≤ 1000) (h1 : key ∈ s.t1) :
    Calls Tryz.prog 27 #[.pointer (some ⟨x, 0, none⟩), .string key] w fun e w' => e = .returned (.tuple #[.bool true, .slice none 0 0]) ∧ RE x (nt y key) { s with t1 := A.cut s.t1 key ++ [key] } D w' ∧ Keeps D w w' := by
  have HD : Hid (∀ k, w.heap.size ≤ k → D k) := hD
  have hs := Small.of hok
  have hl1 := hs.l1
  have hl3 := hs.l3
  have hnote := rnote_any H hD key hk
  have hi := idx_mem h1
  have HI1 : Hid (∀ (L : Nat → Nat) (W : World) a1 c1, Row (fun g => D g ∧ L g = 1) W a1 c1 s.t1 → Calls Tryz.prog 36 #[.slice a1 s.t1.length c1, .string key] W fun e w' => e = .returned (.int .i64 (idx s.t1 key)) ∧ w' = W) := fun L W a1 c1 hr => rhas_any hr (by omega) key
  have hcl := A.length_cut_le s.t1 key
  clear H hD hs hok
  clear h1
  generalize idx s.t1 key = j1 at *
  go_enter Tryz.func27, Tryz.ntmps27
  go_wp2_with (first
    | (go_at_call 53; refine Calls.mono hnote ?_; clear hnote; rintro e w1 ⟨rfl, ⟨L, a1, c1, a2, c2, a3, c3, H1⟩, hk1⟩; have HE : Hid (ReIn D L w1 x (nt y key) s a1 c1 a2 c2 a3 c3) := H1; have HK1 : Hid (Keeps D w w1) := hk1; obtain ⟨d0, d1, d2, d3, d4, d5⟩ := H1.cells; have hhas := HI1.out L w1 a1 c1 H1.r1; have hcut := rcut_any H1.r1 (by omega) key; clear H1 hk1)
    | (go_at_call 36; refine Calls.mono hhas ?_; clear hhas; rintro e w2 ⟨rfl, rfl⟩)
    | (go_at_call 54; refine Calls.mono hcut ?_; clear hcut; rintro e w5 ⟨ad5, cp5, rfl, hr5, hb5⟩; have HB5 : Hid (Below w2.heap.size w2 w5) := hb5; have HR5 : Hid (Row (w2.heap.size ≤ ·) w5 ad5 cp5 (A.cut s.t1 key)) := hr5; clear hr5 hb5)
    | (at_builtin; go_must (refine wpList_append_row (ks := [key]) rfl _ _ rfl rfl (HR5.out.below ((Below.refl _ w5).alloc (Nat.le_refl _) _)) rfl (src_at key rfl) (by simp; omega) ?_); intro a7 n7 w7 hr7 hk7; have hb7 : Below w2.heap.size w2 w7 := (HB5.out.alloc HB5.out.size _).trans (hk7.below (Nat.le_trans HB5.out.size (by simp)) (fun _ h => h)); have HR7 : Hid (Row (w2.heap.size ≤ ·) w7 a7 n7 (A.cut s.t1 key ++ [key])) := rrow_old hr7 (Nat.le_trans HB5.out.size (by simp)); have HB7 : Hid (Below w2.heap.size w2 w7) := hb7; obtain ⟨x0, x1, x2, x3, x4, x5⟩ := (HE.out.below hb7).cells; obtain ⟨y0, y1, y2, y3⟩ := (HE.out.below hb7).thaw; clear hr7 hk7 hb7))
  go_ret2
  have H8 := HE.out.put1 (fun k h => HD.out k (Nat.le_trans HK1.out.size h)) (Keeps.of_below HB7.out) (HR7.out.wide (fun _ _ h => .inr h))
  have HK8 := (HK1.out.trans (Keeps.of_below HB7.out)).setCell (p := ⟨x, 0, none⟩) HE.out.dx (.slice a7 (A.cut s.t1 key ++ [key]).length n7)
  have e7 : (A.cut s.t1 key ++ [key]).length = (A.cut s.t1 key).length + 1 := by simp
  rw [e7] at H8 HK8
  exact ⟨rfl, ⟨_, _, _, _, _, _, _, H8⟩, HK8⟩
set_option maxRecDepth 100000 in
set_option maxHeartbeats 2000000 in
theorem racc_p (H : RE x y s D w) (hok : A.Ok s) (hD : ∀ k, w.heap.size ≤ k → D k) (key : ByteArray) (hk : key.size ≤ 1000) (h1 : key ∉ s.t1) (h3 : key ∈ s.t2) :
    Calls Tryz.prog 27 #[.pointer (some ⟨x, 0, none⟩), .string key] w fun e w' => e = .returned (.tuple #[.bool true, .slice none 0 0]) ∧ RE x (nt y key) { s with t2 := A.cut s.t2 key ++ [key] } D w' ∧ Keeps D w w' := by
  have HD : Hid (∀ k, w.heap.size ≤ k → D k) := hD
  have hs := Small.of hok
  have hl1 := hs.l1
  have hl3 := hs.l3
  have hnote := rnote_any H hD key hk
  have hi := idx_mem h3
  have HI1 : Hid (∀ (L : Nat → Nat) (W : World) a1 c1, Row (fun g => D g ∧ L g = 1) W a1 c1 s.t1 → Calls Tryz.prog 36 #[.slice a1 s.t1.length c1, .string key] W fun e w' => e = .returned (.int .i64 (idx s.t1 key)) ∧ w' = W) := fun L W a1 c1 hr => rhas_any hr (by omega) key
  have HI3 : Hid (∀ (L : Nat → Nat) (W : World) a1 c1, Row (fun g => D g ∧ L g = 3) W a1 c1 s.t2 → Calls Tryz.prog 36 #[.slice a1 s.t2.length c1, .string key] W fun e w' => e = .returned (.int .i64 (idx s.t2 key)) ∧ w' = W) := fun L W a1 c1 hr => rhas_any hr (by omega) key
  rw [idx_no h1] at HI1
  have hcl := A.length_cut_le s.t2 key
  clear H hD hs hok
  clear h1 h3
  generalize idx s.t2 key = j3 at *
  go_enter Tryz.func27, Tryz.ntmps27
  go_wp2_with (first
    | (go_at_call 53; refine Calls.mono hnote ?_; clear hnote; rintro e w1 ⟨rfl, ⟨L, a1, c1, a2, c2, a3, c3, H1⟩, hk1⟩; have HE : Hid (ReIn D L w1 x (nt y key) s a1 c1 a2 c2 a3 c3) := H1; have HK1 : Hid (Keeps D w w1) := hk1; obtain ⟨d0, d1, d2, d3, d4, d5⟩ := H1.cells; have hhas := HI1.out L w1 a1 c1 H1.r1; have hhas3 := HI3.out L w1 a3 c3 H1.r3; have hcut := rcut_any H1.r3 (by omega) key; clear H1 hk1)
    | (go_at_call 36; refine Calls.mono hhas ?_; clear hhas; rintro e w2 ⟨rfl, rfl⟩)
    | (go_at_call 36; refine Calls.mono hhas3 ?_; clear hhas3; rintro e w4 ⟨rfl, rfl⟩)
    | (go_at_call 54; refine Calls.mono hcut ?_; clear hcut; rintro e w5 ⟨ad5, cp5, rfl, hr5, hb5⟩; have HB5 : Hid (Below w4.heap.size w4 w5) := hb5; have HR5 : Hid (Row (w4.heap.size ≤ ·) w5 ad5 cp5 (A.cut s.t2 key)) := hr5; clear hr5 hb5)
    | (at_builtin; go_must (refine wpList_append_row (ks := [key]) rfl _ _ rfl rfl (HR5.out.below ((Below.refl _ w5).alloc (Nat.le_refl _) _)) rfl (src_at key rfl) (by simp; omega) ?_); intro a7 n7 w7 hr7 hk7; have hb7 : Below w4.heap.size w4 w7 := (HB5.out.alloc HB5.out.size _).trans (hk7.below (Nat.le_trans HB5.out.size (by simp)) (fun _ h => h)); have HR7 : Hid (Row (w4.heap.size ≤ ·) w7 a7 n7 (A.cut s.t2 key ++ [key])) := rrow_old hr7 (Nat.le_trans HB5.out.size (by simp)); have HB7 : Hid (Below w4.heap.size w4 w7) := hb7; obtain ⟨x0, x1, x2, x3, x4, x5⟩ := (HE.out.below hb7).cells; obtain ⟨y0, y1, y2, y3⟩ := (HE.out.below hb7).thaw; clear hr7 hk7 hb7))
  go_ret2
  have H8 := HE.out.put3 (fun k h => HD.out k (Nat.le_trans HK1.out.size h)) (Keeps.of_below HB7.out) (HR7.out.wide (fun _ _ h => .inr h))
  have HK8 := (HK1.out.trans (Keeps.of_below HB7.out)).setCell (p := ⟨x, 2, none⟩) HE.out.dx (.slice a7 (A.cut s.t2 key ++ [key]).length n7)
  have e7 : (A.cut s.t2 key ++ [key]).length = (A.cut s.t2 key).length + 1 := by simp
  rw [e7] at H8 HK8
  exact ⟨rfl, ⟨_, _, _, _, _, _, _, H8⟩, HK8⟩
end
end Go.Proofs.YtcphhlfbjkeikabGreat
/- The document's machine: Access, where a key is promoted or comes. -/
namespace Go.Proofs.YtcphhlfbjkeikabGreat
open Go.RowKit

section
variable {D D' : Nat → Prop} {w w' : World} {x : Nat} {y : Dk} {s : Stt}
theorem radmit_any (H : RE x y s D w) (hs : Small s) (hlo : 1 ≤ s.c) (hD : ∀ k, w.heap.size ≤ k → D k) (hz : ∀ z, z ∈ A.keys s → z.size ≤ 1000) {k : ByteArray} {r : List ByteArray} (ht : s.t1 = k :: r) (hcu : A.cut s.t1 k = r) :
    Calls Tryz.prog 57 #[.pointer (some ⟨x, 0, none⟩)] w (Admits x y (A.settle (fq y) { s with t1 := r } k) D w) := by
  have hk : k.size ≤ 1000 := hz k (by simp [A.keys, ht])
  by_cases hroom : s.b1.length + s.t2.length < mr s.c
  · have e : A.settle (fq y) { s with t1 := r } k = ([], { s with t1 := r, b1 := s.b1 ++ [k] }) := by
      unfold A.settle
      exact if_pos hroom
    rw [e]
    exact radmit_room H hs hlo hD ht hcu hroom
  · have hroom' : ¬ (({ s with t1 := r } : Stt).b1.length + ({ s with t1 := r } : Stt).t2.length < A.mroom { s with t1 := r }) := hroom
    rcases A.victim_is { s with t1 := r } with ⟨h1, h2, h3⟩ | ⟨v, r2, h1, h2⟩ | ⟨v, r2, h1, h2, h3⟩
    · have e : A.settle (fq y) { s with t1 := r } k = ([k], { s with t1 := r }) := by
        unfold A.settle
        rw [if_neg hroom', h1]
      rw [e]
      have h2' : s.b1 = [] := h2
      have h3' : s.t2 = [] := h3
      exact radmit_empty H hs hlo hD ht hcu hroom (by rw [h2', h3']; rfl)
    · have e : A.settle (fq y) { s with t1 := r } k = (if fq y k ≤ fq y v then ([k], { s with t1 := r }) else ([v], { s with t1 := r, b1 := A.cut s.b1 v ++ [k], t2 := A.cut s.t2 v })) := by
        unfold A.settle
        rw [if_neg hroom', h1]
      rw [e]
      have h2' : s.b1 = v :: r2 := h2
      have hvs : v.size ≤ 1000 := hz v (by simp [A.keys, h2'])
      by_cases hle : fq y k ≤ fq y v
      · rw [if_pos hle]
        exact radmit_stayA H hs hlo hD ht hcu hk hroom h2' hvs hle
      · rw [if_neg hle]
        exact radmit_goA H hs hlo hD ht hcu hk hroom h2' hvs hle
    · have e : A.settle (fq y) { s with t1 := r } k = (if fq y k ≤ fq y v then ([k], { s with t1 := r }) else ([v], { s with t1 := r, b1 := A.cut s.b1 v ++ [k], t2 := A.cut s.t2 v })) := by
        unfold A.settle
        rw [if_neg hroom', h1]
      rw [e]
      have h2' : s.b1 = [] := h2
      have h3' : s.t2 = v :: r2 := h3
      have hvs : v.size ≤ 1000 := hz v (by simp [A.keys, h3'])
      by_cases hle : fq y k ≤ fq y v
      · rw [if_pos hle]
        exact radmit_stayB H hs hlo hD ht hcu hk hroom (by rw [h2']; rfl) h3' hvs hle
      · rw [if_neg hle]
        exact radmit_goB H hs hlo hD ht hcu hk hroom (by rw [h2']; rfl) h3' hvs hle
set_option maxRecDepth 100000 in
set_option maxHeartbeats 2000000 in
theorem racc_a (H : RE x y s D w) (hok : A.Ok s) (hD : ∀ k, w.heap.size ≤ k → D k) (key : ByteArray) (hk : key.size ≤ 1000) (h1 : key ∉ s.t1) (h3 : key ∉ s.t2) (h2 : key ∈ s.b1) :
    Calls Tryz.prog 27 #[.pointer (some ⟨x, 0, none⟩), .string key] w fun e w' => e = .returned (.tuple #[.bool true, .slice none 0 0]) ∧ RE x (nt y key) (A.use s key) D w' ∧ Keeps D w w' := by
  have HD : Hid (∀ k, w.heap.size ≤ k → D k) := hD
  have HOk : Hid (A.Ok s) := hok
  have hs := Small.of hok
  have hl1 := hs.l1
  have hl2 := hs.l2
  have hl3 := hs.l3
  have hnote := rnote_any H hD key hk
  obtain ⟨j2, hj2⟩ : ∃ j2, idx s.b1 key = j2 := ⟨_, rfl⟩
  have hi := idx_mem h2
  rw [hj2] at hi
  have HJ : Hid (idx s.b1 key = j2) := hj2
  have HI : Hid (∀ (L : Nat → Nat) (W : World) a1 c1 (zs : List ByteArray) i, Row (fun g => D g ∧ L g = i) W a1 c1 zs → zs.length ≤ 4100 → Calls Tryz.prog 36 #[.slice a1 zs.length c1, .string key] W fun e w' => e = .returned (.int .i64 (idx zs key)) ∧ w' = W) := fun L W a1 c1 zs i hr hl => rhas_any hr (by omega) key
  have HN1 : Hid (idx s.t1 key = -1) := idx_no h1
  have HN3 : Hid (idx s.t2 key = -1) := idx_no h3
  have HPr : Hid (∀ W, RE x (nt y key) s D W → (∀ k, W.heap.size ≤ k → D k) → Calls Tryz.prog 55 #[.pointer (some ⟨x, 0, none⟩), .string key] W fun e w' => e = .returned (.tuple #[]) ∧ RE x (nt y key) (A.use s key) D w' ∧ Keeps D W w') := fun W h hd => rpromote_any h hok hd key h2 h1
  clear H hD hs hok h1 h2 h3 hj2
  go_enter Tryz.func27, Tryz.ntmps27
  go_wp2_with (first
    | (go_at_call 53; refine Calls.mono hnote ?_; clear hnote; rintro e w1 ⟨rfl, HR1, hk1⟩; have HR : Hid (RE x (nt y key) s D w1) := HR1; obtain ⟨L, a1, c1, a2, c2, a3, c3, H1⟩ := HR1; have HK1 : Hid (Keeps D w w1) := hk1; obtain ⟨d0, d1, d2, d3, d4, d5⟩ := H1.cells; have hh1 := HI.out L w1 a1 c1 s.t1 1 H1.r1 (by omega); have hh2 := HI.out L w1 a2 c2 s.b1 2 H1.r2 (by omega); have hh3 := HI.out L w1 a3 c3 s.t2 3 H1.r3 (by omega); rw [HN1.out] at hh1; rw [HN3.out] at hh3; rw [HJ.out] at hh2; clear H1 hk1)
    | (go_at_call 36; refine Calls.mono hh1 ?_; clear hh1; rintro e w2 ⟨rfl, rfl⟩)
    | (go_at_call 36; refine Calls.mono hh3 ?_; clear hh3; rintro e w3 ⟨rfl, rfl⟩)
    | (go_at_call 36; refine Calls.mono hh2 ?_; clear hh2; rintro e w4 ⟨rfl, rfl⟩; have hpr := HPr.out _ HR.out (fun k h => HD.out k (Nat.le_trans HK1.out.size h)))
    | (go_at_call 55; refine Calls.mono hpr ?_; clear hpr; rintro e w5 ⟨rfl, h5, hk5⟩))
  go_ret2
  exact ⟨rfl, h5, HK1.out.trans hk5⟩
theorem settle_t1 (f : ByteArray → Nat) (s : Stt) (k : ByteArray) : (A.settle f s k).2.t1 = s.t1 ∧ (A.settle f s k).2.c = s.c := by
  unfold A.settle
  split
  · exact ⟨rfl, rfl⟩
  · split
    · exact ⟨rfl, rfl⟩
    · split <;> exact ⟨rfl, rfl⟩
theorem settle_few (f : ByteArray → Nat) (s : Stt) (k : ByteArray) : (A.settle f s k).1.length ≤ 1 := by
  unfold A.settle
  split
  · simp
  · split
    · simp
    · split <;> simp
/-- what Access answers -/
def Tells (x : Nat) (y : Dk) (r : Bool × List ByteArray × Stt) (D : Nat → Prop) (w : World) (e : Ending) (w' : World) : Prop :=
  ∃ ad cap, e = .returned (.tuple #[.bool r.1, .slice ad r.2.1.length cap]) ∧ Beside (RE x y r.2.2) ad cap r.2.1 D w' ∧ Keeps D w w'
set_option maxRecDepth 100000 in
set_option maxHeartbeats 2000000 in
theorem racc_new (H : RE x y s D w) (hok : A.Ok s) (hD : ∀ k, w.heap.size ≤ k → D k) (key : ByteArray) (hk : key.size ≤ 1000) (hz : ∀ z, z ∈ A.keys s → z.size ≤ 1000) (hin : key ∉ A.keys s) :
    Calls Tryz.prog 27 #[.pointer (some ⟨x, 0, none⟩), .string key] w (Tells x (nt y key) (false, A.come (fq (nt y key)) s key) D w) := by
  have h1 : key ∉ s.t1 := fun h => hin (by simp [A.keys, h])
  have h2 : key ∉ s.b1 := fun h => hin (by simp [A.keys, h])
  have h3 : key ∉ s.t2 := fun h => hin (by simp [A.keys, h])
  have HD : Hid (∀ k, w.heap.size ≤ k → D k) := hD
  have hs := Small.of hok
  have hl1 := hs.l1
  have hl2 := hs.l2
  have hl3 := hs.l3
  have hlo := hok.lo
  have hhi := hok.hi
  have hwin : s.t1.length ≤ wr s.c := hok.win
  have hwle := wr_le hlo
  have hw1 : 1 ≤ wr s.c := by unfold wr; omega
  have hnote := rnote_any H hD key hk
  have HI : Hid (∀ (L : Nat → Nat) (W : World) a1 c1 (zs : List ByteArray) i, Row (fun g => D g ∧ L g = i) W a1 c1 zs → key ∉ zs → zs.length ≤ 4100 → Calls Tryz.prog 36 #[.slice a1 zs.length c1, .string key] W fun e w' => e = .returned (.int .i64 (-1)) ∧ w' = W) := fun L W a1 c1 zs i hr hn hl => by have := rhas_any hr (by omega) key; rw [idx_no hn] at this; exact this
  have HN1 : Hid (key ∉ s.t1) := h1
  have HN2 : Hid (key ∉ s.b1) := h2
  have HN3 : Hid (key ∉ s.t2) := h3
  obtain ⟨s1, hs1⟩ : ∃ s1, s1 = { s with t1 := s.t1 ++ [key] } := ⟨_, rfl⟩
  have HS1 : Hid (s1 = { s with t1 := s.t1 ++ [key] }) := hs1
  obtain ⟨R, hR⟩ : ∃ R, R = A.come (fq (nt y key)) s key := ⟨_, rfl⟩
  obtain ⟨wr0, hwr0⟩ : ∃ wr0, wr0 = wr s.c := ⟨_, rfl⟩
  rw [← hwr0] at hwin hwle hw1
  have HW0 : Hid (wr0 = wr s.c) := hwr0
  have hn0 : ∃ n0 : Nat, (n0 = 1 ∧ s.t1.length = wr0) ∨ (n0 = 0 ∧ s.t1.length + 1 ≤ wr0 ∧ R = ([], s1)) := by
    by_cases hq : s.t1.length = wr0
    · exact ⟨1, .inl ⟨rfl, hq⟩⟩
    · refine ⟨0, .inr ⟨rfl, by omega, ?_⟩⟩
      rw [hR, hs1]
      unfold A.come
      rw [if_pos (show s.t1.length < A.wroom s by show s.t1.length < wr s.c; omega)]
  obtain ⟨n0, hn0⟩ := hn0
  have hc1 : s1.c = s.c := by rw [hs1]
  have HF : Hid (s.t1.length = wr0 → ∃ k0 r, s1.t1 = k0 :: r ∧ A.cut s1.t1 k0 = r ∧ R = A.settle (fq (nt y key)) { s1 with t1 := r } k0 ∧ Small s1 ∧ (∀ z, z ∈ A.keys s1 → z.size ≤ 1000) ∧ R.2.t1.length ≤ wr0 ∧ R.2.c = s.c) := by
    intro hq
    obtain ⟨k0, r0, ht⟩ : ∃ k0 r0, s.t1 = k0 :: r0 := by
      cases hx : s.t1 with
      | nil => rw [hx] at hq; simp at hq; omega
      | cons a b => exact ⟨a, b, rfl⟩
    have hS1 : s1.t1 = k0 :: (r0 ++ [key]) := by rw [hs1, ht]; rfl
    have hR2 : R = A.settle (fq (nt y key)) { s1 with t1 := r0 ++ [key] } k0 := by
      rw [hR, hs1]
      unfold A.come
      rw [if_neg (show ¬ s.t1.length < A.wroom s by show ¬ s.t1.length < wr s.c; omega), ht]
    refine ⟨k0, r0 ++ [key], hS1, ?_, hR2, ?_, ?_, ?_⟩
    · rw [hS1]
      refine A.cut_head (fun j => ?_)
      have ho := hok.one j
      rw [ht] at ho
      have e : A.cnt j (k0 :: (r0 ++ [key])) = A.cnt j (k0 :: r0) + A.one key j := by rw [A.cnt_cons, A.cnt_cons, A.cnt_snoc]; omega
      rw [e]
      by_cases hj : key = j
      · subst hj
        have := A.cnt_zero.2 (ht ▸ h1)
        rw [A.one_self]; omega
      · rw [A.one_ne hj]; omega
    · rw [hs1]
      exact ⟨by show (s.t1 ++ [key]).length ≤ 4100; simp; omega, hl2, hl3, hhi⟩
    · intro z hzz
      rw [hs1] at hzz
      simp only [A.keys, List.mem_append, List.mem_singleton] at hzz
      rcases hzz with (h | h) | h | h
      · exact hz z (by simp [A.keys, h])
      · rw [h]; omega
      · exact hz z (by simp [A.keys, h])
      · exact hz z (by simp [A.keys, h])
    · have hlr : (r0 ++ [key]).length ≤ wr0 := by rw [ht] at hq; simp at hq ⊢; omega
      rw [hR2]
      have h := settle_t1 (fq (nt y key)) { s1 with t1 := r0 ++ [key] } k0
      rw [h.1, h.2]
      exact ⟨hlr, hc1⟩
  have HN0 : Hid ((n0 = 1 ∧ s.t1.length = wr0) ∨ (n0 = 0 ∧ s.t1.length + 1 ≤ wr0 ∧ R = ([], s1))) := hn0
  have HR : Hid (R = A.come (fq (nt y key)) s key) := hR
  rw [← hR]
  clear H hD hs hok h1 h2 h3 hz hin hs1 hR hn0 hwr0
  go_enter Tryz.func27, Tryz.ntmps27
  go_wp2_with (first
    | (go_at_call 53; refine Calls.mono hnote ?_; clear hnote; rintro e w1 ⟨rfl, ⟨L, a1, c1, a2, c2, a3, c3, H1⟩, hk1⟩; have HE : Hid (ReIn D L w1 x (nt y key) s a1 c1 a2 c2 a3 c3) := H1; have HK1 : Hid (Keeps D w w1) := hk1; obtain ⟨d0, d1, d2, d3, d4, d5⟩ := H1.cells; have hh1 := HI.out L w1 a1 c1 s.t1 1 H1.r1 HN1.out (by omega); have hh2 := HI.out L w1 a2 c2 s.b1 2 H1.r2 HN2.out (by omega); have hh3 := HI.out L w1 a3 c3 s.t2 3 H1.r3 HN3.out (by omega); clear H1 hk1)
    | (go_at_call 36; refine Calls.mono hh1 ?_; clear hh1; rintro e w2 ⟨rfl, rfl⟩)
    | (go_at_call 36; refine Calls.mono hh3 ?_; clear hh3; rintro e w3 ⟨rfl, rfl⟩)
    | (go_at_call 36; refine Calls.mono hh2 ?_; clear hh2; rintro e w4 ⟨rfl, rfl⟩)
    | (at_builtin; go_must (refine wpList_append_row (ks := [key]) rfl _ _ rfl rfl (HE.out.r1.below ((Below.refl _ _).alloc (Nat.le_refl _) _)) rfl (src_at key rfl) (by simp; omega) ?_); intro a7 n7 w7 hr7 hk7; obtain ⟨⟨x0, x1, x2, x3⟩, y0, y1, y2, y3⟩ := (HE.out.below ((Below.refl _ _).alloc (Nat.le_refl _) _)).still (by omega) hk7; have HR7 : Hid (RE x (nt y key) s1 D (w7.setCell ⟨x, 0, none⟩ (.slice a7 (s.t1 ++ [key]).length n7))) := (by show RE x (nt y key) s1 D _; rw [HS1.out]; exact ⟨_, _, _, _, _, _, _, (HE.out.below ((Below.refl _ _).alloc (Nat.le_refl _) _)).put1 (fun k h => HD.out k (Nat.le_trans (Nat.le_trans HK1.out.size (by simp)) h)) hk7 hr7⟩); have HK7 : Hid (Keeps D w (w7.setCell ⟨x, 0, none⟩ (.slice a7 (s.t1 ++ [key]).length n7))) := (((HK1.out.alloc _).trans (hk7.mono (fun _ _ h => h.1))).setCell (p := ⟨x, 0, none⟩) HE.out.dx _); clear hr7 hk7))
  have e7 : (s.t1 ++ [key]).length = s.t1.length + 1 := by simp
  have HRa := HR7.out
  have HKa := HK7.out
  rw [e7] at HRa HKa
  have HRb : Hid (RE x (nt y key) s1 D (w7.setCell ⟨x, 0, none⟩ (.slice a7 (s.t1.length + 1) n7))) := HRa
  have HKb : Hid (Keeps D w (w7.setCell ⟨x, 0, none⟩ (.slice a7 (s.t1.length + 1) n7))) := HKa
  clear HRa HKa HR7 HK7
  go_loopg [6] n0 (fun n gv wr => (n = 1 ∧ s.t1.length = wr0 ∧ gv = .slice none 0 0 ∧ RE x (nt y key) s1 D wr ∧ Keeps D w wr) ∨ (n = 0 ∧ R.2.t1.length ≤ wr0 ∧ R.2.c = s.c ∧ ∃ ad cap, gv = .slice ad R.1.length cap ∧ Beside (RE x (nt y key) R.2) ad cap R.1 D wr ∧ Keeps D w wr))
  case atStart =>
    rcases HN0.out with ⟨rfl, hq⟩ | ⟨rfl, hq, e2⟩
    · exact .inl ⟨rfl, hq, rfl, HRb.out, HKb.out⟩
    · refine .inr ⟨rfl, ?_⟩
      rw [e2]
      refine ⟨by rw [HS1.out]; simpa using hq, by rw [HS1.out], none, 0, rfl, HRb.out.bare, HKb.out⟩
  case round =>
    clear HRb HKb
    rcases hrel with ⟨rfl, hq, rfl, hA, hk⟩ | ⟨rfl, hq, hc2, ad, cap, rfl, hA, hk⟩
    · obtain ⟨k0, r0, ht, hcu, hR2, hsm, hzs, hrl⟩ := HF.out hq
      have HAd : Hid (∀ q, Calls Tryz.prog 57 #[.pointer (some ⟨x, 0, none⟩)] (wr.drewN q) (Admits x (nt y key) R D (wr.drewN q))) := fun q => by
        rw [hR2]
        exact radmit_any (RE.drewN hA q) hsm (by omega) (fun k h => HD.out k (Nat.le_trans hk.size h)) hzs ht hcu
      have HWn : Hid (∀ q, Calls Tryz.prog 56 #[.pointer (some ⟨x, 0, none⟩)] (wr.drewN q) fun e w' => e = .returned (.int .i64 ((wr0 : Nat) : Int)) ∧ w' = wr.drewN q) := fun q => by
        have h := rwindow_any (RE.drewN hA q) (by omega)
        rw [hc1, ← HW0.out] at h
        exact h
      have HRl : Hid (R.2.t1.length ≤ wr0 ∧ R.2.c = s.c) := hrl
      have HKr : Hid (Keeps D w wr) := hk
      have hl9 : s1.t1.length = wr0 + 1 := by rw [HS1.out]; simp; omega
      have hl8 : R.1.length ≤ 1 := by
        rw [hR2]
        exact settle_few _ _ _
      obtain ⟨L9, b1, e1, b2, e2, b3, e3, H9⟩ := hA
      obtain ⟨f0, f1, f2, f3, f4, f5⟩ := H9.cells
      clear H9 hk ht hcu hR2 hsm hzs hrl hq
      go_wp2_with fail
      go_quiet (first | (go_at_call 56; exact Calls.quiet_of_same (HWn.out _)))
      go_wp2_with (first
        | (go_at_call 57; refine Calls.mono (HAd.out _) ?_; rintro e w9 ⟨ad9, cp9, rfl, ⟨D1, g1, hA9, hR9⟩, hk9⟩; have HG : Hid (∀ k, D1 k → D k ∧ k < w9.heap.size) := g1; have HA9 : Hid (RE x (nt y key) R.2 D1 w9) := hA9; have HR9 : Hid (Row (fun g => D g ∧ ¬ D1 g) w9 ad9 cp9 R.1) := hR9; have HK9 : Hid (Keeps D w w9) := ((HKr.out.drewN _).trans hk9); clear g1 hA9 hR9 hk9)
        | (at_builtin; go_must (refine wpList_append_row (D := fun g => w9.heap.size ≤ g) (zs := []) (ks := R.1) rfl _ _ rfl rfl (Row.bare _) rfl HR9.out.src (by simp; omega) ?_); intro a10 n10 w10 hr10 hk10; have hb10 : Below w9.heap.size w9 w10 := hk10.below (Nat.le_refl _) (fun _ h => h); have H10 : Hid (Beside (RE x (nt y key) R.2) a10 n10 R.1 D w10) := ⟨D1, fun k h => ⟨(HG.out k h).1, Nat.lt_of_lt_of_le (HG.out k h).2 hb10.size⟩, HA9.out.below hb10, (rrow_old hr10 (Nat.le_refl _)).wide (fun g _ h => ⟨HD.out g (Nat.le_trans HK9.out.size h), fun h2 => by have := (HG.out g h2).2; have h' : w9.heap.size ≤ g := h; omega⟩)⟩; have HK10 : Hid (Keeps D w w10) := HK9.out.trans (.of_below hb10); clear hr10 hk10 hb10))
      go_roundg 0
      case measure => omega
      case rel => exact .inr ⟨rfl, HRl.out.1, HRl.out.2, a10, n10, by simp, H10.out, HK10.out⟩
    · obtain ⟨D1, g1, hA9, hR9⟩ := hA
      have HG : Hid (∀ k, D1 k → D k ∧ k < wr.heap.size) := g1
      have HR9 : Hid (Row (fun g => D g ∧ ¬ D1 g) wr ad cap R.1) := hR9
      have HA9 : Hid (RE x (nt y key) R.2 D1 wr) := hA9
      have HKr : Hid (Keeps D w wr) := hk
      have HWn : Hid (∀ q, Calls Tryz.prog 56 #[.pointer (some ⟨x, 0, none⟩)] (wr.drewN q) fun e w' => e = .returned (.int .i64 ((wr0 : Nat) : Int)) ∧ w' = wr.drewN q) := fun q => by
        have h := rwindow_any (RE.drewN hA9 q) (by omega)
        rw [hc2, ← HW0.out] at h
        exact h
      obtain ⟨L9, b1, e1, b2, e2, b3, e3, H9⟩ := hA9
      obtain ⟨f0, f1, f2, f3, f4, f5⟩ := H9.cells
      clear H9 hk g1 hR9
      go_wp2_with fail
      go_quiet (first | (go_at_call 56; exact Calls.quiet_of_same (HWn.out _)))
      go_wp2_with fail
      go_ret2
      exact ⟨ad, cap, rfl, ⟨D1, HG.out, HA9.out.drewN _, HR9.out.below (below_drewN (Below.refl _ _) _)⟩, HKr.out.drewN _⟩
theorem racc_any (H : RE x y s D w) (hok : A.Ok s) (hD : ∀ k, w.heap.size ≤ k → D k) (key : ByteArray) (hk : key.size ≤ 1000) (hz : ∀ z, z ∈ A.keys s → z.size ≤ 1000) :
    Calls Tryz.prog 27 #[.pointer (some ⟨x, 0, none⟩), .string key] w (Tells x (nt y key) (A.access (fq (nt y key)) s key) D w) := by
  have ho := (Single.of hok).out (k := key)
  by_cases h1 : key ∈ s.t1
  · have e : A.access (fq (nt y key)) s key = (true, [], { s with t1 := A.cut s.t1 key ++ [key] }) := by
      unfold A.access
      rw [if_pos (by simp [A.keys, h1])]
      unfold A.use
      rw [if_pos h1]
    rw [e]
    refine (racc_w H hok hD key hk h1).mono ?_
    rintro e w' ⟨rfl, h, hk1⟩
    exact ⟨none, 0, rfl, h.bare, hk1⟩
  by_cases h3 : key ∈ s.t2
  · have e : A.access (fq (nt y key)) s key = (true, [], { s with t2 := A.cut s.t2 key ++ [key] }) := by
      unfold A.access
      rw [if_pos (by simp [A.keys, h3])]
      unfold A.use
      rw [if_neg h1, A.cut_same (ho.2.1 h3).2]
      have hl : (A.cut s.t2 key).length + 1 = s.t2.length := A.length_cut (fun k => by have := hok.one k; omega) h3
      have hp := hok.prot
      rw [tame_no]
      show ¬ A.proom s < (A.cut s.t2 key ++ [key]).length
      simp; omega
    rw [e]
    refine (racc_p H hok hD key hk h1 h3).mono ?_
    rintro e w' ⟨rfl, h, hk1⟩
    exact ⟨none, 0, rfl, h.bare, hk1⟩
  by_cases h2 : key ∈ s.b1
  · have e : A.access (fq (nt y key)) s key = (true, [], A.use s key) := by
      unfold A.access
      rw [if_pos (by simp [A.keys, h2])]
    rw [e]
    refine (racc_a H hok hD key hk h1 h3 h2).mono ?_
    rintro e w' ⟨rfl, h, hk1⟩
    exact ⟨none, 0, rfl, h.bare, hk1⟩
  have hin : key ∉ A.keys s := by simp [A.keys, h1, h2, h3]
  have e : A.access (fq (nt y key)) s key = (false, A.come (fq (nt y key)) s key) := by
    unfold A.access
    rw [if_neg hin]
  rw [e]
  exact racc_new H hok hD key hk hz hin
end
end Go.Proofs.YtcphhlfbjkeikabGreat
/- The document's machine: New, Load, Evict. -/
namespace Go.Proofs.YtcphhlfbjkeikabGreat
open Go.RowKit

theorem eng_start (pd pk c : Nat) (v : Int) (h : v = c) : some (Obj.cells #[.slice none 0 0, .slice none 0 0, .slice none 0 0, .pointer (some ⟨pk, 0, none⟩), .pointer (some ⟨pd, 0, none⟩), .int .i64 v] 60 (0, 0)) = some (Obj.cells (eng (zst pd pk c) (A.start c) none 0 none 0 none 0) 60 (0, 0)) := by
  subst h
  rfl
section
variable {D D' : Nat → Prop} {w w' : World} {x : Nat} {y : Dk} {s : Stt}
set_option maxRecDepth 100000 in
set_option maxHeartbeats 2000000 in
theorem rnew_eng (r : Int) (hD : ∀ k, w.heap.size ≤ k → D k) :
    Calls Tryz.prog 7 #[.int .i64 r] w fun e w' => ∃ x pd pk, e = .returned (.pointer (some ⟨x, 0, none⟩)) ∧ RE x (zst pd pk (heldC r)) (A.start (heldC r)) D w' ∧ Keeps D w w' := by
  have hc : ((heldC r : Nat) : Int) = min (max r 1) 1024 := by unfold heldC; omega
  have HK : Hid (∀ W v, v = ((heldC r : Nat) : Int) → Calls Tryz.prog 24 #[.int .i64 v] W fun e w' => ∃ p, e = .returned (.pointer (some ⟨p, 0, none⟩)) ∧ Sk.RF p (Sk.wd ((heldC r : Nat) : Int)) (fun _ => 0) 0 (W.heap.size ≤ ·) w' ∧ Below W.heap.size W w') := fun W v hv => by
    subst hv
    refine (Sk.rnew_any (D := (W.heap.size ≤ ·)) ((heldC r : Nat) : Int) (by omega) (by omega) (fun _ h => h)).mono ?_
    rintro e w' ⟨p, rfl, h, hk⟩
    exact ⟨p, rfl, h, hk.below (Nat.le_refl _) (fun _ h => h)⟩
  have HDr : Hid (∀ W v, v = ((heldC r : Nat) : Int) → Calls Tryz.prog 25 #[.int .i64 v] W fun e w' => ∃ p, e = .returned (.pointer (some ⟨p, 0, none⟩)) ∧ Dr.RF p (Dr.nw ((heldC r : Nat) : Int)) (fun _ => false) (W.heap.size ≤ ·) w' ∧ Below W.heap.size W w') := fun W v hv => by
    subst hv
    refine (Dr.rnew_any (D := (W.heap.size ≤ ·)) ((heldC r : Nat) : Int) (by omega) (by omega) (fun _ h => h)).mono ?_
    rintro e w' ⟨p, rfl, h, hk⟩
    exact ⟨p, rfl, h, hk.below (Nat.le_refl _) (fun _ h => h)⟩
  have HC : Hid (((heldC r : Nat) : Int) = min (max r 1) 1024) := hc
  clear hc
  go_enter Tryz.func7, Tryz.ntmps7
  go_wp2_with (first
    | (go_at_call 24; refine Calls.mono (HK.out _ _ HC.out.symm) ?_; rintro e w1 ⟨pk, rfl, h1, hb1⟩; have H1 : Hid _ := h1; have HB1 : Hid _ := hb1; clear h1 hb1)
    | (go_at_call 25; refine Calls.mono (HDr.out _ _ HC.out.symm) ?_; rintro e w2 ⟨pd, rfl, h2, hb2⟩; have H2 : Hid _ := h2; have HB2 : Hid _ := hb2; clear h2 hb2))
  go_ret
  obtain ⟨L, hL⟩ : ∃ L : Nat → Nat, ∀ g, L g = if g < w1.heap.size then 5 else if g < w2.heap.size then 6 else if g = w2.heap.size then 0 else 1 := ⟨_, fun _ => rfl⟩
  have s1 := HB1.out.size
  have s2 := HB2.out.size
  have hb3 : Below w2.heap.size w2 (w2.alloc (.cells #[.slice none 0 0, .slice none 0 0, .slice none 0 0, .pointer (some ⟨pk, 0, none⟩), .pointer (some ⟨pd, 0, none⟩), .int .i64 (min (max r 1) 1024)] 60)) := (Below.refl _ w2).alloc (Nat.le_refl _) _
  have hb13 := below_trans HB2.out hb3
  refine ⟨w2.heap.size, pd, pk, rfl, ⟨L, none, 0, none, 0, none, 0, hD _ (by omega), by rw [hL]; simp; omega, ?_, Row.nil, Row.nil, Row.nil, ?_, ?_⟩, (Keeps.of_below (below_trans HB1.out HB2.out)).alloc _⟩
  · rw [heap_alloc_new]
    exact eng_start _ _ _ _ HC.out.symm
  · exact RkAt.keep (D' := fun _ => False) (RkAt.wide H1.out (fun k hk h => ⟨hD k h, by rw [hL, if_pos hk]⟩)) (.of_below hb13) (fun _ _ _ e => e)
  · exact RdAt.keep (D' := fun _ => False) (RdAt.wide H2.out (fun k hk h => ⟨hD k (Nat.le_trans s1 h), by rw [hL, if_neg (by have h' : w1.heap.size ≤ k := h; omega), if_pos hk]⟩)) (.of_below hb3) (fun _ _ _ e => e)
theorem rload_no (H : RE x y s D w) (hs : Small s) (key : ByteArray) (hk : key ∈ A.keys s ∨ s.c ≤ (A.keys s).length) :
    Calls Tryz.prog 29 #[.pointer (some ⟨x, 0, none⟩), .string key] w fun e w' => e = .returned (.bool false) ∧ ∃ q, w' = w.drewN q := by
  have hh := fun q => rhas_key (RE.drewN H q) hs key
  have hlen := fun q => rlen_any (RE.drewN H q) hs
  obtain ⟨L, a1, c1, a2, c2, a3, c3, H⟩ := H
  obtain ⟨d0, d1, d2, d3, d4, d5⟩ := H.cells
  have hhi := hs.hc
  by_cases h1 : key ∈ A.keys s
  · rw [inn_yes h1] at hh
    clear H hs
    go_enter Tryz.func29, Tryz.ntmps29
    go_wp2_with fail
    go_quiet (first | (go_at_call 12; refine Calls.quiet_of_same (hh _)) | (go_at_call 59; refine Calls.quiet_of (hlen _)))
    go_wp2_with fail
    go_ret
    exact ⟨rfl, _, rfl⟩
  · rw [inn_no h1] at hh
    have h2 : s.c ≤ (A.keys s).length := by rcases hk with h | h; exact absurd h h1; exact h
    generalize (A.keys s).length = n at *
    generalize s.c = c at *
    have hd : decide ((c : Int) ≤ (n : Int)) = true := decide_eq_true (by omega)
    clear H hs
    go_enter Tryz.func29, Tryz.ntmps29
    go_wp2_with fail
    go_quiet (first | (go_at_call 12; refine Calls.quiet_of_same (hh _)) | (go_at_call 59; refine Calls.quiet_of (hlen _)))
    go_wp2_with fail
    go_ret
    exact ⟨rfl, _, rfl⟩
set_option maxRecDepth 100000 in
set_option maxHeartbeats 2000000 in
theorem rload_a (H : RE x y s D w) (hok : A.Ok s) (hD : ∀ k, w.heap.size ≤ k → D k) (key : ByteArray) (hk : key ∉ A.keys s) (hl : (A.keys s).length < s.c) (hroom : s.b1.length + s.t2.length < mr s.c) :
    Calls Tryz.prog 29 #[.pointer (some ⟨x, 0, none⟩), .string key] w fun e w' => e = .returned (.bool true) ∧ RE x y { s with b1 := s.b1 ++ [key] } D w' ∧ Keeps D w w' := by
  have hs := Small.of hok
  have hhi := hs.hc
  have hlo := hok.lo
  have hh := fun q => rhas_key (RE.drewN H q) hs key
  have hlen := fun q => rlen_any (RE.drewN H q) hs
  have HMn : Hid (∀ a b, Calls Tryz.prog 60 #[.pointer (some ⟨x, 0, none⟩)] (w.drewN (a + b)) fun e w' => e = .returned (.int .i64 ((mr s.c : Nat) : Int)) ∧ ∃ n, w' = w.drewN (a + n)) := fun a b =>
    (rmain_any (RE.drewN H (a + b)) hlo hhi).mono (by rintro e w' ⟨rfl, q, rfl⟩; exact ⟨rfl, b + q, by simp [Nat.add_assoc]⟩)
  have HD : Hid (∀ k, w.heap.size ≤ k → D k) := hD
  rw [inn_no hk] at hh
  obtain ⟨L, a1, c1, a2, c2, a3, c3, H⟩ := H
  have HE : Hid (ReIn D L w x y s a1 c1 a2 c2 a3 c3) := H
  obtain ⟨d0, d1, d2, d3, d4, d5⟩ := H.cells
  have hl1 := hs.l1
  have hl2 := hs.l2
  have hl3 := hs.l3
  obtain ⟨n, hn⟩ : ∃ n, n = (A.keys s).length := ⟨_, rfl⟩
  rw [← hn] at hl hlen
  have hd : decide ((s.c : Int) ≤ (n : Int)) = false := decide_eq_false (by omega)
  clear H hs hD hok hn
  go_enter Tryz.func29, Tryz.ntmps29
  go_wp2_with fail
  go_quiet (first | (go_at_call 12; refine Calls.quiet_of_same (hh _)) | (go_at_call 59; refine Calls.quiet_of (hlen _)))
  go_wp2_with fail
  go_quiet (first | (go_at_call 60; exact HMn.out _ _))
  go_wp2_with (at_builtin; go_must (refine wpList_append_row (ks := [key]) rfl _ _ rfl rfl (HE.out.r2.below (below_da _ _ _)) rfl (src_at key (by simp)) (by simp; omega) ?_); intro a7 n7 w7 hr7 hk7; obtain ⟨⟨x0, x1, x2, x3⟩, y0, y1, y2, y3⟩ := (HE.out.below (below_da _ _ _)).still (by omega) hk7; have H7 : Hid (RE x y { s with b1 := s.b1 ++ [key] } D (w7.setCell ⟨x, 1, none⟩ (.slice a7 (s.b1 ++ [key]).length n7))) := ⟨_, _, _, _, _, _, _, (HE.out.below (below_da _ _ _)).put2 (fun k h => HD.out k (Nat.le_trans (by simp) h)) hk7 hr7⟩; have HK7 : Hid (Keeps D w (w7.setCell ⟨x, 1, none⟩ (.slice a7 (s.b1 ++ [key]).length n7))) := ((((((Keeps.refl D w).drewN _).alloc _).trans (hk7.mono (fun _ _ h => h.1))).setCell (p := ⟨x, 1, none⟩) HE.out.dx _)); clear hr7 hk7)
  go_ret
  have e7 : (s.b1 ++ [key]).length = s.b1.length + 1 := by simp
  have H8 := H7.out
  have HK8 := HK7.out
  rw [e7] at H8 HK8
  exact ⟨rfl, H8, HK8⟩
set_option maxRecDepth 100000 in
set_option maxHeartbeats 2000000 in
theorem rload_w (H : RE x y s D w) (hok : A.Ok s) (hD : ∀ k, w.heap.size ≤ k → D k) (key : ByteArray) (hk : key ∉ A.keys s) (hl : (A.keys s).length < s.c) (hroom : ¬ s.b1.length + s.t2.length < mr s.c) :
    Calls Tryz.prog 29 #[.pointer (some ⟨x, 0, none⟩), .string key] w fun e w' => e = .returned (.bool true) ∧ RE x y { s with t1 := s.t1 ++ [key] } D w' ∧ Keeps D w w' := by
  have hs := Small.of hok
  have hhi := hs.hc
  have hlo := hok.lo
  have hh := fun q => rhas_key (RE.drewN H q) hs key
  have hlen := fun q => rlen_any (RE.drewN H q) hs
  have HMn : Hid (∀ a b, Calls Tryz.prog 60 #[.pointer (some ⟨x, 0, none⟩)] (w.drewN (a + b)) fun e w' => e = .returned (.int .i64 ((mr s.c : Nat) : Int)) ∧ ∃ n, w' = w.drewN (a + n)) := fun a b =>
    (rmain_any (RE.drewN H (a + b)) hlo hhi).mono (by rintro e w' ⟨rfl, q, rfl⟩; exact ⟨rfl, b + q, by simp [Nat.add_assoc]⟩)
  have HD : Hid (∀ k, w.heap.size ≤ k → D k) := hD
  rw [inn_no hk] at hh
  obtain ⟨L, a1, c1, a2, c2, a3, c3, H⟩ := H
  have HE : Hid (ReIn D L w x y s a1 c1 a2 c2 a3 c3) := H
  obtain ⟨d0, d1, d2, d3, d4, d5⟩ := H.cells
  have hl1 := hs.l1
  have hl2 := hs.l2
  have hl3 := hs.l3
  obtain ⟨n, hn⟩ : ∃ n, n = (A.keys s).length := ⟨_, rfl⟩
  rw [← hn] at hl hlen
  have hd : decide ((s.c : Int) ≤ (n : Int)) = false := decide_eq_false (by omega)
  clear H hs hD hok hn
  go_enter Tryz.func29, Tryz.ntmps29
  go_wp2_with fail
  go_quiet (first | (go_at_call 12; refine Calls.quiet_of_same (hh _)) | (go_at_call 59; refine Calls.quiet_of (hlen _)))
  go_wp2_with fail
  go_quiet (first | (go_at_call 60; exact HMn.out _ _))
  go_wp2_with (at_builtin; go_must (refine wpList_append_row (ks := [key]) rfl _ _ rfl rfl (HE.out.r1.below (below_da _ _ _)) rfl (src_at key (by simp)) (by simp; omega) ?_); intro a7 n7 w7 hr7 hk7; obtain ⟨⟨x0, x1, x2, x3⟩, y0, y1, y2, y3⟩ := (HE.out.below (below_da _ _ _)).still (by omega) hk7; have H7 : Hid (RE x y { s with t1 := s.t1 ++ [key] } D (w7.setCell ⟨x, 0, none⟩ (.slice a7 (s.t1 ++ [key]).length n7))) := ⟨_, _, _, _, _, _, _, (HE.out.below (below_da _ _ _)).put1 (fun k h => HD.out k (Nat.le_trans (by simp) h)) hk7 hr7⟩; have HK7 : Hid (Keeps D w (w7.setCell ⟨x, 0, none⟩ (.slice a7 (s.t1 ++ [key]).length n7))) := ((((((Keeps.refl D w).drewN _).alloc _).trans (hk7.mono (fun _ _ h => h.1))).setCell (p := ⟨x, 0, none⟩) HE.out.dx _)); clear hr7 hk7)
  go_ret
  have e7 : (s.t1 ++ [key]).length = s.t1.length + 1 := by simp
  have H8 := H7.out
  have HK8 := HK7.out
  rw [e7] at H8 HK8
  exact ⟨rfl, H8, HK8⟩
theorem rload_any (H : RE x y s D w) (hok : A.Ok s) (hD : ∀ k, w.heap.size ≤ k → D k) (key : ByteArray) :
    Calls Tryz.prog 29 #[.pointer (some ⟨x, 0, none⟩), .string key] w fun e w' => e = .returned (.bool (A.load s key).1) ∧ RE x y (A.load s key).2 D w' ∧ Keeps D w w' := by
  by_cases hk : key ∈ A.keys s ∨ s.c ≤ (A.keys s).length
  · rw [A.load_no hk]
    refine (rload_no H (Small.of hok) key hk).mono ?_
    rintro e w' ⟨rfl, q, rfl⟩
    exact ⟨rfl, H.drewN q, (Keeps.refl _ _).drewN q⟩
  · have h1 : key ∉ A.keys s := fun h => hk (.inl h)
    have h2 : (A.keys s).length < s.c := by rcases Nat.lt_or_ge (A.keys s).length s.c with h | h; exact h; exact absurd (.inr h) hk
    by_cases hroom : s.b1.length + s.t2.length < mr s.c
    · have e : A.load s key = (true, { s with b1 := s.b1 ++ [key] }) := by
        unfold A.load
        rw [if_neg hk, if_neg (show ¬ A.mroom s ≤ _ by show ¬ mr s.c ≤ _; omega)]
      rw [e]
      exact rload_a H hok hD key h1 h2 hroom
    · have e : A.load s key = (true, { s with t1 := s.t1 ++ [key] }) := by
        unfold A.load
        rw [if_neg hk, if_pos (show A.mroom s ≤ _ by show mr s.c ≤ _; omega)]
      rw [e]
      exact rload_w H hok hD key h1 h2 hroom
set_option maxRecDepth 100000 in
set_option maxHeartbeats 2000000 in
theorem revi_a (H : RE x y s D w) (hok : A.Ok s) (hD : ∀ k, w.heap.size ≤ k → D k) {k : ByteArray} {r : List ByteArray}  (hq : s.b1 = k :: r) :
    Calls Tryz.prog 33 #[.pointer (some ⟨x, 0, none⟩)] w fun e w' => e = .returned (.tuple #[.string k, .bool true]) ∧ RE x y (A.remove s k).2 D w' ∧ Keeps D w w' := by
  have hs := Small.of hok
  have hl1 := hs.l1
  have hl2 := hs.l2
  have hl3 := hs.l3
  obtain ⟨b0, hb0⟩ : ∃ b0, b0 = (A.remove s k).1 := ⟨_, rfl⟩
  have hrem := rremove_any H hok hD k
  rw [← hb0] at hrem
  obtain ⟨L, a1, c1, a2, c2, a3, c3, H⟩ := H
  obtain ⟨g1, o1, rfl, -, ck, -⟩ := H.r2.at (i := 0) (z := k) (by rw [hq]; rfl)
  rw [Nat.add_zero] at ck
  obtain ⟨d0, d1, d2, d3, d4, d5⟩ := H.cells
  have hpos : 0 < s.b1.length := by rw [hq]; simp
  clear H hs hq hok hD hb0
  generalize (A.remove s k).2 = s' at *
  go_enter Tryz.func33, Tryz.ntmps33
  go_wp2_with (go_at_call 31; refine Calls.mono hrem ?_; clear hrem; rintro e w5 ⟨rfl, h5, hk5⟩)
  go_ret2
  exact ⟨rfl, h5, hk5⟩
set_option maxRecDepth 100000 in
set_option maxHeartbeats 2000000 in
theorem revi_p (H : RE x y s D w) (hok : A.Ok s) (hD : ∀ k, w.heap.size ≤ k → D k) {k : ByteArray} {r : List ByteArray} (h2 : s.b1.length = 0) (hq : s.t2 = k :: r) :
    Calls Tryz.prog 33 #[.pointer (some ⟨x, 0, none⟩)] w fun e w' => e = .returned (.tuple #[.string k, .bool true]) ∧ RE x y (A.remove s k).2 D w' ∧ Keeps D w w' := by
  have hs := Small.of hok
  have hl1 := hs.l1
  have hl2 := hs.l2
  have hl3 := hs.l3
  obtain ⟨b0, hb0⟩ : ∃ b0, b0 = (A.remove s k).1 := ⟨_, rfl⟩
  have hrem := rremove_any H hok hD k
  rw [← hb0] at hrem
  obtain ⟨L, a1, c1, a2, c2, a3, c3, H⟩ := H
  obtain ⟨g1, o1, rfl, -, ck, -⟩ := H.r3.at (i := 0) (z := k) (by rw [hq]; rfl)
  rw [Nat.add_zero] at ck
  obtain ⟨d0, d1, d2, d3, d4, d5⟩ := H.cells
  have hpos : 0 < s.t2.length := by rw [hq]; simp
  clear H hs hq hok hD hb0
  generalize (A.remove s k).2 = s' at *
  go_enter Tryz.func33, Tryz.ntmps33
  go_wp2_with (go_at_call 31; refine Calls.mono hrem ?_; clear hrem; rintro e w5 ⟨rfl, h5, hk5⟩)
  go_ret2
  exact ⟨rfl, h5, hk5⟩
set_option maxRecDepth 100000 in
set_option maxHeartbeats 2000000 in
theorem revi_w (H : RE x y s D w) (hok : A.Ok s) (hD : ∀ k, w.heap.size ≤ k → D k) {k : ByteArray} {r : List ByteArray} (h2 : s.b1.length = 0) (h3 : s.t2.length = 0) (hq : s.t1 = k :: r) :
    Calls Tryz.prog 33 #[.pointer (some ⟨x, 0, none⟩)] w fun e w' => e = .returned (.tuple #[.string k, .bool true]) ∧ RE x y (A.remove s k).2 D w' ∧ Keeps D w w' := by
  have hs := Small.of hok
  have hl1 := hs.l1
  have hl2 := hs.l2
  have hl3 := hs.l3
  obtain ⟨b0, hb0⟩ : ∃ b0, b0 = (A.remove s k).1 := ⟨_, rfl⟩
  have hrem := rremove_any H hok hD k
  rw [← hb0] at hrem
  obtain ⟨L, a1, c1, a2, c2, a3, c3, H⟩ := H
  obtain ⟨g1, o1, rfl, -, ck, -⟩ := H.r1.at (i := 0) (z := k) (by rw [hq]; rfl)
  rw [Nat.add_zero] at ck
  obtain ⟨d0, d1, d2, d3, d4, d5⟩ := H.cells
  have hpos : 0 < s.t1.length := by rw [hq]; simp
  clear H hs hq hok hD hb0
  generalize (A.remove s k).2 = s' at *
  go_enter Tryz.func33, Tryz.ntmps33
  go_wp2_with (go_at_call 31; refine Calls.mono hrem ?_; clear hrem; rintro e w5 ⟨rfl, h5, hk5⟩)
  go_ret2
  exact ⟨rfl, h5, hk5⟩
set_option maxRecDepth 100000 in
theorem revi_no (H : RE x y s D w) (h1 : s.t1.length = 0) (h2 : s.b1.length = 0) (h3 : s.t2.length = 0) :
    Calls Tryz.prog 33 #[.pointer (some ⟨x, 0, none⟩)] w fun e w' => e = .returned (.tuple #[.string ⟨#[]⟩, .bool false]) ∧ ∃ q, w' = w.drewN q := by
  obtain ⟨L, a1, c1, a2, c2, a3, c3, H⟩ := H
  obtain ⟨d0, d1, d2, d3, d4, d5⟩ := H.cells
  clear H
  go_enter Tryz.func33, Tryz.ntmps33
  go_wp2_with fail
  go_ret2
  first | exact ⟨rfl, 0, rfl⟩ | exact ⟨rfl, _, rfl⟩
theorem revict_any (H : RE x y s D w) (hok : A.Ok s) (hD : ∀ k, w.heap.size ≤ k → D k) :
    Calls Tryz.prog 33 #[.pointer (some ⟨x, 0, none⟩)] w fun e w' => e = .returned (wentV (A.evict s).1) ∧ RE x y (A.evict s).2 D w' ∧ Keeps D w w' := by
  have ho := Single.of hok
  have hcut : ∀ (k : ByteArray) (r : List ByteArray) (l : List ByteArray), l = k :: r → (∀ j, A.cnt j l ≤ 1) → A.cut l k = r := fun k r l e h => by
    subst e
    exact A.cut_head (fun j => by have := h j; exact this)
  have hrm : ∀ k, k ∈ A.keys s → (A.remove s k).2 = { s with t1 := A.cut s.t1 k, b1 := A.cut s.b1 k, t2 := A.cut s.t2 k } := fun k h => by
    unfold A.remove
    rw [if_pos h]
  cases hb : s.b1 with
  | cons k r =>
    have hk := (ho.out (k := k)).2.2 (by rw [hb]; simp)
    have e : A.evict s = ([k], (A.remove s k).2) := by
      rw [hrm k (by simp [A.keys, hb]), A.cut_same hk.1, A.cut_same hk.2, hcut k r s.b1 hb (fun j => by have := hok.one j; omega)]
      unfold A.evict
      rw [hb]
    rw [e]
    exact revi_a H hok hD hb
  | nil =>
    cases ht : s.t2 with
    | cons k r =>
      have hk := (ho.out (k := k)).2.1 (by rw [ht]; simp)
      have e : A.evict s = ([k], (A.remove s k).2) := by
        rw [hrm k (by simp [A.keys, ht]), A.cut_same hk.1, A.cut_same hk.2, hcut k r s.t2 ht (fun j => by have := hok.one j; omega)]
        unfold A.evict
        rw [hb, ht]
      rw [e]
      exact revi_p H hok hD (by rw [hb]; rfl) ht
    | nil =>
      cases hw : s.t1 with
      | cons k r =>
        have hk := (ho.out (k := k)).1 (by rw [hw]; simp)
        have e : A.evict s = ([k], (A.remove s k).2) := by
          rw [hrm k (by simp [A.keys, hw]), A.cut_same hk.1, A.cut_same hk.2, hcut k r s.t1 hw (fun j => by have := hok.one j; omega)]
          unfold A.evict
          rw [hb, ht, hw]
        rw [e]
        exact revi_w H hok hD (by rw [hb]; rfl) (by rw [ht]; rfl) hw
      | nil =>
        have e : A.evict s = ([], s) := by
          unfold A.evict
          rw [hb, ht, hw]
        rw [e]
        refine (revi_no H (by rw [hw]; rfl) (by rw [hb]; rfl) (by rw [ht]; rfl)).mono ?_
        rintro e w' ⟨rfl, q, rfl⟩
        exact ⟨rfl, H.drewN q, (Keeps.refl _ _).drewN q⟩
end
end Go.Proofs.YtcphhlfbjkeikabGreat
/- The document's machine: Keys, Ghosts, State. -/
namespace Go.Proofs.YtcphhlfbjkeikabGreat
open Go.RowKit

section
variable {D D' : Nat → Prop} {w w' : World} {x : Nat} {y : Dk} {s : Stt}
set_option maxHeartbeats 4000000 in
theorem rkeys_any (H : RE x y s D w) (hs : Small s) :
    Calls Tryz.prog 19 #[.pointer (some ⟨x, 0, none⟩)] w fun e w' => ∃ ad cap, e = .returned (.slice ad (A.keys s).length cap) ∧ Row (w.heap.size ≤ ·) w' ad cap (A.keys s) ∧ Below w.heap.size w w' := by
  obtain ⟨L, a1, c1, a2, c2, a3, c3, H⟩ := H
  obtain ⟨d0, d1, d2, d3, d4, d5⟩ := H.cells
  have l1 := hs.l1
  have l2 := hs.l2
  have l3 := hs.l3
  have hx := lt_of_block H.top
  have HC : Hid (∀ W, Below w.heap.size w W → W.cell? ⟨x, 0, none⟩ = some (.slice a1 s.t1.length c1) ∧ W.cell? ⟨x, 1, none⟩ = some (.slice a2 s.b1.length c2) ∧ W.cell? ⟨x, 2, none⟩ = some (.slice a3 s.t2.length c3)) := fun W hb => by
    obtain ⟨p0, p1, p2, p3, p4, p5⟩ := (H.below hb).cells
    exact ⟨p0, p1, p2⟩
  have HH : Hid (ReIn D L w x y s a1 c1 a2 c2 a3 c3) := H
  clear H hs
  go_enter Tryz.func19, Tryz.ntmps19
  go_wp2_with fail
  go_region_held3 (fun w' => w'.cell? ⟨x, 0, none⟩ = some (.slice a1 s.t1.length c1) ∧ w'.cell? ⟨x, 1, none⟩ = some (.slice a2 s.b1.length c2) ∧ w'.cell? ⟨x, 2, none⟩ = some (.slice a3 s.t2.length c3)) (first | exact q7 | exact q6 | exact q5 | exact HC.out _ (by first | exact (Below.refl _ _).drew | exact ((Below.refl _ _).alloc (Nat.le_refl _) _).drew | exact ((Below.refl _ _).drew).alloc (Nat.le_refl _) _) | go_keep)
    (first
    | (refine step_append_row (D := fun g => w.heap.size ≤ g) (zs := []) (ks := s.t1) (by rfl) _ _ (by rfl) (by rfl) (Row.bare _) (by rfl) ((HH.out.r1.below (by first | exact ((Below.refl _ _).alloc (Nat.le_refl _) _).drew | exact ((Below.refl _ _).drew).alloc (Nat.le_refl _) _)).src) (by simp; omega) ?_
       intro a5 n5 w5 hr5 hk5
       rw [List.nil_append] at hr5
       have hb5 : Below w.heap.size w w5 := by first | exact (((Below.refl _ w).alloc (Nat.le_refl _) _).drew).trans (hk5.below (by show w.heap.size ≤ (w.alloc _).heap.size; simp) (fun _ h => h)) | exact (((Below.refl _ w).drew).alloc (Nat.le_refl _) _).trans (hk5.below (by simp) (fun _ h => h))
       have hs5 := hb5.size
       replace hr5 := rrow_old hr5 (by first | (show w.heap.size ≤ (w.alloc _).heap.size; simp) | simp)
       have q5 := HC.out _ hb5
       simp only [List.length_nil, Nat.zero_add])
    | (refine step_append_row (D := fun g => w.heap.size ≤ g) (zs := s.t1) (ks := s.b1) (by rfl) _ _ (by rfl) (by rfl) hr5 (by rfl) ((HH.out.r2.below hb5).src) (by omega) ?_
       intro a6 n6 w6 hr6 hk6
       have hb6 : Below w.heap.size w w6 := hb5.trans (hk6.below hs5 (fun _ h => h))
       have hs6 := hb6.size
       replace hr6 := rrow_old hr6 hs5
       have q6 := HC.out _ hb6)
    | (refine step_append_row (D := fun g => w.heap.size ≤ g) (zs := s.t1 ++ s.b1) (ks := s.t2) (by rfl) _ _ (by rfl) (by rw [List.length_append]; rfl) hr6 (by rfl) ((HH.out.r3.below hb6).src) (by simp; omega) ?_
       intro a7 n7 w7 hr7 hk7
       have hb7 : Below w.heap.size w w7 := hb6.trans (hk7.below hs6 (fun _ h => h))
       replace hr7 := rrow_old hr7 hs6
       have q7 := HC.out _ hb7))
  go_wp2_with fail
  go_ret
  rw [List.append_assoc] at hr7
  refine ⟨_, _, ?_, hr7, hb7⟩
  rw [A.keys_length]
  simp
end
/-- a row as a text -/
def txt (nm : ByteArray) (zs : List ByteArray) : ByteArray := zs.foldl (fun t z => t ++ ⟨#[32]⟩ ++ z) (nm ++ ⟨#[58]⟩)
theorem txt_snoc (nm : ByteArray) (zs : List ByteArray) (z : ByteArray) : txt nm (zs ++ [z]) = txt nm zs ++ ⟨#[32]⟩ ++ z := by simp [txt]
theorem size_snoc (a b : ByteArray) : (a ++ b).size = a.size + b.size := by simp
theorem txt_size (nm : ByteArray) : ∀ (zs : List ByteArray), (∀ z ∈ zs, z.size ≤ 1000) → (txt nm zs).size ≤ nm.size + 1 + 1001 * zs.length := by
  intro zs
  suffices h : ∀ (t : ByteArray), (∀ z ∈ zs, z.size ≤ 1000) → (zs.foldl (fun t z => t ++ ⟨#[32]⟩ ++ z) t).size ≤ t.size + 1001 * zs.length by
    intro hz
    have h2 := h (nm ++ ⟨#[58]⟩) hz
    rw [size_snoc] at h2
    exact h2
  induction zs with
  | nil => intro t _; simp
  | cons a l ih =>
    intro t hz
    rw [List.foldl_cons]
    have h1 := ih (t ++ ⟨#[32]⟩ ++ a) (fun z h => hz z (List.mem_cons_of_mem _ h))
    have h2 := hz a List.mem_cons_self
    rw [size_snoc, size_snoc] at h1
    have h3 : (⟨#[32]⟩ : ByteArray).size = 1 := rfl
    rw [List.length_cons]
    omega
section
variable {D D' : Nat → Prop} {w w' : World} {ad : Option Addr} {cap : Nat} {zs : List ByteArray}
set_option maxHeartbeats 1000000 in
theorem rtext_any (H : Row D w ad cap zs) (hn : zs.length ≤ 10000) (hz : ∀ z ∈ zs, z.size ≤ 1000) (nm : ByteArray) (hnm : nm.size ≤ 100) :
    Calls Tryz.prog 42 #[.string nm, .slice ad zs.length cap] w fun e w' => e = .returned (.string (txt nm zs)) ∧ w' = w := by
  have HH : Hid (Row D w ad cap zs) := H
  have HZ : Hid (∀ z ∈ zs, z.size ≤ 1000) := hz
  clear H hz
  go_enter Tryz.func42, Tryz.ntmps42
  go_wp2
  go_loop [5, 6] (fun t i => ∃ j : Nat, j ≤ zs.length ∧ i = .int .i64 j ∧ t = .string (txt nm (zs.take j))) (fun _ i => zs.length - (intOf i).toNat)
  case atStart => exact ⟨0, Nat.zero_le _, rfl, rfl⟩
  case round =>
    obtain ⟨j, hj, rfl, rfl⟩ := hrel
    rcases Nat.lt_or_ge j zs.length with hlt | hge
    · obtain ⟨z, hz⟩ : ∃ z, zs[j]? = some z := ⟨_, List.getElem?_eq_getElem hlt⟩
      obtain ⟨g, off, rfl, -, c0, -⟩ := HH.out.at hz
      have hzs := HZ.out z (List.mem_of_getElem? hz)
      have hts := txt_size nm (zs.take j) (fun y hy => HZ.out y (List.mem_of_mem_take hy))
      have htl : (zs.take j).length ≤ 10000 := by simp; omega
      have HS : Hid (txt nm (zs.take (j + 1)) = txt nm (zs.take j) ++ ⟨#[32]⟩ ++ z) := by
        show txt nm (zs.take (j + 1)) = _
        rw [List.take_add_one, hz]
        exact txt_snoc _ _ _
      clear hz
      generalize txt nm (zs.take j) = t at *
      have ht : t.size ≤ 20000000 := by omega
      clear hts htl
      go_wp2
      go_round
      case rel => exact ⟨j + 1, hlt, by go_num, by rw [HS.out]⟩
      case measure => simp [intOf]; omega
    · have hj' : j = zs.length := by omega
      subst hj'
      go_wp2
      go_ret
      exact ⟨rfl, rfl⟩
end
theorem bytes_app (a b : ByteArray) : (a ++ b).data.toList = a.data.toList ++ b.data.toList := by simp
theorem txt_bytes (nm : ByteArray) : ∀ (zs : List ByteArray), (txt nm zs).data.toList = nm.data.toList ++ [58] ++ rowB zs := by
  intro zs
  unfold txt
  suffices h : ∀ (t : ByteArray), (zs.foldl (fun t z => t ++ ⟨#[32]⟩ ++ z) t).data.toList = t.data.toList ++ rowB zs by
    rw [h, bytes_app]
  induction zs with
  | nil => intro t; simp [rowB]
  | cons z l ih =>
    intro t
    rw [List.foldl_cons, ih, bytes_app, bytes_app]
    simp [rowB]
/-- the machine's text -/
def stT (s : Stt) : ByteArray := txt ⟨#[87]⟩ s.t1 ++ ⟨#[59]⟩ ++ txt ⟨#[65]⟩ s.b1 ++ ⟨#[59]⟩ ++ txt ⟨#[80]⟩ s.t2
theorem stT_eq (s : Stt) : stT s = ⟨(stB (qs s) 3).toArray⟩ := by
  have h : (stT s).data.toList = stB (qs s) 3 := by
    unfold stT
    simp only [bytes_app, txt_bytes]
    simp [stB, List.range, List.range.loop, oneB, nameB, qs]
  rw [← h]
section
variable {D D' : Nat → Prop} {w w' : World} {x : Nat} {y : Dk} {s : Stt}
set_option maxRecDepth 20000 in
set_option maxHeartbeats 2000000 in
theorem rstate_any (H : RE x y s D w) (hs : Small s) (hz : ∀ k, k ∈ s.t1 ∨ k ∈ s.t2 ∨ k ∈ s.b1 → k.size ≤ 1000) :
    Calls Tryz.prog 17 #[.pointer (some ⟨x, 0, none⟩)] w fun e w' => e = .returned (.string (stT s)) ∧ Below w.heap.size w w' := by
  obtain ⟨L, a1, c1, a2, c2, a3, c3, H⟩ := H
  obtain ⟨d0, d1, d2, d3, d4, d5⟩ := H.cells
  have l1 := hs.l1
  have l2 := hs.l2
  have l3 := hs.l3
  have t1 := fun (_ : Unit) => rtext_any (H.below ((Below.refl _ w)).drew).r1 (by omega) (fun z h => hz z (.inl h)) ⟨#[87]⟩ (by decide)
  have t2 := fun (_ : Unit) => rtext_any (H.below ((Below.refl _ w)).drew).r2 (by omega) (fun z h => hz z (.inr (.inr h))) ⟨#[65]⟩ (by decide)
  have t3 := fun (_ : Unit) => rtext_any (H.below ((Below.refl _ w)).drew).r3 (by omega) (fun z h => hz z (.inr (.inl h))) ⟨#[80]⟩ (by decide)
  have z1 := txt_size ⟨#[87]⟩ s.t1 (fun z h => hz z (.inl h))
  have z2 := txt_size ⟨#[65]⟩ s.b1 (fun z h => hz z (.inr (.inr h)))
  have z3 := txt_size ⟨#[80]⟩ s.t2 (fun z h => hz z (.inr (.inl h)))
  have e1 : (⟨#[87]⟩ : ByteArray).size = 1 := rfl
  have e2 : (⟨#[65]⟩ : ByteArray).size = 1 := rfl
  have e3 : (⟨#[80]⟩ : ByteArray).size = 1 := rfl
  unfold stT
  generalize txt ⟨#[87]⟩ s.t1 = x1 at *
  generalize txt ⟨#[65]⟩ s.b1 = x2 at *
  generalize txt ⟨#[80]⟩ s.t2 = x3 at *
  have y1 : x1.size ≤ 5000000 := by omega
  have y2 : x2.size ≤ 5000000 := by omega
  have y3 : x3.size ≤ 5000000 := by omega
  clear z1 z2 z3 e1 e2 e3 H hs hz
  have sz : (⟨#[59]⟩ : ByteArray).size = 1 := rfl
  have p1 : ∀ W : World, (Op.stringOp .add x1 (⟨#[59]⟩ : ByteArray)).run Tryz.prog W = .ok (.string (x1 ++ (⟨#[59]⟩ : ByteArray))) W := fun W => run_string_add_sum W _ _ (by omega)
  have s1 : (x1 ++ (⟨#[59]⟩ : ByteArray)).size ≤ 5000001 := by rw [size_snoc]; omega
  generalize hc1 : x1 ++ (⟨#[59]⟩ : ByteArray) = c1' at *
  have p2 : ∀ W : World, (Op.stringOp .add c1' x2).run Tryz.prog W = .ok (.string (c1' ++ x2)) W := fun W => run_string_add_sum W _ _ (by omega)
  have s2 : (c1' ++ x2).size ≤ 10000001 := by rw [size_snoc]; omega
  generalize hc2 : c1' ++ x2 = c2' at *
  have p3 : ∀ W : World, (Op.stringOp .add c2' (⟨#[59]⟩ : ByteArray)).run Tryz.prog W = .ok (.string (c2' ++ (⟨#[59]⟩ : ByteArray))) W := fun W => run_string_add_sum W _ _ (by omega)
  have s3 : (c2' ++ (⟨#[59]⟩ : ByteArray)).size ≤ 10000002 := by rw [size_snoc]; omega
  generalize hc3 : c2' ++ (⟨#[59]⟩ : ByteArray) = c3' at *
  have p4 : ∀ W : World, (Op.stringOp .add c3' x3).run Tryz.prog W = .ok (.string (c3' ++ x3)) W := fun W => run_string_add_sum W _ _ (by omega)
  generalize hc4 : c3' ++ x3 = c4' at *
  clear hc1 hc2 hc3 hc4 s1 s2 s3 sz y1 y2 y3
  go_enter Tryz.func17, Tryz.ntmps17
  go_wp2_with fail
  go_region_held3 (fun w' => w'.cell? ⟨x, 0, none⟩ = some (.slice a1 s.t1.length c1) ∧ w'.cell? ⟨x, 1, none⟩ = some (.slice a2 s.b1.length c2) ∧ w'.cell? ⟨x, 2, none⟩ = some (.slice a3 s.t2.length c3)) (first | exact ⟨d0, d1, d2⟩ | go_keep)
    (first
    | (go_at_call 42; refine (t1 ()).mono ?_; clear t1; rintro e w1 ⟨rfl, rfl⟩)
    | (go_at_call 42; refine (t2 ()).mono ?_; clear t2; rintro e w1 ⟨rfl, rfl⟩)
    | (go_at_call 42; refine (t3 ()).mono ?_; clear t3; rintro e w1 ⟨rfl, rfl⟩))
  all_goals
    go_wp2_with fail
    go_ret
    exact ⟨rfl, (Below.refl _ _).drew⟩
end
end Go.Proofs.YtcphhlfbjkeikabGreat
/- Two things in memory side by side: whoever writes into one leaves the other alone. -/
namespace Go.Proofs.YtcphhlfbjkeikabGreat
open Go.RowKit

/-- what can be said of blocks D alone -/
structure Lies (A : (Nat → Prop) → World → Prop) : Prop where
  kept : ∀ {D D' : Nat → Prop} {w w' : World}, A D w → Keeps D' w w' → (∀ k, D k → ¬ D' k) → A D w'
  wide : ∀ {D D' : Nat → Prop} {w : World}, A D w → (∀ k, D k → D' k) → A D' w
  narrow : ∀ {D : Nat → Prop} {w : World}, A D w → A (fun k => D k ∧ k < w.heap.size) w
/-- both in memory, apart from each other and from the blocks O -/
def Two (A B : (Nat → Prop) → World → Prop) (O : Nat → Prop) (w : World) : Prop :=
  ∃ Da Db : Nat → Prop, A Da w ∧ B Db w ∧ (∀ k, Da k → ¬ Db k ∧ ¬ O k ∧ k < w.heap.size) ∧ (∀ k, Db k → ¬ O k ∧ k < w.heap.size) ∧ ∀ k, O k → k < w.heap.size
section
variable {A A' B B' : (Nat → Prop) → World → Prop} {O : Nat → Prop} {w : World}
theorem Two.onA (la' : Lies A') (lb : Lies B) (la : Lies A) {f : FuncId} {args : Array Value} {Q : Ending → Prop} (h : Two A B O w)
    (hc : ∀ D, A D w → (∀ k, w.heap.size ≤ k → D k) → Calls Tryz.prog f args w fun e w' => Q e ∧ A' D w' ∧ Keeps D w w') :
    Calls Tryz.prog f args w fun e w' => Q e ∧ Two A' B O w' ∧ Keeps (fun k => ¬ O k) w w' := by
  obtain ⟨Dl, Dx, hl, hx, h1, h2, h3⟩ := h
  refine (hc (fun k => Dl k ∨ w.heap.size ≤ k) (la.wide hl (fun k e => .inl e)) (fun k e => .inr e)).mono ?_
  rintro e w' ⟨he, hl', hk⟩
  have hs := hk.size
  refine ⟨he, ⟨_, Dx, la'.narrow hl', lb.kept hx hk ?_, ?_, fun k e => ⟨(h2 k e).1, by have := (h2 k e).2; omega⟩, fun k e => by have := h3 k e; omega⟩, hk.mono ?_⟩
  · rintro k e (e2 | e2)
    · exact (h1 k e2).1 e
    · have := (h2 k e).2; omega
  · rintro k ⟨e | e, e2⟩
    · exact ⟨(h1 k e).1, (h1 k e).2.1, e2⟩
    · exact ⟨fun e3 => by have := (h2 k e3).2; omega, fun e3 => by have := h3 k e3; omega, e2⟩
  · rintro k _ (e | e) e2
    · exact (h1 k e).2.1 e2
    · have := h3 k e2; omega
theorem Two.onB (lb' : Lies B') (la : Lies A) (lb : Lies B) {f : FuncId} {args : Array Value} {Q : Ending → Prop} (h : Two A B O w)
    (hc : ∀ D, B D w → (∀ k, w.heap.size ≤ k → D k) → Calls Tryz.prog f args w fun e w' => Q e ∧ B' D w' ∧ Keeps D w w') :
    Calls Tryz.prog f args w fun e w' => Q e ∧ Two A B' O w' ∧ Keeps (fun k => ¬ O k) w w' := by
  obtain ⟨Dl, Dx, hl, hx, h1, h2, h3⟩ := h
  refine (hc (fun k => Dx k ∨ w.heap.size ≤ k) (lb.wide hx (fun k e => .inl e)) (fun k e => .inr e)).mono ?_
  rintro e w' ⟨he, hx', hk⟩
  have hs := hk.size
  refine ⟨he, ⟨Dl, _, la.kept hl hk ?_, lb'.narrow hx', ?_, ?_, fun k e => by have := h3 k e; omega⟩, hk.mono ?_⟩
  · rintro k e (e2 | e2)
    · exact (h1 k e).1 e2
    · have := (h1 k e).2.2; omega
  · intro k e
    refine ⟨?_, (h1 k e).2.1, by have := (h1 k e).2.2; omega⟩
    rintro ⟨e2 | e2, _⟩
    · exact (h1 k e).1 e2
    · have := (h1 k e).2.2; omega
  · rintro k ⟨e | e, e2⟩
    · exact ⟨(h2 k e).1, e2⟩
    · exact ⟨fun e3 => by have := h3 k e3; omega, e2⟩
  · rintro k _ (e | e) e2
    · exact (h2 k e).1 e2
    · have := h3 k e2; omega
theorem Two.below (la : Lies A) (lb : Lies B) {w' : World} (h : Two A B O w) (hb : Below w.heap.size w w') : Two A B O w' := by
  obtain ⟨Dl, Dx, hl, hx, h1, h2, h3⟩ := h
  have hs := hb.size
  exact ⟨Dl, Dx, la.kept (D' := fun _ => False) hl (.of_below hb) (fun _ _ e => e), lb.kept (D' := fun _ => False) hx (.of_below hb) (fun _ _ e => e), fun k e => ⟨(h1 k e).1, (h1 k e).2.1, by have := (h1 k e).2.2; omega⟩, fun k e => ⟨(h2 k e).1, by have := (h2 k e).2; omega⟩, fun k e => by have := h3 k e; omega⟩
theorem Two.left (h : Two A B O w) : ∃ D, A D w := by
  obtain ⟨Dl, Dx, hl, _⟩ := h; exact ⟨_, hl⟩
theorem Two.right (h : Two A B O w) : ∃ D, B D w := by
  obtain ⟨Dl, Dx, _, hx, _⟩ := h; exact ⟨_, hx⟩
theorem Keeps.old {w' : World} {B : Nat} (h : Keeps (fun k => ¬ k < B) w w') (hB : B ≤ w.heap.size) : Below B w w' := h.below hB (fun k e => by omega)
/-- both, at the start -/
theorem two_start (la : Lies A) (lb : Lies B) {w w1 w2 : World} (H : A (w.heap.size ≤ ·) w1) (h1 : w.heap.size ≤ w1.heap.size) (HX : B (w1.heap.size ≤ ·) w2) (hk : Keeps (w1.heap.size ≤ ·) w1 w2) :
    Two A B (fun k => k < w.heap.size) w2 := by
  have hs := hk.size
  refine ⟨_, _, la.kept (la.narrow H) hk ?_, lb.narrow HX, ?_, ?_, ?_⟩
  · rintro k ⟨_, e⟩ e2; omega
  · rintro k ⟨e1, e2⟩
    exact ⟨fun e => by omega, by omega, by omega⟩
  · rintro k ⟨e1, e2⟩
    exact ⟨by omega, e2⟩
  · intro k e; omega
end
theorem AZ_lies (e : Nat) (z : Dk) (s : Stt) : Lies (AZ e z s) :=
  ⟨fun h hk hd => AZ.kept h hk (fun k _ hx => hd k hx), fun h hD => AZ.wide h (fun k _ hx => hD k hx), fun h => AZ.narrow h⟩
theorem AE_lies (e b : Nat) (s : Stt) : Lies (AE e b s) :=
  ⟨fun h hk hd => AE.kept h hk (fun k _ hx => hd k hx), fun h hD => AE.wide h (fun k _ hx => hD k hx), fun h => AE.narrow h⟩
theorem RE_lies (x : Nat) (y : Dk) (s : Stt) : Lies (RE x y s) :=
  ⟨fun h hk hd => RE.kept h hk hd, fun h hD => RE.wide h (fun k _ hx => hD k hx), fun h => RE.narrow h⟩
/-- the program's Door and Sketch, and the document's: they answer alike -/
structure Eqv (z y : Dk) : Prop where
  K : z.K = y.K
  bs : z.bs = y.bs
  N : z.N = y.N
  ct : z.ct = y.ct
  sm : z.sm = y.sm
theorem Eqv.fq {z y : Dk} (h : Eqv z y) : fq z = fq y := by
  funext k
  unfold Go.Proofs.YtcphhlfbjkeikabGreat.fq
  rw [h.K, h.bs, h.N, h.ct]
theorem Eqv.nt {z y : Dk} (h : Eqv z y) (k : ByteArray) : Eqv (nt z k) (nt y k) := by
  obtain ⟨pd, pk, K, bs, N, ct, sm⟩ := z
  obtain ⟨pd', pk', K', bs', N', ct', sm'⟩ := y
  obtain ⟨h1, h2, h3, h4, h5⟩ := h
  simp only at h1 h2 h3 h4 h5
  subst h1 h2 h3 h4 h5
  unfold Go.Proofs.YtcphhlfbjkeikabGreat.nt
  simp only
  split
  · split <;> exact ⟨rfl, rfl, rfl, rfl, rfl⟩
  · exact ⟨rfl, rfl, rfl, rfl, rfl⟩
end Go.Proofs.YtcphhlfbjkeikabGreat
/- The program's engine and the document's machine side by side; hoardlaw14.act. -/
namespace Go.Proofs.YtcphhlfbjkeikabGreat
open Go.RowKit

section
variable {A A' B B' : (Nat → Prop) → World → Prop} {O : Nat → Prop} {w : World}
theorem Two.less {O' : Nat → Prop} (h : Two A B O' w) (ho : ∀ k, O k → O' k) : Two A B O w := by
  obtain ⟨Da, Db, ha, hb, h1, h2, h3⟩ := h
  exact ⟨Da, Db, ha, hb, fun k e => ⟨(h1 k e).1, fun o => (h1 k e).2.1 (ho k o), (h1 k e).2.2⟩, fun k e => ⟨fun o => (h2 k e).1 (ho k o), (h2 k e).2⟩, fun k o => h3 k (ho k o)⟩
/-- a call on the first that answers a row: the row is nobody's -/
theorem Two.asideA (la : Lies A) (lb : Lies B) {f : FuncId} {args : Array Value} {zs : List ByteArray} {R : Option Addr → Nat → Ending} (h : Two A B O w)
    (hc : ∀ D, A D w → (∀ k, w.heap.size ≤ k → D k) → Calls Tryz.prog f args w fun e w' => ∃ ad cap, e = R ad cap ∧ Beside A' ad cap zs D w' ∧ Keeps D w w') :
    Calls Tryz.prog f args w fun e w' => ∃ ad cap, ∃ O' : Nat → Prop, e = R ad cap ∧ (∀ k, O k → O' k) ∧ Two A' B O' w' ∧ Row O' w' ad cap zs ∧ Keeps (fun k => ¬ O k) w w' := by
  obtain ⟨Dl, Dx, hl, hx, h1, h2, h3⟩ := h
  refine (hc (fun k => Dl k ∨ w.heap.size ≤ k) (la.wide hl (fun k e => .inl e)) (fun k e => .inr e)).mono ?_
  rintro e w' ⟨ad, cap, he, ⟨D1, g1, hA', hR⟩, hk⟩
  have hs := hk.size
  refine ⟨ad, cap, fun k => O k ∨ ((Dl k ∨ w.heap.size ≤ k) ∧ ¬ D1 k ∧ k < w'.heap.size), he, fun k o => .inl o, ⟨D1, Dx, hA', lb.kept hx hk ?_, ?_, ?_, ?_⟩, hR.wide (fun k a h => .inr ⟨h.1, h.2, a⟩), hk.mono ?_⟩
  · rintro k e (e2 | e2)
    · exact (h1 k e2).1 e
    · have := (h2 k e).2; omega
  · intro k e
    obtain ⟨g2, g3⟩ := g1 k e
    refine ⟨?_, ?_, g3⟩
    · intro e3
      rcases g2 with g2 | g2
      · exact (h1 k g2).1 e3
      · have := (h2 k e3).2; omega
    · rintro (o | o)
      · rcases g2 with g2 | g2
        · exact (h1 k g2).2.1 o
        · have := h3 k o; omega
      · exact o.2.1 e
  · intro k e
    refine ⟨?_, by have := (h2 k e).2; omega⟩
    rintro (o | ⟨o | o, _⟩)
    · exact (h2 k e).1 o
    · exact (h1 k o).1 e
    · have := (h2 k e).2; omega
  · rintro k (o | o)
    · have := h3 k o; omega
    · exact o.2.2
  · rintro k _ (e | e) e2
    · exact (h1 k e).2.1 e2
    · have := h3 k e2; omega
theorem Two.swap (h : Two A B O w) : Two B A O w := by
  obtain ⟨Da, Db, ha, hb, h1, h2, h3⟩ := h
  exact ⟨Db, Da, hb, ha, fun k e => ⟨fun e2 => (h1 k e2).1 e, h2 k e⟩, fun k e => ⟨(h1 k e).2.1, (h1 k e).2.2⟩, h3⟩
/-- a block is laid that is nobody's -/
theorem Two.box (la : Lies A) (lb : Lies B) (h : Two A B O w) (o : Obj) : Two A B (fun k => O k ∨ k = w.heap.size) (w.alloc o) := by
  obtain ⟨Ea, Eb, ja, jb, j1, j2, j3⟩ := h
  refine ⟨Ea, Eb, la.kept (D' := fun _ => False) ja (.of_below ((Below.refl _ w).alloc (Nat.le_refl _) o)) (fun _ _ e => e), lb.kept (D' := fun _ => False) jb (.of_below ((Below.refl _ w).alloc (Nat.le_refl _) o)) (fun _ _ e => e), fun k e => ⟨(j1 k e).1, ?_, ?_⟩, fun k e => ⟨?_, ?_⟩, ?_⟩
  · rintro (q | q)
    · exact (j1 k e).2.1 q
    · have := (j1 k e).2.2; omega
  · have := (j1 k e).2.2; rw [World.size_alloc]; omega
  · rintro (q | q)
    · exact (j2 k e).1 q
    · have := (j2 k e).2; omega
  · have := (j2 k e).2; rw [World.size_alloc]; omega
  · rintro k (q | q)
    · have := j3 k q; rw [World.size_alloc]; omega
    · rw [World.size_alloc]; omega
theorem Row.other {O O' : Nat → Prop} {w' : World} {ad : Option Addr} {cap : Nat} {zs : List ByteArray} (h : Row O w ad cap zs) (hk : Keeps (fun k => ¬ O' k) w w') (ho : ∀ k, O k → O' k) : Row O w' ad cap zs := h.kept hk (fun k e n => n (ho k e))
end
/-- both are the machine s -/
def Both (e x _b : Nat) (s : Stt) (O : Nat → Prop) (w : World) : Prop := ∃ z y, Eqv z y ∧ Two (AZ e z s) (RE x y s) O w
section
variable {O : Nat → Prop} {w : World} {e x b : Nat} {s : Stt}
/-- what an act leaves: both are one machine still -/
def Acted (e x b : Nat) (s : Stt) (O : Nat → Prop) (w : World) (ee : Ending) (w' : World) : Prop :=
  ∃ s', ee = .returned (.bool true) ∧ A.Ok s' ∧ s'.c = s.c ∧ Both e x (b + 2) s' O w' ∧ Keeps (fun k => ¬ O k) w w'
set_option maxHeartbeats 2000000 in
theorem act_access (h : Both e x b s O w) (hok : A.Ok s) (_ : b ≤ 600000) (key : ByteArray) (hk : key.size ≤ 1000) :
    Calls Tryz.prog 8 #[.pointer (some ⟨e, 0, none⟩), .pointer (some ⟨x, 0, none⟩), .agg #[.int .i64 1, .string key]] w (Acted e x b s O w) := by
  have HOk : Hid (A.Ok s) := hok
  obtain ⟨z, y, hv, h⟩ := h
  have HZs : ∀ k, k ∈ A.keys s → k.size ≤ 1000 := by
    obtain ⟨D, hA⟩ := Two.left h
    exact fun k hk => hA.sizes hk
  have HV : Hid (Eqv (nt z key) (nt y key)) := hv.nt key
  obtain ⟨f, hf⟩ : ∃ f, f = fq (nt z key) := ⟨_, rfl⟩
  have hfy : fq (nt y key) = f := by rw [hf]; exact (HV.out.fq).symm
  have hacc := Two.asideA (AZ_lies e z s) (RE_lies x y s) (R := fun ad cap => .returned (.tuple #[.bool (A.access f s key).1, .slice ad (A.access f s key).2.1.length cap])) (Two.box (AZ_lies e z s) (RE_lies x y s) h (.cells #[.int .i64 1, .string key] 30)) (fun D hA hD => by rw [hf]; exact accZ hA hok hD key hk)
  have hrow : (A.access f s key).2.1.length ≤ 1 := by
    by_cases hin : key ∈ A.keys s
    · rw [(A.acc_hit (f := f) hok hin).2.1]; simp
    · rcases (A.acc_miss (f := f) hok hin).2.went with ⟨h2, _⟩ | ⟨g, h2, _⟩ <;> (rw [h2]; simp)
  obtain ⟨s', hs'⟩ : ∃ s', s' = (A.access f s key).2.2 := ⟨_, rfl⟩
  have HOk2 : Hid (A.Ok s' ∧ s'.c = s.c) := by
    show A.Ok s' ∧ s'.c = s.c
    rw [hs']
    exact A.acc_any (f := f) hok key
  have HX : Hid (∀ (O' : Nat → Prop) (W : World), Two (AZ e (nt z key) s') (RE x y s) O' W → Calls Tryz.prog 27 #[.pointer (some ⟨x, 0, none⟩), .string key] W fun ee w' => ∃ ad cap, ∃ O2 : Nat → Prop, ee = .returned (.tuple #[.bool (A.access f s key).1, .slice ad (A.access f s key).2.1.length cap]) ∧ (∀ k, O' k → O2 k) ∧ Two (RE x (nt y key) s') (AZ e (nt z key) s') O2 w' ∧ Row O2 w' ad cap (A.access f s key).2.1 ∧ Keeps (fun k => ¬ O' k) W w') := by
    intro O' W h2
    have := Two.asideA (RE_lies x y s) (AZ_lies e (nt z key) s') (R := fun ad cap => .returned (.tuple #[.bool (A.access f s key).1, .slice ad (A.access f s key).2.1.length cap])) h2.swap (fun D hA hD => by have := racc_any hA hok hD key hk HZs; rw [hfy] at this; exact this)
    rw [hs']
    rw [hs'] at this
    exact this
  rw [← hf, ← hs'] at hacc
  have heq : eqb (A.access f s key).2.1 (A.access f s key).2.1 = true := by unfold eqb; simp
  have HEq : Hid _ := heq
  clear h hok hs' heq hf hfy hv HZs
  generalize (A.access f s key).1 = hit at *
  generalize (A.access f s key).2.1 = gs at *
  go_enter Tryz.func8, Tryz.ntmps8
  go_wp2_with (first
    | (go_at_call 26; refine Calls.mono hacc ?_; clear hacc; rintro ee w1 ⟨ad1, cap1, O1, rfl, ho1, h1, hr1, hk1⟩; have hkc1 : w1.cell? ⟨w.heap.size, 1, none⟩ = some (.string key) := (by rw [World.cell?_of_block (hk1.block _ (by simp) (fun n => n (.inr rfl)))]; exact cell_of_block (heap_alloc_new w _)); have HO1 : Hid (∀ k, O k ∨ k = w.heap.size → O1 k) := ho1; have H1 : Hid (Two (AZ e (nt z key) s') (RE x y s) O1 w1) := h1; have HR1 : Hid (Row O1 w1 ad1 cap1 gs) := hr1; have HK1 : Hid (Keeps (fun k => ¬ O k) w w1) := (((Keeps.refl _ w).alloc _).trans (hk1.mono (fun k hk hn o => hn (.inl o)))); clear ho1 h1 hr1 hk1)
    | (go_at_call 27; refine Calls.mono (HX.out O1 _ H1.out) ?_; rintro ee w2 ⟨ad2, cap2, O2, rfl, ho2, h2, hr2, hk2⟩; have HO2 : Hid (∀ k, O k → O2 k) := (fun k o => ho2 k (HO1.out k (.inl o))); have H2 : Hid (Two (RE x (nt y key) s') (AZ e (nt z key) s') O2 w2) := h2; have HT : Hid (Calls Tryz.prog 18 #[.slice ad1 gs.length cap1, .slice ad2 gs.length cap2] w2 fun e w' => e = .returned (.bool true) ∧ Below w2.heap.size w2 w') := (by have := texts_any (c1 := cap1) (c2 := cap2) (HR1.out.other hk2 (fun _ h => h)).rowIn hr2.rowIn (by omega) (by omega); rw [HEq.out] at this; exact this); have HK2 : Hid (Keeps (fun k => ¬ O k) w w2) := (HK1.out.trans (hk2.mono (fun k _ hn o => hn (HO1.out k (.inl o))))); clear ho2 h2 hr2 hk2)
    | (go_at_call 18; refine Calls.mono HT.out ?_; rintro ee w3 ⟨rfl, hb3⟩))
  go_ret
  exact ⟨s', by simp, HOk2.out.1, HOk2.out.2, ⟨_, _, HV.out, Two.below (AZ_lies e (nt z key) s') (RE_lies x (nt y key) s') (H2.out.swap.less HO2.out) hb3⟩, HK2.out.trans (.of_below hb3)⟩
end
end Go.Proofs.YtcphhlfbjkeikabGreat
