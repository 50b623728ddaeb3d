/- An engine as the machine of chapter 12: evict, reclaim. -/
import Derived.Test.YtnbfokmodjgaaabDoorEw
namespace Go.Proofs.YtnbfokmodjgaaabDoor
open Go.RowKit

section
variable {D : Nat → Prop} {w w' : World} {e b : Nat} {s : Stt}
theorem full_end {w0 w2 : World} (g : ByteArray) {s' : Stt} (h2 : AE e b s' D w2) (hk : Keeps D w w0) (hk2 : Keeps D w0 w2) (hD : ∀ k, w.heap.size ≤ k → D k) :
    Beside (AE e b s') (some ⟨w2.heap.size, 0, none⟩) 1 [g] D (w2.alloc (.cells #[.string g] 9)) ∧ Keeps D w (w2.alloc (.cells #[.string g] 9)) := by
  have hs2 := (hk.trans hk2).size
  exact ⟨⟨fun k => D k ∧ k < w2.heap.size, fun k h => ⟨h.1, by rw [World.size_alloc]; omega⟩, h2.narrow.below ((Below.refl _ w2).alloc (Nat.le_refl _) _), row_lit g ⟨hD _ hs2, fun h => Nat.lt_irrefl _ h.2⟩⟩, (hk.trans hk2).alloc _⟩
theorem AE.bare {s : Stt} (H : AE e b s D w) : Beside (AE e b s) none 0 [] D w := ⟨_, fun _ h => h, H.narrow, Row.nil⟩
theorem Beside.more {b' : Nat} {ad : Option Addr} {cap : Nat} {zs : List ByteArray} (h : Beside (AE e b s) ad cap zs D w) (hb : b ≤ b') : Beside (AE e b' s) ad cap zs D w := by
  obtain ⟨D1, h1, h2, h3⟩ := h
  exact ⟨D1, h1, h2.more hb, h3⟩
/-- what is done with the engine leaves the row beside it alone -/
theorem Beside.step {b' : Nat} {s' : Stt} {ad : Option Addr} {cap : Nat} {zs : List ByteArray} {f : FuncId} {args : Array Value} {Qe : Ending → Prop} (h : Beside (AE e b s) ad cap zs D w) (hD : ∀ k, w.heap.size ≤ k → D k)
    (hc : ∀ D1, AE e b s D1 w → (∀ k, w.heap.size ≤ k → D1 k) → Calls Tryd.prog f args w fun ee w' => Qe ee ∧ AE e b' s' D1 w' ∧ Keeps D1 w w') :
    Calls Tryd.prog f args w fun ee w' => Qe ee ∧ Beside (AE e b' s') ad cap zs D w' ∧ Keeps D w w' := by
  obtain ⟨D1, h1, hA, hR⟩ := h
  refine (hc (fun k => D1 k ∨ w.heap.size ≤ k) (hA.wide (fun _ _ h => .inl h)) (fun _ h => .inr h)).mono ?_
  rintro ee w' ⟨hq, hA', hk⟩
  refine ⟨hq, ⟨fun k => (D1 k ∨ w.heap.size ≤ k) ∧ k < w'.heap.size, ?_, hA'.narrow, ?_⟩, hk.mono ?_⟩
  · rintro g ⟨h | h, h2⟩
    · exact ⟨(h1 g h).1, h2⟩
    · exact ⟨hD g h, h2⟩
  · refine (hR.narrow.kept hk ?_).wide ?_
    · rintro g ⟨⟨_, h3⟩, h4⟩ (h5 | h5)
      · exact h3 h5
      · omega
    · rintro g _ ⟨⟨h2, h3⟩, h4⟩
      refine ⟨h2, ?_⟩
      rintro ⟨h5 | h5, _⟩
      · exact h3 h5
      · omega
  · rintro k h3 (h | h)
    · exact (h1 k h).1
    · exact hD k h
theorem fullA (H : AE e b s D w) (hb : b ≤ 800000) : Calls Tryd.prog 36 #[.pointer (some ⟨e, 0, none⟩)] w fun ee w' => ee = .returned (.bool (decide (s.c ≤ s.t1.length + s.t2.length))) ∧ Below w.heap.size w w' := full_any H (by omega)
theorem late_is (s : Stt) : A.late s = true ↔ s.t1.length ≤ A.small s ∧ 0 < s.t2.length := by unfold A.late; simp
theorem goesM_is {k : ByteArray} {m : List Ls.It} (h : A.fromM s.t2 = ([k], m)) : A.goesM s = ([k], { s with t2 := m }) := by unfold A.goesM; rw [h]
set_option maxRecDepth 100000 in
set_option maxHeartbeats 2000000 in
theorem evict_goes (H : AE e b s D w) (ho : Single s) (hD : ∀ k, w.heap.size ≤ k → D k) (hb : b ≤ 600000) (hc : s.c ≤ 1024) (hz : s.t1.length + s.t2.length ≤ 1400) (hg : s.b1.length ≤ 1100) (h : 0 < s.t1.length + s.t2.length) :
    Calls Tryd.prog 35 #[.pointer (some ⟨e, 0, none⟩)] w fun ee w' => ∃ g s', A.goes s = ([g], s') ∧ ee = .returned (.string g) ∧ AE e b s' D w' ∧ Keeps D w w' := by
  have hc0 := count0 H
  have hc1 := count1 H
  have hsm := smallA H hc
  have hsm1 : A.small s ≤ 1024 := by unfold A.small; omega
  cases hl : A.late s with
  | true =>
    obtain ⟨h1, h2⟩ := (late_is s).1 hl
    obtain ⟨x0, r0, hq⟩ : ∃ x0 r0, s.t2 = x0 :: r0 := by
      cases hm : s.t2 with
      | nil => rw [hm] at h2; cases h2
      | cons x r => exact ⟨_, _, rfl⟩
    have hev := evictFromM_any H ho hD hb hq
    have HG : Hid (∀ (k : ByteArray) (m : List Ls.It), A.fromM s.t2 = ([k], m) → A.goes s = ([k], { s with t2 := m })) := fun k m hm => by
      unfold A.goes
      rw [if_pos hl]
      exact goesM_is hm
    generalize s.t1.length = n1 at *
    generalize s.t2.length = n2 at *
    generalize A.small s = sm at *
    have hn2 : ((n2 : Int) == 0) = false := by simp; omega
    clear H ho hD hl hq
    go_enter Tryd.func35, Tryd.ntmps35
    go_wp2_with (first
      | (go_at_call 43; refine Calls.mono hc0 ?_; clear hc0; rintro ee w1 ⟨rfl, rfl⟩)
      | (go_at_call 60; refine Calls.mono hsm ?_; clear hsm; rintro ee w1 ⟨rfl, rfl⟩)
      | (go_at_call 43; refine Calls.mono hc1 ?_; clear hc1; rintro ee w1 ⟨rfl, rfl⟩)
      | (go_at_call 62; refine Calls.mono hev ?_; clear hev; rintro ee w2 ⟨k, m, hf, rfl, h3, hk3⟩; have HF : Hid (A.fromM s.t2 = ([k], m)) := hf; clear hf))
    go_ret
    exact ⟨k, _, HG.out k m HF.out, rfl, h3, hk3⟩
  | false =>
    have hcase : ¬ s.t1.length ≤ A.small s ∨ (s.t1.length ≤ A.small s ∧ s.t2.length = 0) := by
      by_cases h1 : s.t1.length ≤ A.small s
      · refine .inr ⟨h1, ?_⟩
        by_cases h2 : 0 < s.t2.length
        · rw [(late_is s).2 ⟨h1, h2⟩] at hl; cases hl
        · omega
      · exact .inl h1
    have hes := evictFromS_any H ho hD hb hc hz hg
    rcases A.fromS_one s.t1 s.t2 with ⟨k, r, m, hf, -, -, -⟩ | ⟨m, hf, hcn, hln, -⟩
    · rw [hf] at hes
      have hes2 : Calls Tryd.prog 61 #[.pointer (some ⟨e, 0, none⟩)] w fun ee w' => ee = .returned (.tuple #[.string k, .bool true]) ∧ AE e b (A.ghosted { s with t1 := r, t2 := m } k) D w' ∧ Keeps D w w' := hes
      have HG : Hid (A.goes s = ([k], A.ghosted { s with t1 := r, t2 := m } k)) := by
        show A.goes s = _
        unfold A.goes
        rw [if_neg (by rw [hl]; simp)]
        unfold A.goesS
        rw [hf]
      generalize s.t1.length = n1 at *
      generalize s.t2.length = n2 at *
      generalize A.small s = sm at *
      clear H ho hD hl hf hes
      rcases hcase with h1 | ⟨h1, rfl⟩
      all_goals
        go_enter Tryd.func35, Tryd.ntmps35
        go_wp2_with (first
          | (go_at_call 43; refine Calls.mono hc0 ?_; clear hc0; rintro ee w1 ⟨rfl, rfl⟩)
          | (go_at_call 60; refine Calls.mono hsm ?_; clear hsm; rintro ee w1 ⟨rfl, rfl⟩)
          | (go_at_call 43; refine Calls.mono hc1 ?_; clear hc1; rintro ee w1 ⟨rfl, rfl⟩)
          | (go_at_call 61; refine Calls.mono hes2 ?_; clear hes2; rintro ee w2 ⟨rfl, h3, hk3⟩))
        go_ret
        exact ⟨k, _, HG.out, rfl, h3, hk3⟩
    · rw [hf] at hes
      have hes2 : Calls Tryd.prog 61 #[.pointer (some ⟨e, 0, none⟩)] w fun ee w' => ee = .returned (.tuple #[.string ⟨#[]⟩, .bool false]) ∧ AE e b { s with t1 := [], t2 := m } D w' ∧ Keeps D w w' := hes
      obtain ⟨x0, r0, hq⟩ : ∃ x0 r0, m = x0 :: r0 := by
        cases hm : m with
        | nil => rw [hm] at hln; simp at hln; omega
        | cons x r => exact ⟨_, _, rfl⟩
      have HSg : Hid (Single { s with t1 := [], t2 := m }) := by
        intro j
        have h1 := ho j
        have h2 := hcn j
        show A.cnt j (A.ks []) + A.cnt j (A.ks m) + A.cnt j (A.ks s.b1) ≤ 1
        rw [A.ks_nil, A.cnt_nil]
        omega
      have HEv : Hid (∀ W : World, w.heap.size ≤ W.heap.size → AE e b { s with t1 := [], t2 := m } D W → Calls Tryd.prog 62 #[.pointer (some ⟨e, 0, none⟩)] W fun ee w' => ∃ k m', A.fromM m = ([k], m') ∧ ee = .returned (.string k) ∧ AE e b { s with t1 := [], t2 := m' } D w' ∧ Keeps D W w') := fun W hW hA =>
        evictFromM_any hA HSg.out (fun k h => hD k (Nat.le_trans hW h)) hb (x0 := x0) (r0 := r0) hq
      have HG : Hid (∀ (k : ByteArray) (m' : List Ls.It), A.fromM m = ([k], m') → A.goes s = ([k], { s with t1 := [], t2 := m' })) := fun k m' hm => by
        unfold A.goes
        rw [if_neg (by rw [hl]; simp)]
        unfold A.goesS
        rw [hf]
        exact goesM_is (s := { s with t1 := [], t2 := m }) hm
      generalize s.t1.length = n1 at *
      generalize s.t2.length = n2 at *
      generalize A.small s = sm at *
      clear H ho hD hl hf hes hq hcn hln
      rcases hcase with h1 | ⟨h1, rfl⟩
      all_goals
        go_enter Tryd.func35, Tryd.ntmps35
        go_wp2_with (first
          | (go_at_call 43; refine Calls.mono hc0 ?_; clear hc0; rintro ee w1 ⟨rfl, rfl⟩)
          | (go_at_call 60; refine Calls.mono hsm ?_; clear hsm; rintro ee w1 ⟨rfl, rfl⟩)
          | (go_at_call 43; refine Calls.mono hc1 ?_; clear hc1; rintro ee w1 ⟨rfl, rfl⟩)
          | (go_at_call 61; refine Calls.mono hes2 ?_; clear hes2; rintro ee w2 ⟨rfl, h3, hk3⟩; have HK3 : Hid (Keeps D _ w2) := hk3; have hev := HEv.out w2 hk3.size h3; clear h3 hk3)
          | (go_at_call 62; refine Calls.mono hev ?_; clear hev; rintro ee w4 ⟨k, m', hf4, rfl, h4, hk4⟩; have HF : Hid (A.fromM m = ([k], m')) := hf4; clear hf4))
        go_ret
        exact ⟨k, _, HG.out k m' HF.out, rfl, h4, HK3.out.trans hk4⟩
theorem Beside.under {s' : Stt} {ad : Option Addr} {cap : Nat} {zs : List ByteArray} (h : Beside (AE e b s') ad cap zs D w) (hb : Below w.heap.size w w') : Beside (AE e b s') ad cap zs D w' := by
  obtain ⟨D1, h1, hA, hR⟩ := h
  exact ⟨D1, fun g hg => ⟨(h1 g hg).1, Nat.lt_of_lt_of_le (h1 g hg).2 hb.size⟩, hA.below hb, hR.below hb⟩
set_option maxRecDepth 20000 in
set_option maxHeartbeats 2000000 in
theorem reclaim_any (H : AE e b s D w) (hok : A.Ok s) (hD : ∀ k, w.heap.size ≤ k → D k) (hb : b ≤ 600000) :
    Calls Tryd.prog 33 #[.pointer (some ⟨e, 0, none⟩)] w fun ee w' => ∃ ad cap, ee = .returned (.slice ad (A.reclaim s).1.length cap) ∧ Beside (AE e b (A.reclaim s).2) ad cap (A.reclaim s).1 D w' ∧ Keeps D w w' := by
  have HE : Hid (AE e b s D w) := H
  have HD : Hid (∀ k, w.heap.size ≤ k → D k) := hD
  have HO : Hid (Single s) := hok.one
  have hres := hok.res
  have hhi := hok.hi
  have hlo := hok.lo
  have hgo : s.b1.length ≤ 1100 := by have := hok.out; unfold A.gmax at this; omega
  by_cases hl : s.t1.length + s.t2.length < s.c
  · rw [A.rec_room hl]
    have hd : decide (s.c ≤ s.t1.length + s.t2.length) = false := by simp; omega
    have HDc : Hid (decide (s.c ≤ s.t1.length + s.t2.length) = false) := hd
    clear H hD hok hl hd hres hhi hlo hgo
    go_enter Tryd.func33, Tryd.ntmps33
    go_wp2_with fail
    go_loopg [3] (0) (fun n g wr => n = 0 ∧ g = .slice none 0 0 ∧ AE e b s D wr ∧ Keeps D w wr)
    case atStart => exact ⟨rfl, rfl, HE.out, .refl _ _⟩
    case round =>
      obtain ⟨rfl, rfl, hA, hK⟩ := hrel
      have HA : Hid (AE e b s D wr) := hA
      have HK : Hid (Keeps D w wr) := hK
      have hfull := fullA hA (by omega)
      rw [HDc.out] at hfull
      clear hA hK
      go_wp2_with (go_at_call 36; refine Calls.mono hfull ?_; clear hfull; rintro ee w1 ⟨rfl, hb1⟩)
      go_ret
      exact ⟨_, _, rfl, (HA.out.below hb1).bare, HK.out.trans (.of_below hb1)⟩
  · rw [A.rec_full (by omega)]
    have hp : 0 < s.t1.length + s.t2.length := by omega
    obtain ⟨g, s', hg, hw⟩ := A.goes_one hp
    have HG : Hid (A.goes s = ([g], s')) := hg
    have hd : decide (s.c ≤ s.t1.length + s.t2.length) = true := by simp; omega
    have hd2 : decide (s'.c ≤ s'.t1.length + s'.t2.length) = false := by
      have h1 := hw.lr
      have h2 := hw.cs
      simp
      omega
    have HDc : Hid (decide (s.c ≤ s.t1.length + s.t2.length) = true ∧ decide (s'.c ≤ s'.t1.length + s'.t2.length) = false) := ⟨hd, hd2⟩
    have HEv : Hid (∀ W : World, Keeps D w W → AE e b s D W → Calls Tryd.prog 35 #[.pointer (some ⟨e, 0, none⟩)] W fun ee w' => ee = .returned (.string g) ∧ AE e b s' D w' ∧ Keeps D W w') := fun W hW hA => by
      refine (evict_goes hA HO.out (fun k h => HD.out k (Nat.le_trans hW.size h)) hb hhi (by omega) hgo hp).mono ?_
      rintro ee w' ⟨g2, s2, hg2, h1, h2, h3⟩
      have h9 := HG.out.symm.trans hg2
      simp only [Prod.mk.injEq, List.cons.injEq, and_true] at h9
      obtain ⟨rfl, rfl⟩ := h9
      exact ⟨h1, h2, h3⟩
    rw [hg]
    clear H hD hok hl hd hd2 hres hhi hlo hgo hg hw
    go_enter Tryd.func33, Tryd.ntmps33
    go_wp2_with fail
    go_loopg [3] (1) (fun n gv wr => (n = 1 ∧ gv = .slice none 0 0 ∧ AE e b s D wr ∧ Keeps D w wr) ∨ (n = 0 ∧ ∃ ad cap, gv = .slice ad 1 cap ∧ Beside (AE e b s') ad cap [g] D wr ∧ Keeps D w wr))
    case atStart => exact .inl ⟨rfl, rfl, HE.out, .refl _ _⟩
    case round =>
      rcases hrel with ⟨rfl, rfl, hA, hK⟩ | ⟨rfl, ad, cap, rfl, hB, hK⟩
      · have HA : Hid (AE e b s D wr) := hA
        have HK : Hid (Keeps D w wr) := hK
        have hfull := fullA hA (by omega)
        rw [HDc.out.1] at hfull
        clear hA hK
        go_wp2_with (first
          | (go_at_call 36; refine Calls.mono hfull ?_; clear hfull; rintro ee w1 ⟨rfl, hb1⟩; have HK1 : Hid (Keeps D w w1) := HK.out.trans (.of_below hb1); have hev := HEv.out w1 HK1.out (HA.out.below hb1); clear hb1)
          | (go_at_call 35; refine Calls.mono hev ?_; clear hev; rintro ee w2 ⟨rfl, h2, hk2⟩; have H2 : Hid (AE e b s' D w2) := h2; have HK2 : Hid (Keeps D w w2) := HK1.out.trans hk2; have hsrc := (row_lit (E := fun k => k = w2.heap.size) (w := w2) g rfl).src; clear h2 hk2)
          | (at_builtin; go_must (refine wpList_append_row (zs := []) (ks := [g]) (D := fun k => w2.heap.size + 1 ≤ k) rfl _ _ rfl rfl (Row.bare _) (vx := .slice (some ⟨w2.heap.size, 0, none⟩) 1 1) rfl hsrc (by simp) ?_); clear hsrc; intro a5 n5 w5 hr5 hk5; rw [List.nil_append] at hr5; have HR5 : Hid (Row (fun k => w2.heap.size + 1 ≤ k ∨ (w2.alloc (.cells #[.string g] 9)).heap.size ≤ k) w5 a5 n5 [g]) := hr5; have HK5 : Hid (Keeps (fun k => w2.heap.size + 1 ≤ k) (w2.alloc (.cells #[.string g] 9)) w5) := hk5; simp only [List.length_nil, Nat.zero_add, List.length_cons]; clear hr5 hk5))
        go_roundg 0
        case measure => omega
        case rel =>
          have hb5 : Below w2.heap.size w2 w5 := by
            have h5 := (HK5.out.below (B := w2.heap.size) (by simp) (fun k hk => by omega))
            exact ((Below.refl _ w2).alloc (Nat.le_refl _) _).trans h5
          have hD2 := HK2.out.size
          refine .inr ⟨rfl, _, _, rfl, ⟨fun k => D k ∧ k < w2.heap.size, fun k h => ⟨h.1, Nat.lt_of_lt_of_le h.2 hb5.size⟩, H2.out.narrow.below hb5, HR5.out.wide (fun k _ h => ?_)⟩, HK2.out.trans (.of_below hb5)⟩
          have h6 : w2.heap.size ≤ k := by
            rcases h with h | h
            · omega
            · rw [World.size_alloc] at h; omega
          exact ⟨HD.out k (by omega), fun h7 => by omega⟩
      · have HB : Hid (Beside (AE e b s') ad cap [g] D wr) := hB
        have HK : Hid (Keeps D w wr) := hK
        obtain ⟨D1, -, hA1, -⟩ := hB
        have hfull := fullA hA1 (by omega)
        rw [HDc.out.2] at hfull
        clear hA1 hK
        go_wp2_with (go_at_call 36; refine Calls.mono hfull ?_; clear hfull; rintro ee w1 ⟨rfl, hb1⟩)
        go_ret
        exact ⟨_, _, rfl, HB.out.under hb1, HK.out.trans (.of_below hb1)⟩
end
end Go.Proofs.YtnbfokmodjgaaabDoor
