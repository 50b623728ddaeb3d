/- An engine as the machine of chapter 11: reclaim. -/
import Derived.Test.YtbbfckgooligdabEe
namespace Go.Proofs.Ytbbfckgooligdab
open Go.RowKit

section
variable {D : Nat → Prop} {w w' : World} {e b : Nat} {s : Stt}
theorem full_end {w0 w2 : World} (g : ByteArray) {s' : Stt} (h2 : AE e (b + 1) s' D w2) (hk : Keeps D w w0) (hk2 : Keeps D w0 w2) (hD : ∀ k, w.heap.size ≤ k → D k) :
    Beside (AE e (b + 1) s') (some ⟨w2.heap.size, 0, none⟩) 1 [g] D (w2.alloc (.cells #[.string g] 9)) ∧ Keeps D w (w2.alloc (.cells #[.string g] 9)) := by
  have hs2 := (hk.trans hk2).size
  exact ⟨⟨fun k => D k ∧ k < w2.heap.size, fun k h => ⟨h.1, by rw [World.size_alloc]; omega⟩, h2.narrow.below ((Below.refl _ w2).alloc (Nat.le_refl _) _), row_lit g ⟨hD _ hs2, fun h => Nat.lt_irrefl _ h.2⟩⟩, (hk.trans hk2).alloc _⟩
theorem AE.bare {s : Stt} (H : AE e b s D w) : Beside (AE e b s) none 0 [] D w := ⟨_, fun _ h => h, H.narrow, Row.nil⟩
theorem Beside.more {b' : Nat} {ad : Option Addr} {cap : Nat} {zs : List ByteArray} (h : Beside (AE e b s) ad cap zs D w) (hb : b ≤ b') : Beside (AE e b' s) ad cap zs D w := by
  obtain ⟨D1, h1, h2, h3⟩ := h
  exact ⟨D1, h1, h2.more hb, h3⟩
/-- what is done with the engine leaves the row beside it alone -/
theorem Beside.step {b' : Nat} {s' : Stt} {ad : Option Addr} {cap : Nat} {zs : List ByteArray} {f : FuncId} {args : Array Value} {Qe : Ending → Prop} (h : Beside (AE e b s) ad cap zs D w) (hD : ∀ k, w.heap.size ≤ k → D k)
    (hc : ∀ D1, AE e b s D1 w → (∀ k, w.heap.size ≤ k → D1 k) → Calls Try.prog f args w fun ee w' => Qe ee ∧ AE e b' s' D1 w' ∧ Keeps D1 w w') :
    Calls Try.prog f args w fun ee w' => Qe ee ∧ Beside (AE e b' s') ad cap zs D w' ∧ Keeps D w w' := by
  obtain ⟨D1, h1, hA, hR⟩ := h
  refine (hc (fun k => D1 k ∨ w.heap.size ≤ k) (hA.wide (fun _ _ h => .inl h)) (fun _ h => .inr h)).mono ?_
  rintro ee w' ⟨hq, hA', hk⟩
  refine ⟨hq, ⟨fun k => (D1 k ∨ w.heap.size ≤ k) ∧ k < w'.heap.size, ?_, hA'.narrow, ?_⟩, hk.mono ?_⟩
  · rintro g ⟨h | h, h2⟩
    · exact ⟨(h1 g h).1, h2⟩
    · exact ⟨hD g h, h2⟩
  · refine (hR.narrow.kept hk ?_).wide ?_
    · rintro g ⟨⟨_, h3⟩, h4⟩ (h5 | h5)
      · exact h3 h5
      · omega
    · rintro g _ ⟨⟨h2, h3⟩, h4⟩
      refine ⟨h2, ?_⟩
      rintro ⟨h5 | h5, _⟩
      · exact h3 h5
      · omega
  · rintro k h3 (h | h)
    · exact (h1 k h).1
    · exact hD k h
theorem fullA (H : AE e b s D w) (hb : b ≤ 900000) : Calls Try.prog 37 #[.pointer (some ⟨e, 0, none⟩)] w fun ee w' => ee = .returned (.bool (decide (s.c ≤ s.t1.length + s.t2.length))) ∧ Below w.heap.size w w' := full_any H hb
theorem evict_goes (H : AE e b s D w) (ho : Single s) (hD : ∀ k, w.heap.size ≤ k → D k) (hb : b ≤ 700000) (hc : s.c ≤ 1024) (h : 0 < s.t1.length + s.t2.length) :
    Calls Try.prog 36 #[.pointer (some ⟨e, 0, none⟩)] w fun ee w' => ∃ g s', A.goes s = ([g], s') ∧ ee = .returned (.string g) ∧ AE e (b + 1) s' D w' ∧ Keeps D w w' := by
  cases hl : A.late s with
  | true =>
    obtain ⟨g, r, ht, hg⟩ := A.goes_late hl
    refine (evict_late H ho hD hb hc hl ht).mono ?_
    rintro ee w' ⟨rfl, h2, hk⟩
    exact ⟨g, _, hg, rfl, h2.more (Nat.le_succ b), hk⟩
  | false =>
    obtain ⟨g, r, ht, hg⟩ := A.goes_early hl h
    refine (evict_early H ho hD hb hc hl ht).mono ?_
    rintro ee w' ⟨rfl, h2, hk⟩
    exact ⟨g, _, hg, rfl, h2, hk⟩
set_option maxHeartbeats 1000000 in
theorem reclaim_any (H : AE e b s D w) (ho : Single s) (hD : ∀ k, w.heap.size ≤ k → D k) (hb : b ≤ 700000) (hlo : 1 ≤ s.c) (hc : s.c ≤ 1024) :
    Calls Try.prog 34 #[.pointer (some ⟨e, 0, none⟩)] w fun ee w' => ∃ ad cap, ee = .returned (.slice ad (A.reclaim s).1.length cap) ∧ Beside (AE e (b + 1) (A.reclaim s).2) ad cap (A.reclaim s).1 D w' ∧ Keeps D w w' := by
  have HE : Hid (AE e b s D w) := H
  have HD : Hid (∀ k, w.heap.size ≤ k → D k) := hD
  have HO : Hid (Single s) := ho
  have hfull := fullA H (by omega)
  by_cases hl : s.t1.length + s.t2.length < s.c
  · rw [A.rec_room hl]
    have hd : decide (s.c ≤ s.t1.length + s.t2.length) = false := by simp; omega
    rw [hd] at hfull
    clear H hD ho hl hd
    go_enter Try.func34, Try.ntmps34
    go_wp2_with (go_at_call 37; refine Calls.mono hfull ?_; clear hfull; rintro ee w1 ⟨rfl, hb1⟩)
    go_ret
    exact ⟨_, _, rfl, ((HE.out.below hb1).more (Nat.le_succ b)).bare, .of_below hb1⟩
  · rw [A.rec_full (by omega)]
    have hd : decide (s.c ≤ s.t1.length + s.t2.length) = true := by simp; omega
    have hp : 0 < s.t1.length + s.t2.length := by omega
    rw [hd] at hfull
    clear H hD ho hl hd
    go_enter Try.func34, Try.ntmps34
    go_wp2_with (first
      | (go_at_call 37; refine Calls.mono hfull ?_; clear hfull; rintro ee w1 ⟨rfl, hb1⟩; have hev := evict_goes (HE.out.below hb1) HO.out (fun k h => HD.out k (Nat.le_trans hb1.size h)) hb hc hp)
      | (go_at_call 36; refine Calls.mono hev ?_; clear hev; rintro ee w2 ⟨g, s', hg, rfl, h2, hk2⟩; have HG : Hid (A.goes s = ([g], s')) := hg; clear hg))
    go_ret
    have h9 := full_end g h2 (Keeps.of_below hb1) hk2 HD.out
    rw [HG.out]
    exact ⟨_, _, rfl, h9.1, h9.2⟩
end
end Go.Proofs.Ytbbfckgooligdab
