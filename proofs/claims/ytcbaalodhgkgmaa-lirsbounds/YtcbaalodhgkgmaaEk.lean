/- An engine as the machine of chapter 13: admit; Access as a whole; what is told beside it. -/
import Derived.Test.YtcbaalodhgkgmaaEi
namespace Go.Proofs.Ytcbaalodhgkgmaa
open Go.RowKit

section
variable {D : Nat → Prop} {w w' : World} {e b : Nat} {s : Stt}
theorem full_one {g : ByteArray} (h2 : AM e b s D w) (hD : ∀ k, w.heap.size ≤ k → D k) : Beside (AM e b s) (some ⟨w.heap.size, 0, none⟩) 1 [g] D (w.alloc (.cells #[.string g] 9)) :=
  ⟨fun k => D k ∧ k < w.heap.size, fun k h => ⟨h.1, by rw [World.size_alloc]; omega⟩, h2.narrow.below ((Below.refl _ w).alloc (Nat.le_refl _) _), row_lit g ⟨hD _ (Nat.le_refl _), fun h => Nat.lt_irrefl _ h.2⟩⟩
theorem AM.bare {s : Stt} (H : AM e b s D w) : Beside (AM e b s) none 0 [] D w := ⟨_, fun _ h => h, H.narrow, Row.nil⟩
theorem Beside.moreM {b' : Nat} {ad : Option Addr} {cap : Nat} {zs : List ByteArray} (h : Beside (AM e b s) ad cap zs D w) (hb : b ≤ b') : Beside (AM e b' s) ad cap zs D w := by
  obtain ⟨D1, h1, h2, h3⟩ := h
  exact ⟨D1, h1, h2.more hb, h3⟩
/-- what is done with the engine leaves the row beside it alone -/
theorem Beside.stepM {b' : Nat} {s' : Stt} {ad : Option Addr} {cap : Nat} {zs : List ByteArray} {f : FuncId} {args : Array Value} {Qe : Ending → Prop} (h : Beside (AM e b s) ad cap zs D w) (hD : ∀ k, w.heap.size ≤ k → D k)
    (hc : ∀ D1, AM e b s D1 w → (∀ k, w.heap.size ≤ k → D1 k) → Calls Try.prog f args w fun ee w' => Qe ee ∧ AM e b' s' D1 w' ∧ Keeps D1 w w') :
    Calls Try.prog f args w fun ee w' => Qe ee ∧ Beside (AM e b' s') ad cap zs D w' ∧ Keeps D w w' := by
  obtain ⟨D1, h1, hA, hR⟩ := h
  refine (hc (fun k => D1 k ∨ w.heap.size ≤ k) (hA.wide (fun _ _ h => .inl h)) (fun _ h => .inr h)).mono ?_
  rintro ee w' ⟨hq, hA', hk⟩
  refine ⟨hq, ⟨fun k => (D1 k ∨ w.heap.size ≤ k) ∧ k < w'.heap.size, ?_, hA'.narrow, ?_⟩, hk.mono ?_⟩
  · rintro g ⟨h | h, h2⟩
    · exact ⟨(h1 g h).1, h2⟩
    · exact ⟨hD g h, h2⟩
  · refine (hR.narrow.kept hk ?_).wide ?_
    · rintro g ⟨⟨_, h3⟩, h4⟩ (h5 | h5)
      · exact h3 h5
      · omega
    · rintro g _ ⟨⟨h2, h3⟩, h4⟩
      refine ⟨h2, ?_⟩
      rintro ⟨h5 | h5, _⟩
      · exact h3 h5
      · omega
  · rintro k h3 (h | h)
    · exact (h1 k h).1
    · exact hD k h
/-- what Access answers: whether it was a hit, and a row that is none of the engine's -/
def SaysM (e b : Nat) (r : Bool × List ByteArray × Stt) (D : Nat → Prop) (w : World) (ee : Ending) (w' : World) : Prop :=
  ∃ ad cap, ee = .returned (.tuple #[.bool r.1, .slice ad r.2.1.length cap]) ∧ Beside (AM e b r.2.2) ad cap r.2.1 D w' ∧ Keeps D w w'
theorem Beside.wide {D' : Nat → Prop} {A : (Nat → Prop) → World → Prop} {ad : Option Addr} {cap : Nat} {zs : List ByteArray} (h : Beside A ad cap zs D w) (hD : ∀ k, D k → D' k) : Beside A ad cap zs D' w := by
  obtain ⟨D1, h1, h2, h3⟩ := h
  exact ⟨D1, fun g hg => ⟨hD g (h1 g hg).1, (h1 g hg).2⟩, h2, h3.wide (fun g _ hg => ⟨hD g hg.1, hg.2⟩)⟩
theorem ghostA {v : Ix.Sp} {t : Bool} (ht : (!decide (v.2.2 = 0)) = t) : ∀ W : World, Calls Try.prog 59 #[Ix.V v] W fun ee w' => ee = .returned (.bool t) ∧ Below W.heap.size W w' := fun W => by
  have := ghost_any (w := W) v
  rwa [ht] at this
set_option maxRecDepth 100000 in
set_option maxHeartbeats 2000000 in
theorem admit_hot (H : AM e b s D w) (hok : A.Ok s) (hD : ∀ k, w.heap.size ≤ k → D k) (k : ByteArray) (hk : k.size ≤ 1000) (hc : (A.hots s).length < A.most s ∨ k ∈ s.t2) :
    Calls Try.prog 57 #[.pointer (some ⟨e, 0, none⟩), .string k] w fun ee w' => ee = .returned (.tuple #[]) ∧ AM e b (A.admit s k) D w' ∧ Keeps D w w' := by
  have hf : Few 19980 s := by have := Few.of hok; unfold Few at *; omega
  have HE : Hid (AM e b s D w) := H
  have HD : Hid (∀ k, w.heap.size ≤ k → D k) := hD
  have hB := hok.toBase
  have hh := hots_any H hB
  have hm := mostA H hB.lo hB.hi
  have hu : A.admit s k = A.prune (A.cool (A.heat s k)) := by unfold A.admit; rw [if_pos hc]
  have hBh := A.heat_base hB k
  have hfh : Few 19990 (A.heat s k) := by
    have h1 := lay_len s.t1 k
    have h2 := A.length_cut_le s.b1 k
    have h3 := A.length_cut_le s.t2 k
    unfold Few at *
    simp only [A.heat]
    omega
  have hcond : (A.hots (A.heat s k)).length ≤ A.most (A.heat s k) ∨ A.Bot (A.heat s k) := by
    rcases hc with h1 | h1
    · left
      rw [A.hots_heat]
      have := A.length_cut_le (A.hots s) k
      have h2 : A.most (A.heat s k) = A.most s := rfl
      simp
      omega
    · exact .inr (A.bot_heat hok.bot (hB.sub k h1) (A.isHot_not.2 (.inr h1)))
  have HBc : Hid (A.Base (A.cool (A.heat s k))) := (A.cool_is hBh hcond).1
  have HFl : Hid (Few 19990 s) := by show Few 19990 s; unfold Few at *; omega
  have HX : Hid (A.Base (A.heat s k) ∧ Few 19990 (A.heat s k) ∧ ((A.hots (A.heat s k)).length ≤ A.most (A.heat s k) ∨ A.Bot (A.heat s k))) := ⟨hBh, hfh, hcond⟩
  rw [hu]
  by_cases hl : (A.hots s).length < A.most s
  · generalize A.most s = n1 at *
    generalize (A.hots s).length = n2 at *
    clear H hok hD hf hB hu hBh hfh hcond hc
    go_enter Try.func57, Try.ntmps57
    go_wp2_with (first
      | (go_at_call 60; refine Calls.mono hh ?_; clear hh; rintro ee w0 ⟨rfl, rfl⟩)
      | (go_at_call 61; refine Calls.mono hm ?_; clear hm; rintro ee w1 ⟨rfl, b1⟩; have h1 := heat_any (AM.below HE.out b1) (fun k h => HD.out k (Nat.le_trans b1.size h)) k hk HFl.out)
      | (go_at_call 62; refine Calls.mono h1 ?_; clear h1; rintro ee w2 ⟨rfl, a2, k2⟩; have k12 := (Keeps.of_below (D := D) b1).trans k2; have h2 := cool_any a2 HX.out.1 (fun k h => HD.out k (Nat.le_trans k12.size h)) HX.out.2.1 HX.out.2.2; clear a2)
      | (go_at_call 81; refine Calls.mono h2 ?_; clear h2; rintro ee w3 ⟨rfl, a3, k3⟩; have k13 := k12.trans k3; have h3 := prune_any a3 HBc.out (fun k h => HD.out k (Nat.le_trans k13.size h)); clear a3)
      | (go_at_call 64; refine Calls.mono h3 ?_; clear h3; rintro ee w4 ⟨rfl, a4, k4⟩))
    go_end0
    exact ⟨rfl, a4, k13.trans k4⟩
  · have hg : k ∈ s.t2 := hc.resolve_left hl
    have HG : Hid (k ∈ s.t2) := hg
    generalize A.most s = n1 at *
    generalize (A.hots s).length = n2 at *
    clear H hok hD hf hB hu hBh hfh hcond hc hg
    go_enter Try.func57, Try.ntmps57
    go_wp2_with (first
      | (go_at_call 60; refine Calls.mono hh ?_; clear hh; rintro ee w0 ⟨rfl, rfl⟩)
      | (go_at_call 61; refine Calls.mono hm ?_; clear hm; rintro ee w1 ⟨rfl, b1⟩; obtain ⟨v, hv, hs⟩ := spotA (AM.below HE.out b1) k hk; have hgo := ghostA (v := v) (t := true) (by have h9 : ¬ v.2.2 = 0 := (fun h => hv.2.2.1 h HG.out); simp [h9]); clear hv)
      | (go_at_call 44; refine Calls.mono hs ?_; clear hs; rintro ee w2 ⟨rfl, b2⟩)
      | (go_at_call 59; refine Calls.mono (hgo _) ?_; clear hgo; rintro ee w3 ⟨rfl, b3⟩; have b13 := below_trans (below_trans b1 b2) b3; have h1 := heat_any (AM.below HE.out b13) (fun k h => HD.out k (Nat.le_trans b13.size h)) k hk HFl.out)
      | (go_at_call 62; refine Calls.mono h1 ?_; clear h1; rintro ee w4 ⟨rfl, a2, k2⟩; have k12 := (Keeps.of_below (D := D) b13).trans k2; have h2 := cool_any a2 HX.out.1 (fun k h => HD.out k (Nat.le_trans k12.size h)) HX.out.2.1 HX.out.2.2; clear a2)
      | (go_at_call 81; refine Calls.mono h2 ?_; clear h2; rintro ee w5 ⟨rfl, a3, k3⟩; have k13 := k12.trans k3; have h3 := prune_any a3 HBc.out (fun k h => HD.out k (Nat.le_trans k13.size h)); clear a3)
      | (go_at_call 64; refine Calls.mono h3 ?_; clear h3; rintro ee w6 ⟨rfl, a4, k4⟩))
    go_end0
    exact ⟨rfl, a4, k13.trans k4⟩
set_option maxRecDepth 100000 in
set_option maxHeartbeats 2000000 in
theorem admit_cold (H : AM e b s D w) (hok : A.Ok s) (hD : ∀ k, w.heap.size ≤ k → D k) (k : ByteArray) (hk : k.size ≤ 1000) (hc : ¬ ((A.hots s).length < A.most s ∨ k ∈ s.t2)) :
    Calls Try.prog 57 #[.pointer (some ⟨e, 0, none⟩), .string k] w fun ee w' => ee = .returned (.tuple #[]) ∧ AM e b (A.admit s k) D w' ∧ Keeps D w w' := by
  have hf : Few 19990 s := by have := Few.of hok; unfold Few at *; omega
  have HE : Hid (AM e b s D w) := H
  have HD : Hid (∀ k, w.heap.size ≤ k → D k) := hD
  have hB := hok.toBase
  have hh := hots_any H hB
  have hm := mostA H hB.lo hB.hi
  have hu : A.admit s k = A.prune (A.layCold s k) := by unfold A.admit; rw [if_neg hc]
  have HBc : Hid (A.Base (A.layCold s k)) := A.cold_base hB k
  have HFl : Hid (Few 19990 s) := hf
  have hl : ¬ (A.hots s).length < A.most s := fun h => hc (.inl h)
  have HG : Hid (k ∉ s.t2) := fun h => hc (.inr h)
  rw [hu]
  generalize A.most s = n1 at *
  generalize (A.hots s).length = n2 at *
  clear H hok hD hf hB hu hc
  go_enter Try.func57, Try.ntmps57
  go_wp2_with (first
    | (go_at_call 60; refine Calls.mono hh ?_; clear hh; rintro ee w0 ⟨rfl, rfl⟩)
    | (go_at_call 61; refine Calls.mono hm ?_; clear hm; rintro ee w1 ⟨rfl, b1⟩; obtain ⟨v, hv, hs⟩ := spotA (AM.below HE.out b1) k hk; have hgo := ghostA (v := v) (t := false) (by have h9 : v.2.2 = 0 := hv.2.2.2 HG.out; simp [h9]); clear hv)
    | (go_at_call 44; refine Calls.mono hs ?_; clear hs; rintro ee w2 ⟨rfl, b2⟩)
    | (go_at_call 59; refine Calls.mono (hgo _) ?_; clear hgo; rintro ee w3 ⟨rfl, b3⟩; have b13 := below_trans (below_trans b1 b2) b3; have h1 := cold_lay (AM.below HE.out b13) (fun k h => HD.out k (Nat.le_trans b13.size h)) k hk HFl.out)
    | (go_at_call 63; refine Calls.mono h1 ?_; clear h1; rintro ee w4 ⟨rfl, a2, k2⟩; have k12 := (Keeps.of_below (D := D) b13).trans k2; have h3 := prune_any a2 HBc.out (fun k h => HD.out k (Nat.le_trans k12.size h)); clear a2)
    | (go_at_call 64; refine Calls.mono h3 ?_; clear h3; rintro ee w6 ⟨rfl, a4, k4⟩))
  go_end0
  exact ⟨rfl, a4, k12.trans k4⟩
theorem admit_any (H : AM e b s D w) (hok : A.Ok s) (hD : ∀ k, w.heap.size ≤ k → D k) (k : ByteArray) (hk : k.size ≤ 1000) :
    Calls Try.prog 57 #[.pointer (some ⟨e, 0, none⟩), .string k] w fun ee w' => ee = .returned (.tuple #[]) ∧ AM e b (A.admit s k) D w' ∧ Keeps D w w' := by
  by_cases hc : (A.hots s).length < A.most s ∨ k ∈ s.t2
  · exact admit_hot H hok hD k hk hc
  · exact admit_cold H hok hD k hk hc
end
end Go.Proofs.Ytcbaalodhgkgmaa
