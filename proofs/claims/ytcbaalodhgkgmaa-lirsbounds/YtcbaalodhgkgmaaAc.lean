/- The program's engine and the document's machine side by side; hoardlaw13.act. -/
import Derived.Test.YtcbaalodhgkgmaaTw
namespace Go.Proofs.Ytcbaalodhgkgmaa
open Go.RowKit

section
variable {A A' B B' : (Nat → Prop) → World → Prop} {O : Nat → Prop} {w : World}
theorem Two.less {O' : Nat → Prop} (h : Two A B O' w) (ho : ∀ k, O k → O' k) : Two A B O w := by
  obtain ⟨Da, Db, ha, hb, h1, h2, h3⟩ := h
  exact ⟨Da, Db, ha, hb, fun k e => ⟨(h1 k e).1, fun o => (h1 k e).2.1 (ho k o), (h1 k e).2.2⟩, fun k e => ⟨fun o => (h2 k e).1 (ho k o), (h2 k e).2⟩, fun k o => h3 k (ho k o)⟩
/-- a call on the first that answers a row: the row is nobody's -/
theorem Two.asideA (la : Lies A) (lb : Lies B) {f : FuncId} {args : Array Value} {zs : List ByteArray} {R : Option Addr → Nat → Ending} (h : Two A B O w)
    (hc : ∀ D, A D w → (∀ k, w.heap.size ≤ k → D k) → Calls Try.prog f args w fun e w' => ∃ ad cap, e = R ad cap ∧ Beside A' ad cap zs D w' ∧ Keeps D w w') :
    Calls Try.prog f args w fun e w' => ∃ ad cap, ∃ O' : Nat → Prop, e = R ad cap ∧ (∀ k, O k → O' k) ∧ Two A' B O' w' ∧ Row O' w' ad cap zs ∧ Keeps (fun k => ¬ O k) w w' := by
  obtain ⟨Dl, Dx, hl, hx, h1, h2, h3⟩ := h
  refine (hc (fun k => Dl k ∨ w.heap.size ≤ k) (la.wide hl (fun k e => .inl e)) (fun k e => .inr e)).mono ?_
  rintro e w' ⟨ad, cap, he, ⟨D1, g1, hA', hR⟩, hk⟩
  have hs := hk.size
  refine ⟨ad, cap, fun k => O k ∨ ((Dl k ∨ w.heap.size ≤ k) ∧ ¬ D1 k ∧ k < w'.heap.size), he, fun k o => .inl o, ⟨D1, Dx, hA', lb.kept hx hk ?_, ?_, ?_, ?_⟩, hR.wide (fun k a h => .inr ⟨h.1, h.2, a⟩), hk.mono ?_⟩
  · rintro k e (e2 | e2)
    · exact (h1 k e2).1 e
    · have := (h2 k e).2; omega
  · intro k e
    obtain ⟨g2, g3⟩ := g1 k e
    refine ⟨?_, ?_, g3⟩
    · intro e3
      rcases g2 with g2 | g2
      · exact (h1 k g2).1 e3
      · have := (h2 k e3).2; omega
    · rintro (o | o)
      · rcases g2 with g2 | g2
        · exact (h1 k g2).2.1 o
        · have := h3 k o; omega
      · exact o.2.1 e
  · intro k e
    refine ⟨?_, by have := (h2 k e).2; omega⟩
    rintro (o | ⟨o | o, _⟩)
    · exact (h2 k e).1 o
    · exact (h1 k o).1 e
    · have := (h2 k e).2; omega
  · rintro k (o | o)
    · have := h3 k o; omega
    · exact o.2.2
  · rintro k _ (e | e) e2
    · exact (h1 k e).2.1 e2
    · have := h3 k e2; omega
theorem Two.swap (h : Two A B O w) : Two B A O w := by
  obtain ⟨Da, Db, ha, hb, h1, h2, h3⟩ := h
  exact ⟨Db, Da, hb, ha, fun k e => ⟨fun e2 => (h1 k e2).1 e, h2 k e⟩, fun k e => ⟨(h1 k e).2.1, (h1 k e).2.2⟩, h3⟩
/-- a block is laid that is nobody's -/
theorem Two.box (la : Lies A) (lb : Lies B) (h : Two A B O w) (o : Obj) : Two A B (fun k => O k ∨ k = w.heap.size) (w.alloc o) := by
  obtain ⟨Ea, Eb, ja, jb, j1, j2, j3⟩ := h
  refine ⟨Ea, Eb, la.kept (D' := fun _ => False) ja (.of_below ((Below.refl _ w).alloc (Nat.le_refl _) o)) (fun _ _ e => e), lb.kept (D' := fun _ => False) jb (.of_below ((Below.refl _ w).alloc (Nat.le_refl _) o)) (fun _ _ e => e), fun k e => ⟨(j1 k e).1, ?_, ?_⟩, fun k e => ⟨?_, ?_⟩, ?_⟩
  · rintro (q | q)
    · exact (j1 k e).2.1 q
    · have := (j1 k e).2.2; omega
  · have := (j1 k e).2.2; rw [World.size_alloc]; omega
  · rintro (q | q)
    · exact (j2 k e).1 q
    · have := (j2 k e).2; omega
  · have := (j2 k e).2; rw [World.size_alloc]; omega
  · rintro k (q | q)
    · have := j3 k q; rw [World.size_alloc]; omega
    · rw [World.size_alloc]; omega
theorem Row.other {O O' : Nat → Prop} {w' : World} {ad : Option Addr} {cap : Nat} {zs : List ByteArray} (h : Row O w ad cap zs) (hk : Keeps (fun k => ¬ O' k) w w') (ho : ∀ k, O k → O' k) : Row O w' ad cap zs := h.kept hk (fun k e n => n (ho k e))
end
/-- both are the machine s -/
def Both (e x b : Nat) (s : Stt) (O : Nat → Prop) (w : World) : Prop := Two (AE e b s) (RE x s) O w
section
variable {O : Nat → Prop} {w : World} {e x b : Nat} {s : Stt}
/-- what an act leaves: both are one machine still -/
def Acted (e x b : Nat) (s : Stt) (O : Nat → Prop) (w : World) (ee : Ending) (w' : World) : Prop :=
  ∃ s', ee = .returned (.bool true) ∧ A.Ok s' ∧ s'.c = s.c ∧ Both e x (b + 2) s' O w' ∧ Keeps (fun k => ¬ O k) w w'
set_option maxHeartbeats 2000000 in
theorem act_access (h : Both e x b s O w) (hok : A.Ok s) (hb : b ≤ 600000) (key : ByteArray) (hk : key.size ≤ 1000) :
    Calls Try.prog 12 #[.pointer (some ⟨e, 0, none⟩), .pointer (some ⟨x, 0, none⟩), .agg #[.int .i64 1, .string key]] w (Acted e x b s O w) := by
  have HOk : Hid (A.Ok s) := hok
  have hacc := Two.asideA (AE_lies e b s) (RE_lies x s) (R := fun ad cap => .returned (.tuple #[.bool (A.access s key).1, .slice ad (A.access s key).2.1.length cap])) (Two.box (AE_lies e b s) (RE_lies x s) h (.cells #[.int .i64 1, .string key] 30)) (fun D hA hD => acc_any hA hok hD hb key hk)
  have hrow : (A.access s key).2.1.length ≤ 1 := by
    by_cases hin : key ∈ A.keys s
    · rw [(A.acc_hit hok hin).2.1]; simp
    · rcases (A.acc_miss hok hin).2.went with ⟨h2, _⟩ | ⟨g, h2, _⟩ <;> (rw [h2]; simp)
  obtain ⟨s', hs'⟩ : ∃ s', s' = (A.access s key).2.2 := ⟨_, rfl⟩
  have HOk2 : Hid (A.Ok s' ∧ s'.c = s.c) := by
    show A.Ok s' ∧ s'.c = s.c
    rw [hs']
    exact A.acc_any hok key
  have HX : Hid (∀ (O' : Nat → Prop) (W : World), Two (AE e (b + 2) s') (RE x s) O' W → Calls Try.prog 36 #[.pointer (some ⟨x, 0, none⟩), .string key] W fun ee w' => ∃ ad cap, ∃ O2 : Nat → Prop, ee = .returned (.tuple #[.bool (A.access s key).1, .slice ad (A.access s key).2.1.length cap]) ∧ (∀ k, O' k → O2 k) ∧ Two (RE x s') (AE e (b + 2) s') O2 w' ∧ Row O2 w' ad cap (A.access s key).2.1 ∧ Keeps (fun k => ¬ O' k) W w') := by
    intro O' W h2
    have := Two.asideA (RE_lies x s) (AE_lies e (b + 2) s') (R := fun ad cap => .returned (.tuple #[.bool (A.access s key).1, .slice ad (A.access s key).2.1.length cap])) h2.swap (fun D hA hD => racc_any hA hok hD key)
    rw [hs']
    rw [hs'] at this
    exact this
  rw [← hs'] at hacc
  have heq : eqb (A.access s key).2.1 (A.access s key).2.1 = true := by unfold eqb; simp
  have HEq : Hid _ := heq
  clear h hok hs' heq
  generalize (A.access s key).1 = hit at *
  generalize (A.access s key).2.1 = gs at *
  go_enter Try.func12, Try.ntmps12
  go_wp2_with (first
    | (go_at_call 28; refine Calls.mono hacc ?_; clear hacc; rintro ee w1 ⟨ad1, cap1, O1, rfl, ho1, h1, hr1, hk1⟩; have hkc1 : w1.cell? ⟨w.heap.size, 1, none⟩ = some (.string key) := (by rw [World.cell?_of_block (hk1.block _ (by simp) (fun n => n (.inr rfl)))]; exact cell_of_block (heap_alloc_new w _)); have HO1 : Hid (∀ k, O k ∨ k = w.heap.size → O1 k) := ho1; have H1 : Hid (Two (AE e (b + 2) s') (RE x s) O1 w1) := h1; have HR1 : Hid (Row O1 w1 ad1 cap1 gs) := hr1; have HK1 : Hid (Keeps (fun k => ¬ O k) w w1) := (((Keeps.refl _ w).alloc _).trans (hk1.mono (fun k hk hn o => hn (.inl o)))); clear ho1 h1 hr1 hk1)
    | (go_at_call 36; refine Calls.mono (HX.out O1 _ H1.out) ?_; rintro ee w2 ⟨ad2, cap2, O2, rfl, ho2, h2, hr2, hk2⟩; have HO2 : Hid (∀ k, O k → O2 k) := (fun k o => ho2 k (HO1.out k (.inl o))); have H2 : Hid (Two (RE x s') (AE e (b + 2) s') O2 w2) := h2; have HT : Hid (Calls Try.prog 17 #[.slice ad1 gs.length cap1, .slice ad2 gs.length cap2] w2 fun e w' => e = .returned (.bool true) ∧ Below w2.heap.size w2 w') := (by have := texts_any (c1 := cap1) (c2 := cap2) (HR1.out.other hk2 (fun _ h => h)).rowIn hr2.rowIn (by omega) (by omega); rw [HEq.out] at this; exact this); have HK2 : Hid (Keeps (fun k => ¬ O k) w w2) := (HK1.out.trans (hk2.mono (fun k _ hn o => hn (HO1.out k (.inl o))))); clear ho2 h2 hr2 hk2)
    | (go_at_call 17; refine Calls.mono HT.out ?_; rintro ee w3 ⟨rfl, hb3⟩))
  go_ret
  exact ⟨s', by simp, HOk2.out.1, HOk2.out.2, (Two.below (AE_lies e (b + 2) s') (RE_lies x s') (H2.out.swap.less HO2.out) hb3), HK2.out.trans (.of_below hb3)⟩
end
end Go.Proofs.Ytcbaalodhgkgmaa
