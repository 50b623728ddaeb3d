/- Two things in memory side by side: whoever writes into one leaves the other alone. The program's engine and the document's machine side by side; hoardlaw12.act. hoardlaw12.act: Load, Remove, Evict, Has in both. What came in: a row of acts; hoardlaw12.heavy. What the laws over a row of acts share: both made, the engine alone behind the acts, calls beside a row of the law's own. -/
import Derived.Test.YtnbfokmodjgaaabDoorRgc
import Derived.Test.YtnbfokmodjgaaabDoorAl
import Derived.Test.YtnbfokmodjgaaabDoorAg
import Derived.Deep.Upon
import Derived.Test.YtnbfokmodjgaaabDoorAi
import Derived.Test.YtnbfokmodjgaaabDoorCa
namespace Go.Proofs.YtnbfokmodjgaaabDoor
open Go.RowKit

/-- what can be said of blocks D alone -/
structure Lies (A : (Nat → Prop) → World → Prop) : Prop where
  kept : ∀ {D D' : Nat → Prop} {w w' : World}, A D w → Keeps D' w w' → (∀ k, D k → ¬ D' k) → A D w'
  wide : ∀ {D D' : Nat → Prop} {w : World}, A D w → (∀ k, D k → D' k) → A D' w
  narrow : ∀ {D : Nat → Prop} {w : World}, A D w → A (fun k => D k ∧ k < w.heap.size) w
/-- both in memory, apart from each other and from the blocks O -/
def Two (A B : (Nat → Prop) → World → Prop) (O : Nat → Prop) (w : World) : Prop :=
  ∃ Da Db : Nat → Prop, A Da w ∧ B Db w ∧ (∀ k, Da k → ¬ Db k ∧ ¬ O k ∧ k < w.heap.size) ∧ (∀ k, Db k → ¬ O k ∧ k < w.heap.size) ∧ ∀ k, O k → k < w.heap.size
section
variable {A A' B B' : (Nat → Prop) → World → Prop} {O : Nat → Prop} {w : World}
theorem Two.onA (la' : Lies A') (lb : Lies B) (la : Lies A) {f : FuncId} {args : Array Value} {Q : Ending → Prop} (h : Two A B O w)
    (hc : ∀ D, A D w → (∀ k, w.heap.size ≤ k → D k) → Calls Tryd.prog f args w fun e w' => Q e ∧ A' D w' ∧ Keeps D w w') :
    Calls Tryd.prog f args w fun e w' => Q e ∧ Two A' B O w' ∧ Keeps (fun k => ¬ O k) w w' := by
  obtain ⟨Dl, Dx, hl, hx, h1, h2, h3⟩ := h
  refine (hc (fun k => Dl k ∨ w.heap.size ≤ k) (la.wide hl (fun k e => .inl e)) (fun k e => .inr e)).mono ?_
  rintro e w' ⟨he, hl', hk⟩
  have hs := hk.size
  refine ⟨he, ⟨_, Dx, la'.narrow hl', lb.kept hx hk ?_, ?_, fun k e => ⟨(h2 k e).1, by have := (h2 k e).2; omega⟩, fun k e => by have := h3 k e; omega⟩, hk.mono ?_⟩
  · rintro k e (e2 | e2)
    · exact (h1 k e2).1 e
    · have := (h2 k e).2; omega
  · rintro k ⟨e | e, e2⟩
    · exact ⟨(h1 k e).1, (h1 k e).2.1, e2⟩
    · exact ⟨fun e3 => by have := (h2 k e3).2; omega, fun e3 => by have := h3 k e3; omega, e2⟩
  · rintro k _ (e | e) e2
    · exact (h1 k e).2.1 e2
    · have := h3 k e2; omega
theorem Two.onB (lb' : Lies B') (la : Lies A) (lb : Lies B) {f : FuncId} {args : Array Value} {Q : Ending → Prop} (h : Two A B O w)
    (hc : ∀ D, B D w → (∀ k, w.heap.size ≤ k → D k) → Calls Tryd.prog f args w fun e w' => Q e ∧ B' D w' ∧ Keeps D w w') :
    Calls Tryd.prog f args w fun e w' => Q e ∧ Two A B' O w' ∧ Keeps (fun k => ¬ O k) w w' := by
  obtain ⟨Dl, Dx, hl, hx, h1, h2, h3⟩ := h
  refine (hc (fun k => Dx k ∨ w.heap.size ≤ k) (lb.wide hx (fun k e => .inl e)) (fun k e => .inr e)).mono ?_
  rintro e w' ⟨he, hx', hk⟩
  have hs := hk.size
  refine ⟨he, ⟨Dl, _, la.kept hl hk ?_, lb'.narrow hx', ?_, ?_, fun k e => by have := h3 k e; omega⟩, hk.mono ?_⟩
  · rintro k e (e2 | e2)
    · exact (h1 k e).1 e2
    · have := (h1 k e).2.2; omega
  · intro k e
    refine ⟨?_, (h1 k e).2.1, by have := (h1 k e).2.2; omega⟩
    rintro ⟨e2 | e2, _⟩
    · exact (h1 k e).1 e2
    · have := (h1 k e).2.2; omega
  · rintro k ⟨e | e, e2⟩
    · exact ⟨(h2 k e).1, e2⟩
    · exact ⟨fun e3 => by have := h3 k e3; omega, e2⟩
  · rintro k _ (e | e) e2
    · exact (h2 k e).1 e2
    · have := h3 k e2; omega
theorem Two.below (la : Lies A) (lb : Lies B) {w' : World} (h : Two A B O w) (hb : Below w.heap.size w w') : Two A B O w' := by
  obtain ⟨Dl, Dx, hl, hx, h1, h2, h3⟩ := h
  have hs := hb.size
  exact ⟨Dl, Dx, la.kept (D' := fun _ => False) hl (.of_below hb) (fun _ _ e => e), lb.kept (D' := fun _ => False) hx (.of_below hb) (fun _ _ e => e), fun k e => ⟨(h1 k e).1, (h1 k e).2.1, by have := (h1 k e).2.2; omega⟩, fun k e => ⟨(h2 k e).1, by have := (h2 k e).2; omega⟩, fun k e => by have := h3 k e; omega⟩
theorem Two.left (h : Two A B O w) : ∃ D, A D w := by
  obtain ⟨Dl, Dx, hl, _⟩ := h; exact ⟨_, hl⟩
theorem Two.right (h : Two A B O w) : ∃ D, B D w := by
  obtain ⟨Dl, Dx, _, hx, _⟩ := h; exact ⟨_, hx⟩
theorem Keeps.old {w' : World} {B : Nat} (h : Keeps (fun k => ¬ k < B) w w') (hB : B ≤ w.heap.size) : Below B w w' := h.below hB (fun k e => by omega)
/-- both, at the start -/
theorem two_start (la : Lies A) (lb : Lies B) {w w1 w2 : World} (H : A (w.heap.size ≤ ·) w1) (h1 : w.heap.size ≤ w1.heap.size) (HX : B (w1.heap.size ≤ ·) w2) (hk : Keeps (w1.heap.size ≤ ·) w1 w2) :
    Two A B (fun k => k < w.heap.size) w2 := by
  have hs := hk.size
  refine ⟨_, _, la.kept (la.narrow H) hk ?_, lb.narrow HX, ?_, ?_, ?_⟩
  · rintro k ⟨_, e⟩ e2; omega
  · rintro k ⟨e1, e2⟩
    exact ⟨fun e => by omega, by omega, by omega⟩
  · rintro k ⟨e1, e2⟩
    exact ⟨by omega, e2⟩
  · intro k e; omega
end
/-- an index of numbers, of blocks D -/
theorem AE_lies (e b : Nat) (s : Stt) : Lies (AE e b s) :=
  ⟨fun h hk hd => EN.kept h hk (fun k _ hx => hd k hx), fun h hD => AE.wide h (fun k _ hx => hD k hx), fun h => AE.narrow h⟩
theorem RE_lies (x : Nat) (s : Stt) : Lies (RE x s) :=
  ⟨fun h hk hd => RE.kept h hk hd, fun h hD => RE.wide h (fun k _ hx => hD k hx), fun h => RE.narrow h⟩
end Go.Proofs.YtnbfokmodjgaaabDoor
namespace Go.Proofs.YtnbfokmodjgaaabDoor
open Go.RowKit

section
variable {A A' B B' : (Nat → Prop) → World → Prop} {O : Nat → Prop} {w : World}
theorem Two.less {O' : Nat → Prop} (h : Two A B O' w) (ho : ∀ k, O k → O' k) : Two A B O w := by
  obtain ⟨Da, Db, ha, hb, h1, h2, h3⟩ := h
  exact ⟨Da, Db, ha, hb, fun k e => ⟨(h1 k e).1, fun o => (h1 k e).2.1 (ho k o), (h1 k e).2.2⟩, fun k e => ⟨fun o => (h2 k e).1 (ho k o), (h2 k e).2⟩, fun k o => h3 k (ho k o)⟩
/-- a call on the first that answers a row: the row is nobody's -/
theorem Two.asideA (la : Lies A) (lb : Lies B) {f : FuncId} {args : Array Value} {zs : List ByteArray} {R : Option Addr → Nat → Ending} (h : Two A B O w)
    (hc : ∀ D, A D w → (∀ k, w.heap.size ≤ k → D k) → Calls Tryd.prog f args w fun e w' => ∃ ad cap, e = R ad cap ∧ Beside A' ad cap zs D w' ∧ Keeps D w w') :
    Calls Tryd.prog f args w fun e w' => ∃ ad cap, ∃ O' : Nat → Prop, e = R ad cap ∧ (∀ k, O k → O' k) ∧ Two A' B O' w' ∧ Row O' w' ad cap zs ∧ Keeps (fun k => ¬ O k) w w' := by
  obtain ⟨Dl, Dx, hl, hx, h1, h2, h3⟩ := h
  refine (hc (fun k => Dl k ∨ w.heap.size ≤ k) (la.wide hl (fun k e => .inl e)) (fun k e => .inr e)).mono ?_
  rintro e w' ⟨ad, cap, he, ⟨D1, g1, hA', hR⟩, hk⟩
  have hs := hk.size
  refine ⟨ad, cap, fun k => O k ∨ ((Dl k ∨ w.heap.size ≤ k) ∧ ¬ D1 k ∧ k < w'.heap.size), he, fun k o => .inl o, ⟨D1, Dx, hA', lb.kept hx hk ?_, ?_, ?_, ?_⟩, hR.wide (fun k a h => .inr ⟨h.1, h.2, a⟩), hk.mono ?_⟩
  · rintro k e (e2 | e2)
    · exact (h1 k e2).1 e
    · have := (h2 k e).2; omega
  · intro k e
    obtain ⟨g2, g3⟩ := g1 k e
    refine ⟨?_, ?_, g3⟩
    · intro e3
      rcases g2 with g2 | g2
      · exact (h1 k g2).1 e3
      · have := (h2 k e3).2; omega
    · rintro (o | o)
      · rcases g2 with g2 | g2
        · exact (h1 k g2).2.1 o
        · have := h3 k o; omega
      · exact o.2.1 e
  · intro k e
    refine ⟨?_, by have := (h2 k e).2; omega⟩
    rintro (o | ⟨o | o, _⟩)
    · exact (h2 k e).1 o
    · exact (h1 k o).1 e
    · have := (h2 k e).2; omega
  · rintro k (o | o)
    · have := h3 k o; omega
    · exact o.2.2
  · rintro k _ (e | e) e2
    · exact (h1 k e).2.1 e2
    · have := h3 k e2; omega
theorem Two.swap (h : Two A B O w) : Two B A O w := by
  obtain ⟨Da, Db, ha, hb, h1, h2, h3⟩ := h
  exact ⟨Db, Da, hb, ha, fun k e => ⟨fun e2 => (h1 k e2).1 e, h2 k e⟩, fun k e => ⟨(h1 k e).2.1, (h1 k e).2.2⟩, h3⟩
/-- a block is laid that is nobody's -/
theorem Two.box (la : Lies A) (lb : Lies B) (h : Two A B O w) (o : Obj) : Two A B (fun k => O k ∨ k = w.heap.size) (w.alloc o) := by
  obtain ⟨Ea, Eb, ja, jb, j1, j2, j3⟩ := h
  refine ⟨Ea, Eb, la.kept (D' := fun _ => False) ja (.of_below ((Below.refl _ w).alloc (Nat.le_refl _) o)) (fun _ _ e => e), lb.kept (D' := fun _ => False) jb (.of_below ((Below.refl _ w).alloc (Nat.le_refl _) o)) (fun _ _ e => e), fun k e => ⟨(j1 k e).1, ?_, ?_⟩, fun k e => ⟨?_, ?_⟩, ?_⟩
  · rintro (q | q)
    · exact (j1 k e).2.1 q
    · have := (j1 k e).2.2; omega
  · have := (j1 k e).2.2; rw [World.size_alloc]; omega
  · rintro (q | q)
    · exact (j2 k e).1 q
    · have := (j2 k e).2; omega
  · have := (j2 k e).2; rw [World.size_alloc]; omega
  · rintro k (q | q)
    · have := j3 k q; rw [World.size_alloc]; omega
    · rw [World.size_alloc]; omega
theorem Row.other {O O' : Nat → Prop} {w' : World} {ad : Option Addr} {cap : Nat} {zs : List ByteArray} (h : Row O w ad cap zs) (hk : Keeps (fun k => ¬ O' k) w w') (ho : ∀ k, O k → O' k) : Row O w' ad cap zs := h.kept hk (fun k e n => n (ho k e))
end
/-- both are the machine s -/
def Both (e x b : Nat) (s : Stt) (O : Nat → Prop) (w : World) : Prop := Two (AE e b s) (RE x s) O w
section
variable {O : Nat → Prop} {w : World} {e x b : Nat} {s : Stt}
/-- what an act leaves: both are one machine still -/
def Acted (e x b : Nat) (s : Stt) (O : Nat → Prop) (w : World) (ee : Ending) (w' : World) : Prop :=
  ∃ s', ee = .returned (.bool true) ∧ A.Ok s' ∧ s'.c = s.c ∧ Both e x (b + 2) s' O w' ∧ Keeps (fun k => ¬ O k) w w'
set_option maxHeartbeats 2000000 in
theorem act_access (h : Both e x b s O w) (hok : A.Ok s) (hb : b ≤ 600000) (key : ByteArray) (hk : key.size ≤ 1000) :
    Calls Tryd.prog 26 #[.pointer (some ⟨e, 0, none⟩), .pointer (some ⟨x, 0, none⟩), .agg #[.int .i64 1, .string key]] w (Acted e x b s O w) := by
  have HOk : Hid (A.Ok s) := hok
  have hacc := Two.asideA (AE_lies e b s) (RE_lies x s) (R := fun ad cap => .returned (.tuple #[.bool (A.access s key).1, .slice ad (A.access s key).2.1.length cap])) (Two.box (AE_lies e b s) (RE_lies x s) h (.cells #[.int .i64 1, .string key] 44)) (fun D hA hD => acc_any hA hok hD hb key hk)
  have hrow : (A.access s key).2.1.length ≤ 1 := by
    by_cases hin : key ∈ A.keys s
    · rw [(A.acc_hit hok hin).2.1]; simp
    · rcases (A.acc_miss hok hin).2.went with ⟨h2, _⟩ | ⟨g, h2, _⟩ <;> (rw [h2]; simp)
  obtain ⟨s', hs'⟩ : ∃ s', s' = (A.access s key).2.2 := ⟨_, rfl⟩
  have HOk2 : Hid (A.Ok s' ∧ s'.c = s.c) := by
    show A.Ok s' ∧ s'.c = s.c
    rw [hs']
    exact A.acc_any hok key
  have HX : Hid (∀ (O' : Nat → Prop) (W : World), Two (AE e (b + 2) s') (RE x s) O' W → Calls Tryd.prog 47 #[.pointer (some ⟨x, 0, none⟩), .string key] W fun ee w' => ∃ ad cap, ∃ O2 : Nat → Prop, ee = .returned (.tuple #[.bool (A.access s key).1, .slice ad (A.access s key).2.1.length cap]) ∧ (∀ k, O' k → O2 k) ∧ Two (RE x s') (AE e (b + 2) s') O2 w' ∧ Row O2 w' ad cap (A.access s key).2.1 ∧ Keeps (fun k => ¬ O' k) W w') := by
    intro O' W h2
    have := Two.asideA (RE_lies x s) (AE_lies e (b + 2) s') (R := fun ad cap => .returned (.tuple #[.bool (A.access s key).1, .slice ad (A.access s key).2.1.length cap])) h2.swap (fun D hA hD => racc_any hA hok hD key)
    rw [hs']
    rw [hs'] at this
    exact this
  rw [← hs'] at hacc
  have heq : eqb (A.access s key).2.1 (A.access s key).2.1 = true := by unfold eqb; simp
  have HEq : Hid _ := heq
  clear h hok hs' heq
  generalize (A.access s key).1 = hit at *
  generalize (A.access s key).2.1 = gs at *
  go_enter Tryd.func26, Tryd.ntmps26
  go_wp2_with (first
    | (go_at_call 9; refine Calls.mono hacc ?_; clear hacc; rintro ee w1 ⟨ad1, cap1, O1, rfl, ho1, h1, hr1, hk1⟩; have hkc1 : w1.cell? ⟨w.heap.size, 1, none⟩ = some (.string key) := (by rw [World.cell?_of_block (hk1.block _ (by simp) (fun n => n (.inr rfl)))]; exact cell_of_block (heap_alloc_new w _)); have HO1 : Hid (∀ k, O k ∨ k = w.heap.size → O1 k) := ho1; have H1 : Hid (Two (AE e (b + 2) s') (RE x s) O1 w1) := h1; have HR1 : Hid (Row O1 w1 ad1 cap1 gs) := hr1; have HK1 : Hid (Keeps (fun k => ¬ O k) w w1) := (((Keeps.refl _ w).alloc _).trans (hk1.mono (fun k hk hn o => hn (.inl o)))); clear ho1 h1 hr1 hk1)
    | (go_at_call 47; refine Calls.mono (HX.out O1 _ H1.out) ?_; rintro ee w2 ⟨ad2, cap2, O2, rfl, ho2, h2, hr2, hk2⟩; have HO2 : Hid (∀ k, O k → O2 k) := (fun k o => ho2 k (HO1.out k (.inl o))); have H2 : Hid (Two (RE x s') (AE e (b + 2) s') O2 w2) := h2; have HT : Hid (Calls Tryd.prog 23 #[.slice ad1 gs.length cap1, .slice ad2 gs.length cap2] w2 fun e w' => e = .returned (.bool true) ∧ Below w2.heap.size w2 w') := (by have := texts_any (c1 := cap1) (c2 := cap2) (HR1.out.other hk2 (fun _ h => h)).rowIn hr2.rowIn (by omega) (by omega); rw [HEq.out] at this; exact this); have HK2 : Hid (Keeps (fun k => ¬ O k) w w2) := (HK1.out.trans (hk2.mono (fun k _ hn o => hn (HO1.out k (.inl o))))); clear ho2 h2 hr2 hk2)
    | (go_at_call 23; refine Calls.mono HT.out ?_; rintro ee w3 ⟨rfl, hb3⟩))
  go_ret
  exact ⟨s', by simp, HOk2.out.1, HOk2.out.2, (Two.below (AE_lies e (b + 2) s') (RE_lies x s') (H2.out.swap.less HO2.out) hb3), HK2.out.trans (.of_below hb3)⟩
end
end Go.Proofs.YtnbfokmodjgaaabDoor
namespace Go.Proofs.YtnbfokmodjgaaabDoor
open Go.RowKit

section
variable {O : Nat → Prop} {w : World} {e x b : Nat} {s : Stt}
theorem key_kept {key : ByteArray} {k : Int} {w1 : World} {O1 : Nat → Prop} (hk : Keeps (fun k => ¬ O1 k) (w.alloc (.cells #[.int .i64 k, .string key] 44)) w1) (ho : O1 w.heap.size) : w1.cell? ⟨w.heap.size, 1, none⟩ = some (.string key) := by
  rw [World.cell?_of_block (hk.block _ (by simp) (fun n => n ho))]
  exact cell_of_block (heap_alloc_new w _)
theorem two_more {b' : Nat} {s' : Stt} {w : World} (h : Two (AE e (b + 1) s') (RE x s') O w) (hb : b + 1 ≤ b' := by omega) : Two (AE e b' s') (RE x s') O w := by
  obtain ⟨Da, Db, ha, hr, h1, h2, h3⟩ := h
  exact ⟨Da, Db, ha.more hb, hr, h1, h2, h3⟩
theorem two_more0 {b' : Nat} {s' : Stt} {w : World} (h : Two (AE e b s') (RE x s') O w) (hb : b ≤ b' := by omega) : Two (AE e b' s') (RE x s') O w := by
  obtain ⟨Da, Db, ha, hr, h1, h2, h3⟩ := h
  exact ⟨Da, Db, ha.more hb, hr, h1, h2, h3⟩
set_option maxHeartbeats 2000000 in
theorem act_load (h : Both e x b s O w) (hok : A.Ok s) (hb : b ≤ 600000) (key : ByteArray) (hk : key.size ≤ 1000) (hok2 : A.Ok (A.load s key).2) (hc2 : (A.load s key).2.c = s.c) :
    Calls Tryd.prog 26 #[.pointer (some ⟨e, 0, none⟩), .pointer (some ⟨x, 0, none⟩), .agg #[.int .i64 2, .string key]] w (Acted e x b s O w) := by
  have hacc := Two.onA (Q := fun ee => ee = .returned (.bool (A.load s key).1)) (AE_lies e (b + 1) (A.load s key).2) (RE_lies x s) (AE_lies e b s) (Two.below (AE_lies e b s) (RE_lies x s) (Two.box (AE_lies e b s) (RE_lies x s) h (.cells #[.int .i64 2, .string key] 44)) (Below.refl _ _).drew) (fun D hA hD => load_any hA hok hD hb key hk)
  have HX : Hid (∀ (O' : Nat → Prop) (W : World), Two (AE e (b + 1) (A.load s key).2) (RE x s) O' W → Calls Tryd.prog 48 #[.pointer (some ⟨x, 0, none⟩), .string key] W fun ee w' => ee = .returned (.bool (A.load s key).1) ∧ Two (AE e (b + 1) (A.load s key).2) (RE x (A.load s key).2) O' w' ∧ Keeps (fun k => ¬ O' k) W w') := fun O' W h2 => Two.onB (Q := fun ee => ee = .returned (.bool (A.load s key).1)) (RE_lies x (A.load s key).2) (AE_lies e (b + 1) (A.load s key).2) (RE_lies x s) h2 (fun D hA hD => rload_any hA hok hD key)
  have HOk2 : Hid (A.Ok (A.load s key).2 ∧ (A.load s key).2.c = s.c) := ⟨hok2, hc2⟩
  clear h hok hok2 hc2
  generalize (A.load s key).2 = s' at *
  generalize (A.load s key).1 = r at *
  go_enter Tryd.func26, Tryd.ntmps26
  go_wp2_with fail
  go_region_with (first
    | (go_at_call 11; refine Calls.mono hacc ?_; clear hacc; rintro ee w1 ⟨rfl, h1, hk1⟩; have hkc1 := key_kept (w := w) (k := 2) (key := key) (O1 := fun k => O k ∨ k = w.heap.size) ((Keeps.of_below (Below.refl _ _).drew).trans hk1) (.inr rfl); have H1 : Hid (Two (AE e (b + 1) s') (RE x s) (fun k => O k ∨ k = w.heap.size) w1) := h1; have HK1 : Hid (Keeps (fun k => ¬ O k) w w1) := (((Keeps.refl _ w).alloc _).trans ((Keeps.of_below (Below.refl _ _).drew).trans (hk1.mono (fun k _ hn o => hn (.inl o))))); clear h1 hk1)
    | (go_at_call 48; refine Calls.mono (HX.out _ _ H1.out) ?_; rintro ee w2 ⟨rfl, h2, hk2⟩; have H2 : Hid (Two (AE e (b + 1) s') (RE x s') (fun k => O k ∨ k = w.heap.size) w2) := h2; have HK2 : Hid (Keeps (fun k => ¬ O k) w w2) := (HK1.out.trans (hk2.mono (fun k _ hn o => hn (.inl o)))); clear h2 hk2))
  all_goals
    go_wp2
    go_ret
    exact ⟨s', rfl, HOk2.out.1, HOk2.out.2, two_more (Two.less H2.out (fun k o => .inl o)), HK2.out⟩
set_option maxHeartbeats 2000000 in
theorem act_remove (h : Both e x b s O w) (hok : A.Ok s) (hb : b ≤ 600000) (key : ByteArray) (hk : key.size ≤ 1000) (hok2 : A.Ok (A.remove s key).2) (hc2 : (A.remove s key).2.c = s.c) :
    Calls Tryd.prog 26 #[.pointer (some ⟨e, 0, none⟩), .pointer (some ⟨x, 0, none⟩), .agg #[.int .i64 3, .string key]] w (Acted e x b s O w) := by
  have hacc := Two.onA (Q := fun ee => ee = .returned (.bool (A.remove s key).1)) (AE_lies e b (A.remove s key).2) (RE_lies x s) (AE_lies e b s) (Two.below (AE_lies e b s) (RE_lies x s) (Two.box (AE_lies e b s) (RE_lies x s) h (.cells #[.int .i64 3, .string key] 44)) (Below.refl _ _).drew) (fun D hA hD => remove_any hA hok hD hb key hk)
  have HX : Hid (∀ (O' : Nat → Prop) (W : World), Two (AE e b (A.remove s key).2) (RE x s) O' W → Calls Tryd.prog 49 #[.pointer (some ⟨x, 0, none⟩), .string key] W fun ee w' => ee = .returned (.bool (A.remove s key).1) ∧ Two (AE e b (A.remove s key).2) (RE x (A.remove s key).2) O' w' ∧ Keeps (fun k => ¬ O' k) W w') := fun O' W h2 => Two.onB (Q := fun ee => ee = .returned (.bool (A.remove s key).1)) (RE_lies x (A.remove s key).2) (AE_lies e b (A.remove s key).2) (RE_lies x s) h2 (fun D hA hD => rremove_any hA hok hD key)
  have HOk2 : Hid (A.Ok (A.remove s key).2 ∧ (A.remove s key).2.c = s.c) := ⟨hok2, hc2⟩
  clear h hok hok2 hc2
  generalize (A.remove s key).2 = s' at *
  generalize (A.remove s key).1 = r at *
  go_enter Tryd.func26, Tryd.ntmps26
  go_wp2_with fail
  go_region_with (first
    | (go_at_call 12; refine Calls.mono hacc ?_; clear hacc; rintro ee w1 ⟨rfl, h1, hk1⟩; have hkc1 := key_kept (w := w) (k := 3) (key := key) (O1 := fun k => O k ∨ k = w.heap.size) ((Keeps.of_below (Below.refl _ _).drew).trans hk1) (.inr rfl); have H1 : Hid (Two (AE e b s') (RE x s) (fun k => O k ∨ k = w.heap.size) w1) := h1; have HK1 : Hid (Keeps (fun k => ¬ O k) w w1) := (((Keeps.refl _ w).alloc _).trans ((Keeps.of_below (Below.refl _ _).drew).trans (hk1.mono (fun k _ hn o => hn (.inl o))))); clear h1 hk1)
    | (go_at_call 49; refine Calls.mono (HX.out _ _ H1.out) ?_; rintro ee w2 ⟨rfl, h2, hk2⟩; have H2 : Hid (Two (AE e b s') (RE x s') (fun k => O k ∨ k = w.heap.size) w2) := h2; have HK2 : Hid (Keeps (fun k => ¬ O k) w w2) := (HK1.out.trans (hk2.mono (fun k _ hn o => hn (.inl o)))); clear h2 hk2))
  all_goals
    go_wp2
    go_ret
    exact ⟨s', rfl, HOk2.out.1, HOk2.out.2, two_more0 (Two.less H2.out (fun k o => .inl o)), HK2.out⟩
set_option maxHeartbeats 2000000 in
theorem act_evict (h : Both e x b s O w) (hok : A.Ok s) (hb : b ≤ 600000) (key : ByteArray) (hok2 : A.Ok (A.evict s).2) (hc2 : (A.evict s).2.c = s.c) :
    Calls Tryd.prog 26 #[.pointer (some ⟨e, 0, none⟩), .pointer (some ⟨x, 0, none⟩), .agg #[.int .i64 4, .string key]] w (Acted e x b s O w) := by
  have hacc := Two.onA (Q := fun ee => ee = .returned (wentV (A.evict s).1)) (AE_lies e (b + 1) (A.evict s).2) (RE_lies x s) (AE_lies e b s) (Two.box (AE_lies e b s) (RE_lies x s) h (.cells #[.int .i64 4, .string key] 44)) (fun D hA hD => evictE_any hA hok hD hb)
  have HX : Hid (∀ (O' : Nat → Prop) (W : World), Two (AE e (b + 1) (A.evict s).2) (RE x s) O' W → Calls Tryd.prog 50 #[.pointer (some ⟨x, 0, none⟩)] W fun ee w' => ee = .returned (wentV (A.evict s).1) ∧ Two (AE e (b + 1) (A.evict s).2) (RE x (A.evict s).2) O' w' ∧ Keeps (fun k => ¬ O' k) W w') := fun O' W h2 => Two.onB (Q := fun ee => ee = .returned (wentV (A.evict s).1)) (RE_lies x (A.evict s).2) (AE_lies e (b + 1) (A.evict s).2) (RE_lies x s) h2 (fun D hA hD => revict_any hA hok hD)
  have HOk2 : Hid (A.Ok (A.evict s).2 ∧ (A.evict s).2.c = s.c) := ⟨hok2, hc2⟩
  clear h hok hok2 hc2
  generalize (A.evict s).2 = s' at *
  obtain ⟨g, q, hw⟩ : ∃ (g : ByteArray) (q : Bool), wentV (A.evict s).1 = .tuple #[.string g, .bool q] := by
    unfold wentV
    split <;> exact ⟨_, _, rfl⟩
  rw [hw] at hacc HX
  have hg : (g.toList == g.toList) = true := by simp
  clear hw
  go_enter Tryd.func26, Tryd.ntmps26
  go_wp2_with (first
    | (go_at_call 10; refine Calls.mono hacc ?_; clear hacc; rintro ee w1 ⟨rfl, h1, hk1⟩; have H1 : Hid (Two (AE e (b + 1) s') (RE x s) (fun k => O k ∨ k = w.heap.size) w1) := h1; have HK1 : Hid (Keeps (fun k => ¬ O k) w w1) := (((Keeps.refl _ w).alloc _).trans (hk1.mono (fun k _ hn o => hn (.inl o)))); clear h1 hk1)
    | (go_at_call 50; refine Calls.mono (HX.out _ _ H1.out) ?_; rintro ee w2 ⟨rfl, h2, hk2⟩; have H2 : Hid (Two (AE e (b + 1) s') (RE x s') (fun k => O k ∨ k = w.heap.size) w2) := h2; have HK2 : Hid (Keeps (fun k => ¬ O k) w w2) := (HK1.out.trans (hk2.mono (fun k _ hn o => hn (.inl o)))); clear h2 hk2))
  go_ret
  exact ⟨s', by first | rfl | simp, HOk2.out.1, HOk2.out.2, two_more (Two.less H2.out (fun k o => .inl o)), HK2.out⟩
theorem inb_inn (key : ByteArray) (zs : List ByteArray) : inn key zs = inb key zs := by
  by_cases h : key ∈ zs
  · rw [inb_yes h, inn_yes h]
  · rw [inb_no h, inn_no h]
set_option maxHeartbeats 2000000 in
theorem act_has (h : Both e x b s O w) (hok : A.Ok s) (hb : b ≤ 600000) (kind : Int) (key : ByteArray) (hk : key.size ≤ 1000) (n1 : ¬ kind = 1) (n2 : ¬ kind = 2) (n3 : ¬ kind = 3) (n4 : ¬ kind = 4) :
    Calls Tryd.prog 26 #[.pointer (some ⟨e, 0, none⟩), .pointer (some ⟨x, 0, none⟩), .agg #[.int .i64 kind, .string key]] w (Acted e x b s O w) := by
  have HH : Hid (Both e x b s O w) := h
  have HOk : Hid (A.Ok s) := hok
  obtain ⟨D, hA⟩ := Two.left h
  obtain ⟨D2, hR⟩ := Two.right h
  have hbA : Below w.heap.size w (w.alloc (.cells #[.int .i64 kind, .string key] 44)).drew := below_trans' ((Below.refl _ w).alloc (Nat.le_refl _) _) (Below.refl _ _).drew
  have hacc := has_any (hA.below hbA) (by omega) key hk
  have HX : Hid (∀ W : World, Below w.heap.size w W → Calls Tryd.prog 51 #[.pointer (some ⟨x, 0, none⟩), .string key] W fun ee w' => ee = .returned (.bool (inb key (A.keys s))) ∧ w' = W) := fun W hW => by
    have := rhas_key (hR.below hW) (Small.of HOk.out) key
    rw [inb_inn] at this
    exact this
  have HbA : Hid (Below w.heap.size w (w.alloc (.cells #[.int .i64 kind, .string key] 44)).drew) := hbA
  clear h hok hA hR hbA
  generalize inb key (A.keys s) = r at *
  go_enter Tryd.func26, Tryd.ntmps26
  go_wp2_with fail
  go_region_with (first
    | (go_at_call 13; refine Calls.mono hacc ?_; clear hacc; rintro ee w1 ⟨rfl, hb1⟩; have HB1 : Hid (Below w.heap.size w w1) := (below_trans' HbA.out hb1); have hkc1 := key_kept (w := w) (k := kind) (key := key) (O1 := fun _ => True) ((Keeps.of_below (Below.refl _ _).drew).trans (Keeps.of_below hb1)) trivial; clear hb1)
    | (go_at_call 51; refine Calls.mono (HX.out _ HB1.out) ?_; rintro ee w2 ⟨rfl, rfl⟩))
  all_goals
    go_wp2
    go_ret
    exact ⟨s, rfl, HOk.out, rfl, Two.below (AE_lies e (b + 2) s) (RE_lies x s) (two_more0 HH.out) HB1.out, Keeps.of_below HB1.out⟩
/-- an act, of whatever kind -/
theorem act_any (h : Both e x b s O w) (hok : A.Ok s) (hb : b ≤ 600000) (kind : Int) (key : ByteArray) (hk : key.size ≤ 1000) :
    Calls Tryd.prog 26 #[.pointer (some ⟨e, 0, none⟩), .pointer (some ⟨x, 0, none⟩), .agg #[.int .i64 kind, .string key]] w (Acted e x b s O w) := by
  by_cases n1 : kind = 1
  · subst n1; exact act_access h hok hb key hk
  by_cases n2 : kind = 2
  · subst n2
    have h2 : A.Ok (A.load s key).2 ∧ (A.load s key).2.c = s.c := by
      by_cases hh : key ∈ A.keys s ∨ s.c ≤ (A.keys s).length
      · rw [A.load_no hh]; exact ⟨hok, rfl⟩
      · have := A.load_yes hok (fun h => hh (.inl h)) (by rcases Nat.lt_or_ge (A.keys s).length s.c with h | h; exact h; exact absurd (.inr h) hh)
        exact ⟨this.2.1, this.2.2.1⟩
    exact act_load h hok hb key hk h2.1 h2.2
  by_cases n3 : kind = 3
  · subst n3
    have h2 : A.Ok (A.remove s key).2 ∧ (A.remove s key).2.c = s.c := by
      by_cases hh : key ∈ A.keys s
      · have := A.rem_yes hok hh
        exact ⟨this.2.1, this.2.2.1⟩
      · rw [A.rem_no hh]; exact ⟨hok, rfl⟩
    exact act_remove h hok hb key hk h2.1 h2.2
  by_cases n4 : kind = 4
  · subst n4
    have h2 : A.Ok (A.evict s).2 ∧ (A.evict s).2.c = s.c := by
      by_cases hh : (A.keys s).length = 0
      · rw [A.evi_no hh]; exact ⟨hok, rfl⟩
      · obtain ⟨g, s', e1, e2, e3, _⟩ := A.evi_yes hok hh
        rw [e1]; exact ⟨e2, e3⟩
    exact act_evict h hok hb key h2.1 h2.2
  exact act_has h hok hb kind key hk n1 n2 n3 n4
end
end Go.Proofs.YtnbfokmodjgaaabDoor
namespace Go.Proofs.YtnbfokmodjgaaabDoor
open Go.RowKit Go.ChangeShapes Go.WideShapes

section
variable {H : Type} {enc : TypeId × Value → H} {W : World} {a : Option Addr} {len cap : Nat} {d : DataW H} {ps : List MemPlace}
/-- an act: its kind, its key -/
structure Deed where
  kind : Int
  s : ByteArray
  deriving Inhabited
def DeedsIn (w : World) (ad : Option Addr) (zs : List Deed) : Prop :=
  zs = [] ∨ ∃ g off, ad = some ⟨g, off, none⟩ ∧ ∀ i z, zs[i]? = some z → w.cell? ⟨g, off + i * 2, none⟩ = some (.int .i64 z.kind) ∧ w.cell? ⟨g, off + i * 2 + 1, none⟩ = some (.string z.s)
theorem DeedsIn.later {w w' : World} {ad : Option Addr} {zs : List Deed} (h : DeedsIn w ad zs) (hb : Below w.heap.size w w') : DeedsIn w' ad zs := by
  rcases h with h | ⟨g, off, e, h⟩
  · exact .inl h
  · exact .inr ⟨g, off, e, fun i z hz => ⟨cell_later hb (h i z hz).1, cell_later hb (h i z hz).2⟩⟩
theorem DeedsIn.at {w : World} {ad : Option Addr} {zs : List Deed} (h : DeedsIn w ad zs) {i : Nat} {z : Deed} (hz : zs[i]? = some z) : ∃ g off, ad = some ⟨g, off, none⟩ ∧ w.cell? ⟨g, off + i * 2, none⟩ = some (.int .i64 z.kind) ∧ w.cell? ⟨g, off + i * 2 + 1, none⟩ = some (.string z.s) := by
  rcases h with h | ⟨g, off, e, h⟩
  · subst h; simp at hz
  · exact ⟨g, off, e, h i z hz⟩
set_option maxRecDepth 20000 in
theorem open_deeds (h : DataW.Trod enc Tryd.prog W 0 (fun _ => true) true 38 (.slice a len cap) d ps) : ∃ zs : List Deed, zs.length = len ∧ len ≤ maxLen ∧ DeedsIn W a zs ∧ ∀ z ∈ zs, (Lit.int .i64 z.kind).wf = true ∧ z.s.size ≤ maxLen := by
  obtain ⟨fuel, hf⟩ := h
  have c33 : Tryd.prog.cellsOf 44 = 2 := by kernel_rfl
  have c3 : Tryd.prog.cellsOf 3 = 1 := by kernel_rfl
  have c9 : Tryd.prog.cellsOf 9 = 1 := by kernel_rfl
  rcases Go.Deep.open_slice Tryd.underlying38 hf with ⟨hcs, _⟩ | ⟨x, l, c, m, n, D, Pl, hcs, _, hl, hm, hmm, _, hcell⟩
  · simp [Value.cells] at hcs
    obtain ⟨rfl, rfl, rfl⟩ := hcs
    exact ⟨[], rfl, Nat.zero_le _, .inl rfl, by simp⟩
  · simp [Value.cells] at hcs
    obtain ⟨rfl, rfl, rfl⟩ := hcs
    have hlm : len ≤ m := by rw [hmm]; simp; omega
    rw [c33] at hcell
    have each : ∀ i, i < m → ∃ z : Deed, (W.cell? ((x.add (i * 2)).add 0) = some (.int .i64 z.kind) ∧ W.cell? ((x.add (i * 2)).add 1) = some (.string z.s)) ∧ (Lit.int .i64 z.kind).wf = true ∧ z.s.size ≤ maxLen := fun i hi => by
      obtain ⟨cs, h1, h2⟩ := hcell i hi
      obtain ⟨_, hlen, hc⟩ := World.cells?_some h1
      obtain ⟨xs, n', _, _, _, hlen2, hf2⟩ := DataW.trod_struct Tryd.underlying44 h2
      match xs, hlen2 with
      | [y0, y1], _ =>
        have t0 := hf2 0 _ rfl
        have t1 := hf2 1 _ rfl
        obtain ⟨k, e0, _, wk⟩ := DataW.trod_int Tryd.underlying3 t0
        obtain ⟨s, e2, _, ws⟩ := DataW.trod_string Tryd.underlying9 t1
        match cs, hlen with
        | [v0, v1], _ =>
          simp [c3] at e0
          simp [c9] at e2
          subst e0 e2
          exact ⟨⟨k, s⟩, ⟨hc 0 (by omega), hc 1 (by omega)⟩, wk, ws⟩
    obtain ⟨f, hf⟩ := Go.Deep.choose_lt each
    refine ⟨(List.range len).map f, by simp, by omega, ?_, ?_⟩
    · rcases Nat.eq_zero_or_pos len with h0 | h0
      · subst h0; exact .inl rfl
      · have hx : x = ⟨x.block, x.off, none⟩ := by
          have := (hf 0 (by omega)).1.1
          exact plain_addr (w := W) (v := .int .i64 (f 0).kind) (by simpa [Addr.add] using this)
        rw [hx] at hf ⊢
        refine .inr ⟨_, _, rfl, fun i z hz => ?_⟩
        rw [List.getElem?_map] at hz
        by_cases hi : i < len
        · rw [List.getElem?_range hi] at hz
          simp at hz
          have := (hf i (by omega)).1
          simp only [add_plain, Nat.add_zero] at this
          rw [← hz]
          exact this
        · simp [hi] at hz
    · intro z hz
      simp at hz
      obtain ⟨i, hi, rfl⟩ := hz
      exact (hf i (by omega)).2
end
/-- texts of the first k acts that are looked at are short -/
def Light (zs : List Deed) (k : Nat) : Prop := ∀ (j : Nat) (z : Deed), j < k → zs[j]? = some z → z.s.size ≤ 40
def HeavyIs (zs : List Deed) (e : Ending) : Prop := ∃ b, e = .returned (.bool b) ∧ (b = false → Light zs 200)
theorem Light.more {zs : List Deed} {k : Nat} {z : Deed} (h : Light zs k) (hz : zs[k]? = some z) (hs : z.s.size ≤ 40) : Light zs (k + 1) := by
  intro j y hj hy
  rcases Nat.lt_or_ge j k with c | c
  · exact h j y c hy
  · have e : j = k := by omega
    subst e
    rw [hz] at hy
    cases hy
    exact hs
theorem Light.all {zs : List Deed} {k : Nat} (h : Light zs k) (hk : zs.length ≤ k ∨ 200 ≤ k) : Light zs 200 := by
  intro j y hj hy
  rcases hk with hk | hk
  · exact h j y (by have := lt_of_at hy; omega) hy
  · exact h j y (by omega) hy
set_option maxRecDepth 20000 in
set_option maxHeartbeats 1000000 in
theorem heavy_any {w : World} {ad : Option Addr} {cap : Nat} {zs : List Deed} (h : DeedsIn w ad zs) (hm : zs.length ≤ maxLen) (hz : ∀ z ∈ zs, z.s.size ≤ maxLen) :
    Calls Tryd.prog 24 #[.slice ad zs.length cap] w fun e w' => HeavyIs zs e ∧ w' = w := by
  have hm' : zs.length ≤ 9223372036854775807 := by unfold maxLen at hm; omega
  have HD : Hid _ := h
  have HS : Hid _ := hz
  clear h hm hz
  go_enter Tryd.func24, Tryd.ntmps24
  go_wp2
  go_loop [3] (fun i => ∃ k : Nat, k ≤ zs.length ∧ i = .int .i64 k ∧ Light zs k) (fun i => zs.length - (intOf i).toNat)
  case atStart => exact ⟨0, Nat.zero_le _, rfl, fun j z hj => by omega⟩
  case round =>
    obtain ⟨k, hk, rfl, hL⟩ := hrel
    have HL : Hid (Light zs k) := hL
    clear hL
    rcases Nat.lt_or_ge k zs.length with hlt | hge
    · by_cases h200 : k < 200
      · obtain ⟨z, hz⟩ : ∃ z, zs[k]? = some z := ⟨_, List.getElem?_eq_getElem hlt⟩
        obtain ⟨g, off, rfl, c0, c1⟩ := DeedsIn.at HD.out hz
        have hsz : z.s.size ≤ 9223372036854775807 := by have := HS.out z (List.mem_of_getElem? hz); unfold maxLen at this; omega
        have h200' : (k : Int) < 200 := by omega
        have HZ : Hid (zs[k]? = some z) := hz
        clear hz
        by_cases hs : z.s.size ≤ 40
        · go_wp2
          go_round
          case rel => exact ⟨k + 1, hlt, by go_num, HL.out.more HZ.out hs⟩
          case measure => simp [intOf]; omega
        · go_wp2
          go_ret
          exact ⟨⟨true, rfl, fun e => by cases e⟩, rfl⟩
      · have h200' : ¬ ((k : Int) < 200) := by omega
        go_wp2
        go_ret
        exact ⟨⟨false, rfl, fun _ => HL.out.all (.inr (by omega))⟩, rfl⟩
    · go_wp2
      go_ret
      exact ⟨⟨false, rfl, fun _ => HL.out.all (.inl (by omega))⟩, rfl⟩
end Go.Proofs.YtnbfokmodjgaaabDoor
namespace Go.Proofs.YtnbfokmodjgaaabDoor
open Go.RowKit

section
variable {O D : Nat → Prop} {w w' : World} {e x b : Nat} {s : Stt} {ad : Option Addr} {cap : Nat} {zs : List ByteArray}
theorem key_size (H : AE e b s D w) {z : ByteArray} (h : z ∈ A.keys s) : z.size ≤ 1000 := by
  unfold A.keys at h
  rw [List.mem_append] at h
  rcases h with h | h
  · obtain ⟨x, hx, rfl⟩ := A.ks_mem.1 h
    exact (EN.size H (i := 0) (by omega) (by simpa [qs] using hx)).1
  · obtain ⟨x, hx, rfl⟩ := A.ks_mem.1 h
    exact (EN.size H (i := 1) (by omega) (by simpa [qs] using hx)).1
theorem key1 (h : A.Ok s) (k : ByteArray) : A.cnt k (A.keys s) + A.cnt k (A.ghosts s) ≤ 1 := by
  rw [A.keys_cnt, A.ghosts_cnt]
  exact h.one k
theorem keys_few (h : A.Ok s) : (A.keys s).length ≤ 1024 := by
  rw [A.keys_length]
  have := h.res
  have := h.hi
  omega
theorem Two.leftO {A B : (Nat → Prop) → World → Prop} (la : Lies A) (h : Two A B O w) : A (fun k => ¬ O k) w := by
  obtain ⟨Da, Db, ha, hb, h1, h2, h3⟩ := h
  exact la.wide ha (fun k e => (h1 k e).2.1)
theorem Both.eng {n : Nat} (h : Both e x b s (fun k => k < n) w) : AE e b s (fun k => n ≤ k) w := AE.wide (Two.leftO (AE_lies e b s) h) (fun k _ hk => by omega)
theorem Both.below (h : Both e x b s O w) (hb : Below w.heap.size w w') : Both e x b s O w' := Two.below (AE_lies e b s) (RE_lies x s) h hb
theorem both_start {w1 w2 : World} {c : Nat} (H : AE e 0 (A.start c) (w.heap.size ≤ ·) w1) (h1 : w.heap.size ≤ w1.heap.size) (HX : RE x (A.start c) (w1.heap.size ≤ ·) w2) (hk : Keeps (w1.heap.size ≤ ·) w1 w2) :
    Both e x 0 (A.start c) (fun k => k < w.heap.size) w2 := two_start (AE_lies _ _ _) (RE_lies _ _) H h1 HX hk
/-- a call on the engine leaves the row beside it alone -/
theorem Beside.on {b' : Nat} {s' : Stt} {f : FuncId} {args : Array Value} {Q : Ending → Prop} (h : Beside (AE e b s) ad cap zs D w) (hD : ∀ k, w.heap.size ≤ k → D k)
    (hc : ∀ D1, AE e b s D1 w → (∀ k, w.heap.size ≤ k → D1 k) → Calls Tryd.prog f args w fun ee w' => Q ee ∧ AE e b' s' D1 w' ∧ Keeps D1 w w') :
    Calls Tryd.prog f args w fun ee w' => Q ee ∧ Beside (AE e b' s') ad cap zs D w' ∧ Keeps D w w' := by
  obtain ⟨D1, h1, hA, hR⟩ := h
  refine (hc (fun k => D1 k ∨ w.heap.size ≤ k) (hA.wide (fun _ _ h => .inl h)) (fun _ h => .inr h)).mono ?_
  rintro ee w' ⟨hq, hA2, hk2⟩
  refine ⟨hq, ⟨fun k => (D1 k ∨ w.heap.size ≤ k) ∧ k < w'.heap.size, fun g hg => ?_, hA2.narrow, ?_⟩, hk2.mono ?_⟩
  · obtain ⟨h5, h6⟩ := hg
    rcases h5 with h5 | h5
    · exact ⟨(h1 g h5).1, h6⟩
    · exact ⟨hD g h5, h6⟩
  · refine (hR.narrow.kept hk2 ?_).wide ?_
    · rintro g ⟨⟨_, h3⟩, h4⟩ (h5 | h5)
      · exact h3 h5
      · omega
    · rintro g _ ⟨⟨h2, h3⟩, h4⟩
      refine ⟨h2, fun h5 => ?_⟩
      rcases h5.1 with h6 | h6
      · exact h3 h6
      · omega
  · rintro k h3 (h | h)
    · exact (h1 k h).1
    · exact hD k h
theorem Beside.has (h : Beside (AE e b s) ad cap zs D w) (hb : b ≤ 800000) (key : ByteArray) (hk : key.size ≤ 1000) :
    Calls Tryd.prog 13 #[.pointer (some ⟨e, 0, none⟩), .string key] w fun ee w' => ee = .returned (.bool (inb key (A.keys s))) ∧ Beside (AE e b s) ad cap zs D w' ∧ Below w.heap.size w w' := by
  refine (has_any h.eng hb key hk).mono ?_
  rintro ee w' ⟨rfl, hb1⟩
  exact ⟨rfl, h.below hb1, hb1⟩
end
end Go.Proofs.YtnbfokmodjgaaabDoor
