/- s3fifo, as one of the five: the program's behind the interface, the document's behind its kind. -/
import Derived.Test.YtkkkkiejnmpdkaaGreatDoorLw
import Derived.Test.YtkkkkiejnmpdkaaGreatDoorSfifoEu
import Derived.Test.YtkkkkiejnmpdkaaGreatDoorSfifoRf
namespace Go.Proofs.YtkkkkiejnmpdkaaGreatDoor.Sfifo
open Go.RowKit
set_option linter.unusedVariables false

theorem load_step {s : Stt} (key : ByteArray) (hok : A.Ok s) : A.Ok (A.load s key).2 := by
  by_cases hh : key ∈ A.keys s ∨ s.c ≤ (A.keys s).length
  · rw [A.load_no hh]; exact hok
  · exact (A.load_yes hok (fun e => hh (.inl e)) (by rcases Nat.lt_or_ge (A.keys s).length s.c with e | e; exact e; exact absurd (.inr e) hh)).2.1
/-- nobody went -/
def Bare (s : Stt) : Prop := s.b1 = []
theorem bare_step {s : Stt} (key : ByteArray) (h : Bare s) : Bare (A.load s key).2 := by
  by_cases hh : key ∈ A.keys s ∨ s.c ≤ (A.keys s).length
  · rw [A.load_no hh]; exact h
  · unfold A.load
    rw [if_neg hh]
    show A.less s.b1 key = []
    rw [show s.b1 = [] from h]; rfl
/-- no key is long -/
def Sized (s : Stt) : Prop := ∀ k : ByteArray, k ∈ A.ks s.t1 ∨ k ∈ A.ks s.t2 ∨ k ∈ A.ks s.b1 → k.size ≤ 1000
section
variable {D D' : Nat → Prop} {w w' : World} {e b x : Nat} {s : Stt}
theorem sized (H : AE e b s D w) : Sized s := by
  rintro k (h1 | h1 | h1)
  · obtain ⟨y, hy, rfl⟩ := A.ks_mem.1 h1
    exact (EN.size H (i := 0) (by omega) (by simpa [qs] using hy)).1
  · obtain ⟨y, hy, rfl⟩ := A.ks_mem.1 h1
    exact (EN.size H (i := 1) (by omega) (by simpa [qs] using hy)).1
  · obtain ⟨y, hy, rfl⟩ := A.ks_mem.1 h1
    exact (EN.size H (i := 2) (by omega) (by simpa [qs] using hy)).1
theorem stateM (H : AE e b s D w) (hok : A.Ok s) (hb2 : Bare s) (hb : b ≤ 1000) : Calls Tryz.prog 360 #[.pointer (some ⟨e, 0, none⟩)] w fun ee w' => ee = .returned (.string (stT s)) ∧ Below w.heap.size w w' := by
  have h := state_any H (by omega)
  rw [stT_eq]
  · exact h
  · exact hok.few
theorem ghostsM (H : AE e b s D w) (hb2 : Bare s) (hb : b ≤ 1000) : Calls Tryz.prog 353 #[.pointer (some ⟨e, 0, none⟩)] w fun ee w' => ∃ ad cap, ee = .returned (.slice ad 0 cap) ∧ Below w.heap.size w w' := by
  have hg : A.ghosts s = [] := by unfold A.ghosts; rw [show s.b1 = [] from hb2]; rfl
  refine (ghostsE_any H (by omega)).mono ?_
  rw [hg]
  rintro ee w' ⟨ad, cap, rfl, -, hb⟩
  exact ⟨ad, cap, rfl, hb⟩
abbrev RQ (x : Nat) (s : Stt) (D : Nat → Prop) (w : World) : Prop := RE x s D w
theorem RQ.below (H : RQ x s D w) (hb : Below w.heap.size w w') : RQ x s D w' := RE.below H hb
theorem RQ.kept (H : RQ x s D w) (hk : Keeps D' w w') (hd : ∀ k, D k → ¬ D' k) : RQ x s D w' := RE.kept H hk hd
theorem RQ.wide (H : RQ x s D w) (hD : ∀ k, k < w.heap.size → D k → D' k) : RQ x s D' w := RE.wide H hD
theorem RQ.narrow (H : RQ x s D w) : RQ x s (fun k => D k ∧ k < w.heap.size) w := H.wide (fun _ a h => ⟨h, a⟩)
theorem rnewQ (r : Int) (hD : ∀ k, w.heap.size ≤ k → D k) :
    Calls Tryz.prog 28 #[.int .i64 r] w fun e w' => ∃ x, e = .returned (.pointer (some ⟨x, 0, none⟩)) ∧ RQ x (A.start (heldC r)) D w' ∧ Keeps D w w' := rnew_any r hD
theorem rloadQ (H : RQ x s D w) (hok : A.Ok s) (hD : ∀ k, w.heap.size ≤ k → D k) (key : ByteArray) :
    Calls Tryz.prog 77 #[.pointer (some ⟨x, 0, none⟩), .string key] w fun e w' => e = .returned (.bool (A.load s key).1) ∧ RQ x (A.load s key).2 D w' ∧ Keeps D w w' := rload_any H hok hD key
theorem rkeysQ (H : RQ x s D w) (hok : A.Ok s) :
    Calls Tryz.prog 43 #[.pointer (some ⟨x, 0, none⟩)] w fun e w' => ∃ ad cap, e = .returned (.slice ad (A.keys s).length cap) ∧ Below w.heap.size w w' := by
  refine (rkeys_any H (Small.of hok)).mono ?_
  rintro e w' ⟨ad, cap, rfl, -, hb⟩
  exact ⟨ad, cap, rfl, hb⟩
theorem rstateQ (H : RQ x s D w) (hok : A.Ok s) (hz : Sized s) :
    Calls Tryz.prog 38 #[.pointer (some ⟨x, 0, none⟩)] w fun e w' => e = .returned (.string (stT s)) ∧ Below w.heap.size w w' := rstate_any H (Small.of hok) hok.few hz
/-- the document's, behind its kind -/
def XC (x : Nat) : Array Value := #[.int .i64 4, .pointer none, .pointer none, .pointer none, .pointer none, .pointer (some ⟨x, 0, none⟩)]
def RX (p : Nat) (s : Stt) (D : Nat → Prop) (w : World) : Prop := ∃ x D1, D p ∧ (∀ k, D1 k → D k ∧ k ≠ p) ∧ w.heap[p]? = some (.cells (XC x) 63 (0, 0)) ∧ RQ x s D1 w
theorem RX.below {p : Nat} (H : RX p s D w) (hb : Below w.heap.size w w') : RX p s D w' := by
  obtain ⟨x, D1, h1, h2, h3, h4⟩ := H
  exact ⟨x, D1, h1, h2, (hb.block p (lt_of_block h3)).trans h3, h4.below hb⟩
theorem xcells {p x : Nat} (h : w.heap[p]? = some (.cells (XC x) 63 (0, 0))) : w.cell? ⟨p, 0, none⟩ = some (.int .i64 4) ∧ w.cell? ⟨p, 5, none⟩ = some (.pointer (some ⟨x, 0, none⟩)) := by
  simp [World.cell?, h, XC]
set_option maxRecDepth 20000 in
theorem rnewM (w : World) (n : Int) : Calls Tryz.prog 8 #[.int .i64 4, .int .i64 n] w fun ee w' => ∃ p, ee = .returned (.tuple #[.pointer (some ⟨p, 0, none⟩), .int .i64 0]) ∧ RX p (A.start (heldC n)) (fun k => w.heap.size ≤ k) w' ∧ Below w.heap.size w w' := by
  have hnew := rnewQ (w := w.alloc (.cells #[.int .i64 4, .pointer none, .pointer none, .pointer none, .pointer none, .pointer none] 63)) (D := fun k => (w.alloc (.cells #[.int .i64 4, .pointer none, .pointer none, .pointer none, .pointer none, .pointer none] 63)).heap.size ≤ k) n (fun _ h => h)
  have hsz : (w.alloc (.cells #[.int .i64 4, .pointer none, .pointer none, .pointer none, .pointer none, .pointer none] 63)).heap.size = w.heap.size + 1 := by simp
  have hal := heap_alloc_new w (.cells #[.int .i64 4, .pointer none, .pointer none, .pointer none, .pointer none, .pointer none] 63)
  go_enter Tryz.func8, Tryz.ntmps8
  go_wp2_with (go_at_call 28; refine Calls.mono hnew ?_; clear hnew; rintro ee w1 ⟨x, rfl, h1, hk1⟩; have hblk := (hk1.block w.heap.size (by omega) (by show ¬ _ ≤ _; omega)).trans hal; have hc : w1.cell? ⟨w.heap.size, 5, none⟩ = some (.pointer none) := (by simp [World.cell?, hblk]); have hf : w1.frozen? ⟨w.heap.size, 5, none⟩ = false := (by simp [World.frozen?, hblk]); have HBk : Hid _ := hblk; have HQ : Hid _ := h1; have HK : Hid _ := hk1; clear hblk h1 hk1)
  go_ret2
  have hb1 : Below w.heap.size w w1 := ((Below.refl _ w).alloc (Nat.le_refl _) _).trans (HK.out.below (by omega) (fun k h => by omega))
  refine ⟨w.heap.size, rfl, ⟨x, fun k => w.heap.size + 1 ≤ k, Nat.le_refl _, fun k h => ⟨by omega, by omega⟩, ?_, ?_⟩, ?_⟩
  · rw [block_setCell HBk.out]
    rfl
  · refine RQ.kept (D' := fun k => k = w.heap.size) (RQ.wide (D' := fun k => w.heap.size + 1 ≤ k) HQ.out (fun k _ h => by omega)) ((Keeps.refl (fun k => k = w.heap.size) _).setCell (p := ⟨w.heap.size, 5, none⟩) rfl _) (fun k h e => by omega)
  · exact hb1.setCell (p := ⟨w.heap.size, 5, none⟩) (Nat.le_refl _) _
set_option maxRecDepth 20000 in
theorem rloadM {p : Nat} (H : RX p s D w) (hok : A.Ok s) (hD : ∀ k, w.heap.size ≤ k → D k) (key : ByteArray) : Calls Tryz.prog 30 #[.pointer (some ⟨p, 0, none⟩), .string key] w fun ee w' => (∃ r, ee = .returned (.bool r)) ∧ RX p (A.load s key).2 D w' ∧ Keeps D w w' := by
  obtain ⟨x, D1, h1, h2, h3, h4⟩ := H
  obtain ⟨c0, c1⟩ := xcells h3
  have hp := lt_of_block h3
  have hld := rloadQ (D := fun k => D1 k ∨ w.heap.size ≤ k) (h4.wide (fun _ _ h => .inl h)) hok (fun k h => .inr h) key
  have H3 : Hid _ := h3
  clear h3 h4
  go_enter Tryz.func30, Tryz.ntmps30
  go_wp2_with (go_at_call 77; refine Calls.mono hld ?_; clear hld; rintro ee w1 ⟨rfl, h5, hk5⟩)
  go_ret
  have hne : ¬ (D1 p ∨ w.heap.size ≤ p) := by
    rintro (h | h)
    · exact (h2 p h).2 rfl
    · omega
  refine ⟨⟨_, rfl⟩, ⟨x, _, h1, fun k h => ?_, (hk5.block p hp hne).trans H3.out, h5⟩, hk5.mono (fun k hk h => ?_)⟩
  · rcases h with h | h
    · exact h2 k h
    · exact ⟨hD k h, by omega⟩
  · rcases h with h | h
    · exact (h2 k h).1
    · omega
set_option maxRecDepth 20000 in
theorem rstateM {p : Nat} (H : RX p s D w) (hok : A.Ok s) (hz : Sized s) : Calls Tryz.prog 11 #[.pointer (some ⟨p, 0, none⟩)] w fun ee w' => ee = .returned (.string (stT s)) ∧ Below w.heap.size w w' := by
  obtain ⟨x, D1, h1, h2, h3, h4⟩ := H
  obtain ⟨c0, c1⟩ := xcells h3
  have hst := rstateQ h4 hok hz
  clear h3 h4
  go_enter Tryz.func11, Tryz.ntmps11
  go_wp2_with (go_at_call 38; refine Calls.mono hst ?_; clear hst; rintro ee w1 ⟨rfl, hb⟩; have HB : Hid _ := hb; clear hb)
  go_ret
  exact ⟨rfl, HB.out⟩
set_option maxRecDepth 20000 in
theorem rkeysM {p : Nat} (H : RX p s D w) (hok : A.Ok s) : Calls Tryz.prog 13 #[.pointer (some ⟨p, 0, none⟩)] w fun ee w' => ∃ ad cap, ee = .returned (.slice ad (A.keys s).length cap) ∧ Below w.heap.size w w' := by
  obtain ⟨x, D1, h1, h2, h3, h4⟩ := H
  obtain ⟨c0, c1⟩ := xcells h3
  have hst := rkeysQ h4 hok
  clear h3 h4
  go_enter Tryz.func13, Tryz.ntmps13
  go_wp2_with (go_at_call 43; refine Calls.mono hst ?_; clear hst; rintro ee w1 ⟨ad, cap, rfl, hb⟩; have HB : Hid _ := hb; clear hb)
  go_ret
  exact ⟨ad, cap, rfl, HB.out⟩
theorem rlenM {p : Nat} (H : RX p s D w) (hok : A.Ok s) : Calls Tryz.prog 10 #[.pointer (some ⟨p, 0, none⟩)] w fun ee w' => ee = .returned (.int .i64 ((A.keys s).length : Nat)) ∧ Below w.heap.size w w' := by
  have hk := rkeysM H hok
  clear H
  go_enter Tryz.func10, Tryz.ntmps10
  go_wp2_with (go_at_call 13; refine Calls.mono hk ?_; clear hk; rintro ee w1 ⟨ad, cap, rfl, hb⟩; have HB : Hid _ := hb; clear hb)
  go_ret
  exact ⟨rfl, HB.out⟩
end
theorem newM15 (w : World) (n : Int) : Calls Tryz.prog 7 #[.int .i64 4, .int .i64 n] w fun ee w' => ∃ e, ee = .returned (.tuple #[.iface 55 (.pointer (some ⟨e, 0, none⟩)), .int .i64 0]) ∧ AE e 0 (A.start (heldC n)) (fun k => w.heap.size ≤ k) w' ∧ Below w.heap.size w w' := by
  have hnew := new_any w (fun k => w.heap.size ≤ k) (fun _ h => h) n
  go_enter Tryz.func7, Tryz.ntmps7
  go_wp2_with (go_at_call 23; refine Calls.mono hnew ?_; clear hnew; rintro ee w1 ⟨e, rfl, h1, hk1⟩)
  go_ret2
  exact ⟨e, rfl, h1, hk1.below (Nat.le_refl _) (fun _ h => h)⟩
/-- s3fifo, one of the five -/
def mach : Mach where
  St := Stt
  K := 4
  T := 55
  fLoad := 357
  fState := 360
  fLen := 356
  fGhosts := 353
  AE := AE
  RX := RX
  start n := A.start (heldC n)
  ok := A.Ok
  bare := Bare
  small := Sized
  step s k := (A.load s k).2
  kl s := (A.keys s).length
  text := stT
  start_ok n := ⟨A.start_ok (heldC_in n).1 (heldC_in n).2, rfl⟩
  step_ok k h h2 := ⟨load_step k h, bare_step k h2⟩
  below h hb := h.below hb
  rbelow h hb := h.below hb
  sized h := sized h
  eLoad _ _ := by kernel_rfl
  eState _ _ := by kernel_rfl
  eLen _ _ := by kernel_rfl
  eGhosts _ _ := by kernel_rfl
  mLoad _ _ := by kernel_rfl
  mState _ _ := by kernel_rfl
  mLen _ _ := by kernel_rfl
  mGhosts _ _ := by kernel_rfl
  new := newM15
  load h hok hD hb key hk := (load_any h hok hD hb key hk).mono (by rintro ee w' ⟨rfl, h1, h2⟩; exact ⟨⟨_, rfl⟩, h1, h2⟩)
  state h hok h2 hb := stateM h hok h2 hb
  len h _ hb := keys_any h (by omega)
  ghosts h h2 hb := ghostsM h h2 hb
  rnew := rnewM
  rload h hok hD key _ := rloadM h hok hD key
  rstate h hok hz := rstateM h hok hz
  rlen h hok := rlenM h hok
end Go.Proofs.YtkkkkiejnmpdkaaGreatDoor.Sfifo
