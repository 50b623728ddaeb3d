/- Keys that come twice each stay, however many others come once: the law returns true for every room and all keys, and its arguments read as they did; the variables of the library that the row lists are tied to the text of the program. -/
import Derived.Test.YtmelgoljceomeabDoorRows
import Derived.Test.YtmelgoljceomeabDoorTie
import Derived.Test.YtmelgoljceomeabDoorCards
import Derived.Test.YtmelgoljceomeabDoorAj
import Derived.WalkKit
import Derived.ProofKit
import Derived.OpenShut
import Derived.ShutString
import Derived.ChangeOld
import Derived.Below
import Derived.Carry
import Derived.SizedLaws
import Derived.LaidMore
import Derived.Lay
import Derived.SevenTiedAt
import Derived.Stop.Joined
namespace Go.Proofs.YtmelgoljceomeabDoor.arcOften
open Go.ChangeShapes Go.WideShapes Go.ChangeAt Go.RowKit
open Go.ChangeMaps (open_string shut_string)
set_option linter.unusedVariables false

theorem own : ownKnob Tryd.prog.godebug = none := by kernel_rfl
theorem laidOut : laidOutB Tryd.prog = true := by kernel_rfl
/-- Access, as the machine goes on -/
theorem acc_goes {D : Nat → Prop} {w : World} {e b : Nat} {s : Stt} (H : AE e b s D w) (hok : A.Ok s) (hD : ∀ k, w.heap.size ≤ k → D k) (hb : b ≤ 600000) (key : ByteArray) (hk : key.size ≤ 1000) :
    Calls Tryd.prog 9 #[.pointer (some ⟨e, 0, none⟩), .string key] w fun ee w' => ∃ v u, ee = .returned (.tuple #[.bool v, u]) ∧ AE e (b + 2) (A.access s key).2.2 D w' ∧ Keeps D w w' := by
  refine (acc_any H hok hD hb key hk).mono ?_
  rintro ee w' ⟨ad, cap, rfl, ⟨D1, h1, h2, _⟩, hk2⟩
  exact ⟨_, _, rfl, h2.wide (fun k _ hk => (h1 k hk).1), hk2⟩
/-- behind the keys that come twice -/
structure Bd1 (s : Stt) (c : Nat) (zs : List ByteArray) (k : Nat) : Prop where
  tw : A.Twice s
  c : s.c = c
  mem : ∀ x, x ∈ s.t2 ↔ x ∈ zs.take k
  len : s.t2.length ≤ k
theorem Bd1.step {s : Stt} {c : Nat} {zs : List ByteArray} {k : Nat} {z : ByteArray} (h : Bd1 s c zs k) (hz : zs[k]? = some z) (hl : zs.length < c) : Bd1 (A.access (A.access s z).2.2 z).2.2 c zs (k + 1) := by
  have hk := lt_of_at hz
  obtain ⟨h1, h2, h3, h4⟩ := A.twice_two h.tw z (by have := h.len; have := h.c; omega)
  refine ⟨h1, by rw [h2, h.c], fun x => ?_, by have := h.len; omega⟩
  rw [h3, h.mem, List.take_add_one, hz]
  simp
/-- behind those that come once -/
structure Bd2 (s : Stt) (c : Nat) (zs ys : List ByteArray) (k : Nat) : Prop where
  mem : ∀ x, x ∈ s.t2 ↔ x ∈ zs
  of : A.Often s s.t2
  c : s.c = c
  seen : ∀ x, 0 < A.cnt x s.t1 + A.cnt x s.b1 → x ∈ ys.take k
theorem Bd2.step {s : Stt} {c : Nat} {zs ys : List ByteArray} {k : Nat} {y : ByteArray} (h : Bd2 s c zs ys k) (hy : ys[k]? = some y) (h1 : y ∉ zs) (h2 : y ∉ ys.take k) : Bd2 (A.access s y).2.2 c zs ys (k + 1) := by
  have hb2 : A.cnt y s.b2 = 0 := by rw [h.of.b2]; rfl
  have ht2 : A.cnt y s.t2 = 0 := A.cnt_zero.2 (fun e => h1 ((h.mem y).1 e))
  have h0 : ¬ 0 < A.cnt y s.t1 + A.cnt y s.b1 := fun e => h2 (h.seen y e)
  obtain ⟨o1, o2, o3⟩ := A.often_new h.of (key := y) (by omega)
  have e2 := o1.t2
  refine ⟨fun x => by rw [e2]; exact h.mem x, by rw [e2]; exact o1, by rw [o2, h.c], fun x hx => ?_⟩
  rw [List.take_add_one, hy]
  by_cases e : y = x
  · subst e; simp
  · have := o3 x
    rw [A.one_ne e] at this
    exact List.mem_append_left _ (h.seen x (by omega))
section
variable {H : Type} {enc : TypeId × Value → H} {W : World} {a : Option Addr} {len cap : Nat} {d : DataW H} {ps : List MemPlace}
theorem cap_texts (h : DataW.Trod enc Tryd.prog W 0 (fun _ => true) true 23 (.slice a len cap) d ps) : len ≤ cap ∧ cap ≤ maxLen := by
  obtain ⟨fuel, hf⟩ := h
  rcases Go.Deep.open_strs Tryd.underlying23 Tryd.underlying9 (by kernel_rfl) hf with ⟨hcs, _⟩ | ⟨x, l, c, m, Sx, hcs, _, hl, hm, hmm, hd, hcell⟩
  · simp [Value.cells] at hcs
    obtain ⟨rfl, rfl, rfl⟩ := hcs
    exact ⟨Nat.zero_le _, Nat.zero_le _⟩
  · simp [Value.cells] at hcs
    obtain ⟨rfl, rfl, rfl⟩ := hcs
    exact ⟨by omega, by omega⟩
end
theorem Bd1.go {s : Stt} {c : Nat} {zs ys : List ByteArray} (h : Bd1 s c zs zs.length) (hl : zs.length < c) : Bd2 s c zs ys 0 :=
  ⟨fun x => by rw [h.mem, List.take_length], h.tw.often (by have := h.len; have := h.c; omega), h.c, fun x hx => by
    exfalso
    rw [h.tw.t1, h.tw.b1] at hx
    exact Nat.lt_irrefl _ hx⟩
theorem rowIn_take {w : World} {ad : Option Addr} {zs : List ByteArray} (h : RowIn Value.string w ad zs) (k : Nat) : RowIn Value.string w ad (zs.take k) := by
  rcases h with h | ⟨g, off, e, h⟩
  · exact .inl (by rw [h]; simp)
  · refine .inr ⟨g, off, e, fun i z hz => h i z ?_⟩
    rw [List.getElem?_take] at hz
    split at hz
    · exact hz
    · cases hz
theorem lhas_of {w : World} {ad : Option Addr} {cap n : Nat} {zs : List ByteArray} (h : RowIn Value.string w ad zs) (hn : zs.length = n) (hm : n ≤ 9223372036854775807) (hx : zs.length ≤ maxLen) (key : ByteArray) (v : Bool) (hv : inb key zs = v) :
    Calls Tryd.prog 22 #[.slice ad n cap, .string key] w fun e w' => e = .returned (.bool v) ∧ w' = w := by
  subst hn hv
  exact lhas_any h hx key

set_option maxRecDepth 20000 in
set_option maxHeartbeats 1000000 in
theorem walk (w : World) (a0 : Int) (w0 : (Lit.int .i64 a0).wf = true) (a1 : Option Addr) (len1 cap1 : Nat) (z1 : List ByteArray) (e1 : z1.length = len1) (m1 : len1 ≤ maxLen) (r1 : RowIn Value.string w a1 z1) (x1 : ∀ z ∈ z1, z.size ≤ 140737488351232) (a2 : Option Addr) (len2 cap2 : Nat) (z2 : List ByteArray) (e2 : z2.length = len2) (m2 : len2 ≤ maxLen) (r2 : RowIn Value.string w a2 z2) (x2 : ∀ z ∈ z2, z.size ≤ 140737488351232) (p2 : len2 ≤ cap2 ∧ cap2 ≤ maxLen) :
    Calls Tryd.prog 4 #[.int .i64 a0, .slice a1 len1 cap1, .slice a2 len2 cap2] w fun e w' => e = .returned (.bool true) ∧ Below w.heap.size w w' := by
  subst e1 e2
  obtain ⟨b0, b1⟩ := bounds_i64 w0
  have hlg1 := long_any (cap := cap1) r1 m1 x1
  have hlg2 := long_any (cap := cap2) r2 m2 x2
  have M1 : z1.length ≤ 9223372036854775807 := by unfold maxLen at m1; omega
  have M2 : z2.length ≤ 9223372036854775807 := by unfold maxLen at m2; omega
  have M3 : cap2 ≤ 9223372036854775807 := by have := p2.2; unfold maxLen at this; omega
  have M4 : z2.length ≤ cap2 := p2.1
  have HR1 : Hid (RowIn Value.string w a1 z1) := r1
  have HR2 : Hid (RowIn Value.string w a2 z2) := r2
  clear r1 x1 r2 x2 p2
  by_cases hr1 : a0 < 1
  · clear hlg1 hlg2
    go_enter Tryd.func4, Tryd.ntmps4
    go_wp2_with fail
    go_ret
    exact ⟨rfl, Below.refl _ _⟩
  by_cases hr2 : 50 < a0
  · clear hlg1 hlg2
    go_enter Tryd.func4, Tryd.ntmps4
    go_wp2_with fail
    go_ret
    exact ⟨rfl, Below.refl _ _⟩
  by_cases hr3 : a0 - 1 < (z1.length : Int)
  · clear hlg1 hlg2
    go_enter Tryd.func4, Tryd.ntmps4
    go_wp2_with fail
    go_ret
    exact ⟨rfl, Below.refl _ _⟩
  cases hl1 : lng z1 with
  | true =>
    rw [hl1] at hlg1
    clear hlg2
    go_enter Tryd.func4, Tryd.ntmps4
    go_wp2_with (go_at_call 20; refine Calls.mono hlg1 ?_; clear hlg1; rintro ee w1 ⟨rfl, rfl⟩)
    go_ret
    exact ⟨rfl, Below.refl _ _⟩
  | false =>
    rw [hl1] at hlg1
    cases hl2 : lng z2 with
    | true =>
      rw [hl2] at hlg2
      go_enter Tryd.func4, Tryd.ntmps4
      go_wp2_with (first
        | (go_at_call 20; refine Calls.mono hlg1 ?_; clear hlg1; rintro ee w1 ⟨rfl, rfl⟩)
        | (go_at_call 20; refine Calls.mono hlg2 ?_; clear hlg2; rintro ee w1 ⟨rfl, rfl⟩))
      go_ret
      exact ⟨rfl, Below.refl _ _⟩
    | false =>
      rw [hl2] at hlg2
      obtain ⟨hz1, hq1⟩ := lng_no hl1
      obtain ⟨hz2, hq2⟩ := lng_no hl2
      have HZ1 : Hid (∀ z ∈ z1, z.size ≤ 40) := hq1
      have HZ2 : Hid (∀ z ∈ z2, z.size ≤ 40) := hq2
      have hnew := new_any w (fun k => w.heap.size ≤ k) (fun _ h => h) a0
      have HC : Hid (z1.length < heldC a0) := by
        show z1.length < heldC a0
        unfold heldC
        omega
      clear hl1 hl2 hq1 hq2
      go_enter Tryd.func4, Tryd.ntmps4
      go_wp2_with (first
        | (go_at_call 20; refine Calls.mono hlg1 ?_; clear hlg1; rintro ee w1 ⟨rfl, rfl⟩)
        | (go_at_call 20; refine Calls.mono hlg2 ?_; clear hlg2; rintro ee w1 ⟨rfl, rfl⟩)
        | (go_at_call 21; refine Calls.mono hnew ?_; clear hnew; rintro ee w2 ⟨e, rfl, h2, hk2⟩; have H2 : Hid (AE e 0 (A.start (heldC a0)) (fun k => w1.heap.size ≤ k) w2) := h2; have HB2 : Hid (Below w1.heap.size w1 w2) := (hk2.below (Nat.le_refl _) (fun _ h => h)); clear h2 hk2))
      go_loopw [8] (fun i wr => ∃ (k : Nat) (s : Stt), k ≤ z1.length ∧ i = .int .i64 k ∧ Bd1 s (heldC a0) z1 k ∧ AE e (4 * k) s (fun j => w1.heap.size ≤ j) wr ∧ Below w1.heap.size w1 wr) (fun i _ => z1.length - (intOf i).toNat)
      case atStart => exact ⟨0, A.start (heldC a0), Nat.zero_le _, rfl, ⟨A.start_twice (heldC_in a0).1 (heldC_in a0).2, rfl, fun x => by simp [A.start], Nat.le_refl _⟩, H2.out, HB2.out⟩
      case round =>
        obtain ⟨k, s, hk, rfl, hI, hA, hB⟩ := hrel
        have HI : Hid (Bd1 s (heldC a0) z1 k) := hI
        have HA : Hid (AE e (4 * k) s (fun j => w1.heap.size ≤ j) wr) := hA
        have HB : Hid (Below w1.heap.size w1 wr) := hB
        clear hI hA hB
        rcases Nat.lt_or_ge k z1.length with hlt | hge
        · obtain ⟨z, hz⟩ : ∃ z, z1[k]? = some z := ⟨_, List.getElem?_eq_getElem hlt⟩
          obtain ⟨gg, off, rfl, cz1⟩ := HR1.out.at hz
          have cz := cell_later HB.out cz1
          have HCZ : Hid (w1.cell? ⟨gg, off + k, none⟩ = some (.string z)) := cz1
          clear cz1
          have hzs := HZ1.out z (List.mem_of_getElem? hz)
          have HZ : Hid (z1[k]? = some z) := hz
          have hacc := acc_goes HA.out HI.out.tw.ok (fun j hj => Nat.le_trans HB.out.size hj) (by omega) z (by omega)
          clear hz
          go_wp2_with (first
            | (go_at_call 9; refine Calls.mono hacc ?_; clear hacc; rintro ee w3 ⟨v3, u3, rfl, h3, hk3⟩; have HB3 : Hid (Below w1.heap.size w1 w3) := (((Keeps.of_below (D := fun j => w1.heap.size ≤ j) HB.out).trans hk3).below (Nat.le_refl _) (fun _ h => h)); have hacc2 := acc_goes h3 (A.acc_any HI.out.tw.ok z).1 (fun j hj => Nat.le_trans HB3.out.size hj) (by omega) z (by omega); have cz3 := cell_later HB3.out HCZ.out; clear h3 hk3)
            | (go_at_call 9; refine Calls.mono hacc2 ?_; clear hacc2; rintro ee w4 ⟨v4, u4, rfl, h4, hk4⟩; have H4 : Hid (AE e (4 * k + 2 + 2) (A.access (A.access s z).2.2 z).2.2 (fun j => w1.heap.size ≤ j) w4) := h4; have HB4 : Hid (Below w1.heap.size w1 w4) := (((Keeps.of_below (D := fun j => w1.heap.size ≤ j) HB3.out).trans hk4).below (Nat.le_refl _) (fun _ h => h)); clear h4 hk4))
          go_roundw
          case rel => exact ⟨k + 1, _, hlt, by go_num, HI.out.step HZ.out HC.out, H4.out, HB4.out⟩
          case measure => simp [intOf]; omega
        · have hk' : k = z1.length := by omega
          subst hk'
          have HI2 : Hid (Bd2 s (heldC a0) z1 z2 0) := HI.out.go HC.out
          clear HI
          go_wp2_with fail
          go_loopw [9] (fun i wr' => ∃ (k : Nat) (t : Stt), k ≤ z2.length ∧ i = .int .i64 k ∧ Bd2 t (heldC a0) z1 z2 k ∧ AE e (4 * z1.length + 2 * k) t (fun j => w1.heap.size ≤ j) wr' ∧ Below w1.heap.size w1 wr') (fun i _ => z2.length - (intOf i).toNat)
          case atStart => exact ⟨0, s, Nat.zero_le _, rfl, HI2.out, HA.out, HB.out⟩
          case round =>
            clear HI2 HA HB
            obtain ⟨k, t, hk, rfl, hI, hA, hB⟩ := hrel
            have HU : Hid (Bd2 t (heldC a0) z1 z2 k) := hI
            have HA : Hid (AE e (4 * z1.length + 2 * k) t (fun j => w1.heap.size ≤ j) _) := hA
            have HV : Hid (Below w1.heap.size w1 _) := hB
            clear hI hA hB
            rcases Nat.lt_or_ge k z2.length with hlt | hge
            · obtain ⟨y, hy⟩ : ∃ y, z2[k]? = some y := ⟨_, List.getElem?_eq_getElem hlt⟩
              obtain ⟨gg, off, rfl, cy1⟩ := HR2.out.at hy
              have cy := cell_later HV.out cy1
              have hys := HZ2.out y (List.mem_of_getElem? hy)
              have HY : Hid (z2[k]? = some y) := hy
              clear cy1 hy
              cases hv1 : inb y z1 with
              | true =>
                have hh1 := fun W (hW : Below _ _ W) => lhas_of (w := W) (cap := cap1) ((HR1.out.later HV.out).later hW) rfl M1 m1 y true hv1
                have HH1 : Hid _ := hh1
                clear hv1 hh1
                go_wp2_with fail
                refine region_same (by kernel_rfl) 15 60 rfl (fun j => [(.slice a1 z1.length cap1 : Value), (.slice (some ⟨gg, off, none⟩) z2.length cap2 : Value), (.int .i64 (k : Nat) : Value), (.pointer (some ⟨gg, off + k, none⟩) : Value), (.string y : Value), (.bool true : Value), (.bool true : Value), (undef : Value), (undef : Value), (undef : Value), (undef : Value), (undef : Value), (undef : Value), (undef : Value), (undef : Value), (.bool true : Value)].getD j undef) (lex_of (by kernel_rfl)) (wait_of (by kernel_rfl)) (by simp) ?_ ?_
                · intro i hi a' hst hdep Kc hKc
                  have hcase : i = 0 ∨ i = 1 ∨ i = 2 ∨ i = 3 ∨ i = 4 ∨ i = 5 ∨ i = 6 ∨ i = 7 ∨ i = 8 ∨ i = 9 ∨ i = 10 ∨ i = 11 ∨ i = 12 ∨ i = 13 ∨ i = 14 ∨ i = 15 := by omega
                  rcases hcase with e1 | e1 | e1 | e1 | e1 | e1 | e1 | e1 | e1 | e1 | e1 | e1 | e1 | e1 | e1 | e1
                  · subst e1
                    have o1 := hst.at 1 (by omega)
                    simp at o1
                    refine still_op rfl rfl ?_
                    simp [Oper.wp, execOp, Act.eval, go_sem, o1]
                    exact hKc
                  · subst e1
                    have o2 := hst.at 2 (by omega)
                    simp at o2
                    refine still_op rfl rfl ?_
                    simp [Oper.wp, execOp, Act.eval, go_sem, o2]
                    exact hKc
                  · subst e1
                    have o9 := hst.at 9 (by omega)
                    simp at o9
                    refine still_op rfl rfl ?_
                    simp [Oper.wp, execOp, Act.eval, go_sem, o9]
                    exact hKc
                  · subst e1
                    have d1 : a'.tmps[61]?.getD undef = .slice (some ⟨gg, off, none⟩) z2.length cap2 := by simpa using hdep 1 (by kernel_rfl)
                    have d2 : a'.tmps[62]?.getD undef = .int .i64 (k : Nat) := by simpa using hdep 2 (by kernel_rfl)
                    refine still_op rfl rfl ?_
                    simp [Oper.wp, execOp, Act.eval, go_sem, d1, d2, hlt]
                    exact hKc
                  · subst e1
                    have d3 : a'.tmps[63]?.getD undef = .pointer (some ⟨gg, off + k, none⟩) := by simpa using hdep 3 (by kernel_rfl)
                    refine still_op rfl rfl ?_
                    simp [Oper.wp, execOp, Act.eval, go_sem, d3, cy]
                    exact hKc
                  · subst e1
                    have d0 : a'.tmps[60]?.getD undef = .slice a1 z1.length cap1 := by simpa using hdep 0 (by kernel_rfl)
                    have d4 : a'.tmps[64]?.getD undef = .string y := by simpa using hdep 4 (by kernel_rfl)
                    refine still_op rfl rfl ?_
                    simp [Oper.wp, execOp, Act.eval, go_sem, d0, d4]
                    refine Calls.mono (HH1.out _ (Below.refl _ _).drew) ?_
                    rintro ee w5 ⟨rfl, rfl⟩
                    exact hKc
                  · subst e1
                    have d5 : a'.tmps[65]?.getD undef = .bool true := by simpa using hdep 5 (by kernel_rfl)
                    refine still_op rfl rfl ?_
                    simp [Oper.wp, execOp, Act.eval, go_sem, d5]
                    exact hKc
                  · subst e1
                    exact still_off rfl rfl rfl rfl (hdep 6 (by kernel_rfl)) rfl hKc
                  · subst e1
                    exact still_off rfl rfl rfl rfl (hdep 6 (by kernel_rfl)) rfl hKc
                  · subst e1
                    exact still_off rfl rfl rfl rfl (hdep 6 (by kernel_rfl)) rfl hKc
                  · subst e1
                    exact still_off rfl rfl rfl rfl (hdep 6 (by kernel_rfl)) rfl hKc
                  · subst e1
                    exact still_off rfl rfl rfl rfl (hdep 6 (by kernel_rfl)) rfl hKc
                  · subst e1
                    exact still_off rfl rfl rfl rfl (hdep 6 (by kernel_rfl)) rfl hKc
                  · subst e1
                    exact still_off rfl rfl rfl rfl (hdep 6 (by kernel_rfl)) rfl hKc
                  · subst e1
                    exact still_off rfl rfl rfl rfl (hdep 6 (by kernel_rfl)) rfl hKc
                  · subst e1
                    have d6 : a'.tmps[66]?.getD undef = .bool true := by simpa using hdep 6 (by kernel_rfl)
                    refine still_op rfl rfl ?_
                    simp [Oper.wp, execOp, Act.eval, go_sem, d6]
                    exact hKc
                simp only [fillA, Act.put, List.setIfInBounds_toArray, List.set_cons_succ, List.set_cons_zero, List.getD_cons_zero, List.getD_cons_succ, Nat.reduceAdd, Nat.add_zero]
                go_wp2_with (go_at_call 19; refine (known_any _).mono ?_; rintro ee w6 ⟨rfl, hb6⟩; have HE6 : Hid (Below w1.heap.size w1 w6) := (below_trans' (below_trans' HV.out (by first | exact Below.refl _ _ | exact (Below.refl _ _).drew | exact ((Below.refl _ _).drew).drew)) hb6); clear hb6)
                go_ret
                exact ⟨rfl, HE6.out⟩
              | false =>
                have hh1 := fun W (hW : Below _ _ W) => lhas_of (w := W) (cap := cap1) ((HR1.out.later HV.out).later hW) rfl M1 m1 y false hv1
                have HH1 : Hid _ := hh1
                have hn1 : y ∉ z1 := fun h => by rw [inb_yes h] at hv1; cases hv1
                have HN1 : Hid (y ∉ z1) := hn1
                clear hv1 hn1 hh1
                cases hv2 : inb y (z2.take k) with
                | true =>
                  have hh2 := fun W (hW : Below _ _ W) => lhas_of (w := W) (cap := cap2) (rowIn_take ((HR2.out.later HV.out).later hW) k) (List.length_take_of_le hk) (by omega) (by rw [List.length_take_of_le hk]; exact Nat.le_trans hk m2) y true hv2
                  have HH2 : Hid _ := hh2
                  clear hv2 hh2
                  go_wp2_with fail
                  have hkc : (k : Int) ≤ (cap2 : Int) := by omega
                  refine region_same (by kernel_rfl) 15 60 rfl (fun j => [(.slice a1 z1.length cap1 : Value), (.slice (some ⟨gg, off, none⟩) z2.length cap2 : Value), (.int .i64 (k : Nat) : Value), (.pointer (some ⟨gg, off + k, none⟩) : Value), (.string y : Value), (.bool false : Value), (.bool false : Value), (.slice (some ⟨gg, off, none⟩) z2.length cap2 : Value), (.int .i64 (k : Nat) : Value), (.slice (some ⟨gg, off, none⟩) k cap2 : Value), (.slice (some ⟨gg, off, none⟩) z2.length cap2 : Value), (.int .i64 (k : Nat) : Value), (.pointer (some ⟨gg, off + k, none⟩) : Value), (.string y : Value), (.bool true : Value), (.bool true : Value)].getD j undef) (lex_of (by kernel_rfl)) (wait_of (by kernel_rfl)) (by simp) ?_ ?_
                  · intro i hi a' hst hdep Kc hKc
                    have hcase : i = 0 ∨ i = 1 ∨ i = 2 ∨ i = 3 ∨ i = 4 ∨ i = 5 ∨ i = 6 ∨ i = 7 ∨ i = 8 ∨ i = 9 ∨ i = 10 ∨ i = 11 ∨ i = 12 ∨ i = 13 ∨ i = 14 ∨ i = 15 := by omega
                    rcases hcase with e1 | e1 | e1 | e1 | e1 | e1 | e1 | e1 | e1 | e1 | e1 | e1 | e1 | e1 | e1 | e1
                    · subst e1
                      have o1 := hst.at 1 (by omega)
                      simp at o1
                      refine still_op rfl rfl ?_
                      simp [Oper.wp, execOp, Act.eval, go_sem, o1]
                      exact hKc
                    · subst e1
                      have o2 := hst.at 2 (by omega)
                      simp at o2
                      refine still_op rfl rfl ?_
                      simp [Oper.wp, execOp, Act.eval, go_sem, o2]
                      exact hKc
                    · subst e1
                      have o9 := hst.at 9 (by omega)
                      simp at o9
                      refine still_op rfl rfl ?_
                      simp [Oper.wp, execOp, Act.eval, go_sem, o9]
                      exact hKc
                    · subst e1
                      have d1 : a'.tmps[61]?.getD undef = .slice (some ⟨gg, off, none⟩) z2.length cap2 := by simpa using hdep 1 (by kernel_rfl)
                      have d2 : a'.tmps[62]?.getD undef = .int .i64 (k : Nat) := by simpa using hdep 2 (by kernel_rfl)
                      refine still_op rfl rfl ?_
                      simp [Oper.wp, execOp, Act.eval, go_sem, d1, d2, hlt]
                      exact hKc
                    · subst e1
                      have d3 : a'.tmps[63]?.getD undef = .pointer (some ⟨gg, off + k, none⟩) := by simpa using hdep 3 (by kernel_rfl)
                      refine still_op rfl rfl ?_
                      simp [Oper.wp, execOp, Act.eval, go_sem, d3, cy]
                      exact hKc
                    · subst e1
                      have d0 : a'.tmps[60]?.getD undef = .slice a1 z1.length cap1 := by simpa using hdep 0 (by kernel_rfl)
                      have d4 : a'.tmps[64]?.getD undef = .string y := by simpa using hdep 4 (by kernel_rfl)
                      refine still_op rfl rfl ?_
                      simp [Oper.wp, execOp, Act.eval, go_sem, d0, d4]
                      refine Calls.mono (HH1.out _ (Below.refl _ _).drew) ?_
                      rintro ee w5 ⟨rfl, rfl⟩
                      exact hKc
                    · subst e1
                      have d5 : a'.tmps[65]?.getD undef = .bool false := by simpa using hdep 5 (by kernel_rfl)
                      refine still_op rfl rfl ?_
                      simp [Oper.wp, execOp, Act.eval, go_sem, d5]
                      exact hKc
                    · subst e1
                      have o2 := hst.at 2 (by omega)
                      simp at o2
                      refine still_on rfl rfl rfl rfl (hdep 6 (by kernel_rfl)) ?_
                      simp [Oper.wp, execOp, Act.eval, go_sem, o2]
                      exact hKc
                    · subst e1
                      have o9 := hst.at 9 (by omega)
                      simp at o9
                      refine still_on rfl rfl rfl rfl (hdep 6 (by kernel_rfl)) ?_
                      simp [Oper.wp, execOp, Act.eval, go_sem, o9]
                      exact hKc
                    · subst e1
                      have d7 : a'.tmps[67]?.getD undef = .slice (some ⟨gg, off, none⟩) z2.length cap2 := by simpa using hdep 7 (by kernel_rfl)
                      have d8 : a'.tmps[68]?.getD undef = .int .i64 (k : Nat) := by simpa using hdep 8 (by kernel_rfl)
                      refine still_on rfl rfl rfl rfl (hdep 6 (by kernel_rfl)) ?_
                      simp [Oper.wp, execOp, Act.eval, go_sem, d7, d8, hkc]
                      exact hKc
                    · subst e1
                      have o2 := hst.at 2 (by omega)
                      simp at o2
                      refine still_on rfl rfl rfl rfl (hdep 6 (by kernel_rfl)) ?_
                      simp [Oper.wp, execOp, Act.eval, go_sem, o2]
                      exact hKc
                    · subst e1
                      have o9 := hst.at 9 (by omega)
                      simp at o9
                      refine still_on rfl rfl rfl rfl (hdep 6 (by kernel_rfl)) ?_
                      simp [Oper.wp, execOp, Act.eval, go_sem, o9]
                      exact hKc
                    · subst e1
                      have d10 : a'.tmps[70]?.getD undef = .slice (some ⟨gg, off, none⟩) z2.length cap2 := by simpa using hdep 10 (by kernel_rfl)
                      have d11 : a'.tmps[71]?.getD undef = .int .i64 (k : Nat) := by simpa using hdep 11 (by kernel_rfl)
                      refine still_on rfl rfl rfl rfl (hdep 6 (by kernel_rfl)) ?_
                      simp [Oper.wp, execOp, Act.eval, go_sem, d10, d11, hlt]
                      exact hKc
                    · subst e1
                      have d12 : a'.tmps[72]?.getD undef = .pointer (some ⟨gg, off + k, none⟩) := by simpa using hdep 12 (by kernel_rfl)
                      refine still_on rfl rfl rfl rfl (hdep 6 (by kernel_rfl)) ?_
                      simp [Oper.wp, execOp, Act.eval, go_sem, d12, cy]
                      exact hKc
                    · subst e1
                      have d9 : a'.tmps[69]?.getD undef = .slice (some ⟨gg, off, none⟩) k cap2 := by simpa using hdep 9 (by kernel_rfl)
                      have d13 : a'.tmps[73]?.getD undef = .string y := by simpa using hdep 13 (by kernel_rfl)
                      refine still_on rfl rfl rfl rfl (hdep 6 (by kernel_rfl)) ?_
                      simp [Oper.wp, execOp, Act.eval, go_sem, d9, d13]
                      refine Calls.mono (HH2.out _ (Below.refl _ _).drew) ?_
                      rintro ee w5 ⟨rfl, rfl⟩
                      exact hKc
                    · subst e1
                      have d6 : a'.tmps[66]?.getD undef = .bool false := by simpa using hdep 6 (by kernel_rfl)
                      have d14 : a'.tmps[74]?.getD undef = .bool true := by simpa using hdep 14 (by kernel_rfl)
                      refine still_op rfl rfl ?_
                      simp [Oper.wp, execOp, Act.eval, go_sem, d6, d14]
                      exact hKc
                  simp only [fillA, Act.put, List.setIfInBounds_toArray, List.set_cons_succ, List.set_cons_zero, List.getD_cons_zero, List.getD_cons_succ, Nat.reduceAdd, Nat.add_zero]
                  go_wp2_with (go_at_call 19; refine (known_any _).mono ?_; rintro ee w6 ⟨rfl, hb6⟩; have HE6 : Hid (Below w1.heap.size w1 w6) := (below_trans' (below_trans' HV.out (by first | exact Below.refl _ _ | exact (Below.refl _ _).drew | exact ((Below.refl _ _).drew).drew)) hb6); clear hb6)
                  go_ret
                  exact ⟨rfl, HE6.out⟩
                | false =>
                  have hh2 := fun W (hW : Below _ _ W) => lhas_of (w := W) (cap := cap2) (rowIn_take ((HR2.out.later HV.out).later hW) k) (List.length_take_of_le hk) (by omega) (by rw [List.length_take_of_le hk]; exact Nat.le_trans hk m2) y false hv2
                  have HH2 : Hid _ := hh2
                  have hn2 : y ∉ z2.take k := fun h => by rw [inb_yes h] at hv2; cases hv2
                  have HN2 : Hid (y ∉ z2.take k) := hn2
                  have hacc := fun W (hW : Below _ _ W) => acc_goes (w := W) (HA.out.below hW) HU.out.of.ok (fun j hj => Nat.le_trans (Nat.le_trans HV.out.size hW.size) hj) (by omega) y (by omega)
                  have HAcc : Hid _ := hacc
                  clear hv2 hn2 hh2 hacc
                  go_wp2_with fail
                  have hkc : (k : Int) ≤ (cap2 : Int) := by omega
                  refine region_same (by kernel_rfl) 15 60 rfl (fun j => [(.slice a1 z1.length cap1 : Value), (.slice (some ⟨gg, off, none⟩) z2.length cap2 : Value), (.int .i64 (k : Nat) : Value), (.pointer (some ⟨gg, off + k, none⟩) : Value), (.string y : Value), (.bool false : Value), (.bool false : Value), (.slice (some ⟨gg, off, none⟩) z2.length cap2 : Value), (.int .i64 (k : Nat) : Value), (.slice (some ⟨gg, off, none⟩) k cap2 : Value), (.slice (some ⟨gg, off, none⟩) z2.length cap2 : Value), (.int .i64 (k : Nat) : Value), (.pointer (some ⟨gg, off + k, none⟩) : Value), (.string y : Value), (.bool false : Value), (.bool false : Value)].getD j undef) (lex_of (by kernel_rfl)) (wait_of (by kernel_rfl)) (by simp) ?_ ?_
                  · intro i hi a' hst hdep Kc hKc
                    have hcase : i = 0 ∨ i = 1 ∨ i = 2 ∨ i = 3 ∨ i = 4 ∨ i = 5 ∨ i = 6 ∨ i = 7 ∨ i = 8 ∨ i = 9 ∨ i = 10 ∨ i = 11 ∨ i = 12 ∨ i = 13 ∨ i = 14 ∨ i = 15 := by omega
                    rcases hcase with e1 | e1 | e1 | e1 | e1 | e1 | e1 | e1 | e1 | e1 | e1 | e1 | e1 | e1 | e1 | e1
                    · subst e1
                      have o1 := hst.at 1 (by omega)
                      simp at o1
                      refine still_op rfl rfl ?_
                      simp [Oper.wp, execOp, Act.eval, go_sem, o1]
                      exact hKc
                    · subst e1
                      have o2 := hst.at 2 (by omega)
                      simp at o2
                      refine still_op rfl rfl ?_
                      simp [Oper.wp, execOp, Act.eval, go_sem, o2]
                      exact hKc
                    · subst e1
                      have o9 := hst.at 9 (by omega)
                      simp at o9
                      refine still_op rfl rfl ?_
                      simp [Oper.wp, execOp, Act.eval, go_sem, o9]
                      exact hKc
                    · subst e1
                      have d1 : a'.tmps[61]?.getD undef = .slice (some ⟨gg, off, none⟩) z2.length cap2 := by simpa using hdep 1 (by kernel_rfl)
                      have d2 : a'.tmps[62]?.getD undef = .int .i64 (k : Nat) := by simpa using hdep 2 (by kernel_rfl)
                      refine still_op rfl rfl ?_
                      simp [Oper.wp, execOp, Act.eval, go_sem, d1, d2, hlt]
                      exact hKc
                    · subst e1
                      have d3 : a'.tmps[63]?.getD undef = .pointer (some ⟨gg, off + k, none⟩) := by simpa using hdep 3 (by kernel_rfl)
                      refine still_op rfl rfl ?_
                      simp [Oper.wp, execOp, Act.eval, go_sem, d3, cy]
                      exact hKc
                    · subst e1
                      have d0 : a'.tmps[60]?.getD undef = .slice a1 z1.length cap1 := by simpa using hdep 0 (by kernel_rfl)
                      have d4 : a'.tmps[64]?.getD undef = .string y := by simpa using hdep 4 (by kernel_rfl)
                      refine still_op rfl rfl ?_
                      simp [Oper.wp, execOp, Act.eval, go_sem, d0, d4]
                      refine Calls.mono (HH1.out _ (Below.refl _ _).drew) ?_
                      rintro ee w5 ⟨rfl, rfl⟩
                      exact hKc
                    · subst e1
                      have d5 : a'.tmps[65]?.getD undef = .bool false := by simpa using hdep 5 (by kernel_rfl)
                      refine still_op rfl rfl ?_
                      simp [Oper.wp, execOp, Act.eval, go_sem, d5]
                      exact hKc
                    · subst e1
                      have o2 := hst.at 2 (by omega)
                      simp at o2
                      refine still_on rfl rfl rfl rfl (hdep 6 (by kernel_rfl)) ?_
                      simp [Oper.wp, execOp, Act.eval, go_sem, o2]
                      exact hKc
                    · subst e1
                      have o9 := hst.at 9 (by omega)
                      simp at o9
                      refine still_on rfl rfl rfl rfl (hdep 6 (by kernel_rfl)) ?_
                      simp [Oper.wp, execOp, Act.eval, go_sem, o9]
                      exact hKc
                    · subst e1
                      have d7 : a'.tmps[67]?.getD undef = .slice (some ⟨gg, off, none⟩) z2.length cap2 := by simpa using hdep 7 (by kernel_rfl)
                      have d8 : a'.tmps[68]?.getD undef = .int .i64 (k : Nat) := by simpa using hdep 8 (by kernel_rfl)
                      refine still_on rfl rfl rfl rfl (hdep 6 (by kernel_rfl)) ?_
                      simp [Oper.wp, execOp, Act.eval, go_sem, d7, d8, hkc]
                      exact hKc
                    · subst e1
                      have o2 := hst.at 2 (by omega)
                      simp at o2
                      refine still_on rfl rfl rfl rfl (hdep 6 (by kernel_rfl)) ?_
                      simp [Oper.wp, execOp, Act.eval, go_sem, o2]
                      exact hKc
                    · subst e1
                      have o9 := hst.at 9 (by omega)
                      simp at o9
                      refine still_on rfl rfl rfl rfl (hdep 6 (by kernel_rfl)) ?_
                      simp [Oper.wp, execOp, Act.eval, go_sem, o9]
                      exact hKc
                    · subst e1
                      have d10 : a'.tmps[70]?.getD undef = .slice (some ⟨gg, off, none⟩) z2.length cap2 := by simpa using hdep 10 (by kernel_rfl)
                      have d11 : a'.tmps[71]?.getD undef = .int .i64 (k : Nat) := by simpa using hdep 11 (by kernel_rfl)
                      refine still_on rfl rfl rfl rfl (hdep 6 (by kernel_rfl)) ?_
                      simp [Oper.wp, execOp, Act.eval, go_sem, d10, d11, hlt]
                      exact hKc
                    · subst e1
                      have d12 : a'.tmps[72]?.getD undef = .pointer (some ⟨gg, off + k, none⟩) := by simpa using hdep 12 (by kernel_rfl)
                      refine still_on rfl rfl rfl rfl (hdep 6 (by kernel_rfl)) ?_
                      simp [Oper.wp, execOp, Act.eval, go_sem, d12, cy]
                      exact hKc
                    · subst e1
                      have d9 : a'.tmps[69]?.getD undef = .slice (some ⟨gg, off, none⟩) k cap2 := by simpa using hdep 9 (by kernel_rfl)
                      have d13 : a'.tmps[73]?.getD undef = .string y := by simpa using hdep 13 (by kernel_rfl)
                      refine still_on rfl rfl rfl rfl (hdep 6 (by kernel_rfl)) ?_
                      simp [Oper.wp, execOp, Act.eval, go_sem, d9, d13]
                      refine Calls.mono (HH2.out _ (Below.refl _ _).drew) ?_
                      rintro ee w5 ⟨rfl, rfl⟩
                      exact hKc
                    · subst e1
                      have d6 : a'.tmps[66]?.getD undef = .bool false := by simpa using hdep 6 (by kernel_rfl)
                      have d14 : a'.tmps[74]?.getD undef = .bool false := by simpa using hdep 14 (by kernel_rfl)
                      refine still_op rfl rfl ?_
                      simp [Oper.wp, execOp, Act.eval, go_sem, d6, d14]
                      exact hKc
                  simp only [fillA, Act.put, List.setIfInBounds_toArray, List.set_cons_succ, List.set_cons_zero, List.getD_cons_zero, List.getD_cons_succ, Nat.reduceAdd, Nat.add_zero]
                  go_wp2_with (go_at_call 9; refine Calls.mono (HAcc.out _ (by first | exact Below.refl _ _ | exact (Below.refl _ _).drew | exact ((Below.refl _ _).drew).drew)) ?_; rintro ee w6 ⟨v6, u6, rfl, h6, hk6⟩; have H6 : Hid (AE e (4 * z1.length + 2 * k + 2) (A.access t y).2.2 (fun j => w1.heap.size ≤ j) w6) := h6; have HB6 : Hid (Below w1.heap.size w1 w6) := (((Keeps.of_below (D := fun j => w1.heap.size ≤ j) (below_trans' HV.out (by first | exact Below.refl _ _ | exact (Below.refl _ _).drew | exact ((Below.refl _ _).drew).drew))).trans hk6).below (Nat.le_refl _) (fun _ h => h)); clear h6 hk6)
                  go_roundw
                  case rel => exact ⟨k + 1, _, hlt, by go_num, HU.out.step HY.out HN1.out HN2.out, H6.out, HB6.out⟩
                  case measure => simp [intOf]; omega
            · have hk' : k = z2.length := by omega
              subst hk'
              go_wp2_with fail
              go_loopw [10] (fun i wr' => ∃ (k : Nat), k ≤ z1.length ∧ i = .int .i64 k ∧ AE e (4 * z1.length + 2 * z2.length) t (fun j => w1.heap.size ≤ j) wr' ∧ Below w1.heap.size w1 wr') (fun i _ => z1.length - (intOf i).toNat)
              case atStart => exact ⟨0, Nat.zero_le _, rfl, HA.out, HV.out⟩
              case round =>
                clear HA HV
                obtain ⟨k, hk, rfl, hA, hB⟩ := hrel
                have HA : Hid (AE e (4 * z1.length + 2 * z2.length) t (fun j => w1.heap.size ≤ j) _) := hA
                have HV : Hid (Below w1.heap.size w1 _) := hB
                clear hA hB
                rcases Nat.lt_or_ge k z1.length with hlt | hge
                · obtain ⟨z, hz⟩ : ∃ z, z1[k]? = some z := ⟨_, List.getElem?_eq_getElem hlt⟩
                  obtain ⟨gg, off, rfl, cz1⟩ := HR1.out.at hz
                  have cz := cell_later HV.out cz1
                  have hzs := HZ1.out z (List.mem_of_getElem? hz)
                  have hin : inb z (A.keys t) = true := inb_yes (HU.out.of.has ((HU.out.mem z).2 (List.mem_of_getElem? hz)))
                  have hhas := has_any HA.out (by omega) z (by omega)
                  rw [hin] at hhas
                  clear cz1 hz hin
                  go_wp2_with (go_at_call 13; refine Calls.mono hhas ?_; clear hhas; rintro ee w7 ⟨rfl, hb7⟩; have H7 : Hid (AE e (4 * z1.length + 2 * z2.length) t (fun j => w1.heap.size ≤ j) w7) := (AE.below HA.out hb7); have HB7 : Hid (Below w1.heap.size w1 w7) := (below_trans' HV.out hb7); clear hb7)
                  go_roundw
                  case rel => exact ⟨k + 1, hlt, by go_num, H7.out, HB7.out⟩
                  case measure => simp [intOf]; omega
                · have hk' : k = z1.length := by omega
                  subst hk'
                  go_wp2_with (go_at_call 19; refine (known_any _).mono ?_; rintro ee w8 ⟨rfl, hb8⟩; have HE8 : Hid (Below w1.heap.size w1 w8) := (below_trans' HV.out hb8); clear hb8)
                  go_ret
                  exact ⟨rfl, HE8.out⟩

abbrev laid : List (String × DataW Unit) := Rows.arcOftenRow.laid
set_option maxRecDepth 100000 in
theorem lifted (os : Os) (started : os.Started) (H : Type) (enc : TypeId × Value → H) :
    ReturnsInHanded {} Tryd.checked os 4 .any (fun w args => (Rows.arcOftenSpec.pre enc Tryd.prog Tryd.f4 Rows.arcOftenRow.domain false w args ∧ laidMetH Tryd.prog laid w) ∧ sizedMet enc Tryd.prog Tryd.f4 (OpenSpec.ofChange Rows.arcOftenSpec) false w args)
      (Rows.arcOftenSpec.post enc Tryd.prog Tryd.f4 false true false false) := by
  refine returnsInHanded_of_change_and (C := Tryd.checked) (X := fun w _ => laidMetH Tryd.prog laid w) (fun _ _ _ hh h => h.of_heap hh) own started (by kernel_rfl) Tryd.func4
    (ChangeSpec.witness_shaped (enc := enc) (C := Tryd.checked) (os := os) (X := fun w _ => laidMetH Tryd.prog laid w) false (World.laidAll Tryd.prog os laid) #[.int .i64 0, .slice none 0 0, .slice none 0 0] 8 (World.laidAll_os _ _ _)
      (World.shaped_of_ZipB (by kernel_rfl) (by kernel_rfl)) (by kernel_rfl) (by kernel_rfl) (by kernel_rfl)
      (by rw [MakeChecks.laidMetH_plain _ _ _ (by kernel_rfl)]; exact laidMet_laidAll _ (by kernel_rfl) (by kernel_rfl))) ?_
  intro W base args ds gs before hval0 hW hcnd hsz0 hL _
  have hval : ∀ (j : Nat) t v, Tryd.f4.params[j]? = some t → args[j]? = some v → Value.okWide Tryd.prog W .any base t v := hval0
  have hsz : (DataW.weightsEach Tryd.prog (Tryd.f4.params.toList ++ Rows.arcOftenSpec.plain.varTypes Tryd.prog) (ds ++ gs)).all (· ≤ reachBytes) = true := hsz0
  have hW' := hW
  obtain ⟨p, q, hA0, hV, rfl, hfz, hnd⟩ := hW
  have hA : DataW.TrodAll enc Tryd.prog W 0 (fun _ => true) true Tryd.f4.params.toList args.toList ds p := hA0
  rw [Tryd.params4] at hA hval hsz
  obtain ⟨v0, vs0, d0, ds0, p0, q0, hargs, rfl, rfl, h0, s0⟩ := trodAll_cons hA
  obtain ⟨v1, vs1, d1, ds1, p1, q1, rfl, rfl, rfl, h1, s1⟩ := trodAll_cons s0
  obtain ⟨v2, vs2, d2, ds2, p2, q2, rfl, rfl, rfl, h2, s2⟩ := trodAll_cons s1
  obtain ⟨rfl, rfl, rfl⟩ := trodAll_nil s2
  obtain rfl : args = #[v0, v1, v2] := by cases args; simp_all
  obtain ⟨rfl, rfl⟩ := trodVars_none hV
  obtain ⟨a0, rfl, rfl, rfl, w0⟩ := open_int Tryd.underlying3 (hval 0 3 v0 rfl rfl) h0
  obtain ⟨a1, len1, cap1, rfl⟩ := okWide_slice Tryd.underlying23 (hval 1 23 v1 rfl rfl)
  have k1 := h1
  have lt1 : ∀ x ∈ p1, x.block < W.heap.size := by obtain ⟨m, hm⟩ := k1; exact DataW.trod_lt m _ _ _ hm
  obtain ⟨z1, e1, m1, r1, x1⟩ := open_texts h1
  replace x1 : ∀ z ∈ z1, z.size ≤ 140737488351232 := fun z hz => reach_first (reach_tail hsz) (x1 z hz)
  obtain ⟨a2, len2, cap2, rfl⟩ := okWide_slice Tryd.underlying23 (hval 2 23 v2 rfl rfl)
  have k2 := h2
  have lt2 : ∀ x ∈ p2, x.block < W.heap.size := by obtain ⟨m, hm⟩ := k2; exact DataW.trod_lt m _ _ _ hm
  have p2 := cap_texts h2
  obtain ⟨z2, e2, m2, r2, x2⟩ := open_texts h2
  replace x2 : ∀ z ∈ z2, z.size ≤ 140737488351232 := fun z hz => reach_first (reach_tail (reach_tail hsz)) (x2 z hz)
  clear hA0 hval0 hsz0
  refine (walk W a0 w0 a1 len1 cap1 z1 e1 m1 r1 x1 a2 len2 cap2 z2 e2 m2 r2 x2 p2).mono fun e W' ⟨he, bel⟩ => ?_
  subst he
  exact ⟨_, rfl, _, _, _, [], _, [], hW', trodAll_mk1 (shut_bool Tryd.underlying4 _), (trodAll_cons_mk (shut_int Tryd.underlying3 w0) (trodAll_cons_mk (Below.trod laidOut (by kernel_rfl) (of_decide_eq_true (by kernel_rfl)) k1 bel lt1) (trodAll_cons_mk (Below.trod laidOut (by kernel_rfl) (of_decide_eq_true (by kernel_rfl)) k2 bel lt2) trodAll_mk0))), rfl, bel.frame _, fun h => by cases h⟩

theorem over : Rows.arcOftenRow.holds Tryd.pinned (OpenSpec.ofChange Rows.arcOftenSpec) :=
  OpenClaim.holds_of_wide 4 Tryd.f4 rfl rfl rfl rfl rfl rfl rfl ⟨rfl, rfl, rfl, rfl, rfl⟩ rfl rfl rfl rfl rfl (by kernel_rfl) Tryd.func4 (by kernel_rfl)
    (of_decide_eq_true (by kernel_rfl)) (by unfold Func.isWrapper; first | (rw [if_pos (by decide +kernel)]; kernel_rfl) | (rw [if_neg (by decide +kernel)]; exact ⟨rfl, rfl⟩))
    (fun os started H enc _ => lifted os started H enc)
end Go.Proofs.YtmelgoljceomeabDoor.arcOften
namespace Go.Proofs.YtmelgoljceomeabDoor
/-- the given statement -/
theorem arcOften_holds : Rows.ArcOftenCardSaid :=
  Claim7.holds_tied_plain_at .later [] [.data, .data, .data] true (true, "218fcc84000f10d3bef0d4243c37e6b674b5f703e1c08367f6f542d0c3811cd4") false
    arcOften.over (fun _ h => by cases h) (by kernel_rfl) (fun _ h => by cases h) arcOften_row_tie rfl ⟨rfl, rfl⟩ (by kernel_rfl) rfl
    (fun f fn hf hfn => by
      obtain rfl : f = 4 := Option.some.inj ((show Tryd.prog.funcNamed Rows.arcOftenRow.func = some 4 by kernel_rfl).symm.trans hf) |>.symm
      obtain rfl : fn = Tryd.f4 := (Option.some.inj (Tryd.func4.symm.trans hfn)).symm
      exact ⟨by kernel_rfl, fun j t ht => by
        rw [Tryd.params4] at ht
        have hm : t ∈ [3, 23, 23] := by simpa using Array.mem_of_getElem? ht
        have hall : ([3, 23, 23].all fun u => !Tryd.prog.wantsStandIn u) = true := by kernel_rfl
        exact (show Tryd.prog.wantsStandIn t = false by simpa using List.all_eq_true.1 hall t hm)⟩)
    (by kernel_rfl)
#print axioms arcOften_holds
end Go.Proofs.YtmelgoljceomeabDoor
