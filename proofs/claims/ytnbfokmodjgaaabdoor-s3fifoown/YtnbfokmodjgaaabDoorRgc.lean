/- The document's machine: Access, of a key that is resident. The document's machine: Access. -/
import Derived.Test.YtnbfokmodjgaaabDoorRgb
import Derived.StillTailTactics
namespace Go.Proofs.YtnbfokmodjgaaabDoor
open Go.RowKit

theorem map_used_no {zs : List Ls.It} {key : ByteArray} (h : key ∉ A.ks zs) : zs.map (A.used key) = zs := by
  have : ∀ z ∈ zs, A.used key z = z := fun z hz => by
    unfold A.used
    refine if_neg (fun e => h ?_)
    rw [← e]
    exact A.ks_mem.2 ⟨z, hz, rfl⟩
  calc zs.map (A.used key) = zs.map id := List.map_congr_left this
    _ = zs := List.map_id _
theorem map_used_yes {zs : List Ls.It} {key : ByteArray} {i : Nat} {z : Ls.It} (ho : A.cnt key (A.ks zs) ≤ 1) (h : (A.ks zs)[i]? = some key) (hz : zs[i]? = some z) : zs.map (A.used key) = zs.set i ⟨z.key, min 3 (z.n + 1)⟩ := by
  induction zs generalizing i with
  | nil => simp at hz
  | cons y zs ih =>
    rw [A.ks_cons, A.cnt_cons] at ho
    cases i with
    | zero =>
      have hz2 : y = z := by simpa using hz
      subst hz2
      have hk : y.key = key := by simpa [A.ks_cons] using h
      subst hk
      rw [A.one_self] at ho
      rw [List.map_cons, map_used_no (A.cnt_zero.1 (by omega))]
      simp [A.used]
    | succ i =>
      have h2 : (A.ks zs)[i]? = some key := by simpa [A.ks_cons] using h
      have hm : 0 < A.cnt key (A.ks zs) := A.cnt_pos.2 (List.mem_of_getElem? h2)
      have hne : y.key ≠ key := by
        intro e
        rw [e, A.one_self] at ho
        omega
      have hy : A.used key y = y := by unfold A.used; rw [if_neg hne]
      rw [List.map_cons, hy, ih (by omega) h2 (by simpa using hz)]
      simp
namespace C
theorem Row.set {D : Nat → Prop} {w : World} {cap g off : Nat} {zs : List Ls.It} (h : Row D w (some ⟨g, off, none⟩) cap zs) {i : Nat} {z : Ls.It} (hz : zs[i]? = some z) (n : Nat) :
    Row D (w.setCell ⟨g, off + i * 2 + 1, none⟩ (.int .i64 (n : Nat))) (some ⟨g, off, none⟩) cap (zs.set i ⟨z.key, n⟩) ∧ Keeps D w (w.setCell ⟨g, off + i * 2 + 1, none⟩ (.int .i64 (n : Nat))) := by
  have hi := lt_of_at hz
  have h1 := h.1
  obtain ⟨g', off', cur, e, hD, hg, hs, hc⟩ := h.2.2 (by omega)
  cases e
  refine ⟨⟨by rw [List.length_set]; exact h.1, h.2.1, fun _ => ⟨g, off, _, rfl, hD, block_setCell hg, by simpa using hs, fun j y hy => ?_⟩⟩, Keeps.setCell (Keeps.refl D w) (p := ⟨g, off + i * 2 + 1, none⟩) hD _⟩
  have hsz : off + i * 2 + 1 < cur.size := by omega
  by_cases hji : j = i
  · subst hji
    rw [List.getElem?_set_self hi] at hy
    cases hy
    obtain ⟨a1, a2⟩ := hc _ _ hz
    refine ⟨?_, ?_⟩
    · rw [Array.set!_eq_setIfInBounds, Array.getElem?_setIfInBounds_ne (by omega)]
      exact a1
    · rw [Array.set!_eq_setIfInBounds, Array.getElem?_setIfInBounds_self_of_lt hsz]
  · rw [List.getElem?_set_ne (fun e => hji e.symm)] at hy
    obtain ⟨a1, a2⟩ := hc _ _ hy
    refine ⟨?_, ?_⟩
    · rw [Array.set!_eq_setIfInBounds, Array.getElem?_setIfInBounds_ne (by omega)]
      exact a1
    · rw [Array.set!_eq_setIfInBounds, Array.getElem?_setIfInBounds_ne (by omega)]
      exact a2
end C
section
variable {D D' : Nat → Prop} {L : Nat → Nat} {w w' : World} {x : Nat} {s : Stt} {a1 a2 a3 : Option Addr} {c1 c2 c3 : Nat} {zs : List Ls.It}
theorem ReIn.set1 (H : ReIn D L w x s a1 c1 a2 c2 a3 c3) (hk : Keeps (fun g => D g ∧ L g = 1) w w') (hr : C.Row (fun g => D g ∧ L g = 1) w' a1 c1 zs) (hl : zs.length = s.t1.length) : ReIn D L w' x { s with t1 := zs } a1 c1 a2 c2 a3 c3 := by
  have hxl := lt_of_block H.top
  refine ⟨H.dx, H.lx, ?_, hr, H.r2.kept hk (fun k h e => by have := e.2; omega), H.r3.kept hk (fun k h e => by have := e.2; omega)⟩
  rw [hk.block x hxl (fun h => by have := H.lx; omega), H.top]
  unfold eng
  rw [hl]
theorem ReIn.set2 (H : ReIn D L w x s a1 c1 a2 c2 a3 c3) (hk : Keeps (fun g => D g ∧ L g = 2) w w') (hr : C.Row (fun g => D g ∧ L g = 2) w' a2 c2 zs) (hl : zs.length = s.t2.length) : ReIn D L w' x { s with t2 := zs } a1 c1 a2 c2 a3 c3 := by
  have hxl := lt_of_block H.top
  refine ⟨H.dx, H.lx, ?_, H.r1.kept hk (fun k h e => by have := e.2; omega), hr, H.r3.kept hk (fun k h e => by have := e.2; omega)⟩
  rw [hk.block x hxl (fun h => by have := H.lx; omega), H.top]
  unfold eng
  rw [hl]
end
section
variable {D D' : Nat → Prop} {w w' : World} {x : Nat} {s : Stt}
set_option maxRecDepth 20000 in
set_option maxHeartbeats 4000000 in
theorem racc_s (H : RE x s D w) (hok : A.Ok s) (key : ByteArray) (k1 : key ∈ A.ks s.t1) :
    Calls Tryd.prog 47 #[.pointer (some ⟨x, 0, none⟩), .string key] w fun e w' => e = .returned (.tuple #[.bool true, .slice none 0 0]) ∧ RE x (A.touch s key) D w' ∧ Keeps D w w' := by
  have hs := Small.of hok
  have l1 := hs.l1
  have l2 := hs.l2
  have h1 := hok.one key
  have k2 : key ∉ A.ks s.t2 := A.cnt_zero.1 (by have := A.cnt_pos.2 k1; omega)
  obtain ⟨L, a1, c1, a2, c2, a3, c3, H⟩ := H
  obtain ⟨d0, d1, d2, d3⟩ := H.cells
  have e1 := fun q => rat_any (H.r1.below (below_drewN (Below.refl _ w) q)) (by omega) key
  have e2 := fun q => rat_any (H.r2.below (below_drewN (Below.refl _ w) q)) (by omega) key
  obtain ⟨i, hi, hat, -⟩ := idx_at k1
  rw [hi] at e1
  rw [idx_no k2] at e2
  have hil : i < s.t1.length := by have := lt_of_at hat; rwa [A.ks_len] at this
  obtain ⟨z, hz⟩ : ∃ z, s.t1[i]? = some z := ⟨_, List.getElem?_eq_getElem hil⟩
  have hz3 : z.n ≤ 3 := hok.few z (by simp [List.mem_of_getElem? hz])
  obtain ⟨g, off, rfl, -, -, y0, y1, yf⟩ := H.r1.at hz
  have HT : Hid (A.touch s key = { s with t1 := s.t1.set i ⟨z.key, min 3 (z.n + 1)⟩ }) := by
    show A.touch s key = _
    unfold A.touch
    rw [map_used_no k2, map_used_yes (by omega) hat hz]
  have HS : Hid (∀ (W : World), Below w.heap.size w W → ReIn D L (W.setCell ⟨g, off + i * 2 + 1, none⟩ (.int .i64 ((min 3 (z.n + 1) : Nat) : Int))) x { s with t1 := s.t1.set i ⟨z.key, min 3 (z.n + 1)⟩ } (some ⟨g, off, none⟩) c1 a2 c2 a3 c3 ∧ Keeps D w (W.setCell ⟨g, off + i * 2 + 1, none⟩ (.int .i64 ((min 3 (z.n + 1) : Nat) : Int)))) := fun W hW => by
    obtain ⟨r1, r2⟩ := (H.below hW).r1.set hz (min 3 (z.n + 1))
    exact ⟨(H.below hW).set1 r2 r1 (by simp), (Keeps.of_below hW).trans (r2.mono (fun _ _ h => h.1))⟩
  obtain ⟨n1, hn1⟩ : ∃ n, n = s.t1.length := ⟨_, rfl⟩
  obtain ⟨n2, hn2⟩ : ∃ n, n = s.t2.length := ⟨_, rfl⟩
  rw [← hn1] at d0 e1 hil l1
  rw [← hn2] at d1 e2 l2
  have e12 := at_both e1 e2
  have hmn : ((min 3 (z.n + 1) : Nat) : Int) = min 3 ((z.n : Int) + 1) := by omega
  have hw1 : IntKind.i64.wrap ((z.n : Int) + 1) = (z.n : Int) + 1 := by rw [IntKind.wrap_i64]; omega
  clear H e1 e2 hs hok h1 k1 k2 hat hi hz hn1 hn2
  go_enter Tryd.func47, Tryd.ntmps47
  go_wp2_with fail
  go_quiet (first | (go_at_call 68; refine Calls.quiet_of_same (e12 _ _ _ (by first | exact .inl ⟨rfl, rfl⟩ | exact .inr ⟨rfl, rfl⟩))))
  clear e12
  go_wp2_with fail
  have HB : Hid (Below w.heap.size w (w.drewN nq)) := below_drewN (Below.refl _ w) nq
  replace d0 : (w.drewN nq).cell? ⟨x, 0, none⟩ = some (.slice (some ⟨g, off, none⟩) n1 c1) := cell_later HB.out d0
  replace y1 : (w.drewN nq).cell? ⟨g, off + i * 2 + 1, none⟩ = some (.int .i64 (z.n : Nat)) := cell_later HB.out y1
  replace yf : (w.drewN nq).frozen? ⟨g, off + i * 2 + 1, none⟩ = false := yf
  clear d1 d2 d3 y0
  generalize w.drewN nq = W at *
  refine wp_region_still_tail 17 (by kernel_rfl) (by kernel_rfl) ?_
  simp only [List.take_succ_cons, List.take_zero, List.drop_succ_cons, List.drop_zero]
  change wpStill Tryd.prog _ W.drew (fun a' => wpList Tryd.prog _ _ _ a' W.drew) _ _
  repeat still_step
  refine wpStill_nil ?_
  go_wp2_with fail
  go_ret2
  have h := HS.out W HB.out
  rw [hmn] at h
  rw [HT.out]
  exact ⟨rfl, RE.below ⟨_, _, _, _, _, _, _, h.1⟩ ((Below.refl _ _).drew), h.2.drew⟩
set_option maxRecDepth 20000 in
set_option maxHeartbeats 4000000 in
theorem racc_m (H : RE x s D w) (hok : A.Ok s) (key : ByteArray) (k2 : key ∈ A.ks s.t2) :
    Calls Tryd.prog 47 #[.pointer (some ⟨x, 0, none⟩), .string key] w fun e w' => e = .returned (.tuple #[.bool true, .slice none 0 0]) ∧ RE x (A.touch s key) D w' ∧ Keeps D w w' := by
  have hs := Small.of hok
  have l1 := hs.l1
  have l2 := hs.l2
  have h1 := hok.one key
  have k1 : key ∉ A.ks s.t1 := A.cnt_zero.1 (by have := A.cnt_pos.2 k2; omega)
  obtain ⟨L, a1, c1, a2, c2, a3, c3, H⟩ := H
  obtain ⟨d0, d1, d2, d3⟩ := H.cells
  have e1 := fun q => rat_any (H.r1.below (below_drewN (Below.refl _ w) q)) (by omega) key
  have e2 := fun q => rat_any (H.r2.below (below_drewN (Below.refl _ w) q)) (by omega) key
  obtain ⟨i, hi, hat, -⟩ := idx_at k2
  rw [hi] at e2
  rw [idx_no k1] at e1
  have hil : i < s.t2.length := by have := lt_of_at hat; rwa [A.ks_len] at this
  obtain ⟨z, hz⟩ : ∃ z, s.t2[i]? = some z := ⟨_, List.getElem?_eq_getElem hil⟩
  have hz3 : z.n ≤ 3 := hok.few z (by simp [List.mem_of_getElem? hz])
  obtain ⟨g, off, rfl, -, -, y0, y1, yf⟩ := H.r2.at hz
  have HT : Hid (A.touch s key = { s with t2 := s.t2.set i ⟨z.key, min 3 (z.n + 1)⟩ }) := by
    show A.touch s key = _
    unfold A.touch
    rw [map_used_no k1, map_used_yes (by omega) hat hz]
  have HS : Hid (∀ (W : World), Below w.heap.size w W → ReIn D L (W.setCell ⟨g, off + i * 2 + 1, none⟩ (.int .i64 ((min 3 (z.n + 1) : Nat) : Int))) x { s with t2 := s.t2.set i ⟨z.key, min 3 (z.n + 1)⟩ } a1 c1 (some ⟨g, off, none⟩) c2 a3 c3 ∧ Keeps D w (W.setCell ⟨g, off + i * 2 + 1, none⟩ (.int .i64 ((min 3 (z.n + 1) : Nat) : Int)))) := fun W hW => by
    obtain ⟨r1, r2⟩ := (H.below hW).r2.set hz (min 3 (z.n + 1))
    exact ⟨(H.below hW).set2 r2 r1 (by simp), (Keeps.of_below hW).trans (r2.mono (fun _ _ h => h.1))⟩
  obtain ⟨n1, hn1⟩ : ∃ n, n = s.t1.length := ⟨_, rfl⟩
  obtain ⟨n2, hn2⟩ : ∃ n, n = s.t2.length := ⟨_, rfl⟩
  rw [← hn1] at d0 e1 l1
  rw [← hn2] at d1 e2 hil l2
  have e12 := at_both e1 e2
  have hmn : ((min 3 (z.n + 1) : Nat) : Int) = min 3 ((z.n : Int) + 1) := by omega
  have hw1 : IntKind.i64.wrap ((z.n : Int) + 1) = (z.n : Int) + 1 := by rw [IntKind.wrap_i64]; omega
  clear H e1 e2 hs hok h1 k1 k2 hat hi hz hn1 hn2
  go_enter Tryd.func47, Tryd.ntmps47
  go_wp2_with fail
  go_quiet (first | (go_at_call 68; refine Calls.quiet_of_same (e12 _ _ _ (by first | exact .inl ⟨rfl, rfl⟩ | exact .inr ⟨rfl, rfl⟩))))
  clear e12
  go_wp2_with fail
  have HB : Hid (Below w.heap.size w (w.drewN nq)) := below_drewN (Below.refl _ w) nq
  replace d1 : (w.drewN nq).cell? ⟨x, 1, none⟩ = some (.slice (some ⟨g, off, none⟩) n2 c2) := cell_later HB.out d1
  replace y1 : (w.drewN nq).cell? ⟨g, off + i * 2 + 1, none⟩ = some (.int .i64 (z.n : Nat)) := cell_later HB.out y1
  replace yf : (w.drewN nq).frozen? ⟨g, off + i * 2 + 1, none⟩ = false := yf
  clear d0 d2 d3 y0
  generalize w.drewN nq = W at *
  refine wp_region_still_tail 17 (by kernel_rfl) (by kernel_rfl) ?_
  simp only [List.take_succ_cons, List.take_zero, List.drop_succ_cons, List.drop_zero]
  change wpStill Tryd.prog _ W.drew (fun a' => wpList Tryd.prog _ _ _ a' W.drew) _ _
  repeat still_step
  refine wpStill_nil ?_
  go_wp2_with fail
  go_ret2
  have h := HS.out W HB.out
  rw [hmn] at h
  rw [HT.out]
  exact ⟨rfl, RE.below ⟨_, _, _, _, _, _, _, h.1⟩ ((Below.refl _ _).drew), h.2.drew⟩
end
end Go.Proofs.YtnbfokmodjgaaabDoor
namespace Go.Proofs.YtnbfokmodjgaaabDoor
open Go.RowKit

theorem beside_end {D D1 : Nat → Prop} {w2 w5 : World} {x : Nat} {s : Stt} {ad : Option Addr} {cap : Nat} {l : List ByteArray} (hD1 : ∀ g, D1 g → D g ∧ g < w2.heap.size) (hD : ∀ k, w2.heap.size ≤ k → D k) (hrow : Row (fun g => D g ∧ ¬ D1 g) w2 ad cap l)
    (hk : Keeps (fun g => D1 g ∨ w2.heap.size ≤ g) w2 w5) (H : RE x s (fun g => D1 g ∨ w2.heap.size ≤ g) w5) : Beside (RE x s) ad cap l D w5 := by
  refine ⟨_, fun g h => ⟨?_, h.2⟩, H.narrow, ((hrow.narrow).kept hk (fun g h => ?_)).wide (fun g _ h => ⟨h.1.1, ?_⟩)⟩
  · rcases h.1 with h | h
    · exact (hD1 g h).1
    · exact hD g h
  · rintro (h2 | h2)
    · exact h.1.2 h2
    · have := h.2; omega
  · rintro ⟨h2 | h2, _⟩
    · exact h.1.2 h2
    · have := h.2; omega
section
variable {D D' : Nat → Prop} {w w' : World} {x : Nat} {s : Stt}
/-- what Access answers: whether it was a hit, and a row that is none of the machine's -/
def Tells (x : Nat) (r : Bool × List ByteArray × Stt) (D : Nat → Prop) (w : World) (e : Ending) (w' : World) : Prop :=
  ∃ ad cap, e = .returned (.tuple #[.bool r.1, .slice ad r.2.1.length cap]) ∧ Beside (RE x r.2.2) ad cap r.2.1 D w' ∧ Keeps D w w'
theorem RE.bare (H : RE x s D w) : Beside (RE x s) none 0 [] D w := ⟨_, fun _ h => h, H.narrow, Row.nil⟩
/-- ahead of the loop's test: room was made, or one has to go -/
def Made (x : Nat) (s : Stt) (D : Nat → Prop) (w : World) (n : Nat) (v : Value) (wr : World) : Prop :=
  (∃ l s1 ad cap, v = .slice ad l.length cap ∧ A.reclaim s = (l, s1) ∧ s1.t1.length + s1.t2.length < s1.c ∧ A.Ok s1 ∧ Beside (RE x s1) ad cap l D wr ∧ Keeps D w wr) ∨
  (n = 1 ∧ v = .slice none 0 0 ∧ s.c ≤ s.t1.length + s.t2.length ∧ RE x s D wr ∧ Keeps D w wr)
set_option maxRecDepth 100000 in
set_option maxHeartbeats 8000000 in
theorem racc_miss (H : RE x s D w) (hok : A.Ok s) (hD : ∀ k, w.heap.size ≤ k → D k) (key : ByteArray) (hk : key ∉ A.keys s) :
    Calls Tryd.prog 47 #[.pointer (some ⟨x, 0, none⟩), .string key] w (Tells x (false, (A.reclaim s).1, A.comes (A.reclaim s).2 key) D w) := by
  have hs := Small.of hok
  have l1 := hs.l1
  have l2 := hs.l2
  have k1 : key ∉ A.ks s.t1 := fun h => hk (by simp [A.keys, h])
  have k2 : key ∉ A.ks s.t2 := fun h => hk (by simp [A.keys, h])
  have HOk : Hid (A.Ok s) := hok
  have HD : Hid (∀ k, w.heap.size ≤ k → D k) := hD
  have HM0 : Hid (∀ q, Made x s D w 1 (.slice none 0 0) (w.drewN q)) := fun q => by
    rcases Nat.lt_or_ge (s.t1.length + s.t2.length) s.c with h | h
    · exact .inl ⟨[], s, none, 0, rfl, A.rec_room h, h, hok, (H.below (below_drewN (Below.refl _ w) q)).bare, Keeps.of_below (below_drewN (Below.refl _ w) q)⟩
    · exact .inr ⟨rfl, rfl, h, H.below (below_drewN (Below.refl _ w) q), Keeps.of_below (below_drewN (Below.refl _ w) q)⟩
  obtain ⟨L, a1, c1, a2, c2, a3, c3, H⟩ := H
  obtain ⟨d0, d1, d2, d3⟩ := H.cells
  have e1 := fun q => rat_any (H.r1.below (below_drewN (Below.refl _ w) q)) (by omega) key
  have e2 := fun q => rat_any (H.r2.below (below_drewN (Below.refl _ w) q)) (by omega) key
  rw [idx_no k1] at e1
  rw [idx_no k2] at e2
  obtain ⟨n1, hn1⟩ : ∃ n, n = s.t1.length := ⟨_, rfl⟩
  obtain ⟨n2, hn2⟩ : ∃ n, n = s.t2.length := ⟨_, rfl⟩
  rw [← hn1] at d0 e1 l1
  rw [← hn2] at d1 e2 l2
  have e12 := at_both e1 e2
  clear H e1 e2 hs hok hD hk k1 k2 hn1 hn2
  go_enter Tryd.func47, Tryd.ntmps47
  go_wp2_with fail
  go_quiet (first | (go_at_call 68; refine Calls.quiet_of_same (e12 _ _ _ (by first | exact .inl ⟨rfl, rfl⟩ | exact .inr ⟨rfl, rfl⟩))))
  clear e12 d0 d1 d2 d3
  go_wp2_with fail
  go_loopg [8] 1 (fun n v wr => Made x s D w n v wr)
  case atStart => exact HM0.out _
  case round =>
    clear HM0
    rcases hrel with ⟨l, s1, ad, cap, rfl, hrc, hroom, hok1, hB, hK⟩ | ⟨rfl, rfl, hfull, hA, hK⟩
    · have HEnd : Hid (∀ w' : World, Beside (RE x (A.comes s1 key)) ad cap l D w' → Keeps D w w' → Tells x (false, (A.reclaim s).1, A.comes (A.reclaim s).2 key) D w (.returned (.tuple #[.bool false, .slice ad l.length cap])) w') := fun w' h1 h2 => by
        rw [hrc]
        exact ⟨ad, cap, rfl, h1, h2⟩
      have hs1 := Small.of hok1
      have l1' := hs1.l1
      have l2' := hs1.l2
      obtain ⟨D1, g1, gA, gR⟩ := hB
      have hlen := fun q => rlen_any (gA.below (below_drewN (Below.refl _ wr) q)) hs1
      rw [A.keys_length] at hlen
      have HG1 : Hid (∀ g, D1 g → D g ∧ g < wr.heap.size) := g1
      have HGR : Hid (Row (fun g => D g ∧ ¬ D1 g) wr ad cap l) := gR
      have HK : Hid (Keeps D w wr) := hK
      have HDr : Hid (∀ k, wr.heap.size ≤ k → D k) := fun k h => HD.out k (Nat.le_trans hK.size h)
      have HKn : Hid (∀ W : World, Below wr.heap.size wr W → Calls Tryd.prog 70 #[.pointer (some ⟨x, 0, none⟩), .string key] W fun e w' => e = .returned (.bool (inn key (A.ghosts s1))) ∧ RE x (A.noGhost s1 key) (fun g => D1 g ∨ wr.heap.size ≤ g) w' ∧ Keeps (fun g => D1 g ∨ wr.heap.size ≤ g) W w') := fun W hW =>
        rknown_any ((gA.wide (D' := fun g => D1 g ∨ wr.heap.size ≤ g) (fun _ _ h => .inl h)).below hW) hs1 (fun k h => .inr (Nat.le_trans hW.size h)) key
      obtain ⟨N, hN⟩ : ∃ N, N = s1.t1.length + s1.t2.length := ⟨_, rfl⟩
      rw [← hN] at hlen hroom
      obtain ⟨L1, b1, m1, b2, m2, b3, m3, gA⟩ := gA
      obtain ⟨u0, u1, u2, u3⟩ := gA.cells
      have hd : decide ((s1.c : Int) ≤ (N : Int)) = false := decide_eq_false (by omega)
      have hd2 : decide (s1.c ≤ N) = false := decide_eq_false (by omega)
      have hd3 : ¬ s1.c ≤ N := by omega
      have HWg : Hid (∀ W : World, Keeps (fun g => D1 g ∨ wr.heap.size ≤ g) wr W → Keeps D w W) := fun W hW => hK.trans (hW.mono (fun k _ h => by rcases h with h | h; exact (g1 k h).1; exact HDr.out k h))
      by_cases hg : key ∈ A.ghosts s1
      · have hin := inn_yes hg
        rw [hin] at HKn
        have HCm : Hid (A.comes s1 key = A.again (A.noGhost s1 key) key) := by
          show A.comes s1 key = _
          unfold A.comes
          rw [if_pos hg]
        clear hrc hok1 g1 gR hK gA hs1 hg hin hN
        go_wp2_with fail
        go_quiet (first | (go_at_call 69; refine Calls.quiet_of (hlen _)))
        clear hlen u0 u1 u2 u3
        go_wp2_with (first
          | (go_at_call 70; refine Calls.mono (HKn.out _ (below_drewN (Below.refl _ wr) _)) ?_; rintro e w5 ⟨rfl, ⟨M, r1, q1, r2, q2, r3, q3, hM⟩, hk5⟩; obtain ⟨u0, u1, u2, u3⟩ := hM.cells; have HM : Hid (ReIn (fun g => D1 g ∨ wr.heap.size ≤ g) M w5 x (A.noGhost s1 key) r1 q1 r2 q2 r3 q3) := hM; have HK5 : Hid (Keeps (fun g => D1 g ∨ wr.heap.size ≤ g) wr w5) := ((Keeps.of_below (below_drewN (Below.refl _ wr) _)).trans hk5); clear hM hk5; replace u1 : w5.cell? ⟨x, 1, none⟩ = some (.slice r2 s1.t2.length q2) := u1)
          | (at_builtin; go_must (refine C.wpList_append_row (zs := s1.t2) (ks := [⟨key, 0⟩]) rfl _ _ rfl rfl (HM.out.r2.below ((Below.refl _ _).alloc (Nat.le_refl _) _)) rfl (C.src_one _ key 0) (by simp; omega) ?_); intro a7 n7 w7 hr7 hk7; obtain ⟨⟨x0, x1, x2, x3⟩, y0, y1, y2, y3⟩ := (HM.out.below ((Below.refl _ _).alloc (Nat.le_refl _) _)).still (by omega) hk7; have H7 : Hid (RE x (A.again (A.noGhost s1 key) key) (fun g => D1 g ∨ wr.heap.size ≤ g) (w7.setCell ⟨x, 1, none⟩ (.slice a7 (s1.t2.length + 1) n7))) := (by have h7 := ((HM.out.below ((Below.refl _ _).alloc (Nat.le_refl _) _)).put2 (fun k h => .inr (Nat.le_trans HK5.out.size (Nat.le_trans (by simp) h))) hk7 hr7); rw [List.length_append, List.length_cons, List.length_nil] at h7; exact ⟨_, _, _, _, _, _, _, h7⟩); have HK7 : Hid (Keeps (fun g => D1 g ∨ wr.heap.size ≤ g) wr (w7.setCell ⟨x, 1, none⟩ (.slice a7 (s1.t2.length + 1) n7))) := (((HK5.out.alloc _).trans (hk7.mono (fun _ _ h => h.1))).setCell (p := ⟨x, 1, none⟩) HM.out.dx _); clear hr7 hk7))
        go_ret2
        exact HEnd.out _ (by rw [HCm.out]; exact beside_end HG1.out HDr.out HGR.out HK7.out H7.out) (HWg.out _ HK7.out)
      · have hin := inn_no hg
        rw [hin] at HKn
        have HNo : Hid (A.noGhost s1 key = s1) := by
          show A.noGhost s1 key = s1
          unfold A.noGhost
          rw [less_same hg]
        rw [HNo.out] at HKn
        have HCm : Hid (A.comes s1 key = A.newest s1 key) := by
          show A.comes s1 key = _
          unfold A.comes
          rw [if_neg hg]
        clear hrc hok1 g1 gR hK gA hs1 hg hin hN
        go_wp2_with fail
        go_quiet (first | (go_at_call 69; refine Calls.quiet_of (hlen _)))
        clear hlen u0 u1 u2 u3
        go_wp2_with (first
          | (go_at_call 70; refine Calls.mono (HKn.out _ (below_drewN (Below.refl _ wr) _)) ?_; rintro e w5 ⟨rfl, ⟨M, r1, q1, r2, q2, r3, q3, hM⟩, hk5⟩; obtain ⟨u0, u1, u2, u3⟩ := hM.cells; have HM : Hid (ReIn (fun g => D1 g ∨ wr.heap.size ≤ g) M w5 x s1 r1 q1 r2 q2 r3 q3) := hM; have HK5 : Hid (Keeps (fun g => D1 g ∨ wr.heap.size ≤ g) wr w5) := ((Keeps.of_below (below_drewN (Below.refl _ wr) _)).trans hk5); clear hM hk5)
          | (at_builtin; go_must (refine C.wpList_append_row (zs := s1.t1) (ks := [⟨key, 0⟩]) rfl _ _ rfl rfl (HM.out.r1.below ((Below.refl _ _).alloc (Nat.le_refl _) _)) rfl (C.src_one _ key 0) (by simp; omega) ?_); intro a7 n7 w7 hr7 hk7; obtain ⟨⟨x0, x1, x2, x3⟩, y0, y1, y2, y3⟩ := (HM.out.below ((Below.refl _ _).alloc (Nat.le_refl _) _)).still (by omega) hk7; have H7 : Hid (RE x (A.newest s1 key) (fun g => D1 g ∨ wr.heap.size ≤ g) (w7.setCell ⟨x, 0, none⟩ (.slice a7 (s1.t1.length + 1) n7))) := (by have h7 := ((HM.out.below ((Below.refl _ _).alloc (Nat.le_refl _) _)).put1 (fun k h => .inr (Nat.le_trans HK5.out.size (Nat.le_trans (by simp) h))) hk7 hr7); rw [List.length_append, List.length_cons, List.length_nil] at h7; exact ⟨_, _, _, _, _, _, _, h7⟩); have HK7 : Hid (Keeps (fun g => D1 g ∨ wr.heap.size ≤ g) wr (w7.setCell ⟨x, 0, none⟩ (.slice a7 (s1.t1.length + 1) n7))) := (((HK5.out.alloc _).trans (hk7.mono (fun _ _ h => h.1))).setCell (p := ⟨x, 0, none⟩) HM.out.dx _); clear hr7 hk7))
        go_ret2
        exact HEnd.out _ (by rw [HCm.out]; exact beside_end HG1.out HDr.out HGR.out HK7.out H7.out) (HWg.out _ HK7.out)
    · have hs := Small.of HOk.out
      have hlen := fun q => rlen_any (hA.below (below_drewN (Below.refl _ wr) q)) hs
      rw [A.keys_length] at hlen
      have HK : Hid (Keeps D w wr) := hK
      have HDr : Hid (∀ k, wr.heap.size ≤ k → D k) := fun k h => HD.out k (Nat.le_trans hK.size h)
      have hlo := HOk.out.lo
      have HEv : Hid (∀ q, Calls Tryd.prog 50 #[.pointer (some ⟨x, 0, none⟩)] (wr.drewN q) (Goes x s D (wr.drewN q))) := fun q => rgoes_any (hA.below (below_drewN (Below.refl _ wr) q)) HOk.out (fun k h => HDr.out k h) (by omega)
      have HMk : Hid (∀ (g : ByteArray) (s1 : Stt), A.goes s = ([g], s1) → A.reclaim s = ([g], s1) ∧ s1.t1.length + s1.t2.length < s1.c ∧ A.Ok s1) := fun g s1 hgs => by
        have e : A.reclaim s = ([g], s1) := by rw [A.rec_full hfull, hgs]
        have hr := A.rec_any HOk.out.lo HOk.out.res
        rw [e] at hr
        have hok1 := hr.ok HOk.out
        refine ⟨e, ?_, hok1⟩
        have hres := HOk.out.res
        rcases hr with ⟨h, _, _⟩ | ⟨g', _, _, hw⟩
        · cases h
        · have h1 := hw.lr
          have h2 := hw.cs
          show s1.t1.length + s1.t2.length < s1.c
          simp only [] at h1 h2
          omega
      obtain ⟨N, hN⟩ : ∃ N, N = s.t1.length + s.t2.length := ⟨_, rfl⟩
      rw [← hN] at hlen hfull
      obtain ⟨L1, b1, m1, b2, m2, b3, m3, hA⟩ := hA
      obtain ⟨u0, u1, u2, u3⟩ := hA.cells
      have hd : decide ((s.c : Int) ≤ (N : Int)) = true := decide_eq_true (by omega)
      have hd2 : decide (s.c ≤ N) = true := decide_eq_true (by omega)
      have hd3 : s.c ≤ N := by omega
      clear hK hA hs hN hlo
      go_wp2_with fail
      go_quiet (first | (go_at_call 69; refine Calls.quiet_of (hlen _)))
      clear hlen u0 u1 u2 u3
      go_wp2_with (first
        | (go_at_call 50; refine Calls.mono (HEv.out _) ?_; rintro e w2 ⟨g, s1, hgs, rfl, h2, hk2⟩; have HGs := HMk.out g s1 hgs; have HGh : Hid _ := HGs; have H2 : Hid (RE x s1 D w2) := h2; have HK2 : Hid (Keeps D w w2) := ((HK.out.trans (Keeps.of_below (below_drewN (Below.refl _ wr) _))).trans hk2); clear hgs h2 hk2 HGs)
        | (at_builtin; go_must (refine wpList_append_row (D := fun _ => False) (zs := []) (ks := [g]) rfl _ _ rfl rfl Row.nil rfl (src_one _ g) (by simp) ?_); intro a7 n7 w7 hr7 hk7; have hb7 : Below w2.heap.size w2 w7 := (((Below.refl _ w2).alloc (Nat.le_refl _) _).trans (hk7.below (by simp) (fun _ h => h.elim))); have HB7 : Hid (Below w2.heap.size w2 w7) := hb7; have HR7 : Hid (Row (fun k => D k ∧ ¬ (D k ∧ k < w2.heap.size)) w7 a7 n7 [g]) := (hr7.wide (fun k _ h => by rcases h with h | h; exact h.elim; have h3 : w2.heap.size ≤ k := Nat.le_trans (by simp) h; exact ⟨HD.out k (Nat.le_trans HK2.out.size h3), fun h4 => by have := h4.2; omega⟩)); clear hr7 hk7 hb7))
      go_roundg 0
      case measure => omega
      case rel => exact .inl ⟨[g], s1, a7, n7, by simp, HGh.out.1, HGh.out.2.1, HGh.out.2.2, ⟨fun k => D k ∧ k < w2.heap.size, fun k h => ⟨h.1, Nat.lt_of_lt_of_le h.2 HB7.out.size⟩, H2.out.narrow.below HB7.out, HR7.out⟩, HK2.out.trans (Keeps.of_below HB7.out)⟩
theorem racc_any (H : RE x s D w) (hok : A.Ok s) (hD : ∀ k, w.heap.size ≤ k → D k) (key : ByteArray) :
    Calls Tryd.prog 47 #[.pointer (some ⟨x, 0, none⟩), .string key] w (Tells x (A.access s key) D w) := by
  unfold A.access
  by_cases h1 : key ∈ A.keys s
  · rw [if_pos h1]
    have hc : key ∈ A.ks s.t1 ∨ key ∈ A.ks s.t2 := by simpa [A.keys] using h1
    rcases hc with h | h
    · refine (racc_s H hok key h).mono ?_
      rintro e w' ⟨rfl, h, hk⟩
      exact ⟨none, 0, rfl, h.bare, hk⟩
    · refine (racc_m H hok key h).mono ?_
      rintro e w' ⟨rfl, h, hk⟩
      exact ⟨none, 0, rfl, h.bare, hk⟩
  · rw [if_neg h1]
    exact racc_miss H hok hD key h1
end
end Go.Proofs.YtnbfokmodjgaaabDoor
