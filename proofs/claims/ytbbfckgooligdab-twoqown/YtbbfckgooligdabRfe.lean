/- The document's machine: Evict as a whole, reclaim, New. -/
import Derived.Test.YtbbfckgooligdabRfd
import Derived.Test.YtbbfckgooligdabEu
namespace Go.Proofs.Ytbbfckgooligdab
open Go.RowKit

theorem beside_end {D D1 : Nat → Prop} {w2 w5 : World} {x : Nat} {s : Stt} {ad : Option Addr} {cap : Nat} {l : List ByteArray} (hD1 : ∀ g, D1 g → D g ∧ g < w2.heap.size) (hD : ∀ k, w2.heap.size ≤ k → D k) (hrow : Row (fun g => D g ∧ ¬ D1 g) w2 ad cap l)
    (hk : Keeps (fun g => D1 g ∨ w2.heap.size ≤ g) w2 w5) (H : RE x s (fun g => D1 g ∨ w2.heap.size ≤ g) w5) : Beside (RE x s) ad cap l D w5 := by
  refine ⟨_, fun g h => ⟨?_, h.2⟩, H.narrow, ((hrow.narrow).kept hk (fun g h => ?_)).wide (fun g _ h => ⟨h.1.1, ?_⟩)⟩
  · rcases h.1 with h | h
    · exact (hD1 g h).1
    · exact hD g h
  · rintro (h2 | h2)
    · exact h.1.2 h2
    · have := h.2; omega
  · rintro ⟨h2 | h2, _⟩
    · exact h.1.2 h2
    · have := h.2; omega
section
variable {D D' : Nat → Prop} {w w' : World} {x : Nat} {s : Stt}
theorem rgoes_any (H : RE x s D w) (hs : Small s) (ho : Single s) (hD : ∀ k, w.heap.size ≤ k → D k) (h : 0 < s.t1.length + s.t2.length) :
    Calls Try.prog 48 #[.pointer (some ⟨x, 0, none⟩)] w fun e w' => ∃ g s', A.goes s = ([g], s') ∧ e = .returned (.tuple #[.string g, .bool true]) ∧ RE x s' D w' ∧ Keeps D w w' := by
  cases hl : A.late s with
  | true =>
    obtain ⟨g, r, ht, hg⟩ := A.goes_late hl
    refine (revi_late H hs ho hD hl ht).mono ?_
    rintro e w' ⟨rfl, h2, hk⟩
    exact ⟨g, _, hg, rfl, h2, hk⟩
  | false =>
    obtain ⟨g, r, ht, hg⟩ := A.goes_early hl h
    refine (revi_early H hs ho hD hl ht).mono ?_
    rintro e w' ⟨rfl, h2, hk⟩
    exact ⟨g, _, hg, rfl, h2, hk⟩
theorem revict_any (H : RE x s D w) (hok : A.Ok s) (hD : ∀ k, w.heap.size ≤ k → D k) :
    Calls Try.prog 48 #[.pointer (some ⟨x, 0, none⟩)] w fun e w' => e = .returned (wentV (A.evict s).1) ∧ RE x (A.evict s).2 D w' ∧ Keeps D w w' := by
  have hkl := A.keys_length s
  by_cases h0 : (A.keys s).length = 0
  · rw [A.evi_no h0]
    refine (revi_no H (Small.of hok) h0).mono ?_
    rintro e w' ⟨rfl, q, rfl⟩
    exact ⟨rfl, H.below (below_drewN (Below.refl _ w) q), .of_below (below_drewN (Below.refl _ w) q)⟩
  · have e0 : A.evict s = A.goes s := by unfold A.evict; rw [if_neg h0]
    rw [e0]
    refine (rgoes_any H (Small.of hok) (Single.of hok) hD (by omega)).mono ?_
    rintro e w' ⟨g, s', hg, rfl, h2, hk⟩
    rw [hg]
    exact ⟨rfl, h2, hk⟩
set_option maxHeartbeats 2000000 in
theorem rreclaim_room (H : RE x s D w) (hs : Small s) (hl : s.t1.length + s.t2.length < s.c) :
    Calls Try.prog 68 #[.pointer (some ⟨x, 0, none⟩)] w fun e w' => e = .returned (.slice none 0 0) ∧ ∃ q, w' = w.drewN q := by
  have hlen := fun q => rlen_any (H.below (below_drewN (Below.refl _ w) q)) hs
  rw [A.keys_length] at hlen
  obtain ⟨L, a1, c1, a2, c2, a3, c3, H⟩ := H
  obtain ⟨d0, d1, d2, d3⟩ := H.cells
  have hhi := hs.hc
  generalize s.t1.length + s.t2.length = n at *
  generalize s.c = c at *
  have hlI : (n : Int) < (c : Int) := by omega
  clear H hs
  go_enter Try.func68, Try.ntmps68
  go_wp2_with fail
  go_quiet (first | (go_at_call 69; refine Calls.quiet_of (hlen _)))
  go_wp2_with fail
  go_ret
  exact ⟨rfl, _, rfl⟩
theorem rfull_end {w0 w2 : World} (g : ByteArray) {s' : Stt} (h2 : RE x s' D w2) (hk : Keeps D w w0) (hk2 : Keeps D w0 w2) (hD : ∀ k, w.heap.size ≤ k → D k) :
    Beside (RE x s') (some ⟨w2.heap.size, 0, none⟩) 1 [g] D (w2.alloc (.cells #[.string g] 9)) ∧ Keeps D w (w2.alloc (.cells #[.string g] 9)) := by
  have hs2 := (hk.trans hk2).size
  exact ⟨⟨fun k => D k ∧ k < w2.heap.size, fun k h => ⟨h.1, by rw [World.size_alloc]; omega⟩, h2.narrow.below ((Below.refl _ w2).alloc (Nat.le_refl _) _), row_lit g ⟨hD _ hs2, fun h => Nat.lt_irrefl _ h.2⟩⟩, (hk.trans hk2).alloc _⟩
set_option maxHeartbeats 2000000 in
theorem rreclaim_full (H : RE x s D w) (hs : Small s) (ho : Single s) (hD : ∀ k, w.heap.size ≤ k → D k) (hlo : 1 ≤ s.c) (hl : s.c ≤ s.t1.length + s.t2.length) :
    Calls Try.prog 68 #[.pointer (some ⟨x, 0, none⟩)] w fun e w' => ∃ g s' ad cap, A.goes s = ([g], s') ∧ e = .returned (.slice ad 1 cap) ∧ Beside (RE x s') ad cap [g] D w' ∧ Keeps D w w' := by
  have hlen := fun q => rlen_any (H.below (below_drewN (Below.refl _ w) q)) hs
  rw [A.keys_length] at hlen
  have HEv : Hid (∀ q, Calls Try.prog 48 #[.pointer (some ⟨x, 0, none⟩)] (w.drewN q) fun e w' => ∃ g s', A.goes s = ([g], s') ∧ e = .returned (.tuple #[.string g, .bool true]) ∧ RE x s' D w' ∧ Keeps D (w.drewN q) w') := fun q => rgoes_any (H.below (below_drewN (Below.refl _ w) q)) hs ho (fun k h => hD k h) (by omega)
  have HD : Hid (∀ k, w.heap.size ≤ k → D k) := hD
  obtain ⟨L, a1, c1, a2, c2, a3, c3, H⟩ := H
  obtain ⟨d0, d1, d2, d3⟩ := H.cells
  have hhi := hs.hc
  obtain ⟨n, hn⟩ : ∃ n, n = s.t1.length + s.t2.length := ⟨_, rfl⟩
  obtain ⟨c, hcc⟩ : ∃ c, c = s.c := ⟨_, rfl⟩
  rw [← hn] at hl hlen
  rw [← hcc] at d3 hl hhi
  have hlI : ¬ (n : Int) < (c : Int) := by omega
  clear H hs hD ho hn hcc hlo
  go_enter Try.func68, Try.ntmps68
  go_wp2_with fail
  go_quiet (first | (go_at_call 69; refine Calls.quiet_of (hlen _)))
  go_wp2_with (go_at_call 48; refine Calls.mono (HEv.out _) ?_; rintro e w2 ⟨g, s', hg, rfl, h2, hk2⟩)
  go_ret
  exact ⟨g, s', _, _, hg, rfl, rfull_end g h2 (Keeps.of_below (below_drewN (Below.refl _ w) _)) hk2 HD.out⟩
theorem rreclaim_any (H : RE x s D w) (hs : Small s) (ho : Single s) (hD : ∀ k, w.heap.size ≤ k → D k) (hlo : 1 ≤ s.c) :
    Calls Try.prog 68 #[.pointer (some ⟨x, 0, none⟩)] w fun e w' => ∃ ad cap, e = .returned (.slice ad (A.reclaim s).1.length cap) ∧ Beside (RE x (A.reclaim s).2) ad cap (A.reclaim s).1 D w' ∧ Keeps D w w' := by
  by_cases hl : s.t1.length + s.t2.length < s.c
  · rw [A.rec_room hl]
    refine (rreclaim_room H hs hl).mono ?_
    rintro e w' ⟨rfl, q, rfl⟩
    exact ⟨none, 0, rfl, ⟨_, fun _ h => h, (H.below (below_drewN (Below.refl _ w) q)).narrow, Row.nil⟩, .of_below (below_drewN (Below.refl _ w) q)⟩
  · rw [A.rec_full (by omega)]
    refine (rreclaim_full H hs ho hD hlo (by omega)).mono ?_
    rintro e w' ⟨g, s', ad, cap, hg, rfl, h1, h2⟩
    rw [hg]
    exact ⟨ad, cap, rfl, h1, h2⟩
theorem eng_start (c : Nat) (v : Int) (h : v = c) : some (Obj.cells #[.slice none 0 0, .slice none 0 0, .slice none 0 0, .int .i64 v] 73 (0, 0)) = some (Obj.cells (eng (A.start c) none 0 none 0 none 0) 73 (0, 0)) := by
  subst h
  rfl
theorem rnew_any (r : Int) (hD : ∀ k, w.heap.size ≤ k → D k) :
    Calls Try.prog 25 #[.int .i64 r] w fun e w' => ∃ x, e = .returned (.pointer (some ⟨x, 0, none⟩)) ∧ RE x (A.start (heldC r)) D w' ∧ Keeps D w w' := by
  have hc : ((heldC r : Nat) : Int) = min (max r 1) 1024 := by unfold heldC; omega
  go_enter Try.func25, Try.ntmps25
  go_wp2_with fail
  all_goals
    go_ret
    refine ⟨_, rfl, ⟨fun g => if g = w.heap.size then 0 else 1, none, 0, none, 0, none, 0, hD _ (Nat.le_refl _), by simp, ?_, Row.nil, Row.nil, Row.nil⟩, (Keeps.refl D w).alloc _⟩
    rw [heap_alloc_new]
    exact eng_start _ _ (by first | exact hc.symm | omega)
end
end Go.Proofs.Ytbbfckgooligdab
