/- A ring of numbers: New, Push, Pop. -/
import Derived.Test.YtpjeehdgdhbhdaaNum
namespace Go.Proofs.Ytpjeehdgdhbhdaa.Num
open Go.RowKit

section
variable {D : Nat → Prop} {w : World} {p : Nat} {sl xs : List Int} {first count room : Nat} {ad : Option Addr}
def heldRoom (r : Int) : Nat := if r < 0 then 0 else if 4096 < r then 4096 else r.toNat
theorem held_le (r : Int) : heldRoom r ≤ 4096 := by
  unfold heldRoom
  split
  · omega
  · split <;> omega
theorem new_any (w : World) (D : Nat → Prop) (hD : D w.heap.size) (r : Int) :
    Calls Try.prog 6 #[.int .i64 r] w fun e w' => ∃ p, e = .returned (.pointer (some ⟨p, 0, none⟩)) ∧ RG V 3 47 D w' p [] (heldRoom r) ∧ Keeps D w w' ∧ p = w.heap.size := by
  rcases Int.lt_or_le r 0 with h0 | h0
  · rw [show heldRoom r = 0 by simp [heldRoom, h0]]
    go_enter Try.func6, Try.ntmps6
    go_wp2
    go_ret
    exact ⟨_, rfl, RG.made V 3 47 hD 0 (by omega), (Keeps.refl D w).alloc _, rfl⟩
  · obtain ⟨n, rfl⟩ : ∃ n : Nat, r = n := ⟨r.toNat, by omega⟩
    rcases Nat.lt_or_ge 4096 n with h1 | h1
    · rw [show heldRoom (n : Int) = 4096 by unfold heldRoom; rw [if_neg (by omega), if_pos (by omega)]]
      go_enter Try.func6, Try.ntmps6
      go_wp2
      go_ret
      exact ⟨_, rfl, RG.made V 3 47 hD 4096 (by omega), (Keeps.refl D w).alloc _, rfl⟩
    · rw [show heldRoom (n : Int) = n by unfold heldRoom; rw [if_neg (by omega), if_neg (by omega)]; omega]
      have hmx : max (n : Int) 0 = n := by omega
      go_enter Try.func6, Try.ntmps6
      go_wp2
      go_ret
      exact ⟨_, rfl, RG.made V 3 47 hD n h1, (Keeps.refl D w).alloc _, rfl⟩
def pushed {β : Type} (xs : List β) (room : Nat) (v : β) : List β := if xs.length < room then xs ++ [v] else xs
theorem push_full (H : RG V 3 47 D w p xs room) (v : Int) (h : xs.length = room) :
    Calls Try.prog 10 #[.pointer (some ⟨p, 0, none⟩), V v] w fun e w' => e = .returned (.bool false) ∧ w' = w := by
  have h1 := len_any H
  have h2 := room_any H
  have hl := H.len
  rw [h] at h1
  clear H
  go_enter Try.func10, Try.ntmps10
  go_wp2_with (first
    | (go_at_call 16; refine h1.mono ?_; rintro e w1 ⟨rfl, rfl⟩)
    | (go_at_call 17; refine h2.mono ?_; rintro e w1 ⟨rfl, rfl⟩))
  go_ret
  exact ⟨rfl, rfl⟩
theorem push_end {w1 : World} {g j : Nat} (H : RingIn V 3 47 D w1 p sl first xs.length room (some ⟨g, 0, none⟩)) (o : Ok sl first room xs) (h : xs.length < sl.length) (v : Int) (hj : j = (first + xs.length) % sl.length) (q : Nat) (hg : D g) (hk : Keeps D w w1) :
    RG V 3 47 D (((w1.drewN q).setCell ⟨g, j, none⟩ (V v)).setCell ⟨p, 2, none⟩ (.int .i64 ((xs.length : Int) + 1))) p (xs ++ [v]) room ∧ Keeps D w (((w1.drewN q).setCell ⟨g, j, none⟩ (V v)).setCell ⟨p, 2, none⟩ (.int .i64 ((xs.length : Int) + 1))) := by
  subst hj
  have h2 := (((H.drewN q).setSlot (by omega) ((first + xs.length) % sl.length) v).setCount (xs.length + 1))
  exact ⟨⟨_, _, _, by rw [List.length_append]; exact h2, o.push h v⟩, ((hk.drewN q).setCell hg _).setCell H.1 _⟩
set_option maxHeartbeats 1000000 in
theorem push_wide (H : RingIn V 3 47 D w p sl first xs.length room ad) (o : Ok sl first room xs) (hD : ∀ k, w.heap.size ≤ k → D k) (v : Int) (h : xs.length < room) (hs : xs.length < sl.length) :
    Calls Try.prog 10 #[.pointer (some ⟨p, 0, none⟩), V v] w fun e w' => e = .returned (.bool true) ∧ RG V 3 47 D w' p (xs ++ [v]) room ∧ Keeps D w w' := by
  have h1 := len_in H
  have h2 := room_in H
  have hbig := o.big
  have hfit := o.fits
  have hf : first ≤ 4096 := by rcases o.fst with h | ⟨h, _⟩ <;> omega
  have hm : (first + xs.length) % sl.length < sl.length := Nat.mod_lt _ (by omega)
  obtain ⟨y, hy⟩ : ∃ y, sl[(first + xs.length) % sl.length]? = some y := ⟨_, List.getElem?_eq_getElem hm⟩
  obtain ⟨g, rfl, hgp, hDg, hc, hfr⟩ := H.slot hy
  have hsl : ∀ W : World, RingIn V 3 47 D W p sl first xs.length room (some ⟨g, 0, none⟩) → Calls Try.prog 24 #[.pointer (some ⟨p, 0, none⟩), .int .i64 (xs.length : Nat)] W fun e w' => e = .returned (.int .i64 (((first + xs.length) % sl.length : Nat) : Int)) ∧ ∃ q, w' = W.drewN q := fun W h => slot_in h xs.length (by omega) (by omega) hf (by omega)
  obtain ⟨c0, c1, c2, c3, f0, f1, f2, f3⟩ := H.top
  have HO : Hid (Ok sl first room xs) := o
  have HH : Hid (RingIn V 3 47 D w p sl first xs.length room (some ⟨g, 0, none⟩)) := H
  obtain ⟨j, hj⟩ : ∃ j, j = (first + xs.length) % sl.length := ⟨_, rfl⟩
  rw [← hj] at hm hc hfr hsl
  have HJ : Hid (j = (first + xs.length) % sl.length) := hj
  clear H o hy hj
  go_enter Try.func10, Try.ntmps10
  go_wp2_with (first
    | (go_at_call 16; refine h1.mono ?_; rintro e w1 ⟨rfl, rfl⟩; clear h1)
    | (go_at_call 17; refine h2.mono ?_; rintro e w1 ⟨rfl, rfl⟩; clear h2))
  go_quiet (fail)
  go_wp2
  go_region_with (first | (go_at_call 24; refine (hsl _ (HH.out.drewN _)).mono ?_; rintro e w2 ⟨rfl, q, rfl⟩))
  all_goals
    go_wp2
    go_ret
    exact ⟨rfl, push_end HH.out HO.out hs v HJ.out _ hDg (Keeps.refl D _)⟩
set_option maxHeartbeats 1000000 in
theorem push_grow (H : RingIn V 3 47 D w p sl first xs.length room ad) (o : Ok sl first room xs) (hD : ∀ k, w.heap.size ≤ k → D k) (v : Int) (h : xs.length < room) (hs : xs.length = sl.length) :
    Calls Try.prog 10 #[.pointer (some ⟨p, 0, none⟩), V v] w fun e w' => e = .returned (.bool true) ∧ RG V 3 47 D w' p (xs ++ [v]) room ∧ Keeps D w w' := by
  have h1 := len_in H
  have h2 := room_in H
  have hbig := o.big
  obtain ⟨m, hme⟩ : ∃ m, m = if room < 2 * xs.length + 1 then room else 2 * xs.length + 1 := ⟨_, rfl⟩
  have hmm : xs.length < m ∧ m ≤ room := by split at hme <;> omega
  have hwd : ∀ W : World, RingIn V 3 47 D W p sl first xs.length room ad → (∀ k, W.heap.size ≤ k → D k) → Calls Try.prog 25 #[.pointer (some ⟨p, 0, none⟩)] W fun e w' => e = .returned (.tuple #[]) ∧ (∃ q, RingIn V 3 47 D w' p (xs ++ List.replicate (m - xs.length) 0) 0 xs.length room (some ⟨q, 0, none⟩)) ∧ Keeps D W w' := fun W h' hW => widen_at h' o hW h m hme
  have o2 := o.widen hmm.1 hmm.2 0
  have hl2 : (xs ++ List.replicate (m - xs.length) 0).length = m := by simp; omega
  generalize xs ++ List.replicate (m - xs.length) 0 = s2 at hwd o2 hl2
  obtain ⟨j, hj⟩ : ∃ j, j = (0 + xs.length) % s2.length := ⟨_, rfl⟩
  have hjm : j < s2.length := by rw [hj]; exact Nat.mod_lt _ (by omega)
  obtain ⟨y, hy⟩ : ∃ y, s2[j]? = some y := ⟨_, List.getElem?_eq_getElem hjm⟩
  have hsl : ∀ (q : Nat) (W : World), RingIn V 3 47 D W p s2 0 xs.length room (some ⟨q, 0, none⟩) → Calls Try.prog 24 #[.pointer (some ⟨p, 0, none⟩), .int .i64 (xs.length : Nat)] W fun e w' => e = .returned (.int .i64 (j : Nat)) ∧ ∃ q, w' = W.drewN q := fun q W h => by
    rw [hj]; exact slot_in h xs.length (by omega) (by omega) (by omega) (by omega)
  obtain ⟨c0, c1, c2, c3, f0, f1, f2, f3⟩ := H.top
  have HO : Hid (Ok s2 0 room xs) := o2
  have HY : Hid (s2[j]? = some y) := hy
  have HJ : Hid (j = (0 + xs.length) % s2.length) := hj
  have HH : Hid (RingIn V 3 47 D w p sl first xs.length room ad) := H
  have HD : Hid (∀ k, w.heap.size ≤ k → D k) := hD
  have hs2 : (xs.length : Int) = sl.length := by omega
  have hsm : xs.length < s2.length := by omega
  clear H o o2 hy hj hme hD
  go_enter Try.func10, Try.ntmps10
  go_wp2_with (first
    | (go_at_call 16; refine h1.mono ?_; rintro e w1 ⟨rfl, rfl⟩; clear h1)
    | (go_at_call 17; refine h2.mono ?_; rintro e w1 ⟨rfl, rfl⟩; clear h2))
  go_quiet (fail)
  go_wp2_with (first
    | (go_at_call 25; refine (hwd _ (HH.out.drewN _) HD.out).mono ?_; rintro e w3 ⟨rfl, ⟨g, H3⟩, hk3⟩; obtain ⟨g', eg, hgp, hDg, hc, hfr⟩ := H3.slot HY.out; cases eg; obtain ⟨t0, t1, t2, t3, u0, u1, u2, u3⟩ := H3.top; have HH3 : Hid (RingIn V 3 47 D w3 p s2 0 xs.length room (some ⟨g, 0, none⟩)) := H3; clear H3 hwd hs2 hs c0 c1 c2 c3 f0 f1 f2 f3))
  go_region_with (first | (go_at_call 24; refine (hsl g w3.drew HH3.out).mono ?_; rintro e w2 ⟨rfl, q, rfl⟩))
  all_goals
    go_wp2
    go_ret
    exact ⟨rfl, push_end HH3.out HO.out hsm v HJ.out _ hDg (((Keeps.refl D _).drewN _).trans hk3)⟩
theorem push_any (H : RG V 3 47 D w p xs room) (hD : ∀ k, w.heap.size ≤ k → D k) (v : Int) :
    Calls Try.prog 10 #[.pointer (some ⟨p, 0, none⟩), V v] w fun e w' => e = .returned (.bool (decide (xs.length < room))) ∧ RG V 3 47 D w' p (pushed xs room v) room ∧ Keeps D w w' := by
  by_cases h : xs.length < room
  · rw [show decide (xs.length < room) = true by simpa using h, show pushed xs room v = xs ++ [v] by simp [pushed, h]]
    obtain ⟨sl, f, ad, H, o⟩ := H
    have := o.le
    by_cases hs : xs.length < sl.length
    · exact push_wide H o hD v h hs
    · exact push_grow H o hD v h (by omega)
  · have hl := H.len
    rw [show decide (xs.length < room) = false by simpa using h, show pushed xs room v = xs by simp [pushed, h]]
    exact (push_full H v (by omega)).mono fun e w' ⟨he, hw⟩ => ⟨he, by rw [hw]; exact H, by rw [hw]; exact Keeps.refl D w⟩
end
end Go.Proofs.Ytpjeehdgdhbhdaa.Num
