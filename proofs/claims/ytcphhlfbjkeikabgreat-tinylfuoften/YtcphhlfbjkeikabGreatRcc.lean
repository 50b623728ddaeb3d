/- The document's machine: Remove. -/
import Derived.Test.YtcphhlfbjkeikabGreatRb9
namespace Go.Proofs.YtcphhlfbjkeikabGreat
open Go.RowKit

/-- three others -/
theorem ReIn.both123 {D : Nat → Prop} {L : Nat → Nat} {w w3 w4 w5 : World} {x : Nat} {y : Dk} {s : Stt} {a1 a2 a3 a a' a'' : Option Addr} {c1 c2 c3 c c' c'' : Nat} {zs zs' zs'' : List ByteArray} (H : ReIn D L w x y s a1 c1 a2 c2 a3 c3) (hD : ∀ k, w.heap.size ≤ k → D k)
    (hb : Below w.heap.size w w3) (hr : Row (w.heap.size ≤ ·) w3 a c zs) (hb2 : Below w3.heap.size w3 w4) (hr2 : Row (w3.heap.size ≤ ·) w4 a' c' zs') (hb3 : Below w4.heap.size w4 w5) (hr3 : Row (w4.heap.size ≤ ·) w5 a'' c'' zs'') :
    RE x y { s with t1 := zs, b1 := zs', t2 := zs'' } D (((w5.setCell ⟨x, 0, none⟩ (.slice a zs.length c)).setCell ⟨x, 1, none⟩ (.slice a' zs'.length c')).setCell ⟨x, 2, none⟩ (.slice a'' zs''.length c'')) := by
  have hx := lt_of_block H.top
  have hs := hb.size
  have hs2 := hb2.size
  have H3 := H.put1 hD (.of_below hb) (hr.wide (fun _ _ h => .inr h))
  have hz : (w3.setCell ⟨x, 0, none⟩ (.slice a zs.length c)).heap.size = w3.heap.size := by simp [World.setCell]
  have hk4 : Keeps (fun k => k = x) w4 (w4.setCell ⟨x, 0, none⟩ (.slice a zs.length c)) := Keeps.setCell (D := fun k => k = x) (Keeps.refl _ w4) (p := ⟨x, 0, none⟩) rfl _
  have H4 := H3.put2 (fun k h => hD k (by omega)) (.of_below (below_set hb2 (a := ⟨x, 0, none⟩) _)) ((hr2.kept hk4 (fun k h e => by subst e; have h' : w3.heap.size ≤ k := h; omega)).wide (fun k _ h => .inr (by have h' : w3.heap.size ≤ k := h; omega)))
  have hz4 : ((w4.setCell ⟨x, 0, none⟩ (.slice a zs.length c)).setCell ⟨x, 1, none⟩ (.slice a' zs'.length c')).heap.size = w4.heap.size := by simp [World.setCell]
  have hk5 : Keeps (fun k => k = x) w5 ((w5.setCell ⟨x, 0, none⟩ (.slice a zs.length c)).setCell ⟨x, 1, none⟩ (.slice a' zs'.length c')) := (Keeps.setCell (D := fun k => k = x) (Keeps.refl _ w5) (p := ⟨x, 0, none⟩) rfl _).setCell (p := ⟨x, 1, none⟩) rfl _
  have H5 := H4.put3 (fun k h => hD k (by omega)) (.of_below (below_set (below_set hb3 (a := ⟨x, 0, none⟩) _) (a := ⟨x, 1, none⟩) _)) ((hr3.kept hk5 (fun k h e => by subst e; have h' : w4.heap.size ≤ k := h; omega)).wide (fun k _ h => .inr (by have h' : w4.heap.size ≤ k := h; omega)))
  exact ⟨_, _, _, _, _, _, _, H5⟩
section
variable {D D' : Nat → Prop} {w w' : World} {x : Nat} {y : Dk} {s : Stt}
set_option maxRecDepth 20000 in
set_option maxHeartbeats 4000000 in
theorem rrem_yes (H : RE x y s D w) (hs : Small s) (hD : ∀ k, w.heap.size ≤ k → D k) (key : ByteArray) (hk : key ∈ A.keys s) :
    Calls Tryz.prog 31 #[.pointer (some ⟨x, 0, none⟩), .string key] w fun e w' => e = .returned (.bool true) ∧ RE x y { s with t1 := A.cut s.t1 key, b1 := A.cut s.b1 key, t2 := A.cut s.t2 key } D w' ∧ Keeps D w w' := by
  have hh := rhas_key H hs key
  rw [inn_yes hk] at hh
  obtain ⟨L, a1, c1, a2, c2, a3, c3, H⟩ := H
  obtain ⟨d0, d1, d2, d3, d4, d5⟩ := H.cells
  have HH : Hid (ReIn D L w x y s a1 c1 a2 c2 a3 c3) := H
  have l1 := hs.l1
  have l2 := hs.l2
  have l3 := hs.l3
  clear H hs
  go_enter Tryz.func31, Tryz.ntmps31
  go_wp2_with (first
    | (go_at_call 12; refine hh.mono ?_; rintro e w1 ⟨rfl, rfl⟩; clear hh))
  go_region_law (first
    | (refine step_cut (by rfl) _ _ (by rfl) (zs := s.t1) (by rfl) (by rfl) (HH.out.r1.below (Below.refl _ _).drew) (by omega) ?_
       intro b1 n1 w3 hr1 hb1
       have hbw : Below w1.heap.size w1 w3 := ((Below.refl _ w1).drew).trans hb1
       obtain ⟨u0, u1, u2, u3, u4, u5⟩ := (HH.out.below hbw).cells)
    | (refine step_cut (by rfl) _ _ (by rfl) (zs := s.b1) (by rfl) (by rfl) (HH.out.r2.below hbw) (by omega) ?_
       intro b2 n2 w4 hr2 hb2
       have hbx : Below w1.heap.size w1 w4 := hbw.trans (hb2.mono hbw.size)
       obtain ⟨i0, i1, i2, i3, i4, i5⟩ := (HH.out.below hbx).cells)
    | (refine step_cut (by rfl) _ _ (by rfl) (zs := s.t2) (by rfl) (by rfl) (HH.out.r3.below hbx) (by omega) ?_
       intro b3 n3 w5 hr3 hb3
       have hbv : Below w1.heap.size w1 w5 := hbx.trans (hb3.mono hbx.size)
       obtain ⟨m0, m1, m2, m3, m4, m5⟩ := (HH.out.below hbv).cells
       obtain ⟨v0, v1, v2, v3⟩ := (HH.out.below hbv).thaw))
  all_goals
    go_wp2_with fail
    go_ret
    have hz : w1.drew.heap.size = w1.heap.size := rfl
    exact ⟨rfl, HH.out.both123 hD hbw hr1 hb2 hr2 hb3 hr3, ((((Keeps.of_below hbv).setCell (p := ⟨x, 0, none⟩) HH.out.dx _).setCell (p := ⟨x, 1, none⟩) HH.out.dx _).setCell (p := ⟨x, 2, none⟩) HH.out.dx _)⟩
theorem rrem_no (H : RE x y s D w) (hs : Small s) (key : ByteArray) (hk : key ∉ A.keys s) :
    Calls Tryz.prog 31 #[.pointer (some ⟨x, 0, none⟩), .string key] w fun e w' => e = .returned (.bool false) ∧ w' = w := by
  have hh := rhas_key H hs key
  rw [inn_no hk] at hh
  clear H hs
  go_enter Tryz.func31, Tryz.ntmps31
  go_wp2_with (first
    | (go_at_call 12; refine hh.mono ?_; rintro e w1 ⟨rfl, rfl⟩; clear hh))
  go_ret
  exact ⟨rfl, rfl⟩
theorem rremove_any (H : RE x y s D w) (hok : A.Ok s) (hD : ∀ k, w.heap.size ≤ k → D k) (key : ByteArray) :
    Calls Tryz.prog 31 #[.pointer (some ⟨x, 0, none⟩), .string key] w fun e w' => e = .returned (.bool (A.remove s key).1) ∧ RE x y (A.remove s key).2 D w' ∧ Keeps D w w' := by
  unfold A.remove
  by_cases hk : key ∈ A.keys s
  · rw [if_pos hk]
    exact rrem_yes H (Small.of hok) hD key hk
  · rw [if_neg hk]
    refine (rrem_no H (Small.of hok) key hk).mono ?_
    rintro e w' ⟨rfl, rfl⟩
    exact ⟨rfl, H, Keeps.refl D _⟩
end
end Go.Proofs.YtcphhlfbjkeikabGreat
