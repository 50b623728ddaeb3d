/- The document's machine: a key that is a ghost. The document's machine: a key that nobody knows. The document's machine: a key that nobody knows, where one must go. -/
import Derived.Test.YtfbdmoineahfgabDoorRga
namespace Go.Proofs.YtfbdmoineahfgabDoor
open Go.RowKit

theorem rep_small {s : Stt} (hs : Small s) (key : ByteArray) : ((A.replace s key).2.b1.length ≤ 4300 ∧ (A.replace s key).2.b2.length ≤ 4300) ∧ (A.replace s key).2.t2.length ≤ 4300 := by
  have h1 := hs.t2; have h2 := hs.b1; have h3 := hs.b2
  rcases Nat.lt_or_ge (s.t1.length + s.t2.length) s.c with h | h
  · rw [A.rep_room key h]
    show (s.b1.length ≤ 4300 ∧ s.b2.length ≤ 4300) ∧ s.t2.length ≤ 4300
    exact ⟨⟨by omega, by omega⟩, by omega⟩
  · obtain ⟨g, s', e, hw⟩ := A.rep_full key hs.lo h
    rw [e]
    have := hw.l1; have := hw.l2; have := hs.t1
    show (s'.b1.length ≤ 4300 ∧ s'.b2.length ≤ 4300) ∧ s'.t2.length ≤ 4300
    exact ⟨⟨by omega, by omega⟩, by omega⟩
theorem beside_end {D D1 : Nat → Prop} {w2 w5 : World} {x : Nat} {s : Stt} {ad : Option Addr} {cap : Nat} {l : List ByteArray} (hD1 : ∀ g, D1 g → D g ∧ g < w2.heap.size) (hD : ∀ k, w2.heap.size ≤ k → D k) (hrow : Row (fun g => D g ∧ ¬ D1 g) w2 ad cap l)
    (hk : Keeps (fun g => D1 g ∨ w2.heap.size ≤ g) w2 w5) (H : RE x s (fun g => D1 g ∨ w2.heap.size ≤ g) w5) : Beside (RE x s) ad cap l D w5 := by
  refine ⟨_, fun g h => ⟨?_, h.2⟩, H.narrow, ((hrow.narrow).kept hk (fun g h => ?_)).wide (fun g _ h => ⟨h.1.1, ?_⟩)⟩
  · rcases h.1 with h | h
    · exact (hD1 g h).1
    · exact hD g h
  · rintro (h2 | h2)
    · exact h.1.2 h2
    · have := h.2; omega
  · rintro ⟨h2 | h2, _⟩
    · exact h.1.2 h2
    · have := h.2; omega
section
variable {D D' : Nat → Prop} {w w' : World} {x : Nat} {s : Stt}
set_option maxHeartbeats 4000000 in
theorem rknown1 (H : RE x s D w) (hs : Small s) (ho : Single s) (hD : ∀ k, w.heap.size ≤ k → D k) (key : ByteArray) (hr : s.t1.length + s.t2.length ≤ s.c) (hb : key ∈ s.b1) :
    Calls Tryd.prog 66 #[.pointer (some ⟨x, 0, none⟩), .string key] w fun e w' => ∃ ad cap, e = .returned (.slice ad (A.replace (A.more s) key).1.length cap) ∧ Beside (RE x (A.fromB1 (A.replace (A.more s) key).2 key)) ad cap (A.replace (A.more s) key).1 D w' ∧ Keeps D w w' := by
  obtain ⟨L, a1, c1, a2, c2, a3, c3, a4, c4, H⟩ := H
  obtain ⟨d0, d1, d2, d3, d4, d5⟩ := H.cells
  obtain ⟨f0, f1, f2, f3, f4, f5⟩ := H.thaw
  have hhas := rhas_any H.r3 (by have := hs.b1; omega) key
  have hj := idx_mem hb
  have hsm : Small (A.more s) := ⟨hs.t1, hs.t2, hs.b1, hs.b2, by have := hs.p; have := hs.hi; simp only [A.more]; omega, hs.lo, hs.hi⟩
  have hRE : ∀ v : Int, v = ((A.more s).p : Nat) → RE x (A.more s) D (w.setCell ⟨x, 4, none⟩ (.int .i64 v)).drew := fun v hv => by subst hv; exact RE.below ⟨_, _, _, _, _, _, _, _, _, H.setP _⟩ ((Below.refl _ _).drew)
  have hrep := fun (v : Int) (hv : v = ((A.more s).p : Nat)) => rreplace_any (hRE v hv) hsm ho (fun k h => hD k (by have h2 : (w.setCell ⟨x, 4, none⟩ (.int .i64 v)).heap.size ≤ k := h; simpa [World.setCell] using h2)) key hr
  have hkp : ∀ v : Int, Keeps D w (w.setCell ⟨x, 4, none⟩ (.int .i64 v)).drew := fun v => ((Keeps.refl D w).setCell (p := ⟨x, 4, none⟩) H.dx _).drew
  have hrl := rep_small hsm key
  have hp := hs.p
  have hhi := hs.hi
  have hlo := hs.lo
  have l3 := hs.b1
  have l4 := hs.b2
  have hb1 : 0 < s.b1.length := List.length_pos_of_mem hb
  obtain ⟨Q, hQ⟩ : ∃ Q : Nat, s.b2.length / s.b1.length = Q := ⟨_, rfl⟩
  have hq : ((s.b2.length : Nat) : Int) / ((s.b1.length : Nat) : Int) = (Q : Int) := by rw [← Int.natCast_ediv, hQ]
  have hQl : Q ≤ 2100 := by rw [← hQ]; exact Nat.le_trans (Nat.div_le_self _ _) l4
  have hpm : (A.more s).p = min s.c (s.p + max 1 Q) := by simp only [A.more, hQ]
  clear hQ hb
  rw [hpm] at hrep
  generalize idx s.b1 key = j at *
  
  generalize s.b1.length = n3 at *
  generalize s.b2.length = n4 at *
  generalize A.replace (A.more s) key = rp at *
  clear H hs hpm ho hr hRE hsm
  go_enter Tryd.func66, Tryd.ntmps66
  go_wp2_with (go_at_call 65; refine hhas.mono ?_; rintro e w1 ⟨rfl, rfl⟩; clear hhas)
  go_region
  generalize hM : (if (1 : Int) < (Q : Int) then (Q : Int) else 1) = M
  generalize hV : (if (s.p : Int) + M < (s.c : Int) then (s.p : Int) + M else (s.c : Int)) = V
  have hVe : V = ((min s.c (s.p + max 1 Q) : Nat) : Int) := by
    subst hV hM
    split <;> split <;> omega
  clear hM hq
  generalize hW : (w1.setCell ⟨x, 4, none⟩ (.int .i64 V)).drew = W4
  replace hrep := hrep V hVe
  replace hkp := hkp V
  rw [hW] at hrep hkp
  clear hV hVe hW d0 d1 d2 d3 d4 d5 f0 f1 f2 f3 f4 f5
  go_wp2_with (first
    | (go_at_call 83; refine hrep.mono ?_; rintro e w2 ⟨ad, cap, rfl, ⟨D1, hD1, HB, hrow⟩, hk2⟩; have hW2 : w1.heap.size ≤ w2.heap.size := Nat.le_trans hkp.size hk2.size; obtain ⟨L2, e1, m1, e2, m2, e3, m3, e4, m4, H2⟩ := RE.wide (D' := fun g => D1 g ∨ w2.heap.size ≤ g) HB (fun _ _ h => .inl h); obtain ⟨d0, d1, d2, d3, d4, d5⟩ := H2.cells; have hcut := rcut_any H2.r3 (by have := hrl.1; omega) key; have HH : Hid _ := H2; clear hrep HB H2)
    | (go_at_call 64; refine hcut.mono ?_; rintro e w3 ⟨b1, n1, rfl, hr1, hb1⟩; obtain ⟨u0, u1, u2, u3, u4, u5⟩ := (HH.out.below hb1).cells; obtain ⟨v0, v1, v2, v3, v4, v5⟩ := (HH.out.below hb1).thaw; have H2 := HH.out.put3 (fun _ h => .inr h) (.of_below hb1) (hr1.wide (fun _ _ h => .inr h)); have hk1 : Keeps (fun g => D1 g ∨ w2.heap.size ≤ g) w2 (w3.setCell ⟨x, 2, none⟩ (.slice b1 (A.cut rp.2.b1 key).length n1)) := (Keeps.of_below hb1).setCell (p := ⟨x, 2, none⟩) HH.out.dx _; clear hcut d0 d1 d2 d3 d4 d5 hb1 hr1)
    | (at_builtin; go_must (refine wpList_append_row (ks := [key]) rfl _ _ rfl rfl (H2.r2.below ((Below.refl _ _).alloc (Nat.le_refl _) _)) rfl (src_at key (by simp [World.setCell])) (by have := hrl.2; simp; omega) ?_); intro a5 n5 w5 hr5 hk5; obtain ⟨⟨p0, p1, p2, p3, p4, p5⟩, q0, q1, q2, q3, q4, q5⟩ := (H2.below ((Below.refl _ _).alloc (Nat.le_refl _) _)).still (by omega) hk5; have H5 := (H2.below ((Below.refl _ _).alloc (Nat.le_refl _) _)).put2 (fun k h => .inr (Nat.le_trans (Nat.le_trans hk1.size (by simp)) h)) hk5 hr5; have hk5' : Keeps (fun g => D1 g ∨ w2.heap.size ≤ g) w2 w5 := (hk1.alloc _).trans (hk5.mono (fun _ _ h => h.1)); clear hr5 hk5 hk1 H2))
  go_ret
  have hk6 := hk5'.setCell (p := ⟨x, 1, none⟩) HH.out.dx (.slice a5 (rp.2.t2 ++ [key]).length n5)
  simp only [List.length_append, List.length_cons, List.length_nil, Nat.zero_add] at H5 hk6
  exact ⟨_, _, rfl, beside_end hD1 (fun k h => hD k (Nat.le_trans hW2 h)) hrow hk6 ⟨_, _, _, _, _, _, _, _, _, H5⟩, (hkp.trans hk2).trans (hk6.mono (fun k hk h => by rcases h with h | h; exact (hD1 k h).1; omega))⟩
set_option maxHeartbeats 4000000 in
theorem rknown2 (H : RE x s D w) (hs : Small s) (ho : Single s) (hD : ∀ k, w.heap.size ≤ k → D k) (key : ByteArray) (hr : s.t1.length + s.t2.length ≤ s.c) (hb : key ∉ s.b1) (hb2 : key ∈ s.b2) :
    Calls Tryd.prog 66 #[.pointer (some ⟨x, 0, none⟩), .string key] w fun e w' => ∃ ad cap, e = .returned (.slice ad (A.replace (A.less s) key).1.length cap) ∧ Beside (RE x (A.fromB2 (A.replace (A.less s) key).2 key)) ad cap (A.replace (A.less s) key).1 D w' ∧ Keeps D w w' := by
  obtain ⟨L, a1, c1, a2, c2, a3, c3, a4, c4, H⟩ := H
  obtain ⟨d0, d1, d2, d3, d4, d5⟩ := H.cells
  obtain ⟨f0, f1, f2, f3, f4, f5⟩ := H.thaw
  have hhas := rhas_any H.r3 (by have := hs.b1; omega) key
  have hj := idx_no hb
  have hsm : Small (A.less s) := ⟨hs.t1, hs.t2, hs.b1, hs.b2, by have := hs.p; have := hs.hi; simp only [A.less]; omega, hs.lo, hs.hi⟩
  have hRE : ∀ v : Int, v = ((A.less s).p : Nat) → RE x (A.less s) D (w.setCell ⟨x, 4, none⟩ (.int .i64 v)).drew := fun v hv => by subst hv; exact RE.below ⟨_, _, _, _, _, _, _, _, _, H.setP _⟩ ((Below.refl _ _).drew)
  have hrep := fun (v : Int) (hv : v = ((A.less s).p : Nat)) => rreplace_any (hRE v hv) hsm ho (fun k h => hD k (by have h2 : (w.setCell ⟨x, 4, none⟩ (.int .i64 v)).heap.size ≤ k := h; simpa [World.setCell] using h2)) key hr
  have hkp : ∀ v : Int, Keeps D w (w.setCell ⟨x, 4, none⟩ (.int .i64 v)).drew := fun v => ((Keeps.refl D w).setCell (p := ⟨x, 4, none⟩) H.dx _).drew
  have hrl := rep_small hsm key
  have hp := hs.p
  have hhi := hs.hi
  have hlo := hs.lo
  have l3 := hs.b1
  have l4 := hs.b2
  have hb4 : 0 < s.b2.length := List.length_pos_of_mem hb2
  obtain ⟨Q, hQ⟩ : ∃ Q : Nat, s.b1.length / s.b2.length = Q := ⟨_, rfl⟩
  have hq : ((s.b1.length : Nat) : Int) / ((s.b2.length : Nat) : Int) = (Q : Int) := by rw [← Int.natCast_ediv, hQ]
  have hQl : Q ≤ 2100 := by rw [← hQ]; exact Nat.le_trans (Nat.div_le_self _ _) l3
  have hpm : (A.less s).p = s.p - max 1 Q := by simp only [A.less, hQ]
  clear hQ hb hb2
  rw [hpm] at hrep
  generalize idx s.b1 key = j at *
  subst hj
  generalize s.b1.length = n3 at *
  generalize s.b2.length = n4 at *
  generalize A.replace (A.less s) key = rp at *
  clear H hs hpm ho hr hRE hsm
  go_enter Tryd.func66, Tryd.ntmps66
  go_wp2_with (go_at_call 65; refine hhas.mono ?_; rintro e w1 ⟨rfl, rfl⟩; clear hhas)
  go_region
  generalize hM : (if (1 : Int) < (Q : Int) then (Q : Int) else 1) = M
  generalize hV : (if M < (s.p : Int) then (s.p : Int) - M else 0) = V
  have hVe : V = ((s.p - max 1 Q : Nat) : Int) := by
    subst hV hM
    split <;> split <;> omega
  clear hM hq
  generalize hW : (w1.setCell ⟨x, 4, none⟩ (.int .i64 V)).drew = W4
  replace hrep := hrep V hVe
  replace hkp := hkp V
  rw [hW] at hrep hkp
  clear hV hVe hW d0 d1 d2 d3 d4 d5 f0 f1 f2 f3 f4 f5
  go_wp2_with (first
    | (go_at_call 83; refine hrep.mono ?_; rintro e w2 ⟨ad, cap, rfl, ⟨D1, hD1, HB, hrow⟩, hk2⟩; have hW2 : w1.heap.size ≤ w2.heap.size := Nat.le_trans hkp.size hk2.size; obtain ⟨L2, e1, m1, e2, m2, e3, m3, e4, m4, H2⟩ := RE.wide (D' := fun g => D1 g ∨ w2.heap.size ≤ g) HB (fun _ _ h => .inl h); obtain ⟨d0, d1, d2, d3, d4, d5⟩ := H2.cells; have hcut := rcut_any H2.r4 (by have := hrl.1; omega) key; have HH : Hid _ := H2; clear hrep HB H2)
    | (go_at_call 64; refine hcut.mono ?_; rintro e w3 ⟨b1, n1, rfl, hr1, hb1⟩; obtain ⟨u0, u1, u2, u3, u4, u5⟩ := (HH.out.below hb1).cells; obtain ⟨v0, v1, v2, v3, v4, v5⟩ := (HH.out.below hb1).thaw; have H2 := HH.out.put4 (fun _ h => .inr h) (.of_below hb1) (hr1.wide (fun _ _ h => .inr h)); have hk1 : Keeps (fun g => D1 g ∨ w2.heap.size ≤ g) w2 (w3.setCell ⟨x, 3, none⟩ (.slice b1 (A.cut rp.2.b2 key).length n1)) := (Keeps.of_below hb1).setCell (p := ⟨x, 3, none⟩) HH.out.dx _; clear hcut d0 d1 d2 d3 d4 d5 hb1 hr1)
    | (at_builtin; go_must (refine wpList_append_row (ks := [key]) rfl _ _ rfl rfl (H2.r2.below ((Below.refl _ _).alloc (Nat.le_refl _) _)) rfl (src_at key (by simp [World.setCell])) (by have := hrl.2; simp; omega) ?_); intro a5 n5 w5 hr5 hk5; obtain ⟨⟨p0, p1, p2, p3, p4, p5⟩, q0, q1, q2, q3, q4, q5⟩ := (H2.below ((Below.refl _ _).alloc (Nat.le_refl _) _)).still (by omega) hk5; have H5 := (H2.below ((Below.refl _ _).alloc (Nat.le_refl _) _)).put2 (fun k h => .inr (Nat.le_trans (Nat.le_trans hk1.size (by simp)) h)) hk5 hr5; have hk5' : Keeps (fun g => D1 g ∨ w2.heap.size ≤ g) w2 w5 := (hk1.alloc _).trans (hk5.mono (fun _ _ h => h.1)); clear hr5 hk5 hk1 H2))
  go_ret
  have hk6 := hk5'.setCell (p := ⟨x, 1, none⟩) HH.out.dx (.slice a5 (rp.2.t2 ++ [key]).length n5)
  simp only [List.length_append, List.length_cons, List.length_nil, Nat.zero_add] at H5 hk6
  exact ⟨_, _, rfl, beside_end hD1 (fun k h => hD k (Nat.le_trans hW2 h)) hrow hk6 ⟨_, _, _, _, _, _, _, _, _, H5⟩, (hkp.trans hk2).trans (hk6.mono (fun k hk h => by rcases h with h | h; exact (hD1 k h).1; omega))⟩
end
end Go.Proofs.YtfbdmoineahfgabDoor
namespace Go.Proofs.YtfbdmoineahfgabDoor
open Go.RowKit

section
variable {D D' : Nat → Prop} {w w' : World} {x : Nat} {s : Stt}
set_option maxHeartbeats 4000000 in
theorem rfresh5 (H : RE x s D w) (hs : Small s) (hD : ∀ k, w.heap.size ≤ k → D k) (key : ByteArray) (h1 : s.t1.length + s.t2.length + s.b1.length + s.b2.length < s.c) :
    Calls Tryd.prog 67 #[.pointer (some ⟨x, 0, none⟩), .string key] w fun e w' => e = .returned (.slice none 0 0) ∧ RE x (A.newest s key) D w' ∧ Keeps D w w' := by
  have hlen := fun q => rlen_any (H.below (below_drewN (Below.refl _ w) q)) hs
  rw [A.keys_length] at hlen
  obtain ⟨L, a1, c1, a2, c2, a3, c3, a4, c4, H⟩ := H
  obtain ⟨d0, d1, d2, d3, d4, d5⟩ := H.cells
  have hp := hs.p
  have hhi := hs.hi
  have hlo := hs.lo
  generalize hn1 : s.t1.length = n1 at *
  generalize hn2 : s.t2.length = n2 at *
  generalize hn3 : s.b1.length = n3 at *
  generalize hn4 : s.b2.length = n4 at *
  generalize hc : s.c = c at *
  have l1 : n1 ≤ 2100 := by omega
  have w13 : IntKind.i64.wrap ((n1 : Int) + (n3 : Int)) = (n1 : Int) + (n3 : Int) := by rw [IntKind.wrap_i64]; omega
  have g13 : decide ((c : Int) ≤ (n1 : Int) + (n3 : Int)) = false := decide_eq_false (by omega)
  have gal : ¬ ((c : Int) ≤ (n1 : Int) + (n2 : Int) + (n3 : Int) + (n4 : Int)) := by omega
  have e0 : ∀ q, ((w.drewN q).alloc (.cells #[] 9)).cell? ⟨x, 0, none⟩ = some (.slice a1 n1 c1) := fun q => by rw [← hn1]; exact (H.below ((below_drewN (Below.refl _ w) q).alloc (Nat.le_refl _) _)).cells.1
  have HH : Hid _ := H
  clear H hs
  go_enter Tryd.func67, Tryd.ntmps67
  go_wp2_with fail
  go_quiet (first | (go_at_call 68; refine Calls.quiet_of (hlen _)))
  go_wp2_with fail
  go_quiet (fail)
  go_wp2_with fail
  go_quiet (fail)
  go_wp2_with (first
    | (at_builtin; (refine wpList_append_row (zs := []) (ks := s.t1) (D := fun g => w.heap.size ≤ g) rfl _ _ rfl rfl (Row.bare _) (vx := .slice a1 s.t1.length c1) (by rw [hn1]; rfl) ((HH.out.r1.below ((below_drewN (Below.refl _ w) _).alloc (Nat.le_refl _) _)).src) (by simp; omega) ?_); intro a5 n5 w5 hr5 hk5; rw [List.nil_append] at hr5; have hb5 : Below w.heap.size w w5 := ((below_drewN (Below.refl _ w) _).alloc (Nat.le_refl _) _).trans (hk5.below (by simp) (fun _ h => h)); have hs5 := hb5.size; replace hr5 := rrow_old hr5 (by simp); simp only [List.length_nil, Nat.zero_add]; clear hk5 e0)
    | (at_builtin; go_must (refine wpList_append_row (zs := s.t1) (ks := [key]) rfl _ _ rfl (by rw [hn1]; rfl) (hr5.below ((Below.refl _ _).alloc (Nat.le_refl _) _)) rfl (src_one _ key) (by simp; omega) ?_); intro a6 n6 w6 hr6 hk6; have hb6 : Below w.heap.size w w6 := (hb5.alloc hs5 _).trans (hk6.below (by simp; omega) (fun _ h => h)); replace hr6 := rrow_old hr6 (by simp; omega); have H6 := HH.out.put1 hD (.of_below hb6) (hr6.wide (fun _ _ h => .inr h)); obtain ⟨u0, u1, u2, u3, u4, u5⟩ := (HH.out.below hb6).cells; obtain ⟨v0, v1, v2, v3, v4, v5⟩ := (HH.out.below hb6).thaw; clear hk6 hr5))
  go_ret
  simp only [List.length_append, List.length_cons, List.length_nil, Nat.zero_add, hn1] at H6
  exact ⟨rfl, ⟨_, _, _, _, _, _, _, _, _, H6⟩, (Keeps.of_below hb6).setCell (p := ⟨x, 0, none⟩) HH.out.dx _⟩
end
end Go.Proofs.YtfbdmoineahfgabDoor
namespace Go.Proofs.YtfbdmoineahfgabDoor
open Go.RowKit

theorem rep_t1 {s : Stt} (hs : Small s) (key : ByteArray) : (A.replace s key).2.t1.length ≤ 4300 := by
  have h1 := hs.t1; have h2 := hs.b1
  rcases Nat.lt_or_ge (s.t1.length + s.t2.length) s.c with h | h
  · rw [A.rep_room key h]
    show s.t1.length ≤ 4300
    omega
  · obtain ⟨g, s', e, hw⟩ := A.rep_full key hs.lo h
    rw [e]
    have := hw.l1
    show s'.t1.length ≤ 4300
    omega
section
variable {D D' : Nat → Prop} {w w' : World} {x : Nat} {s : Stt}
set_option maxHeartbeats 4000000 in
theorem rfresh1 (H : RE x s D w) (hs : Small s) (ho : Single s) (hD : ∀ k, w.heap.size ≤ k → D k) (key : ByteArray) (hr : s.t1.length + s.t2.length ≤ s.c) (h1 : s.c ≤ s.t1.length + s.b1.length) (h2 : s.t1.length < s.c) :
    Calls Tryd.prog 67 #[.pointer (some ⟨x, 0, none⟩), .string key] w fun e w' => ∃ ad cap, e = .returned (.slice ad (A.replace ({ s with b1 := s.b1.tail }) key).1.length cap) ∧ Beside (RE x (A.newest (A.replace ({ s with b1 := s.b1.tail }) key).2 key)) ad cap (A.replace ({ s with b1 := s.b1.tail }) key).1 D w' ∧ Keeps D w w' := by
  have hlen := fun q => rlen_any (H.below (below_drewN (Below.refl _ w) q)) hs
  rw [A.keys_length] at hlen
  obtain ⟨L, a1, c1, a2, c2, a3, c3, a4, c4, H⟩ := H
  obtain ⟨d0, d1, d2, d3, d4, d5⟩ := H.cells
  obtain ⟨f0, f1, f2, f3, f4, f5⟩ := H.thaw
  obtain ⟨g, off, rfl⟩ := H.r3.shape (by have := H.r3.1; omega)
  have hsm : Small ({ s with b1 := s.b1.tail }) := ⟨hs.t1, hs.t2, by have := hs.b1; simp; omega, hs.b2, hs.p, hs.lo, hs.hi⟩
  have hos : Single ({ s with b1 := s.b1.tail }) := fun k => by have := ho k; have := A.tail_cnt k s.b1; simp only; omega
  have HTA : Hid (Row (fun g => (D g ∧ L g = 3) ∨ w.heap.size ≤ g) w (some ⟨g, off + 1, none⟩) (c3 - 1) s.b1.tail) := by
    have := H.r3.drop 1
    rw [List.drop_one] at this
    exact this.wide (fun _ _ h => .inl h)
  have HTB : Hid (c3 = 1 → Row (fun g => (D g ∧ L g = 3) ∨ w.heap.size ≤ g) w (some ⟨g, off, none⟩) 0 s.b1.tail) := fun h => by
    have := H.r3.1
    rw [show s.b1.tail = [] from List.eq_nil_of_length_eq_zero (by rw [List.length_tail]; omega)]
    exact Row.bare _
  have hrep := fun (q : Nat) (ad' : Option Addr) (cap' n : Nat) (hn : n = s.b1.tail.length) (hrow : Row (fun g => (D g ∧ L g = 3) ∨ w.heap.size ≤ g) w ad' cap' s.b1.tail) =>
    rreplace_any (w := (w.drewN q).setCell ⟨x, 2, none⟩ (.slice ad' n cap')) (D := D) (s := { s with b1 := s.b1.tail }) ⟨_, _, _, _, _, _, _, _, _, hn ▸ (H.below (below_drewN (Below.refl _ w) q)).put3 hD (Keeps.refl _ _) (hrow.below (below_drewN (Below.refl _ w) q))⟩ hsm hos (fun k h => hD k (by simpa [World.setCell, World.drewN] using h)) key hr
  have hkp : ∀ (q : Nat) (v : Value), Keeps D w ((w.drewN q).setCell ⟨x, 2, none⟩ v) := fun q v => ((Keeps.refl D w).drewN q).setCell (p := ⟨x, 2, none⟩) H.dx _
  have hrl := rep_t1 hsm key
  have hp := hs.p
  have hhi := hs.hi
  have hlo := hs.lo
  have l3 := hs.b1
  have l4 := hs.b2
  clear hs
  generalize hRP : A.replace ({ s with b1 := s.b1.tail }) key = rp at *
  clear hRP
  generalize hn1 : s.t1.length = n1 at *
  generalize hn2 : s.t2.length = n2 at *
  generalize hn3 : s.b1.length = n3 at *
  generalize hn4 : s.b2.length = n4 at *
  generalize hc : s.c = c at *
  have w13 : IntKind.i64.wrap ((n1 : Int) + (n3 : Int)) = (n1 : Int) + (n3 : Int) := by rw [IntKind.wrap_i64]; omega
  have g13 : decide ((c : Int) ≤ (n1 : Int) + (n3 : Int)) = true := decide_eq_true (by omega)
  have g1 : decide ((n1 : Int) < (c : Int)) = true := decide_eq_true (by omega)
  clear H
  go_enter Tryd.func67, Tryd.ntmps67
  go_wp2_with fail
  go_quiet (first | (go_at_call 68; refine Calls.quiet_of (hlen _)))
  go_wp2_with fail
  go_quiet (fail)
  go_wp2_with (first
    | (go_at_call 83; refine (hrep _ _ _ _ (by rw [List.length_tail]; omega) (by first | exact HTA.out | exact HTB.out (by omega))).mono ?_; rintro e w2 ⟨ad, cap, rfl, ⟨D1, hD1, HB, hrow⟩, hk2⟩; have hkw := (hkp _ _).trans hk2; have hW2 : w.heap.size ≤ w2.heap.size := hkw.size; obtain ⟨L2, e1, m1, e2, m2, e3, m3, e4, m4, H2⟩ := RE.wide (D' := fun g => D1 g ∨ w2.heap.size ≤ g) HB (fun _ _ h => .inl h); have e0 : (w2.alloc (.cells #[] 9)).cell? ⟨x, 0, none⟩ = some (.slice e1 rp.2.t1.length m1) := (H2.below ((Below.refl _ w2).alloc (Nat.le_refl _) _)).cells.1; have HH : Hid _ := H2; clear hrep HB H2 hk2 hkp)
    | (at_builtin; (refine wpList_append_row (zs := []) (ks := rp.2.t1) (D := fun g => w2.heap.size ≤ g) rfl _ _ rfl rfl (Row.bare _) (vx := .slice e1 rp.2.t1.length m1) rfl ((HH.out.r1.below ((Below.refl _ w2).alloc (Nat.le_refl _) _)).src) (by simp; omega) ?_); intro a5 n5 w5 hr5 hk5; rw [List.nil_append] at hr5; have hb5 : Below w2.heap.size w2 w5 := ((Below.refl _ w2).alloc (Nat.le_refl _) _).trans (hk5.below (by simp) (fun _ h => h)); have hs5 := hb5.size; replace hr5 := rrow_old hr5 (by simp); simp only [List.length_nil, Nat.zero_add]; clear hk5 e0)
    | (at_builtin; go_must (refine wpList_append_row (zs := rp.2.t1) (ks := [key]) rfl _ _ rfl rfl (hr5.below ((Below.refl _ _).alloc (Nat.le_refl _) _)) rfl (src_one _ key) (by simp; omega) ?_); intro a6 n6 w6 hr6 hk6; have hb6 : Below w2.heap.size w2 w6 := (hb5.alloc hs5 _).trans (hk6.below (by simp; omega) (fun _ h => h)); replace hr6 := rrow_old hr6 (by simp; omega); have H6 := HH.out.put1 (fun _ h => .inr h) (.of_below hb6) (hr6.wide (fun _ _ h => .inr h)); obtain ⟨u0, u1, u2, u3, u4, u5⟩ := (HH.out.below hb6).cells; obtain ⟨v0, v1, v2, v3, v4, v5⟩ := (HH.out.below hb6).thaw; clear hk6 hr5))
  all_goals
    go_ret
    have hk7 : Keeps (fun g => D1 g ∨ w2.heap.size ≤ g) w2 (w6.setCell ⟨x, 0, none⟩ (.slice a6 (rp.2.t1.length + 1) n6)) := (Keeps.of_below hb6).setCell (p := ⟨x, 0, none⟩) HH.out.dx _
    simp only [List.length_append, List.length_cons, List.length_nil, Nat.zero_add] at H6
    exact ⟨_, _, rfl, beside_end hD1 (fun k h => hD k (Nat.le_trans hW2 h)) hrow hk7 ⟨_, _, _, _, _, _, _, _, _, H6⟩, hkw.trans (hk7.mono (fun k hk h => by rcases h with h | h; exact (hD1 k h).1; omega))⟩
set_option maxHeartbeats 4000000 in
theorem rfresh3 (H : RE x s D w) (hs : Small s) (ho : Single s) (hD : ∀ k, w.heap.size ≤ k → D k) (key : ByteArray) (hr : s.t1.length + s.t2.length ≤ s.c) (h1 : s.t1.length + s.b1.length < s.c) (h2 : 2 * s.c ≤ s.t1.length + s.t2.length + s.b1.length + s.b2.length) :
    Calls Tryd.prog 67 #[.pointer (some ⟨x, 0, none⟩), .string key] w fun e w' => ∃ ad cap, e = .returned (.slice ad (A.replace ({ s with b2 := s.b2.tail }) key).1.length cap) ∧ Beside (RE x (A.newest (A.replace ({ s with b2 := s.b2.tail }) key).2 key)) ad cap (A.replace ({ s with b2 := s.b2.tail }) key).1 D w' ∧ Keeps D w w' := by
  have hlen := fun q => rlen_any (H.below (below_drewN (Below.refl _ w) q)) hs
  rw [A.keys_length] at hlen
  obtain ⟨L, a1, c1, a2, c2, a3, c3, a4, c4, H⟩ := H
  obtain ⟨d0, d1, d2, d3, d4, d5⟩ := H.cells
  obtain ⟨f0, f1, f2, f3, f4, f5⟩ := H.thaw
  obtain ⟨g, off, rfl⟩ := H.r4.shape (by have := H.r4.1; omega)
  have hsm : Small ({ s with b2 := s.b2.tail }) := ⟨hs.t1, hs.t2, hs.b1, by have := hs.b2; simp; omega, hs.p, hs.lo, hs.hi⟩
  have hos : Single ({ s with b2 := s.b2.tail }) := fun k => by have := ho k; have := A.tail_cnt k s.b2; simp only; omega
  have HTA : Hid (Row (fun g => (D g ∧ L g = 4) ∨ w.heap.size ≤ g) w (some ⟨g, off + 1, none⟩) (c4 - 1) s.b2.tail) := by
    have := H.r4.drop 1
    rw [List.drop_one] at this
    exact this.wide (fun _ _ h => .inl h)
  have HTB : Hid (c4 = 1 → Row (fun g => (D g ∧ L g = 4) ∨ w.heap.size ≤ g) w (some ⟨g, off, none⟩) 0 s.b2.tail) := fun h => by
    have := H.r4.1
    rw [show s.b2.tail = [] from List.eq_nil_of_length_eq_zero (by rw [List.length_tail]; omega)]
    exact Row.bare _
  have hrep := fun (q : Nat) (ad' : Option Addr) (cap' n : Nat) (hn : n = s.b2.tail.length) (hrow : Row (fun g => (D g ∧ L g = 4) ∨ w.heap.size ≤ g) w ad' cap' s.b2.tail) =>
    rreplace_any (w := (w.drewN q).setCell ⟨x, 3, none⟩ (.slice ad' n cap')) (D := D) (s := { s with b2 := s.b2.tail }) ⟨_, _, _, _, _, _, _, _, _, hn ▸ (H.below (below_drewN (Below.refl _ w) q)).put4 hD (Keeps.refl _ _) (hrow.below (below_drewN (Below.refl _ w) q))⟩ hsm hos (fun k h => hD k (by simpa [World.setCell, World.drewN] using h)) key hr
  have hkp : ∀ (q : Nat) (v : Value), Keeps D w ((w.drewN q).setCell ⟨x, 3, none⟩ v) := fun q v => ((Keeps.refl D w).drewN q).setCell (p := ⟨x, 3, none⟩) H.dx _
  have hrl := rep_t1 hsm key
  have hp := hs.p
  have hhi := hs.hi
  have hlo := hs.lo
  have l3 := hs.b1
  have l4 := hs.b2
  clear hs
  generalize hRP : A.replace ({ s with b2 := s.b2.tail }) key = rp at *
  clear hRP
  generalize hn1 : s.t1.length = n1 at *
  generalize hn2 : s.t2.length = n2 at *
  generalize hn3 : s.b1.length = n3 at *
  generalize hn4 : s.b2.length = n4 at *
  generalize hc : s.c = c at *
  have w13 : IntKind.i64.wrap ((n1 : Int) + (n3 : Int)) = (n1 : Int) + (n3 : Int) := by rw [IntKind.wrap_i64]; omega
  have g13 : decide ((c : Int) ≤ (n1 : Int) + (n3 : Int)) = false := decide_eq_false (by omega)
  have gal : (c : Int) ≤ (n1 : Int) + (n2 : Int) + (n3 : Int) + (n4 : Int) := by omega
  have gal2 : 2 * (c : Int) ≤ (n1 : Int) + (n2 : Int) + (n3 : Int) + (n4 : Int) := by omega
  clear H
  go_enter Tryd.func67, Tryd.ntmps67
  go_wp2_with fail
  go_quiet (first | (go_at_call 68; refine Calls.quiet_of (hlen _)))
  go_wp2_with fail
  go_quiet (fail)
  go_wp2_with fail
  go_quiet (fail)
  go_wp2_with (first
    | (go_at_call 83; refine (hrep _ _ _ _ (by rw [List.length_tail]; omega) (by first | exact HTA.out | exact HTB.out (by omega))).mono ?_; rintro e w2 ⟨ad, cap, rfl, ⟨D1, hD1, HB, hrow⟩, hk2⟩; have hkw := (hkp _ _).trans hk2; have hW2 : w.heap.size ≤ w2.heap.size := hkw.size; obtain ⟨L2, e1, m1, e2, m2, e3, m3, e4, m4, H2⟩ := RE.wide (D' := fun g => D1 g ∨ w2.heap.size ≤ g) HB (fun _ _ h => .inl h); have e0 : (w2.alloc (.cells #[] 9)).cell? ⟨x, 0, none⟩ = some (.slice e1 rp.2.t1.length m1) := (H2.below ((Below.refl _ w2).alloc (Nat.le_refl _) _)).cells.1; have HH : Hid _ := H2; clear hrep HB H2 hk2 hkp)
    | (at_builtin; (refine wpList_append_row (zs := []) (ks := rp.2.t1) (D := fun g => w2.heap.size ≤ g) rfl _ _ rfl rfl (Row.bare _) (vx := .slice e1 rp.2.t1.length m1) rfl ((HH.out.r1.below ((Below.refl _ w2).alloc (Nat.le_refl _) _)).src) (by simp; omega) ?_); intro a5 n5 w5 hr5 hk5; rw [List.nil_append] at hr5; have hb5 : Below w2.heap.size w2 w5 := ((Below.refl _ w2).alloc (Nat.le_refl _) _).trans (hk5.below (by simp) (fun _ h => h)); have hs5 := hb5.size; replace hr5 := rrow_old hr5 (by simp); simp only [List.length_nil, Nat.zero_add]; clear hk5 e0)
    | (at_builtin; go_must (refine wpList_append_row (zs := rp.2.t1) (ks := [key]) rfl _ _ rfl rfl (hr5.below ((Below.refl _ _).alloc (Nat.le_refl _) _)) rfl (src_one _ key) (by simp; omega) ?_); intro a6 n6 w6 hr6 hk6; have hb6 : Below w2.heap.size w2 w6 := (hb5.alloc hs5 _).trans (hk6.below (by simp; omega) (fun _ h => h)); replace hr6 := rrow_old hr6 (by simp; omega); have H6 := HH.out.put1 (fun _ h => .inr h) (.of_below hb6) (hr6.wide (fun _ _ h => .inr h)); obtain ⟨u0, u1, u2, u3, u4, u5⟩ := (HH.out.below hb6).cells; obtain ⟨v0, v1, v2, v3, v4, v5⟩ := (HH.out.below hb6).thaw; clear hk6 hr5))
  all_goals
    go_ret
    have hk7 : Keeps (fun g => D1 g ∨ w2.heap.size ≤ g) w2 (w6.setCell ⟨x, 0, none⟩ (.slice a6 (rp.2.t1.length + 1) n6)) := (Keeps.of_below hb6).setCell (p := ⟨x, 0, none⟩) HH.out.dx _
    simp only [List.length_append, List.length_cons, List.length_nil, Nat.zero_add] at H6
    exact ⟨_, _, rfl, beside_end hD1 (fun k h => hD k (Nat.le_trans hW2 h)) hrow hk7 ⟨_, _, _, _, _, _, _, _, _, H6⟩, hkw.trans (hk7.mono (fun k hk h => by rcases h with h | h; exact (hD1 k h).1; omega))⟩
set_option maxHeartbeats 4000000 in
theorem rfresh4 (H : RE x s D w) (hs : Small s) (ho : Single s) (hD : ∀ k, w.heap.size ≤ k → D k) (key : ByteArray) (hr : s.t1.length + s.t2.length ≤ s.c) (h1 : s.t1.length + s.b1.length < s.c) (h2 : s.c ≤ s.t1.length + s.t2.length + s.b1.length + s.b2.length) (h3 : s.t1.length + s.t2.length + s.b1.length + s.b2.length < 2 * s.c) :
    Calls Tryd.prog 67 #[.pointer (some ⟨x, 0, none⟩), .string key] w fun e w' => ∃ ad cap, e = .returned (.slice ad (A.replace (s) key).1.length cap) ∧ Beside (RE x (A.newest (A.replace (s) key).2 key)) ad cap (A.replace (s) key).1 D w' ∧ Keeps D w w' := by
  have hlen := fun q => rlen_any (H.below (below_drewN (Below.refl _ w) q)) hs
  rw [A.keys_length] at hlen
  obtain ⟨L, a1, c1, a2, c2, a3, c3, a4, c4, H⟩ := H
  obtain ⟨d0, d1, d2, d3, d4, d5⟩ := H.cells
  obtain ⟨f0, f1, f2, f3, f4, f5⟩ := H.thaw
  have hrep := fun (q : Nat) => rreplace_any (w := w.drewN q) (D := D) (s := s) ⟨_, _, _, _, _, _, _, _, _, H.below (below_drewN (Below.refl _ w) q)⟩ hs ho hD key hr
  have hkp : ∀ (q : Nat), Keeps D w (w.drewN q) := fun q => (Keeps.refl D w).drewN q
  have hsm := hs
  have hrl := rep_t1 hsm key
  have hp := hs.p
  have hhi := hs.hi
  have hlo := hs.lo
  have l3 := hs.b1
  have l4 := hs.b2
  clear hs
  generalize hRP : A.replace (s) key = rp at *
  clear hRP
  generalize hn1 : s.t1.length = n1 at *
  generalize hn2 : s.t2.length = n2 at *
  generalize hn3 : s.b1.length = n3 at *
  generalize hn4 : s.b2.length = n4 at *
  generalize hc : s.c = c at *
  have w13 : IntKind.i64.wrap ((n1 : Int) + (n3 : Int)) = (n1 : Int) + (n3 : Int) := by rw [IntKind.wrap_i64]; omega
  have g13 : decide ((c : Int) ≤ (n1 : Int) + (n3 : Int)) = false := decide_eq_false (by omega)
  have gal : (c : Int) ≤ (n1 : Int) + (n2 : Int) + (n3 : Int) + (n4 : Int) := by omega
  have gal2 : ¬ (2 * (c : Int) ≤ (n1 : Int) + (n2 : Int) + (n3 : Int) + (n4 : Int)) := by omega
  clear H
  go_enter Tryd.func67, Tryd.ntmps67
  go_wp2_with fail
  go_quiet (first | (go_at_call 68; refine Calls.quiet_of (hlen _)))
  go_wp2_with fail
  go_quiet (fail)
  go_wp2_with fail
  go_quiet (fail)
  go_wp2_with (first
    | (go_at_call 83; refine (hrep _).mono ?_; rintro e w2 ⟨ad, cap, rfl, ⟨D1, hD1, HB, hrow⟩, hk2⟩; have hkw := (hkp _).trans hk2; have hW2 : w.heap.size ≤ w2.heap.size := hkw.size; obtain ⟨L2, e1, m1, e2, m2, e3, m3, e4, m4, H2⟩ := RE.wide (D' := fun g => D1 g ∨ w2.heap.size ≤ g) HB (fun _ _ h => .inl h); have e0 : (w2.alloc (.cells #[] 9)).cell? ⟨x, 0, none⟩ = some (.slice e1 rp.2.t1.length m1) := (H2.below ((Below.refl _ w2).alloc (Nat.le_refl _) _)).cells.1; have HH : Hid _ := H2; clear hrep HB H2 hk2 hkp)
    | (at_builtin; (refine wpList_append_row (zs := []) (ks := rp.2.t1) (D := fun g => w2.heap.size ≤ g) rfl _ _ rfl rfl (Row.bare _) (vx := .slice e1 rp.2.t1.length m1) rfl ((HH.out.r1.below ((Below.refl _ w2).alloc (Nat.le_refl _) _)).src) (by simp; omega) ?_); intro a5 n5 w5 hr5 hk5; rw [List.nil_append] at hr5; have hb5 : Below w2.heap.size w2 w5 := ((Below.refl _ w2).alloc (Nat.le_refl _) _).trans (hk5.below (by simp) (fun _ h => h)); have hs5 := hb5.size; replace hr5 := rrow_old hr5 (by simp); simp only [List.length_nil, Nat.zero_add]; clear hk5 e0)
    | (at_builtin; go_must (refine wpList_append_row (zs := rp.2.t1) (ks := [key]) rfl _ _ rfl rfl (hr5.below ((Below.refl _ _).alloc (Nat.le_refl _) _)) rfl (src_one _ key) (by simp; omega) ?_); intro a6 n6 w6 hr6 hk6; have hb6 : Below w2.heap.size w2 w6 := (hb5.alloc hs5 _).trans (hk6.below (by simp; omega) (fun _ h => h)); replace hr6 := rrow_old hr6 (by simp; omega); have H6 := HH.out.put1 (fun _ h => .inr h) (.of_below hb6) (hr6.wide (fun _ _ h => .inr h)); obtain ⟨u0, u1, u2, u3, u4, u5⟩ := (HH.out.below hb6).cells; obtain ⟨v0, v1, v2, v3, v4, v5⟩ := (HH.out.below hb6).thaw; clear hk6 hr5))
  all_goals
    go_ret
    have hk7 : Keeps (fun g => D1 g ∨ w2.heap.size ≤ g) w2 (w6.setCell ⟨x, 0, none⟩ (.slice a6 (rp.2.t1.length + 1) n6)) := (Keeps.of_below hb6).setCell (p := ⟨x, 0, none⟩) HH.out.dx _
    simp only [List.length_append, List.length_cons, List.length_nil, Nat.zero_add] at H6
    exact ⟨_, _, rfl, beside_end hD1 (fun k h => hD k (Nat.le_trans hW2 h)) hrow hk7 ⟨_, _, _, _, _, _, _, _, _, H6⟩, hkw.trans (hk7.mono (fun k hk h => by rcases h with h | h; exact (hD1 k h).1; omega))⟩
end
end Go.Proofs.YtfbdmoineahfgabDoor
