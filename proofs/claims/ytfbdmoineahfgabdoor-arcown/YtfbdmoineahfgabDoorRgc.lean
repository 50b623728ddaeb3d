/- The document's machine: a key that nobody knows, where T1 is full; fresh as a whole. The document's machine: Remove, Evict. The document's machine: Access. The document's machine: Access as a whole; Evict; New. -/
import Derived.Test.YtfbdmoineahfgabDoorRgb
import Derived.Deep.CutBlock
import Derived.Deep.DeepCutAuto
namespace Go.Proofs.YtfbdmoineahfgabDoor
open Go.RowKit

section
variable {D D' : Nat → Prop} {w w' : World} {x : Nat} {s : Stt}
set_option maxRecDepth 20000 in
set_option maxHeartbeats 4000000 in
theorem rfresh2 (H : RE x s D w) (hs : Small s) (hD : ∀ k, w.heap.size ≤ k → D k) (key : ByteArray) {k0 : ByteArray} {r : List ByteArray} (ht : s.t1 = k0 :: r) (h1 : s.c ≤ s.t1.length + s.b1.length) (h2 : s.c ≤ s.t1.length) :
    Calls Tryd.prog 67 #[.pointer (some ⟨x, 0, none⟩), .string key] w fun e w' => ∃ ad cap, e = .returned (.slice ad 1 cap) ∧ Beside (RE x (A.newest { s with t1 := r } key)) ad cap [k0] D w' ∧ Keeps D w w' := by
  have hlen := fun q => rlen_any (H.below (below_drewN (Below.refl _ w) q)) hs
  rw [A.keys_length] at hlen
  obtain ⟨L, a1, c1, a2, c2, a3, c3, a4, c4, H⟩ := H
  obtain ⟨d0, d1, d2, d3, d4, d5⟩ := H.cells
  obtain ⟨f0, f1, f2, f3, f4, f5⟩ := H.thaw
  have hp := hs.p
  have hhi := hs.hi
  have hlo := hs.lo
  have l1 := hs.t1
  have l2 := hs.t2
  have l3 := hs.b1
  have l4 := hs.b2
  obtain ⟨g, off, rfl, -, k00, -⟩ := H.r1.at (i := 0) (z := k0) (by rw [ht]; rfl)
  rw [Nat.add_zero] at k00
  have hrl : r.length + 1 = s.t1.length := by rw [ht]; rfl
  have hxl := lt_of_block H.top
  obtain ⟨D2, hD2⟩ : ∃ D2 : Nat → Prop, D2 = fun g => (D g ∧ g < w.heap.size) ∨ w.heap.size + 1 ≤ g := ⟨_, rfl⟩
  have hE : ∀ q, ReIn D2 L ((w.drewN q).alloc (.cells #[.string k0] 9)) x s (some ⟨g, off, none⟩) c1 a2 c2 a3 c3 a4 c4 := fun q =>
    (H.wide (D' := D2) (fun k hk h => by rw [hD2]; exact .inl ⟨h, hk⟩)).below ((below_drewN (Below.refl _ w) q).alloc (Nat.le_refl _) _)
  have e0 := fun q => (hE q).cells.1
  have e1 := fun q => (hE q).thaw.1
  have hsz : ∀ q, ((w.drewN q).alloc (.cells #[.string k0] 9)).heap.size = w.heap.size + 1 := fun q => by simp [World.drewN]
  have HP : Hid (∀ (q : Nat) (ad' : Option Addr) (cap' n : Nat), n = r.length → Row (fun g => D2 g ∧ L g = 1) ((w.drewN q).alloc (.cells #[.string k0] 9)) ad' cap' r → ∃ L2, ReIn D2 L2 (((w.drewN q).alloc (.cells #[.string k0] 9)).setCell ⟨x, 0, none⟩ (.slice ad' n cap')) x { s with t1 := r } ad' cap' a2 c2 a3 c3 a4 c4) := fun q ad' cap' n hn hrow => by
    subst hn
    exact ⟨_, (hE q).put1 (fun k h => by rw [hsz] at h; rw [hD2]; exact .inr h) (Keeps.refl _ _) (hrow.wide (fun _ _ h => .inl h))⟩
  have HTA : Hid (∀ q, Row (fun g => D2 g ∧ L g = 1) ((w.drewN q).alloc (.cells #[.string k0] 9)) (some ⟨g, off + 1, none⟩) (c1 - 1) r) := fun q => by
    have := (hE q).r1.drop 1
    rw [ht] at this
    exact this
  have HTB : Hid (∀ q, c1 = 1 → Row (fun g => D2 g ∧ L g = 1) ((w.drewN q).alloc (.cells #[.string k0] 9)) (some ⟨g, off, none⟩) 0 r) := fun q h => by
    have := (hE q).r1.1
    rw [show r = [] from List.eq_nil_of_length_eq_zero (by omega)]
    exact Row.bare _
  have HK : Hid (∀ q v, Keeps (fun g => D g) w (((w.drewN q).alloc (.cells #[.string k0] 9)).setCell ⟨x, 0, none⟩ v)) := fun q v => (((Keeps.refl _ w).drewN q).alloc _).setCell (p := ⟨x, 0, none⟩) H.dx _
  have HLit : Hid (∀ q v, Row (fun g => D g ∧ ¬ D2 g) (((w.drewN q).alloc (.cells #[.string k0] 9)).setCell ⟨x, 0, none⟩ v) (some ⟨w.heap.size, 0, none⟩) 1 [k0]) := fun q v => by
    have h0 : Row (fun g => D g ∧ ¬ D2 g) ((w.drewN q).alloc (.cells #[.string k0] 9)) (some ⟨w.heap.size, 0, none⟩) 1 [k0] := row_lit (w := w.drewN q) k0 ⟨hD _ (Nat.le_refl _), by
      rw [hD2]
      rintro (h | h)
      · exact Nat.lt_irrefl _ h.2
      · have h' : w.heap.size + 1 ≤ w.heap.size := h; omega⟩
    refine h0.kept (Keeps.setCell (D := fun k => k = x) (Keeps.refl _ _) (p := ⟨x, 0, none⟩) rfl v) (fun k h e => ?_)
    subst e
    apply h.2
    rw [hD2]
    exact .inl ⟨h.1, hxl⟩
  have HS : Hid (∀ q v, (((w.drewN q).alloc (.cells #[.string k0] 9)).setCell ⟨x, 0, none⟩ v).heap.size = w.heap.size + 1) := fun q v => by
    rw [← hsz q]
    simp [World.setCell]
  clear hs
  generalize hn1 : s.t1.length = n1 at *
  generalize hn2 : s.t2.length = n2 at *
  generalize hn3 : s.b1.length = n3 at *
  generalize hn4 : s.b2.length = n4 at *
  have w13 : IntKind.i64.wrap ((n1 : Int) + (n3 : Int)) = (n1 : Int) + (n3 : Int) := by rw [IntKind.wrap_i64]; omega
  have g13 : decide ((s.c : Int) ≤ (n1 : Int) + (n3 : Int)) = true := decide_eq_true (by omega)
  have g1 : decide ((n1 : Int) < (s.c : Int)) = false := decide_eq_false (by omega)
  have HH : Hid _ := H
  have HRL : Hid (r.length + 1 = n1) := hrl
  clear H hrl
  clear hE hsz
  go_enter Tryd.func67, Tryd.ntmps67
  go_wp2_with fail
  go_quiet (first | (go_at_call 68; refine Calls.quiet_of (hlen _)))
  go_upto_block 0 with fail
  go_cut [5] (fun v wc => v = .slice (some ⟨w.heap.size, 0, none⟩) 1 1 ∧ (∃ L2 ad cap, ReIn D2 L2 wc x { s with t1 := r } ad cap a2 c2 a3 c3 a4 c4) ∧ Row (fun g => D g ∧ ¬ D2 g) wc (some ⟨w.heap.size, 0, none⟩) 1 [k0] ∧ Keeps D w wc ∧ wc.heap.size = w.heap.size + 1)
  case first =>
    go_wp2_with fail
    go_quiet (fail)
    go_wp2_with fail
    go_quiet (fail)
    go_wp2_with fail
    all_goals go_meet
    all_goals
      refine ⟨rfl, ?_, HLit.out _ _, HK.out _ _, HS.out _ _⟩
      first
        | exact (HP.out _ _ _ (n1 - 1) (by have := HRL.out; omega) (HTA.out _)).imp fun L2 h => ⟨_, _, h⟩
        | exact (HP.out _ _ _ (n1 - 1) (by have := HRL.out; omega) (HTB.out _ (by omega))).imp fun L2 h => ⟨_, _, h⟩
  case rest =>
    obtain ⟨rfl, ⟨L2, b1, m1, HR⟩, hlit, hkw, hsz⟩ := hcut
    have hrl := HRL.out
    clear HP HTA HTB HLit HK HS HH d0 d1 d2 d3 d4 d5 f0 f1 f2 f3 f4 f5 e0 e1 k00
    have e0 : (wc.alloc (.cells #[] 9)).cell? ⟨x, 0, none⟩ = some (.slice b1 r.length m1) := (HR.below ((Below.refl _ wc).alloc (Nat.le_refl _) _)).cells.1
    have HH : Hid _ := HR
    have hrl2 : r.length ≤ 2100 := by omega
    have HRL2 : Hid (r.length + 1 = n1) := hrl
    clear HR hrl HRL hlen
    go_wp2_with (first
      | (at_builtin; (refine wpList_append_row (zs := []) (ks := r) (D := fun g => wc.heap.size ≤ g) rfl _ _ rfl rfl (Row.bare _) (vx := .slice b1 r.length m1) rfl ((HH.out.r1.below ((Below.refl _ wc).alloc (Nat.le_refl _) _)).src) (by simp; omega) ?_); intro a5 n5 w5 hr5 hk5; rw [List.nil_append] at hr5; have hb5 : Below wc.heap.size wc w5 := ((Below.refl _ wc).alloc (Nat.le_refl _) _).trans (hk5.below (by simp) (fun _ h => h)); have hs5 := hb5.size; replace hr5 := rrow_old hr5 (by simp); simp only [List.length_nil, Nat.zero_add]; clear hk5 e0)
      | (at_builtin; go_must (refine wpList_append_row (zs := r) (ks := [key]) rfl _ _ rfl rfl (hr5.below ((Below.refl _ _).alloc (Nat.le_refl _) _)) rfl (src_one _ key) (by simp; omega) ?_); intro a6 n6 w6 hr6 hk6; have hb6 : Below wc.heap.size wc w6 := (hb5.alloc hs5 _).trans (hk6.below (by simp; omega) (fun _ h => h)); replace hr6 := rrow_old hr6 (by simp; omega); have H6 := HH.out.put1 (fun k h => by rw [hD2]; exact .inr (by omega)) (.of_below hb6) (hr6.wide (fun _ _ h => .inr h)); obtain ⟨u0, u1, u2, u3, u4, u5⟩ := (HH.out.below hb6).cells; obtain ⟨v0, v1, v2, v3, v4, v5⟩ := (HH.out.below hb6).thaw; clear hk6 hr5))
    go_ret
    have hk7 : Keeps (fun g => D2 g ∧ g < wc.heap.size) wc (w6.setCell ⟨x, 0, none⟩ (.slice a6 (r.length + 1) n6)) := (Keeps.of_below hb6).setCell (p := ⟨x, 0, none⟩) ⟨HH.out.dx, lt_of_block HH.out.top⟩ _
    simp only [List.length_append, List.length_cons, List.length_nil, Nat.zero_add] at H6
    have HE : RE x (A.newest { s with t1 := r } key) D2 (w6.setCell ⟨x, 0, none⟩ (.slice a6 (r.length + 1) n6)) := ⟨_, _, _, _, _, _, _, _, _, H6⟩
    have hb6s := hb6.size
    refine ⟨_, _, rfl, ⟨_, fun g h => ⟨?_, h.2⟩, HE.narrow, (hlit.narrow.kept hk7 (fun k h e => h.1.2 e.1)).wide (fun k _ h => ⟨h.1.1, fun e => h.1.2 e.1⟩)⟩, hkw.trans (hk7.mono (fun k hk h => ?_))⟩
    · have h1 := h.1
      rw [hD2] at h1
      rcases h1 with h1 | h1
      · exact h1.1
      · exact hD g (by omega)
    · have h1 := h.1
      rw [hD2] at h1
      rcases h1 with h1 | h1
      · exact h1.1
      · omega
theorem rfresh_any (H : RE x s D w) (hok : A.Ok s) (hD : ∀ k, w.heap.size ≤ k → D k) (key : ByteArray) :
    Calls Tryd.prog 67 #[.pointer (some ⟨x, 0, none⟩), .string key] w fun e w' => ∃ ad cap, e = .returned (.slice ad (A.fresh s key).1.length cap) ∧ Beside (RE x (A.fresh s key).2) ad cap (A.fresh s key).1 D w' ∧ Keeps D w w' := by
  have hs := Small.of hok
  have ho : Single s := hok.one
  have hres := hok.res; have hlow := hok.low
  unfold A.fresh A.clears
  by_cases c1 : s.c ≤ s.t1.length + s.b1.length
  · simp only [if_pos c1]
    by_cases c2 : s.t1.length < s.c
    · simp only [if_pos c2]
      exact rfresh1 H hs ho hD key hres c1 c2
    · simp only [if_neg c2]
      cases ht : s.t1 with
      | nil => rw [ht] at c2; have := hok.lo; simp at c2; omega
      | cons k0 r =>
        refine (rfresh2 H hs hD key ht c1 (by omega)).mono ?_
        rintro e w' ⟨ad, cap, rfl, hb, hk⟩
        exact ⟨ad, cap, rfl, hb, hk⟩
  · simp only [if_neg c1]
    by_cases c2 : s.c ≤ s.t1.length + s.t2.length + s.b1.length + s.b2.length
    · simp only [if_pos c2]
      by_cases c3 : 2 * s.c ≤ s.t1.length + s.t2.length + s.b1.length + s.b2.length
      · simp only [if_pos c3]
        exact rfresh3 H hs ho hD key hres (by omega) c3
      · simp only [if_neg c3]
        exact rfresh4 H hs ho hD key hres (by omega) c2 (by omega)
    · simp only [if_neg c2]
      refine (rfresh5 H hs hD key (by omega)).mono ?_
      rintro e w' ⟨rfl, hE, hk⟩
      exact ⟨none, 0, rfl, ⟨_, fun g h => h, hE.narrow, Row.nil⟩, hk⟩
end
end Go.Proofs.YtfbdmoineahfgabDoor
namespace Go.Proofs.YtfbdmoineahfgabDoor
open Go.RowKit

theorem below_set {w w' : World} (hb : Below w.heap.size w w') {a : Addr} (v : Value) : Below (w.setCell a v).heap.size (w.setCell a v) (w'.setCell a v) := by
  have hs := hb.size
  refine ⟨hb.os, hb.tape, hb.output, by simpa [World.setCell] using hs, fun k hk => ?_⟩
  have hk' : k < w.heap.size := by simpa [World.setCell] using hk
  by_cases e : k = a.block
  · subst e
    have h1 := hb.block a.block hk'
    show (w'.heap.modify a.block _)[a.block]? = (w.heap.modify a.block _)[a.block]?
    rw [Array.getElem?_modify, Array.getElem?_modify, if_pos rfl, if_pos rfl, h1]
  · rw [Below.heap_setCell _ _ _ _ e, Below.heap_setCell _ _ _ _ e]
    exact hb.block k hk'
/-- rows 1 and 2 are others: first one was made, then the other one, then both are laid -/
theorem ReIn.both12 {D : Nat → Prop} {L : Nat → Nat} {w w3 w4 : World} {x : Nat} {s : Stt} {a1 a2 a3 a4 a a' : Option Addr} {c1 c2 c3 c4 c c' : Nat} {zs zs' : List ByteArray} (H : ReIn D L w x s a1 c1 a2 c2 a3 c3 a4 c4) (hD : ∀ k, w.heap.size ≤ k → D k)
    (hb : Below w.heap.size w w3) (hr : Row (w.heap.size ≤ ·) w3 a c zs) (hb2 : Below w3.heap.size w3 w4) (hr2 : Row (w3.heap.size ≤ ·) w4 a' c' zs') :
    RE x { s with t1 := zs, t2 := zs' } D ((w4.setCell ⟨x, 0, none⟩ (.slice a zs.length c)).setCell ⟨x, 1, none⟩ (.slice a' zs'.length c')) := by
  have hx := lt_of_block H.top
  have hs := hb.size
  have H3 := H.put1 hD (.of_below hb) (hr.wide (fun _ _ h => .inr h))
  have hz : (w3.setCell ⟨x, 0, none⟩ (.slice a zs.length c)).heap.size = w3.heap.size := by simp [World.setCell]
  have H4 := H3.put2 (fun k h => hD k (by omega)) (.of_below (below_set hb2 (a := ⟨x, 0, none⟩) _)) ((hr2.kept (Keeps.setCell (D := fun k => k = x) (Keeps.refl _ w4) (p := ⟨x, 0, none⟩) rfl (.slice a zs.length c)) (fun k h e => by subst e; have h' : w3.heap.size ≤ k := h; omega)).wide (fun k _ h => .inr (by have h' : w3.heap.size ≤ k := h; omega)))
  exact ⟨_, _, _, _, _, _, _, _, _, H4⟩
/-- rows 3 and 4 are others: first one was made, then the other one, then both are laid -/
theorem ReIn.both34 {D : Nat → Prop} {L : Nat → Nat} {w w3 w4 : World} {x : Nat} {s : Stt} {a1 a2 a3 a4 a a' : Option Addr} {c1 c2 c3 c4 c c' : Nat} {zs zs' : List ByteArray} (H : ReIn D L w x s a1 c1 a2 c2 a3 c3 a4 c4) (hD : ∀ k, w.heap.size ≤ k → D k)
    (hb : Below w.heap.size w w3) (hr : Row (w.heap.size ≤ ·) w3 a c zs) (hb2 : Below w3.heap.size w3 w4) (hr2 : Row (w3.heap.size ≤ ·) w4 a' c' zs') :
    RE x { s with b1 := zs, b2 := zs' } D ((w4.setCell ⟨x, 2, none⟩ (.slice a zs.length c)).setCell ⟨x, 3, none⟩ (.slice a' zs'.length c')) := by
  have hx := lt_of_block H.top
  have hs := hb.size
  have H3 := H.put3 hD (.of_below hb) (hr.wide (fun _ _ h => .inr h))
  have hz : (w3.setCell ⟨x, 2, none⟩ (.slice a zs.length c)).heap.size = w3.heap.size := by simp [World.setCell]
  have H4 := H3.put4 (fun k h => hD k (by omega)) (.of_below (below_set hb2 (a := ⟨x, 2, none⟩) _)) ((hr2.kept (Keeps.setCell (D := fun k => k = x) (Keeps.refl _ w4) (p := ⟨x, 2, none⟩) rfl (.slice a zs.length c)) (fun k h e => by subst e; have h' : w3.heap.size ≤ k := h; omega)).wide (fun k _ h => .inr (by have h' : w3.heap.size ≤ k := h; omega)))
  exact ⟨_, _, _, _, _, _, _, _, _, H4⟩
section
variable {D D' : Nat → Prop} {w w' : World} {x : Nat} {s : Stt}
set_option maxRecDepth 20000 in
set_option maxHeartbeats 4000000 in
theorem rrem_yes (H : RE x s D w) (hs : Small s) (hD : ∀ k, w.heap.size ≤ k → D k) (key : ByteArray) (hk : key ∈ A.keys s) :
    Calls Tryd.prog 49 #[.pointer (some ⟨x, 0, none⟩), .string key] w fun e w' => e = .returned (.bool true) ∧ RE x (A.gone s key) D w' ∧ Keeps D w w' := by
  have hh := rhas_key H hs key
  rw [inn_yes hk] at hh
  obtain ⟨L, a1, c1, a2, c2, a3, c3, a4, c4, H⟩ := H
  obtain ⟨d0, d1, d2, d3, d4, d5⟩ := H.cells
  have HH : Hid _ := H
  have hcut1 := rcut_any (H.below ((Below.refl _ w).drew)).r1 (by have := hs.t1; omega) key
  have hcut2 := fun {W : World} (hb : Below w.heap.size w W) => rcut_any (H.below hb).r2 (by have := hs.t2; omega) key
  clear H hs
  go_enter Tryd.func49, Tryd.ntmps49
  go_wp2_with (first
    | (go_at_call 51; refine hh.mono ?_; rintro e w1 ⟨rfl, rfl⟩; clear hh))
  go_region_with (first
    | (go_at_call 64; refine hcut1.mono ?_; rintro e w3 ⟨b1, n1, rfl, hr1, hb1⟩; have hbw : Below w1.heap.size w1 w3 := ((Below.refl _ w1).drew).trans hb1; obtain ⟨u0, u1, u2, u3, u4, u5⟩ := (HH.out.below hbw).cells; have hcut3 := hcut2 hbw; clear hcut1 hcut2)
    | (go_at_call 64; refine hcut3.mono ?_; rintro e w4 ⟨b2, n2, rfl, hr2, hb2⟩; have hbv : Below w1.heap.size w1 w4 := hbw.trans (hb2.mono hbw.size); obtain ⟨p0, p1, p2, p3, p4, p5⟩ := (HH.out.below hbv).cells; obtain ⟨v0, v1, v2, v3, v4, v5⟩ := (HH.out.below hbv).thaw))
  all_goals
    go_wp2_with fail
    go_ret
    have hz : w1.drew.heap.size = w1.heap.size := rfl
    exact ⟨rfl, HH.out.both12 hD hbw hr1 hb2 hr2, (((Keeps.of_below hbv).setCell (p := ⟨x, 0, none⟩) HH.out.dx _).setCell (p := ⟨x, 1, none⟩) HH.out.dx _)⟩
theorem rrem_no (H : RE x s D w) (hs : Small s) (key : ByteArray) (hk : key ∉ A.keys s) :
    Calls Tryd.prog 49 #[.pointer (some ⟨x, 0, none⟩), .string key] w fun e w' => e = .returned (.bool false) ∧ w' = w := by
  have hh := rhas_key H hs key
  rw [inn_no hk] at hh
  clear H hs
  go_enter Tryd.func49, Tryd.ntmps49
  go_wp2_with (first
    | (go_at_call 51; refine hh.mono ?_; rintro e w1 ⟨rfl, rfl⟩; clear hh))
  go_ret
  exact ⟨rfl, rfl⟩
theorem rrem_any (H : RE x s D w) (hok : A.Ok s) (hD : ∀ k, w.heap.size ≤ k → D k) (key : ByteArray) :
    Calls Tryd.prog 49 #[.pointer (some ⟨x, 0, none⟩), .string key] w fun e w' => e = .returned (.bool (A.remove s key).1) ∧ RE x (A.remove s key).2 D w' ∧ Keeps D w w' := by
  unfold A.remove
  by_cases hk : key ∈ A.keys s
  · rw [if_pos hk]
    exact rrem_yes H (Small.of hok) hD key hk
  · rw [if_neg hk]
    refine (rrem_no H (Small.of hok) key hk).mono ?_
    rintro e w' ⟨rfl, rfl⟩
    exact ⟨rfl, H, Keeps.refl D _⟩
end
end Go.Proofs.YtfbdmoineahfgabDoor
namespace Go.Proofs.YtfbdmoineahfgabDoor
open Go.RowKit

/-- a call of cut, as one step of a region that draws its order -/
theorem step_cut {D : Nat → Prop} {w : World} {ad : Option Addr} {cap : Nat} {zs : List ByteArray} {k : ByteArray} {ops : Array Oper} {o : Oper} {a : Act} {K : Act → World → Prop} {Q : Exit → Act → World → Prop} {E : Prop}
    (hg : o.guard = none) (s x : Operand) (hop : o.op = Op.call { callee := Callee.value (Operand.func 64), args := #[s, x], argTypes := #[23, 9] })
    (hs : a.eval s = .slice ad zs.length cap) (hx : a.eval x = .string k) (hrow : Row D w ad cap zs) (hn : zs.length ≤ 10000)
    (hK : ∀ ad' cap' w', Row (w.heap.size ≤ ·) w' ad' cap' (A.cut zs k) → Below w.heap.size w w' → K (a.put o.dst (.slice ad' (A.cut zs k).length cap')) w') :
    if Region.wanted o (yielded ops a.tmps) = true then Oper.wp Tryd.prog o a w K Q else E := by
  have hw : Region.wanted o (yielded ops a.tmps) = true := by simp [Region.wanted, hg]
  rw [if_pos hw]
  have hc := rcut_any hrow hn k
  have hf : ∀ args, (callFunc 64 args).run Tryd.prog w = .ok (.enter 64 args) w := by
    intro args
    have h1 : (Tryd.f64.name == "runtime.NumGoroutine") = false := by kernel_rfl
    have h2 : Tryd.f64.body.isNone = false := by kernel_rfl
    have h3 : ¬ Tryd.f64.name = "runtime.NumGoroutine" := by intro e; rw [e] at h1; simp at h1
    have h4 : ¬ Tryd.f64.body = none := by intro e; rw [e] at h2; simp at h2
    simp [callFunc, Tryd.func64]
    rw [if_neg h3, if_neg h4]
  unfold Oper.wp
  have he : (execOp a.eval o).run Tryd.prog w = .ok (.enter 64 #[.slice ad zs.length cap, .string k]) w := by
    have hv : a.eval (Operand.func 64) = .func (.func 64) #[] #[] := rfl
    simp [execOp, hop, resolve, Deferred.ofValue, invoke, hs, hx, hf, hv]
  rw [he]
  refine hc.mono ?_
  rintro e w' ⟨ad', cap', rfl, hr, hb⟩
  exact hK ad' cap' w' hr hb
section
variable {D D' : Nat → Prop} {w w' : World} {x : Nat} {s : Stt}
set_option maxRecDepth 20000 in
set_option maxHeartbeats 8000000 in
theorem racc_hit (H : RE x s D w) (hs : Small s) (hD : ∀ k, w.heap.size ≤ k → D k) (key : ByteArray) (hk : key ∈ A.keys s) :
    Calls Tryd.prog 47 #[.pointer (some ⟨x, 0, none⟩), .string key] w fun e w' => e = .returned (.tuple #[.bool true, .slice none 0 0]) ∧ RE x (A.touch s key) D w' ∧ Keeps D w w' := by
  have hh := rhas_key H hs key
  rw [inn_yes hk] at hh
  obtain ⟨L, a1, c1, a2, c2, a3, c3, a4, c4, H⟩ := H
  obtain ⟨d0, d1, d2, d3, d4, d5⟩ := H.cells
  have l1 := hs.t1
  have l2 := hs.t2
  have hcl : (A.cut s.t2 key).length ≤ 2100 := Nat.le_trans (A.length_cut_le _ _) l2
  obtain ⟨e0, e1, -⟩ := (H.below ((Below.refl _ w).alloc (Nat.le_refl _) (.cells #[.string key] 9))).cells
  have HH : Hid _ := H
  clear H hs
  go_enter Tryd.func47, Tryd.ntmps47
  go_wp2_with (first
    | (go_at_call 51; refine hh.mono ?_; rintro e w1 ⟨rfl, rfl⟩; clear hh))
  go_region_law (first
    | (refine step_cut (by rfl) _ _ (by rfl) (zs := s.t1) (by rfl) (by rfl) (HH.out.r1.below (by first | exact (Below.refl _ _).drew | exact ((Below.refl _ _).alloc (Nat.le_refl _) _).drew)) (by omega) ?_
       intro b1 n1 w3 hr1 hb1
       have hbw : Below w1.heap.size w1 w3 := by first | exact ((Below.refl _ w1).drew).trans hb1 | exact (((Below.refl _ w1).alloc (Nat.le_refl _) _).drew).trans (hb1.mono (by show w1.heap.size ≤ (w1.alloc _).heap.size; simp))
       have hr1' : Row (w1.heap.size ≤ ·) w3 b1 n1 (A.cut s.t1 key) := hr1.wide (fun g _ h => Nat.le_trans (by first | exact Nat.le_refl _ | (show w1.heap.size ≤ (w1.alloc _).heap.size; simp)) h)
       obtain ⟨u0, u1, u2, u3, u4, u5⟩ := (HH.out.below hbw).cells
       obtain ⟨g0, g1, -⟩ := (HH.out.below (hbw.alloc hbw.size (.cells #[.string key] 9))).cells)
    | (refine step_cut (by rfl) _ _ (by rfl) (zs := s.t2) (by rfl) (by rfl) (HH.out.r2.below (by first | exact hbw | exact hbw.alloc hbw.size _)) (by omega) ?_
       intro b2 n2 w4 hr2 hb2
       have hb3 : Below w3.heap.size w3 w4 := by first | exact hb2 | exact ((Below.refl _ w3).alloc (Nat.le_refl _) _).trans (hb2.mono (by simp))
       have hr2' : Row (w3.heap.size ≤ ·) w4 b2 n2 (A.cut s.t2 key) := hr2.wide (fun g _ h => Nat.le_trans (by first | exact Nat.le_refl _ | (show w3.heap.size ≤ _; simp)) h))
    | (refine step_append_row (D := fun g => w3.heap.size ≤ g) (zs := A.cut s.t2 key) (ks := [key]) (by rfl) _ _ (by rfl) (by rfl) (by first | exact hr2' | exact hr2'.below ((Below.refl _ _).alloc (Nat.le_refl _) _)) (by rfl) (by first | exact src_one _ key | exact ((row_lit (E := fun _ => True) key trivial).below hb2).src | exact ((((row_lit (w := w1) (E := fun _ => True) key trivial).below ((Below.refl _ _).drew)).below hb1).below hb2).src) (by simp; omega) ?_
       intro a5 n5 w5 hr5 hk5
       have hb5 : Below w3.heap.size w3 w5 := by first | exact hb3.trans (hk5.below hb3.size (fun _ h => h)) | exact (hb3.alloc hb3.size _).trans (hk5.below (Nat.le_trans hb3.size (by simp)) (fun _ h => h))
       have hr5' : Row (w3.heap.size ≤ ·) w5 a5 n5 (A.cut s.t2 key ++ [key]) := rrow_old hr5 (by first | exact hb3.size | exact Nat.le_trans hb3.size (by simp))
       have hbv : Below w1.heap.size w1 w5 := hbw.trans (hb5.mono hbw.size)
       obtain ⟨p0, p1, p2, p3, p4, p5⟩ := (HH.out.below hbv).cells
       obtain ⟨v0, v1, v2, v3, v4, v5⟩ := (HH.out.below hbv).thaw))
  all_goals
    go_wp2_with fail
    go_ret2
    have H9 := HH.out.both12 hD hbw hr1' hb5 hr5'
    simp only [List.length_append, List.length_cons, List.length_nil, Nat.zero_add] at H9
    exact ⟨rfl, H9, (((Keeps.of_below hbv).setCell (p := ⟨x, 0, none⟩) HH.out.dx _).setCell (p := ⟨x, 1, none⟩) HH.out.dx _)⟩
end
end Go.Proofs.YtfbdmoineahfgabDoor
namespace Go.Proofs.YtfbdmoineahfgabDoor
open Go.RowKit

section
variable {D D' : Nat → Prop} {w w' : World} {x : Nat} {s : Stt}
/-- what Access answers: whether it was a hit, and a row that is none of the machine's -/
def Told (x : Nat) (r : Bool × List ByteArray × Stt) (D : Nat → Prop) (w : World) (e : Ending) (w' : World) : Prop :=
  ∃ ad cap, e = .returned (.tuple #[.bool r.1, .slice ad r.2.1.length cap]) ∧ Beside (RE x r.2.2) ad cap r.2.1 D w' ∧ Keeps D w w'
set_option maxRecDepth 20000 in
set_option maxHeartbeats 4000000 in
theorem racc_any (H : RE x s D w) (hok : A.Ok s) (hD : ∀ k, w.heap.size ≤ k → D k) (key : ByteArray) :
    Calls Tryd.prog 47 #[.pointer (some ⟨x, 0, none⟩), .string key] w (Told x (A.access s key) D w) := by
  have hs := Small.of hok
  unfold A.access
  by_cases hk : key ∈ A.keys s
  · rw [if_pos hk]
    refine (racc_hit H hs hD key hk).mono ?_
    rintro e w' ⟨rfl, hE, hk⟩
    exact ⟨none, 0, rfl, ⟨_, fun g h => h, hE.narrow, Row.nil⟩, hk⟩
  · rw [if_neg hk]
    have hh := rhas_key H hs key
    rw [inn_no hk] at hh
    by_cases hg : key ∈ A.ghosts s
    · rw [if_pos hg]
      have hkn : Calls Tryd.prog 66 #[.pointer (some ⟨x, 0, none⟩), .string key] w fun e w' => ∃ ad cap, e = .returned (.slice ad (A.known s key).1.length cap) ∧ Beside (RE x (A.known s key).2) ad cap (A.known s key).1 D w' ∧ Keeps D w w' := by
        unfold A.known
        by_cases hb : key ∈ s.b1
        · rw [if_pos hb]
          exact rknown1 H hs hok.one hD key hok.res hb
        · rw [if_neg hb]
          exact rknown2 H hs hok.one hD key hok.res hb (by simpa [A.ghosts, hb] using hg)
      obtain ⟨L, a1, c1, a2, c2, a3, c3, a4, c4, H⟩ := H
      obtain ⟨d0, d1, d2, d3, d4, d5⟩ := H.cells
      have e3 := rhas_any H.r3 (by have := hs.b1; omega) key
      have e4 := rhas_any H.r4 (by have := hs.b2; omega) key
      generalize A.known s key = r at *
      by_cases hb : key ∈ s.b1
      · have hj := idx_mem hb
        generalize idx s.b1 key = j1 at *
        clear H hs hok e4
        go_enter Tryd.func47, Tryd.ntmps47
        go_wp2_with (first
          | (go_at_call 51; refine hh.mono ?_; rintro e w1 ⟨rfl, rfl⟩; clear hh)
          | (go_at_call 65; refine e3.mono ?_; rintro e w2 ⟨rfl, rfl⟩; clear e3)
          | (go_at_call 66; refine hkn.mono ?_; rintro e w3 ⟨ad, cap, rfl, hbe, hk3⟩))
        go_ret2
        exact ⟨ad, cap, rfl, hbe, hk3⟩
      · have hb4 : key ∈ s.b2 := by simpa [A.ghosts, hb] using hg
        have hj := idx_mem hb4
        rw [idx_no hb] at e3
        generalize idx s.b2 key = j1 at *
        clear H hs hok
        go_enter Tryd.func47, Tryd.ntmps47
        go_wp2_with (first
          | (go_at_call 51; refine hh.mono ?_; rintro e w1 ⟨rfl, rfl⟩; clear hh)
          | (go_at_call 65; refine e3.mono ?_; rintro e w2 ⟨rfl, rfl⟩; clear e3)
          | (go_at_call 65; refine e4.mono ?_; rintro e w2 ⟨rfl, rfl⟩; clear e4)
          | (go_at_call 66; refine hkn.mono ?_; rintro e w3 ⟨ad, cap, rfl, hbe, hk3⟩))
        go_ret2
        exact ⟨ad, cap, rfl, hbe, hk3⟩
    · rw [if_neg hg]
      have hkn := rfresh_any H hok hD key
      obtain ⟨L, a1, c1, a2, c2, a3, c3, a4, c4, H⟩ := H
      obtain ⟨d0, d1, d2, d3, d4, d5⟩ := H.cells
      have e3 := rhas_any H.r3 (by have := hs.b1; omega) key
      have e4 := rhas_any H.r4 (by have := hs.b2; omega) key
      have h3 : key ∉ s.b1 := fun h => hg (by simp [A.ghosts, h])
      have h4 : key ∉ s.b2 := fun h => hg (by simp [A.ghosts, h])
      rw [idx_no h3] at e3
      rw [idx_no h4] at e4
      generalize A.fresh s key = r at *
      clear H hs hok
      go_enter Tryd.func47, Tryd.ntmps47
      go_wp2_with (first
        | (go_at_call 51; refine hh.mono ?_; rintro e w1 ⟨rfl, rfl⟩; clear hh)
        | (go_at_call 65; refine e3.mono ?_; rintro e w2 ⟨rfl, rfl⟩; clear e3)
        | (go_at_call 65; refine e4.mono ?_; rintro e w2 ⟨rfl, rfl⟩; clear e4)
        | (go_at_call 67; refine hkn.mono ?_; rintro e w3 ⟨ad, cap, rfl, hbe, hk3⟩))
      go_ret2
      exact ⟨ad, cap, rfl, hbe, hk3⟩
theorem revi_no (H : RE x s D w) (hs : Small s) (hl : (A.keys s).length = 0) :
    Calls Tryd.prog 50 #[.pointer (some ⟨x, 0, none⟩)] w fun e w' => e = .returned (.tuple #[.string ⟨#[]⟩, .bool false]) ∧ ∃ q, w' = w.drewN q := by
  have hlen := rlen_any H hs
  rw [hl] at hlen
  clear H hs
  go_enter Tryd.func50, Tryd.ntmps50
  go_wp2_with (first | (go_at_call 68; refine hlen.mono ?_; rintro e w1 ⟨rfl, q, rfl⟩; clear hlen))
  go_ret2
  exact ⟨rfl, _, rfl⟩
end
end Go.Proofs.YtfbdmoineahfgabDoor
