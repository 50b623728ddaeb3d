/- The document's machine: Remove, Load. -/
import Derived.Test.YtbbfckgooligdabRff
namespace Go.Proofs.Ytbbfckgooligdab
open Go.RowKit

theorem below_set {w w' : World} (hb : Below w.heap.size w w') {a : Addr} (v : Value) : Below (w.setCell a v).heap.size (w.setCell a v) (w'.setCell a v) := by
  have hs := hb.size
  refine ⟨hb.os, hb.tape, hb.output, by simpa [World.setCell] using hs, fun k hk => ?_⟩
  have hk' : k < w.heap.size := by simpa [World.setCell] using hk
  by_cases e : k = a.block
  · subst e
    have h1 := hb.block a.block hk'
    show (w'.heap.modify a.block _)[a.block]? = (w.heap.modify a.block _)[a.block]?
    rw [Array.getElem?_modify, Array.getElem?_modify, if_pos rfl, if_pos rfl, h1]
  · rw [Below.heap_setCell _ _ _ _ e, Below.heap_setCell _ _ _ _ e]
    exact hb.block k hk'
/-- rows 1 and 3 are others: first one was made, then the other one, then both are laid -/
theorem ReIn.both13 {D : Nat → Prop} {L : Nat → Nat} {w w3 w4 : World} {x : Nat} {s : Stt} {a1 a2 a3 a a' : Option Addr} {c1 c2 c3 c c' : Nat} {zs zs' : List ByteArray} (H : ReIn D L w x s a1 c1 a2 c2 a3 c3) (hD : ∀ k, w.heap.size ≤ k → D k)
    (hb : Below w.heap.size w w3) (hr : Row (w.heap.size ≤ ·) w3 a c zs) (hb2 : Below w3.heap.size w3 w4) (hr2 : Row (w3.heap.size ≤ ·) w4 a' c' zs') :
    RE x { s with t1 := zs, t2 := zs' } D ((w4.setCell ⟨x, 0, none⟩ (.slice a zs.length c)).setCell ⟨x, 2, none⟩ (.slice a' zs'.length c')) := by
  have hx := lt_of_block H.top
  have hs := hb.size
  have H3 := H.put1 hD (.of_below hb) (hr.wide (fun _ _ h => .inr h))
  have hz : (w3.setCell ⟨x, 0, none⟩ (.slice a zs.length c)).heap.size = w3.heap.size := by simp [World.setCell]
  have H4 := H3.put3 (fun k h => hD k (by omega)) (.of_below (below_set hb2 (a := ⟨x, 0, none⟩) _)) ((hr2.kept (Keeps.setCell (D := fun k => k = x) (Keeps.refl _ w4) (p := ⟨x, 0, none⟩) rfl (.slice a zs.length c)) (fun k h e => by subst e; have h' : w3.heap.size ≤ k := h; omega)).wide (fun k _ h => .inr (by have h' : w3.heap.size ≤ k := h; omega)))
  exact ⟨_, _, _, _, _, _, _, H4⟩
section
variable {D D' : Nat → Prop} {w w' : World} {x : Nat} {s : Stt}
theorem rload_no (H : RE x s D w) (hs : Small s) (key : ByteArray) (hk : key ∈ A.keys s ∨ s.c ≤ (A.keys s).length) :
    Calls Try.prog 46 #[.pointer (some ⟨x, 0, none⟩), .string key] w fun e w' => e = .returned (.bool false) ∧ ∃ q, w' = w.drewN q := by
  have hh := fun q => rhas_key (H.below (below_drewN (Below.refl _ w) q)) hs key
  have hlen := fun q => rlen_any (H.below (below_drewN (Below.refl _ w) q)) hs
  obtain ⟨L, a1, c1, a2, c2, a3, c3, H⟩ := H
  obtain ⟨d0, d1, d2, d3⟩ := H.cells
  have hhi := hs.hc
  by_cases h1 : key ∈ A.keys s
  · rw [inn_yes h1] at hh
    clear H hs
    go_enter Try.func46, Try.ntmps46
    go_wp2_with fail
    go_quiet (first | (go_at_call 49; refine Calls.quiet_of_same (hh _)) | (go_at_call 69; refine Calls.quiet_of (hlen _)))
    go_wp2_with fail
    go_ret
    exact ⟨rfl, _, rfl⟩
  · rw [inn_no h1] at hh
    have h2 : s.c ≤ (A.keys s).length := by rcases hk with h | h; exact absurd h h1; exact h
    generalize (A.keys s).length = n at *
    generalize s.c = c at *
    have hd : decide ((c : Int) ≤ (n : Int)) = true := decide_eq_true (by omega)
    clear H hs
    go_enter Try.func46, Try.ntmps46
    go_wp2_with fail
    go_quiet (first | (go_at_call 49; refine Calls.quiet_of_same (hh _)) | (go_at_call 69; refine Calls.quiet_of (hlen _)))
    go_wp2_with fail
    go_ret
    exact ⟨rfl, _, rfl⟩
set_option maxRecDepth 20000 in
set_option maxHeartbeats 4000000 in
theorem rrem_yes (H : RE x s D w) (hs : Small s) (hD : ∀ k, w.heap.size ≤ k → D k) (key : ByteArray) (hk : key ∈ A.keys s) :
    Calls Try.prog 47 #[.pointer (some ⟨x, 0, none⟩), .string key] w fun e w' => e = .returned (.bool true) ∧ RE x (A.gone s key) D w' ∧ Keeps D w w' := by
  have hh := rhas_key H hs key
  rw [inn_yes hk] at hh
  obtain ⟨L, a1, c1, a2, c2, a3, c3, H⟩ := H
  obtain ⟨d0, d1, d2, d3⟩ := H.cells
  have HH : Hid _ := H
  have hcut1 := rcut_any (H.below ((Below.refl _ w).drew)).r1 (by have := hs.l1; omega) key
  have hcut2 := fun {W : World} (hb : Below w.heap.size w W) => rcut_any (H.below hb).r3 (by have := hs.l3; omega) key
  clear H hs
  go_enter Try.func47, Try.ntmps47
  go_wp2_with (first
    | (go_at_call 49; refine hh.mono ?_; rintro e w1 ⟨rfl, rfl⟩; clear hh))
  go_region_with (first
    | (go_at_call 67; refine hcut1.mono ?_; rintro e w3 ⟨b1, n1, rfl, hr1, hb1⟩; have hbw : Below w1.heap.size w1 w3 := ((Below.refl _ w1).drew).trans hb1; obtain ⟨u0, u1, u2, u3⟩ := (HH.out.below hbw).cells; have hcut3 := hcut2 hbw; clear hcut1 hcut2)
    | (go_at_call 67; refine hcut3.mono ?_; rintro e w4 ⟨b2, n2, rfl, hr2, hb2⟩; have hbv : Below w1.heap.size w1 w4 := hbw.trans (hb2.mono hbw.size); obtain ⟨p0, p1, p2, p3⟩ := (HH.out.below hbv).cells; obtain ⟨v0, v1, v2, v3⟩ := (HH.out.below hbv).thaw))
  all_goals
    go_wp2_with fail
    go_ret
    have hz : w1.drew.heap.size = w1.heap.size := rfl
    exact ⟨rfl, HH.out.both13 hD hbw hr1 hb2 hr2, (((Keeps.of_below hbv).setCell (p := ⟨x, 0, none⟩) HH.out.dx _).setCell (p := ⟨x, 2, none⟩) HH.out.dx _)⟩
theorem rrem_no (H : RE x s D w) (hs : Small s) (key : ByteArray) (hk : key ∉ A.keys s) :
    Calls Try.prog 47 #[.pointer (some ⟨x, 0, none⟩), .string key] w fun e w' => e = .returned (.bool false) ∧ w' = w := by
  have hh := rhas_key H hs key
  rw [inn_no hk] at hh
  clear H hs
  go_enter Try.func47, Try.ntmps47
  go_wp2_with (first
    | (go_at_call 49; refine hh.mono ?_; rintro e w1 ⟨rfl, rfl⟩; clear hh))
  go_ret
  exact ⟨rfl, rfl⟩
theorem rrem_any (H : RE x s D w) (hok : A.Ok s) (hD : ∀ k, w.heap.size ≤ k → D k) (key : ByteArray) :
    Calls Try.prog 47 #[.pointer (some ⟨x, 0, none⟩), .string key] w fun e w' => e = .returned (.bool (A.remove s key).1) ∧ RE x (A.remove s key).2 D w' ∧ Keeps D w w' := by
  unfold A.remove
  by_cases hk : key ∈ A.keys s
  · rw [if_pos hk]
    exact rrem_yes H (Small.of hok) hD key hk
  · rw [if_neg hk]
    refine (rrem_no H (Small.of hok) key hk).mono ?_
    rintro e w' ⟨rfl, rfl⟩
    exact ⟨rfl, H, Keeps.refl D _⟩
set_option maxRecDepth 100000 in
set_option maxHeartbeats 2000000 in
theorem rload_yes (H : RE x s D w) (hok : A.Ok s) (hD : ∀ k, w.heap.size ≤ k → D k) (key : ByteArray) (hk : key ∉ A.keys s) (hl : (A.keys s).length < s.c) :
    Calls Try.prog 46 #[.pointer (some ⟨x, 0, none⟩), .string key] w fun e w' => e = .returned (.bool true) ∧ RE x (A.again (A.noGhost s key) key) D w' ∧ Keeps D w w' := by
  have hs := Small.of hok
  have hh := fun q => rhas_key (H.below (below_drewN (Below.refl _ w) q)) hs key
  have hlen := fun q => rlen_any (H.below (below_drewN (Below.refl _ w) q)) hs
  have HD : Hid (∀ k, w.heap.size ≤ k → D k) := hD
  rw [inn_no hk] at hh
  obtain ⟨L, a1, c1, a2, c2, a3, c3, H⟩ := H
  have HE : Hid (∀ q, ReIn D L (w.drewN q) x s a1 c1 a2 c2 a3 c3) := fun q => H.below (below_drewN (Below.refl _ w) q)
  obtain ⟨d0, d1, d2, d3⟩ := H.cells
  have hhi := hs.hc
  have hl3 := hs.l3
  have hcut := fun q => rcut_any (H.below (below_drewN (Below.refl _ w) q)).r2 (by have := hs.l2; omega) key
  have HCut : Hid (∀ q, Calls Try.prog 67 #[.slice a2 s.b1.length c2, .string key] (w.drewN q) fun e w' => ∃ ad' cap', e = .returned (.slice ad' (A.cut s.b1 key).length cap') ∧ Row ((w.drewN q).heap.size ≤ ·) w' ad' cap' (A.cut s.b1 key) ∧ Below (w.drewN q).heap.size (w.drewN q) w') := hcut
  obtain ⟨n, hn⟩ : ∃ n, n = (A.keys s).length := ⟨_, rfl⟩
  rw [← hn] at hl hlen
  obtain ⟨c, hcc⟩ : ∃ c, c = s.c := ⟨_, rfl⟩
  rw [← hcc] at d3 hl hhi
  have hd : decide ((c : Int) ≤ (n : Int)) = false := decide_eq_false (by omega)
  clear H hs hcut hD hok hn hcc
  go_enter Try.func46, Try.ntmps46
  go_wp2_with fail
  go_quiet (first | (go_at_call 49; refine Calls.quiet_of_same (hh _)) | (go_at_call 69; refine Calls.quiet_of (hlen _)))
  go_wp2_with (first
    | (go_at_call 67; refine Calls.mono (HCut.out _) ?_; rintro e w5 ⟨ad5, cp5, rfl, hr5, hb5⟩; have HE5 := ((HE.out _).below hb5); obtain ⟨p0, p1, p2, p3⟩ := HE5.cells; obtain ⟨t0, t1, t2, t3⟩ := HE5.thaw; have H6 : Hid (ReIn D _ (w5.setCell ⟨x, 1, none⟩ (.slice ad5 (A.cut s.b1 key).length cp5)) x (A.noGhost s key) a1 c1 ad5 cp5 a3 c3) := ((HE.out _).put2 HD.out (Keeps.of_below hb5) (hr5.wide (fun _ _ h => .inr h))); have HK6 : Hid (Keeps D w (w5.setCell ⟨x, 1, none⟩ (.slice ad5 (A.cut s.b1 key).length cp5))) := (((Keeps.of_below (below_drewN (Below.refl _ w) _)).trans (Keeps.of_below hb5)).setCell (p := ⟨x, 1, none⟩) (HE.out 0).dx _); clear hr5 hb5 HE5)
    | (at_builtin; go_must (refine wpList_append_row (ks := [key]) rfl _ _ rfl rfl (H6.out.r3.below ((Below.refl _ _).alloc (Nat.le_refl _) _)) rfl (src_at key (by simp [World.setCell])) (by simp; omega) ?_); intro a7 n7 w7 hr7 hk7; obtain ⟨⟨x0, x1, x2, x3⟩, y0, y1, y2, y3⟩ := (H6.out.below ((Below.refl _ _).alloc (Nat.le_refl _) _)).still (by omega) hk7; have H7 : Hid (ReIn D _ (w7.setCell ⟨x, 2, none⟩ (.slice a7 (s.t2 ++ [key]).length n7)) x (A.again (A.noGhost s key) key) a1 c1 ad5 cp5 a7 n7) := ((H6.out.below ((Below.refl _ _).alloc (Nat.le_refl _) _)).put3 (fun k h => HD.out k (Nat.le_trans (Nat.le_trans HK6.out.size (by simp)) h)) hk7 hr7); have HK7 : Hid (Keeps D w (w7.setCell ⟨x, 2, none⟩ (.slice a7 (s.t2 ++ [key]).length n7))) := (((HK6.out.alloc _).trans (hk7.mono (fun _ _ h => h.1))).setCell (p := ⟨x, 2, none⟩) (HE.out 0).dx _); clear hr7 hk7))
  go_ret
  rw [List.length_append, List.length_cons, List.length_nil] at H7 HK7
  exact ⟨rfl, ⟨_, _, _, _, _, _, _, H7.out⟩, HK7.out⟩
theorem rload_any (H : RE x s D w) (hok : A.Ok s) (hD : ∀ k, w.heap.size ≤ k → D k) (key : ByteArray) :
    Calls Try.prog 46 #[.pointer (some ⟨x, 0, none⟩), .string key] w fun e w' => e = .returned (.bool (A.load s key).1) ∧ RE x (A.load s key).2 D w' ∧ Keeps D w w' := by
  by_cases hk : key ∈ A.keys s ∨ s.c ≤ (A.keys s).length
  · rw [A.load_no hk]
    refine (rload_no H (Small.of hok) key hk).mono ?_
    rintro e w' ⟨rfl, q, rfl⟩
    exact ⟨rfl, H.below (below_drewN (Below.refl _ w) q), .of_below (below_drewN (Below.refl _ w) q)⟩
  · have e0 : A.load s key = (true, A.again (A.noGhost s key) key) := by
      unfold A.load
      rw [if_neg hk]
    rw [e0]
    exact rload_yes H hok hD key (fun h => hk (.inl h)) (by rcases Nat.lt_or_ge (A.keys s).length s.c with h | h; exact h; exact absurd (.inr h) hk)
end
end Go.Proofs.Ytbbfckgooligdab
