/- An index of spots: New, Put, Get, Delete, Len. -/
import Derived.Test.YtcphhlfbjkeikabGreatIb
namespace Go.Proofs.YtcphhlfbjkeikabGreat.Ix
open Go.RowKit

section
variable {D : Nat → Prop} {w : World} {p g seed : Nat} {sl : List (Sl Sp)} {used count b : Nat} {ad : Option Addr} {m : ByteArray → Option Sp}
theorem new_any (w : World) (D : Nat → Prop) (hD : D w.heap.size) (s : Nat) (hs0 : s < 18446744073709551616) :
    Calls Tryz.prog 20 #[.int .u64 (s : Nat)] w fun e w' => ∃ p, e = .returned (.pointer (some ⟨p, 0, none⟩)) ∧ IX 111 82 D w' p (fun _ => none) 0 ∧ Keeps D w w' ∧ p = w.heap.size := by
  go_enter Tryz.func20, Tryz.ntmps20
  go_wp2
  go_ret
  exact ⟨_, rfl, IX.made 111 82 hD s hs0, (Keeps.refl D w).alloc _, rfl⟩
/-- a new spot -/
theorem zero_new (w : World) : (w.alloc (.cells #[.int .i64 0, .int .i64 0] 44)).heap[w.heap.size]? = some (.cells #[.int .i64 0, .int .i64 0] 44 (0, 0)) := heap_alloc_new w _
theorem below_more (w : World) (q : Nat) (o : Obj) : Below w.heap.size w ((w.drewN q).alloc o) := ((((Keeps.refl (fun k => w.heap.size ≤ k) w).drewN q).alloc o).below (Nat.le_refl _) (fun _ h => h))
theorem lt_of_old {w : World} {x y : Value} {t e : TypeId} {g : Nat} {cs : List Value} (h : (w.alloc (.cells #[x, y] t)).heap[g]? = some (.cells cs.toArray e (0, 0))) (hl : cs.length ≠ 2) : g < w.heap.size := by
  have h1 := lt_of_block h
  rw [World.size_alloc] at h1
  rcases Nat.lt_or_ge g w.heap.size with h2 | h2
  · exact h2
  · have e : g = w.heap.size := by omega
    subst e
    rw [heap_alloc_new] at h
    simp only [Option.some.injEq, Obj.cells.injEq] at h
    have := congrArg Array.size h.1
    simp at this
    omega
theorem IndexIn.past {n : Nat} {W W' : World} (h : IndexIn 111 82 D W p seed sl used count ad) (hp : p < n) (hg : ∀ g, ad = some ⟨g, 0, none⟩ → g < n) (hk : Keeps (fun k => n ≤ k) W W') : IndexIn 111 82 D W' p seed sl used count ad := by
  obtain ⟨hD, h1, h2⟩ := h
  refine ⟨hD, (hk.block p (lt_of_block h1) (by omega)).trans h1, ?_⟩
  rcases h2 with h0 | ⟨g, e, a, b, c⟩
  · exact .inl h0
  · exact .inr ⟨g, e, a, b, (hk.block g (lt_of_block c) (by have := hg g e; omega)).trans c⟩
theorem gone_more {q j : Nat} {s : Sl Sp} {k : ByteArray} (hs0 : seed < 18446744073709551616) (H : IndexIn 111 82 D (w.alloc (.cells #[.int .i64 0, .int .i64 0] 44)) p seed sl used count (some ⟨g, 0, none⟩)) (o : Ok (hs seed) sl used count b m) (hg : D g) (hj : sl[j]? = some s) (h2 : s.st = 2) (hk : s.key = k) (hp : p < w.heap.size) (hgo : g < w.heap.size) (v : Sp) :
    IX 111 82 D (((((((((w.alloc (.cells #[.int .i64 0, .int .i64 0] 44)).drewN q).setCell ⟨g, j * 4, none⟩ (.int .u8 1)).setCell ⟨g, j * 4 + 1, none⟩ (.string ⟨#[]⟩)).setCell ⟨g, j * 4 + 2, none⟩ (.int .i64 0)).setCell ⟨g, j * 4 + 3, none⟩ (.int .i64 0)).setCell ⟨p, 3, none⟩ (.int .i64 ((count : Int) - 1))).setCell ⟨w.heap.size, 0, none⟩ (.int .i64 (v.1 : Nat))).setCell ⟨w.heap.size, 1, none⟩ (.int .i64 (v.2 : Nat)) |>.alloc (.cells #[.int .i64 (v.1 : Nat), .int .i64 (v.2 : Nat)] 44)) p (put m k none) b ∧
    Keeps D w (((((((((w.alloc (.cells #[.int .i64 0, .int .i64 0] 44)).drewN q).setCell ⟨g, j * 4, none⟩ (.int .u8 1)).setCell ⟨g, j * 4 + 1, none⟩ (.string ⟨#[]⟩)).setCell ⟨g, j * 4 + 2, none⟩ (.int .i64 0)).setCell ⟨g, j * 4 + 3, none⟩ (.int .i64 0)).setCell ⟨p, 3, none⟩ (.int .i64 ((count : Int) - 1))).setCell ⟨w.heap.size, 0, none⟩ (.int .i64 (v.1 : Nat))).setCell ⟨w.heap.size, 1, none⟩ (.int .i64 (v.2 : Nat)) |>.alloc (.cells #[.int .i64 (v.1 : Nat), .int .i64 (v.2 : Nat)] 44)) := by
  subst hk
  obtain ⟨o', hc⟩ := o.gone (0, 0) hj h2
  have h' := ((H.drewN q).setSlot (by have := lt_of_at hj; omega) j ⟨1, ⟨#[]⟩, (0, 0)⟩).setCount (count - 1)
  rw [show ((count - 1 : Nat) : Int) = (count : Int) - 1 by omega] at h'
  have k1 := (((((((Keeps.refl D w).alloc (.cells #[.int .i64 0, .int .i64 0] 44)).drewN q).setCell (p := ⟨g, j * 4, none⟩) hg (.int .u8 1)).setCell (p := ⟨g, j * 4 + 1, none⟩) hg (.string ⟨#[]⟩)).setCell (p := ⟨g, j * 4 + 2, none⟩) hg (.int .i64 0)).setCell (p := ⟨g, j * 4 + 3, none⟩) hg (.int .i64 0)).setCell (p := ⟨p, 3, none⟩) H.1 (.int .i64 ((count : Int) - 1))
  exact ⟨⟨seed, _, _, _, _, hs0, h'.past (n := w.heap.size) hp (fun g' e => by cases e; exact hgo) ((((Keeps.refl (fun k => w.heap.size ≤ k) _).setCell (p := ⟨w.heap.size, 0, none⟩) (Nat.le_refl w.heap.size) _).setCell (p := ⟨w.heap.size, 1, none⟩) (Nat.le_refl w.heap.size) _).alloc _), o'⟩, ((k1.setNew (p := ⟨w.heap.size, 0, none⟩) (Nat.le_refl w.heap.size) _).setNew (p := ⟨w.heap.size, 1, none⟩) (Nat.le_refl w.heap.size) _).alloc _⟩
theorem get_hit (H : IX 111 82 D w p m b) (hb : b ≤ 1000000) (k : ByteArray) (hk : k.size ≤ maxLen) {v : Sp} (hm : m k = some v) :
    Calls Tryz.prog 35 #[.pointer (some ⟨p, 0, none⟩), .string k] w fun e w' => e = .returned (.tuple #[V v, .bool true]) ∧ Below w.heap.size w w' := by
  obtain ⟨seed, sl, used, count, ad, hs0, H, o⟩ := H
  have hbig := o.big
  have hB : Hid (Below w.heap.size w (w.alloc (.cells #[.int .i64 0, .int .i64 0] 44))) := (Below.refl _ w).alloc (Nat.le_refl _) _
  have H1 := H.below hB.out
  obtain ⟨c0, c1, c2, c3, -⟩ := H1.top
  have y := zero_new w
  have y0 := cell_of_block (j := 0) y
  have y1 := cell_of_block (j := 1) y
  have z0 := frozen_of_block (j := 0) y
  have z1 := frozen_of_block (j := 1) y
  simp at y0 y1
  have HH : Hid (IndexIn 111 82 D (w.alloc (.cells #[.int .i64 0, .int .i64 0] 44)) p seed sl used count ad) := H1
  have HO : Hid (Ok (hs seed) sl used count b m) := o
  have HM : Hid (m k = some v) := hm
  clear H H1 o hm y
  go_enter Tryz.func35, Tryz.ntmps35
  go_wp2_with (go_at_call 62; refine (find_hit HH.out HO.out hs0 hb k hk HM.out).mono ?_; rintro e w1 ⟨j, rfl, hj, q, rfl⟩; obtain ⟨s, hjs, h2, hkk, hv⟩ := HO.out.hit_at hj; rw [HM.out] at hv; have hjl := lt_of_at hjs; obtain ⟨g, rfl, hgp, hDg, hg⟩ := HH.out.block (by omega); obtain ⟨d0, d1, d2, d3, -⟩ := slot_cells hg hjs; rw [← Option.some.inj hv] at d2 d3; clear hv hjs hg hj h2 hkk)
  exact bodyPost_ret (v := .tuple #[V v, .bool true]) (by simp [results, Tryz.results35, go_sem]) rfl ⟨rfl, (((((Keeps.refl (fun k => w.heap.size ≤ k) w).alloc _).drewN q).setCell (Nat.le_refl _) _).setCell (Nat.le_refl _) _).below (Nat.le_refl _) (fun _ h => h)⟩
theorem get_miss (H : IX 111 82 D w p m b) (hb : b ≤ 1000000) (k : ByteArray) (hk : k.size ≤ maxLen) (hm : m k = none) :
    Calls Tryz.prog 35 #[.pointer (some ⟨p, 0, none⟩), .string k] w fun e w' => e = .returned (.tuple #[V (0, 0), .bool false]) ∧ Below w.heap.size w w' := by
  obtain ⟨seed, sl, used, count, ad, hs0, H, o⟩ := H
  have hB : Hid (Below w.heap.size w (w.alloc (.cells #[.int .i64 0, .int .i64 0] 44))) := (Below.refl _ w).alloc (Nat.le_refl _) _
  have H1 := H.below hB.out
  have y := zero_new w
  have y0 := cell_of_block (j := 0) y
  have y1 := cell_of_block (j := 1) y
  have z0 := frozen_of_block (j := 0) y
  have z1 := frozen_of_block (j := 1) y
  simp at y0 y1
  have HH : Hid (IndexIn 111 82 D (w.alloc (.cells #[.int .i64 0, .int .i64 0] 44)) p seed sl used count ad) := H1
  have HO : Hid (Ok (hs seed) sl used count b m) := o
  have HM : Hid (m k = none) := hm
  clear H H1 o hm y
  go_enter Tryz.func35, Tryz.ntmps35
  go_wp2_with (go_at_call 62; refine (find_not HH.out HO.out hs0 hb k hk HM.out).mono ?_; rintro e w1 ⟨j, rfl, q, rfl⟩)
  exact bodyPost_ret (v := .tuple #[V (0, 0), .bool false]) (by simp [results, Tryz.results35, go_sem]) rfl ⟨rfl, ((((((Keeps.refl (fun k => w.heap.size ≤ k) w).alloc _).drewN q).setCell (Nat.le_refl _) _).setCell (Nat.le_refl _) _).alloc _).below (Nat.le_refl _) (fun _ h => h)⟩
theorem get_any (H : IX 111 82 D w p m b) (hb : b ≤ 1000000) (k : ByteArray) (hk : k.size ≤ maxLen) :
    Calls Tryz.prog 35 #[.pointer (some ⟨p, 0, none⟩), .string k] w fun e w' => e = .returned (.tuple #[V ((m k).getD (0, 0)), .bool (m k).isSome]) ∧ Below w.heap.size w w' := by
  cases hm : m k with
  | none => exact get_miss H hb k hk hm
  | some v => exact get_hit H hb k hk hm
theorem delete_miss (H : IX 111 82 D w p m b) (hb : b ≤ 1000000) (k : ByteArray) (hk : k.size ≤ maxLen) (hm : m k = none) :
    Calls Tryz.prog 82 #[.pointer (some ⟨p, 0, none⟩), .string k] w fun e w' => e = .returned (.tuple #[V (0, 0), .bool false]) ∧ Below w.heap.size w w' := by
  obtain ⟨seed, sl, used, count, ad, hs0, H, o⟩ := H
  have hB : Hid (Below w.heap.size w (w.alloc (.cells #[.int .i64 0, .int .i64 0] 44))) := (Below.refl _ w).alloc (Nat.le_refl _) _
  have H1 := H.below hB.out
  have y := zero_new w
  have y0 := cell_of_block (j := 0) y
  have y1 := cell_of_block (j := 1) y
  have z0 := frozen_of_block (j := 0) y
  have z1 := frozen_of_block (j := 1) y
  simp at y0 y1
  have HH : Hid (IndexIn 111 82 D (w.alloc (.cells #[.int .i64 0, .int .i64 0] 44)) p seed sl used count ad) := H1
  have HO : Hid (Ok (hs seed) sl used count b m) := o
  have HM : Hid (m k = none) := hm
  clear H H1 o hm y
  go_enter Tryz.func82, Tryz.ntmps82
  go_wp2_with (go_at_call 62; refine (find_not HH.out HO.out hs0 hb k hk HM.out).mono ?_; rintro e w1 ⟨j, rfl, q, rfl⟩)
  exact bodyPost_ret (v := .tuple #[V (0, 0), .bool false]) (by simp [results, Tryz.results82, go_sem]) rfl ⟨rfl, ((((((Keeps.refl (fun k => w.heap.size ≤ k) w).alloc _).drewN q).setCell (Nat.le_refl _) _).setCell (Nat.le_refl _) _).alloc _).below (Nat.le_refl _) (fun _ h => h)⟩
set_option maxHeartbeats 1000000 in
theorem delete_hit (H : IX 111 82 D w p m b) (hb : b ≤ 1000000) (k : ByteArray) (hk : k.size ≤ maxLen) {v : Sp} (hm : m k = some v) :
    Calls Tryz.prog 82 #[.pointer (some ⟨p, 0, none⟩), .string k] w fun e w' => e = .returned (.tuple #[V v, .bool true]) ∧ IX 111 82 D w' p (put m k none) b ∧ Keeps D w w' := by
  obtain ⟨seed, sl, used, count, ad, hs0, H, o⟩ := H
  have hbig := o.big
  have hfew := o.few
  have hpo := lt_of_block H.2.1
  have H1 : Hid (IndexIn 111 82 D (w.alloc (.cells #[.int .i64 0, .int .i64 0] 44)) p seed sl used count ad) := H.below ((Below.refl _ w).alloc (Nat.le_refl _) _)
  obtain ⟨c0, c1, c2, c3, f0, f1, f2, f3⟩ := H.top
  have HH : Hid (IndexIn 111 82 D w p seed sl used count ad) := H
  have HO : Hid (Ok (hs seed) sl used count b m) := o
  have HM : Hid (m k = some v) := hm
  clear H o hm
  go_enter Tryz.func82, Tryz.ntmps82
  go_wp2_with (go_at_call 62; refine (find_hit H1.out HO.out hs0 hb k hk HM.out).mono ?_; rintro e w1 ⟨j, rfl, hj, q, rfl⟩; obtain ⟨s, hjs, h2, hkk, hv⟩ := HO.out.hit_at hj; rw [HM.out] at hv; have hjl := lt_of_at hjs; obtain ⟨g, rfl, hgp, hDg, hg⟩ := HH.out.block (by omega); obtain ⟨d0, d1, d2, d3, e0, e1, e2, e3⟩ := slot_cells hg hjs; rw [← Option.some.inj hv] at d2 d3; have HJ : Hid (sl[j]? = some s ∧ s.st = 2 ∧ s.key = k) := ⟨hjs, h2, hkk⟩; have hc1 := (HO.out.gone (0, 0) hjs h2).2; have hgo := lt_of_block hg; clear hv hjs hg hj h2 hkk)
  exact bodyPost_ret (v := .tuple #[V v, .bool true]) (by simp [results, Tryz.results82, go_sem]) rfl ⟨rfl, gone_more hs0 H1.out HO.out hDg HJ.out.1 HJ.out.2.1 HJ.out.2.2 hpo hgo v⟩
theorem delete_any (H : IX 111 82 D w p m b) (hb : b ≤ 1000000) (k : ByteArray) (hk : k.size ≤ maxLen) :
    Calls Tryz.prog 82 #[.pointer (some ⟨p, 0, none⟩), .string k] w fun e w' => e = .returned (.tuple #[V ((m k).getD (0, 0)), .bool (m k).isSome]) ∧ IX 111 82 D w' p (put m k none) b ∧ Keeps D w w' := by
  cases hm : m k with
  | none =>
    refine (delete_miss H hb k hk hm).mono ?_
    rintro e w' ⟨he, hb2⟩
    have e1 : put m k none = m := by
      funext x
      by_cases hx : x = k
      · rw [hx, put_same, hm]
      · rw [put_far hx]
    rw [e1]
    exact ⟨he, H.below hb2, Keeps.of_below hb2⟩
  | some v => exact delete_hit H hb k hk hm
end
end Go.Proofs.YtcphhlfbjkeikabGreat.Ix
