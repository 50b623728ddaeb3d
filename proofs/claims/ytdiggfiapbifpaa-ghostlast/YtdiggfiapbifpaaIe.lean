/- An index of numbers: Put; an index that isn't there. -/
import Derived.Test.YtdiggfiapbifpaaId
namespace Go.Proofs.Ytdiggfiapbifpaa.Ix
open Go.RowKit

section
variable {D : Nat → Prop} {w : World} {p g seed : Nat} {sl : List (Sl Int)} {used count b : Nat} {ad : Option Addr} {m : ByteArray → Option Int}
theorem over_end {w1 : World} {q j : Nat} {s : Sl Int} {k : ByteArray} (hs0 : seed < 18446744073709551616) (H : IndexIn V 67 65 D w1 p seed sl used count (some ⟨g, 0, none⟩)) (o : Ok (hs seed) sl used count b m) (hg : D g) (hj : sl[j]? = some s) (h2 : s.st = 2) (hk : s.key = k) (v : Int) (h1 : Keeps D w w1) :
    IX V 67 65 D ((w1.drewN q).setCell ⟨g, j * 3 + 2, none⟩ (V v)) p (put m k (some v)) (b + 1) ∧ Keeps D w ((w1.drewN q).setCell ⟨g, j * 3 + 2, none⟩ (V v)) := by
  subst hk
  exact ⟨⟨seed, _, _, _, _, hs0, (H.drewN q).setVal hj v, (o.over v hj h2).more (Nat.le_succ b)⟩, (h1.drewN q).setCell hg _⟩
theorem lay_end {w1 : World} {j d : Nat} {s : Sl Int} {k : ByteArray} {v : Int} (hs0 : seed < 18446744073709551616) (o : Ok (hs seed) sl used count b m) (hj : sl[j]? = some s) (hst : s.st < 2) (hd : j = (hs seed k + d) % sl.length) (hw : ∀ e, e < d → ∃ t : Sl Int, sl[(hs seed k + e) % sl.length]? = some t ∧ t.st ≠ 0)
    (hm : m k = none) (hr : 2 * (used + 1) < sl.length) (hk : k.size ≤ 1000) (H : IndexIn V 67 65 D w1 p seed (sl.set j ⟨2, k, v⟩) (if s.st = 0 then used + 1 else used) (count + 1) ad) :
    IX V 67 65 D w1 p (put m k (some v)) (b + 1) :=
  ⟨seed, _, _, _, _, hs0, H, (o.more (Nat.le_succ b)).lay v hj hst hd hw hm hr (by have := o.few; omega) hk⟩
set_option maxHeartbeats 1000000 in
theorem put_wide (hs0 : seed < 18446744073709551616) (H : IndexIn V 67 65 D w p seed sl used count ad) (o : Ok (hs seed) sl used count b m) (k : ByteArray) (hk : k.size ≤ 1000) (v : Int) (hb : b ≤ 999999) (hr : 2 * (used + 1) < sl.length) :
    Calls Try.prog 24 #[.pointer (some ⟨p, 0, none⟩), .string k, V v] w fun e w' => e = .returned (.bool (m k).isNone) ∧ IX V 67 65 D w' p (put m k (some v)) (b + 1) ∧ Keeps D w w' := by
  have hbig := o.big
  have hfew := o.few
  obtain ⟨c0, c1, c2, c3, f0, f1, f2, f3⟩ := H.top
  have HH : Hid (IndexIn V 67 65 D w p seed sl used count ad) := H
  have HO : Hid (Ok (hs seed) sl used count b m) := o
  have hne : sl ≠ [] := by rintro rfl; simp at hr
  have hrI : ¬ ((sl.length : Int) ≤ 2 * ((used : Int) + 1)) := by omega
  clear H o
  cases hm : m k with
  | some x =>
    have HM : Hid (m k = some x) := hm
    clear hm
    go_enter Try.func24, Try.ntmps24
    go_wp2
    go_quiet (fail)
    go_wp2_with (go_at_call 32; refine (find_hit (HH.out.drewN _) HO.out hs0 (by omega) k (by unfold maxLen; omega) HM.out).mono ?_; rintro e w1 ⟨j, rfl, hj, q, rfl⟩; obtain ⟨s, hjs, h2, hkk, hv⟩ := HO.out.hit_at hj; have hjl := lt_of_at hjs; obtain ⟨g, rfl, hgp, hDg, hg⟩ := HH.out.block (by omega); obtain ⟨d0, d1, d2, e0, e1, e2⟩ := slot_cells hg hjs; have HJ : Hid (sl[j]? = some s ∧ s.st = 2 ∧ s.key = k) := ⟨hjs, h2, hkk⟩; clear hv hjs hg hj h2 hkk)
    go_ret
    exact ⟨rfl, over_end hs0 HH.out HO.out hDg HJ.out.1 HJ.out.2.1 HJ.out.2.2 v (Keeps.refl D w)⟩
  | none =>
    have HM : Hid (m k = none) := hm
    clear hm
    go_enter Try.func24, Try.ntmps24
    go_wp2
    go_quiet (fail)
    go_wp2_with (first
      | (go_at_call 32; refine (find_miss (HH.out.drewN _) HO.out hs0 hne (by omega) k (by unfold maxLen; omega) HM.out).mono ?_; rintro e w1 ⟨j, rfl, hF, q, rfl⟩; obtain ⟨t, d, ht, ht2, hjd, hjw⟩ := hF; have HT : Hid (sl[j]? = some t ∧ t.st < 2 ∧ j = (hs seed k + d) % sl.length ∧ ∀ e, e < d → ∃ t : Sl Int, sl[(hs seed k + e) % sl.length]? = some t ∧ t.st ≠ 0) := ⟨ht, ht2, hjd, hjw⟩; clear ht ht2 hjd hjw)
      | (go_at_call 26; refine (clone_any k hk _).mono ?_; rintro e w2 ⟨rfl, hb2⟩)
      | (go_at_call 37; refine (lay_at ((HH.out.drewN _).below hb2) HT.out.1 HT.out.2.1 (by omega) (by omega) (by omega) k v).mono ?_; rintro e w3 ⟨rfl, hI3, hK3⟩))
    go_ret
    exact ⟨rfl, lay_end hs0 HO.out HT.out.1 HT.out.2.1 HT.out.2.2.1 HT.out.2.2.2 HM.out hr hk hI3, (((Keeps.refl D w).drewN _).trans (.of_below hb2)).trans hK3⟩
set_option maxHeartbeats 1000000 in
theorem put_grow (hs0 : seed < 18446744073709551616) (H : IndexIn V 67 65 D w p seed sl used count ad) (o : Ok (hs seed) sl used count b m) (hD : ∀ k, w.heap.size ≤ k → D k) (k : ByteArray) (hk : k.size ≤ 1000) (v : Int) (hb : b ≤ 999999) (hr : sl.length ≤ 2 * (used + 1)) :
    Calls Try.prog 24 #[.pointer (some ⟨p, 0, none⟩), .string k, V v] w fun e w' => e = .returned (.bool (m k).isNone) ∧ IX V 67 65 D w' p (put m k (some v)) (b + 1) ∧ Keeps D w w' := by
  have hbig := o.big
  have hfew := o.few
  have huse : used ≤ 8000008 := by rcases o.room with e | e
                                   · have := o.used_; rw [e] at this; simp at this; omega
                                   · omega
  obtain ⟨c0, c1, c2, c3, f0, f1, f2, f3⟩ := H.top
  have HH : Hid (IndexIn V 67 65 D w p seed sl used count ad) := H
  have HO : Hid (Ok (hs seed) sl used count b m) := o
  have HD : Hid (∀ k, w.heap.size ≤ k → D k) := hD
  have hrI : (sl.length : Int) ≤ 2 * ((used : Int) + 1) := by omega
  clear H o hD
  cases hm : m k with
  | some x =>
    have HM : Hid (m k = some x) := hm
    clear hm
    go_enter Try.func24, Try.ntmps24
    go_wp2
    go_quiet (fail)
    go_wp2_with (first
      | (go_at_call 36; refine (rebuild_at (HH.out.drewN _) HO.out hs0 HD.out (by omega)).mono ?_; rintro e w1 ⟨rfl, ⟨sl1, u1, g1, H1, o1, hu1, hl1⟩, hK1⟩; have HH1 : Hid (IndexIn V 67 65 D w1 p seed sl1 u1 count (some ⟨g1, 0, none⟩)) := H1; have HO1 : Hid (Ok (hs seed) sl1 u1 count b m) := o1; have HL1 : Hid (sl1.length = 4 * (count + 1)) := hl1; have hl2 : sl1.length ≤ 10000000 := (by omega); obtain ⟨t0, t1, t2, t3, -⟩ := H1.top; clear H1 o1 hl1 c0 c1 c2 c3 f0 f1 f2 f3)
      | (go_at_call 32; refine (find_hit HH1.out HO1.out hs0 (by omega) k (by unfold maxLen; omega) HM.out).mono ?_; rintro e w2 ⟨j, rfl, hj, q, rfl⟩; obtain ⟨s, hjs, h2, hkk, hv⟩ := HO1.out.hit_at hj; have hjl := lt_of_at hjs; obtain ⟨g, eg, hgp, hDg, hg⟩ := HH1.out.block (by omega); cases eg; obtain ⟨d0, d1, d2, e0, e1, e2⟩ := slot_cells hg hjs; have HJ : Hid (sl1[j]? = some s ∧ s.st = 2 ∧ s.key = k) := ⟨hjs, h2, hkk⟩; clear hv hjs hg hj h2 hkk))
    go_ret
    exact ⟨rfl, over_end hs0 HH1.out HO1.out hDg HJ.out.1 HJ.out.2.1 HJ.out.2.2 v (((Keeps.refl D w).drewN _).trans hK1)⟩
  | none =>
    have HM : Hid (m k = none) := hm
    clear hm
    go_enter Try.func24, Try.ntmps24
    go_wp2
    go_quiet (fail)
    go_wp2_with (first
      | (go_at_call 36; refine (rebuild_at (HH.out.drewN _) HO.out hs0 HD.out (by omega)).mono ?_; rintro e w1 ⟨rfl, ⟨sl1, u1, g1, H1, o1, hu1, hl1⟩, hK1⟩; have HH1 : Hid (IndexIn V 67 65 D w1 p seed sl1 u1 count (some ⟨g1, 0, none⟩)) := H1; have HO1 : Hid (Ok (hs seed) sl1 u1 count b m) := o1; have HL1 : Hid (sl1.length = 4 * (count + 1)) := hl1; have hl2 : sl1.length ≤ 10000000 := (by omega); have hne : sl1 ≠ [] := (by rintro rfl; simp at hl1); clear H1 o1 hl1 c0 c1 c2 c3 f0 f1 f2 f3)
      | (go_at_call 32; refine (find_miss HH1.out HO1.out hs0 hne (by omega) k (by unfold maxLen; omega) HM.out).mono ?_; rintro e w2 ⟨j, rfl, hF, q, rfl⟩; obtain ⟨t, d, ht, ht2, hjd, hjw⟩ := hF; have HT : Hid (sl1[j]? = some t ∧ t.st < 2 ∧ j = (hs seed k + d) % sl1.length ∧ ∀ e, e < d → ∃ t : Sl Int, sl1[(hs seed k + e) % sl1.length]? = some t ∧ t.st ≠ 0) := ⟨ht, ht2, hjd, hjw⟩; clear ht ht2 hjd hjw)
      | (go_at_call 26; refine (clone_any k hk _).mono ?_; rintro e w3 ⟨rfl, hb2⟩)
      | (go_at_call 37; refine (lay_at ((HH1.out.drewN _).below hb2) HT.out.1 HT.out.2.1 (by omega) (by omega) (by omega) k v).mono ?_; rintro e w4 ⟨rfl, hI3, hK3⟩))
    go_ret
    exact ⟨rfl, lay_end hs0 HO1.out HT.out.1 HT.out.2.1 HT.out.2.2.1 HT.out.2.2.2 HM.out (by have := HL1.out; omega) hk hI3, (((((Keeps.refl D w).drewN _).trans hK1).drewN _).trans (.of_below hb2)).trans hK3⟩
theorem put_any (H : IX V 67 65 D w p m b) (hD : ∀ k, w.heap.size ≤ k → D k) (k : ByteArray) (hk : k.size ≤ 1000) (v : Int) (hb : b ≤ 999999) :
    Calls Try.prog 24 #[.pointer (some ⟨p, 0, none⟩), .string k, V v] w fun e w' => e = .returned (.bool (m k).isNone) ∧ IX V 67 65 D w' p (put m k (some v)) (b + 1) ∧ Keeps D w w' := by
  obtain ⟨seed, sl, used, count, ad, hs0, H, o⟩ := H
  by_cases hr : 2 * (used + 1) < sl.length
  · exact put_wide hs0 H o k hk v hb hr
  · exact put_grow hs0 H o hD k hk v hb (by omega)

end
end Go.Proofs.Ytdiggfiapbifpaa.Ix
