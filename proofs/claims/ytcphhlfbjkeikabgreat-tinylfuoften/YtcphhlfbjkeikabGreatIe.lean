/- An index of spots: Put. -/
import Derived.Test.YtcphhlfbjkeikabGreatId
namespace Go.Proofs.YtcphhlfbjkeikabGreat.Ix
open Go.RowKit

section
variable {D : Nat → Prop} {w : World} {p g seed : Nat} {sl : List (Sl Sp)} {used count b : Nat} {ad : Option Addr} {m : ByteArray → Option Sp}
theorem IX.drew (h : IX 111 82 D w p m b) : IX 111 82 D w.drew p m b := by
  obtain ⟨seed, sl, u, c, ad, h1, h, o⟩ := h
  exact ⟨seed, sl, u, c, ad, h1, h.drew, o⟩
theorem over_end {b' : Nat} (hbb : b ≤ b') {w1 : World} {q j : Nat} {s : Sl Sp} {k : ByteArray} (hs0 : seed < 18446744073709551616) (H : IndexIn 111 82 D w1 p seed sl used count (some ⟨g, 0, none⟩)) (o : Ok (hs seed) sl used count b m) (hg : D g) (hj : sl[j]? = some s) (h2 : s.st = 2) (hk : s.key = k) (v : Sp) (h1 : Keeps D w w1) :
    IX 111 82 D (((w1.drewN q).setCell ⟨g, j * 4 + 2, none⟩ (.int .i64 (v.1 : Nat))).setCell ⟨g, j * 4 + 3, none⟩ (.int .i64 (v.2 : Nat))) p (put m k (some v)) b' ∧ Keeps D w (((w1.drewN q).setCell ⟨g, j * 4 + 2, none⟩ (.int .i64 (v.1 : Nat))).setCell ⟨g, j * 4 + 3, none⟩ (.int .i64 (v.2 : Nat))) := by
  subst hk
  exact ⟨⟨seed, _, _, _, _, hs0, (H.drewN q).setVal hj v, (o.over v hj h2).more hbb⟩, ((h1.drewN q).setCell hg _).setCell hg _⟩
theorem lay_end {b' : Nat} (hbb : b ≤ b') (hcb : count + 1 ≤ b') {w1 : World} {j d : Nat} {s : Sl Sp} {k : ByteArray} {v : Sp} (hs0 : seed < 18446744073709551616) (o : Ok (hs seed) sl used count b m) (hj : sl[j]? = some s) (hst : s.st < 2) (hd : j = (hs seed k + d) % sl.length) (hw : ∀ e, e < d → ∃ t : Sl Sp, sl[(hs seed k + e) % sl.length]? = some t ∧ t.st ≠ 0)
    (hm : m k = none) (hr : 2 * (used + 1) < sl.length) (hk : k.size ≤ 1000) (H : IndexIn 111 82 D w1 p seed (sl.set j ⟨2, k, v⟩) (if s.st = 0 then used + 1 else used) (count + 1) ad) :
    IX 111 82 D w1 p (put m k (some v)) b' :=
  ⟨seed, _, _, _, _, hs0, H, (o.more hbb).lay v hj hst hd hw hm hr hcb hk⟩
/-- a spot in a block of its own -/
def SpotAt (w : World) (n : Nat) (v : Sp) : Prop := w.heap[n]? = some (.cells #[.int .i64 (v.1 : Nat), .int .i64 (v.2 : Nat)] 44 (0, 0))
theorem SpotAt.cells {w : World} {n : Nat} {v : Sp} (h : SpotAt w n v) : w.cell? ⟨n, 0, none⟩ = some (.int .i64 (v.1 : Nat)) ∧ w.cell? ⟨n, 1, none⟩ = some (.int .i64 (v.2 : Nat)) ∧ n < w.heap.size := by
  refine ⟨?_, ?_, lt_of_block h⟩ <;> rw [cell_of_block h] <;> rfl
theorem SpotAt.kept {D : Nat → Prop} {w w' : World} {n : Nat} {v : Sp} (h : SpotAt w n v) (hk : Keeps D w w') (hn : ¬ D n) : SpotAt w' n v := (hk.block n (lt_of_block h) hn).trans h
theorem SpotAt.below {w w' : World} {n : Nat} {v : Sp} (h : SpotAt w n v) (hk : Below w.heap.size w w') : SpotAt w' n v := (hk.block n (lt_of_block h)).trans h
theorem SpotAt.later {w w' : World} {n : Nat} {v : Sp} (hk : Below w.heap.size w w') (h : SpotAt w n v) : SpotAt w' n v := h.below hk
theorem IndexIn.later {w w' : World} (hk : Below w.heap.size w w') (h : IndexIn 111 82 D w p seed sl used count ad) : IndexIn 111 82 D w' p seed sl used count ad := h.below hk
theorem SpotAt.drewN {w : World} {n : Nat} {v : Sp} (h : SpotAt w n v) (q : Nat) : SpotAt (w.drewN q) n v := h
set_option maxHeartbeats 1000000 in
theorem put_wide {b' : Nat} (hbb : b ≤ b') (hcb : count + 1 ≤ b') (hs0 : seed < 18446744073709551616) (H : IndexIn 111 82 D w p seed sl used count ad) (o : Ok (hs seed) sl used count b m) (k : ByteArray) (hk : k.size ≤ 1000) (v : Sp) (hb : b ≤ 999999) (hr : 2 * (used + 1) < sl.length) :
    Calls Tryz.prog 97 #[.pointer (some ⟨p, 0, none⟩), .string k, V v] w fun e w' => e = .returned (.bool (m k).isNone) ∧ IX 111 82 D w' p (put m k (some v)) b' ∧ Keeps D w w' := by
  have hbig := o.big
  have hfew := o.few
  have hpo := lt_of_block H.2.1
  obtain ⟨c0, c1, c2, c3, f0, f1, f2, f3⟩ := H.top
  have H0 : Hid (IndexIn 111 82 D (w.alloc (.cells #[.int .i64 (v.1 : Nat), .int .i64 (v.2 : Nat)] 44)) p seed sl used count ad) := H.below ((Below.refl _ w).alloc (Nat.le_refl _) _)
  have HK0 : Hid (Keeps D w (w.alloc (.cells #[.int .i64 (v.1 : Nat), .int .i64 (v.2 : Nat)] 44))) := (Keeps.refl D w).alloc _
  have HS0 : Hid (SpotAt (w.alloc (.cells #[.int .i64 (v.1 : Nat), .int .i64 (v.2 : Nat)] 44)) w.heap.size v) := heap_alloc_new w _
  have HH : Hid (IndexIn 111 82 D w p seed sl used count ad) := H
  have HO : Hid (Ok (hs seed) sl used count b m) := o
  have hne : sl ≠ [] := by rintro rfl; simp at hr
  have hrI : ¬ ((sl.length : Int) ≤ 2 * ((used : Int) + 1)) := by omega
  clear H o
  cases hm : m k with
  | some x =>
    have HM : Hid (m k = some x) := hm
    clear hm
    go_enter Tryz.func97, Tryz.ntmps97
    go_wp2
    go_quiet (fail)
    go_wp2_with (go_at_call 62; refine (find_hit (H0.out.drewN _) HO.out hs0 (by omega) k (by unfold maxLen; omega) HM.out).mono ?_; rintro e w1 ⟨j, rfl, hj, q, rfl⟩; obtain ⟨s, hjs, h2, hkk, hv⟩ := HO.out.hit_at hj; have hjl := lt_of_at hjs; obtain ⟨g, rfl, hgp, hDg, hg⟩ := HH.out.block (by omega); obtain ⟨d0, d1, d2, d3, e0, e1, e2, e3⟩ := slot_cells hg hjs; have hgo := lt_of_block hg; have HJ : Hid (sl[j]? = some s ∧ s.st = 2 ∧ s.key = k) := ⟨hjs, h2, hkk⟩; clear hv hjs hg hj h2 hkk)
    go_region
    all_goals go_wp2
    go_ret
    exact ⟨rfl, over_end hbb hs0 H0.out HO.out hDg HJ.out.1 HJ.out.2.1 HJ.out.2.2 v HK0.out⟩
  | none =>
    have HM : Hid (m k = none) := hm
    clear hm
    go_enter Tryz.func97, Tryz.ntmps97
    go_wp2
    go_quiet (fail)
    go_wp2_with (go_at_call 62; refine (find_miss (H0.out.drewN _) HO.out hs0 hne (by omega) k (by unfold maxLen; omega) HM.out).mono ?_; rintro e w1 ⟨j, rfl, hF, q, rfl⟩; obtain ⟨t, d, ht, ht2, hjd, hjw⟩ := hF; have HT : Hid (sl[j]? = some t ∧ t.st < 2 ∧ j = (hs seed k + d) % sl.length ∧ ∀ e, e < d → ∃ t : Sl Sp, sl[(hs seed k + e) % sl.length]? = some t ∧ t.st ≠ 0) := ⟨ht, ht2, hjd, hjw⟩; clear ht ht2 hjd hjw)
    go_region_with (first
      | (go_at_call 39; refine (clone_any k hk _).mono ?_; rintro e w2 ⟨rfl, hb2⟩; obtain ⟨y0, y1, -⟩ := (SpotAt.later hb2 HS0.out).cells)
      | (go_at_call 113; refine (lay_at (IndexIn.later hb2 H0.out) HT.out.1 HT.out.2.1 (by omega) (by omega) (by omega) k v).mono ?_; rintro e w3 ⟨rfl, hI3, hK3⟩))
    all_goals
      go_wp2
      go_ret
      refine ⟨rfl, lay_end hbb hcb hs0 HO.out HT.out.1 HT.out.2.1 HT.out.2.2.1 HT.out.2.2.2 HM.out hr hk hI3, Keeps.trans (Keeps.trans ?_ (Keeps.of_below hb2)) hK3⟩
      first | exact (HK0.out.drewN _).drew | exact HK0.out.drewN _ | exact HK0.out.drew
set_option maxHeartbeats 2000000 in
theorem put_grow {b' : Nat} (hbb : b ≤ b') (hcb : count + 1 ≤ b') (hs0 : seed < 18446744073709551616) (H : IndexIn 111 82 D w p seed sl used count ad) (o : Ok (hs seed) sl used count b m) (hD : ∀ k, w.heap.size ≤ k → D k) (k : ByteArray) (hk : k.size ≤ 1000) (v : Sp) (hb : b ≤ 999999) (hr : sl.length ≤ 2 * (used + 1)) :
    Calls Tryz.prog 97 #[.pointer (some ⟨p, 0, none⟩), .string k, V v] w fun e w' => e = .returned (.bool (m k).isNone) ∧ IX 111 82 D w' p (put m k (some v)) b' ∧ Keeps D w w' := by
  have hbig := o.big
  have hfew := o.few
  have hpo := lt_of_block H.2.1
  have huse : used ≤ 8000008 := by rcases o.room with e | e
                                   · have := o.used_; rw [e] at this; simp at this; omega
                                   · omega
  obtain ⟨c0, c1, c2, c3, f0, f1, f2, f3⟩ := H.top
  obtain ⟨D1, hD1⟩ : ∃ D1 : Nat → Prop, D1 = fun k => D k ∧ k ≠ w.heap.size := ⟨_, rfl⟩
  have HW : Hid (∀ k, D1 k → D k) := by rw [hD1]; exact fun k h => h.1
  have HN : Hid (¬ D1 w.heap.size) := by rw [hD1]; exact fun h => h.2 rfl
  have HD : Hid (∀ k, (w.alloc (.cells #[.int .i64 (v.1 : Nat), .int .i64 (v.2 : Nat)] 44)).heap.size ≤ k → D1 k) := by
    rw [hD1]
    intro k h
    rw [World.size_alloc] at h
    exact ⟨hD k (by omega), by omega⟩
  have H0 : Hid (IndexIn 111 82 D1 (w.alloc (.cells #[.int .i64 (v.1 : Nat), .int .i64 (v.2 : Nat)] 44)) p seed sl used count ad) := (H.narrow.below ((Below.refl _ w).alloc (Nat.le_refl _) _)).wide (by rw [hD1]; exact fun k h => ⟨h.1, by omega⟩)
  have HK0 : Hid (Keeps D1 w (w.alloc (.cells #[.int .i64 (v.1 : Nat), .int .i64 (v.2 : Nat)] 44))) := (Keeps.refl D1 w).alloc _
  have HS0 : Hid (SpotAt (w.alloc (.cells #[.int .i64 (v.1 : Nat), .int .i64 (v.2 : Nat)] 44)) w.heap.size v) := heap_alloc_new w _
  have HO : Hid (Ok (hs seed) sl used count b m) := o
  have hrI : (sl.length : Int) ≤ 2 * ((used : Int) + 1) := by omega
  clear H o hD hD1
  cases hm : m k with
  | some x =>
    have HM : Hid (m k = some x) := hm
    clear hm
    go_enter Tryz.func97, Tryz.ntmps97
    go_wp2
    go_quiet (fail)
    go_wp2_with (first
      | (go_at_call 112; refine (rebuild_at (H0.out.drewN _) HO.out hs0 HD.out (by omega)).mono ?_; rintro e w1 ⟨rfl, ⟨sl1, u1, g1, H1, o1, hu1, hl1⟩, hK1⟩; have HH1 : Hid (IndexIn 111 82 D1 w1 p seed sl1 u1 count (some ⟨g1, 0, none⟩)) := H1; have HO1 : Hid (Ok (hs seed) sl1 u1 count b m) := o1; have HL1 : Hid (sl1.length = 4 * (count + 1)) := hl1; have hl2 : sl1.length ≤ 10000000 := (by omega); obtain ⟨t0, t1, t2, t3, -⟩ := H1.top; obtain ⟨y0, y1, -⟩ := (SpotAt.kept (HS0.out.drewN _) hK1 HN.out).cells; clear H1 o1 hl1 c0 c1 c2 c3 f0 f1 f2 f3)
      | (go_at_call 62; refine (find_hit HH1.out HO1.out hs0 (by omega) k (by unfold maxLen; omega) HM.out).mono ?_; rintro e w2 ⟨j, rfl, hj, q, rfl⟩; obtain ⟨s, hjs, h2, hkk, hv⟩ := HO1.out.hit_at hj; have hjl := lt_of_at hjs; obtain ⟨g, eg, hgp, hDg, hg⟩ := HH1.out.block (by omega); cases eg; obtain ⟨d0, d1, d2, d3, e0, e1, e2, e3⟩ := slot_cells hg hjs; have HJ : Hid (sl1[j]? = some s ∧ s.st = 2 ∧ s.key = k) := ⟨hjs, h2, hkk⟩; clear hv hjs hg hj h2 hkk))
    go_region
    all_goals go_wp2
    go_ret
    have h9 := over_end (q := q) hbb hs0 HH1.out HO1.out hDg HJ.out.1 HJ.out.2.1 HJ.out.2.2 v ((HK0.out.drewN _).trans hK1)
    exact ⟨rfl, (h9.1.wide HW.out).drew, (h9.2.mono (fun k _ => HW.out k)).drew⟩
  | none =>
    have HM : Hid (m k = none) := hm
    clear hm
    go_enter Tryz.func97, Tryz.ntmps97
    go_wp2
    go_quiet (fail)
    go_wp2_with (first
      | (go_at_call 112; refine (rebuild_at (H0.out.drewN _) HO.out hs0 HD.out (by omega)).mono ?_; rintro e w1 ⟨rfl, ⟨sl1, u1, g1, H1, o1, hu1, hl1⟩, hK1⟩; have HH1 : Hid (IndexIn 111 82 D1 w1 p seed sl1 u1 count (some ⟨g1, 0, none⟩)) := H1; have HO1 : Hid (Ok (hs seed) sl1 u1 count b m) := o1; have HL1 : Hid (sl1.length = 4 * (count + 1)) := hl1; have hl2 : sl1.length ≤ 10000000 := (by omega); have hne : sl1 ≠ [] := (by rintro rfl; simp at hl1); have HS1 : Hid (SpotAt w1 w.heap.size v) := SpotAt.kept (HS0.out.drewN _) hK1 HN.out; obtain ⟨y0, y1, -⟩ := HS1.out.cells; clear H1 o1 hl1 c0 c1 c2 c3 f0 f1 f2 f3)
      | (go_at_call 62; refine (find_miss HH1.out HO1.out hs0 hne (by omega) k (by unfold maxLen; omega) HM.out).mono ?_; rintro e w2 ⟨j, rfl, hF, q, rfl⟩; obtain ⟨t, d, ht, ht2, hjd, hjw⟩ := hF; have HT : Hid (sl1[j]? = some t ∧ t.st < 2 ∧ j = (hs seed k + d) % sl1.length ∧ ∀ e, e < d → ∃ t : Sl Sp, sl1[(hs seed k + e) % sl1.length]? = some t ∧ t.st ≠ 0) := ⟨ht, ht2, hjd, hjw⟩; clear ht ht2 hjd hjw))
    go_region_with (first
      | (go_at_call 39; refine (clone_any k hk _).mono ?_; rintro e w3 ⟨rfl, hb2⟩; obtain ⟨u0, u1', -⟩ := (SpotAt.later hb2 HS1.out).cells)
      | (go_at_call 113; refine (lay_at (IndexIn.later hb2 HH1.out) HT.out.1 HT.out.2.1 (by omega) (by omega) (by omega) k v).mono ?_; rintro e w4 ⟨rfl, hI3, hK3⟩))
    all_goals
      go_wp2
      go_ret
      refine ⟨rfl, (lay_end hbb hcb hs0 HO1.out HT.out.1 HT.out.2.1 HT.out.2.2.1 HT.out.2.2.2 HM.out (by have := HL1.out; omega) hk hI3).wide HW.out, Keeps.mono (Keeps.trans (Keeps.trans ?_ (Keeps.of_below hb2)) hK3) (fun k _ => HW.out k)⟩
      first | exact ((HK0.out.drewN _).trans hK1).drewN _ |>.drew | exact ((HK0.out.drewN _).trans hK1).drewN _ | exact ((HK0.out.drewN _).trans hK1).drew
theorem put_any (H : IX 111 82 D w p m b) (hD : ∀ k, w.heap.size ≤ k → D k) (k : ByteArray) (hk : k.size ≤ 1000) (v : Sp) (hb : b ≤ 999999) :
    Calls Tryz.prog 97 #[.pointer (some ⟨p, 0, none⟩), .string k, V v] w fun e w' => e = .returned (.bool (m k).isNone) ∧ IX 111 82 D w' p (put m k (some v)) (b + 1) ∧ Keeps D w w' := by
  obtain ⟨seed, sl, used, count, ad, hs0, H, o⟩ := H
  by_cases hr : 2 * (used + 1) < sl.length
  · exact put_wide (Nat.le_succ b) (by have := o.few; omega) hs0 H o k hk v hb hr
  · exact put_grow (Nat.le_succ b) (by have := o.few; omega) hs0 H o hD k hk v hb (by omega)
/-- keys that are there are as many as are counted -/
theorem Ok.keys {hs : ByteArray → Nat} (o : Ok hs sl used count b m) : ∃ l : List ByteArray, l.Nodup ∧ l.length = count ∧ ∀ k ∈ l, m k ≠ none := by
  refine ⟨(sl.filter (fun s => s.st == 2)).map (·.key), ?_, ?_, ?_⟩
  · have h : ∀ (l : List (Sl Sp)), (∀ (i j : Nat) (s t : Sl Sp), l[i]? = some s → l[j]? = some t → s.st = 2 → t.st = 2 → s.key = t.key → i = j) → ((l.filter (fun s => s.st == 2)).map (·.key)).Nodup := by
      intro l
      induction l with
      | nil => intro _; simp
      | cons x l ih =>
        intro hu
        have ih' := ih (fun i j s t hi hj h1 h2 h3 => by have := hu (i + 1) (j + 1) s t (by simpa using hi) (by simpa using hj) h1 h2 h3; omega)
        rw [List.filter_cons]
        by_cases hx : x.st = 2
        · rw [if_pos (by simpa using hx), List.map_cons, List.nodup_cons]
          refine ⟨fun hm => ?_, ih'⟩
          obtain ⟨y, hy, e⟩ := List.mem_map.1 hm
          obtain ⟨hy1, hy2⟩ := List.mem_filter.1 hy
          obtain ⟨n, hn⟩ := List.mem_iff_getElem?.1 hy1
          have := hu 0 (n + 1) x y rfl (by simpa using hn) hx (by simpa using hy2) e.symm
          omega
        · rw [if_neg (by simpa using hx)]
          exact ih'
    exact h sl o.once
  · rw [List.length_map, ← o.count_, List.countP_eq_length_filter]
  · intro k hk
    obtain ⟨y, hy, rfl⟩ := List.mem_map.1 hk
    obtain ⟨hy1, hy2⟩ := List.mem_filter.1 hy
    obtain ⟨n, hn⟩ := List.mem_iff_getElem?.1 hy1
    rw [o.hit hn (by simpa using hy2)]
    simp
/-- a Put where there is room enough for one key more: the bound stays -/
theorem put_fit (H : IX 111 82 D w p m b) (hD : ∀ k, w.heap.size ≤ k → D k) (k : ByteArray) (hk : k.size ≤ 1000) (v : Sp) (hb : b ≤ 999999) (hfit : ∀ l : List ByteArray, l.Nodup → (∀ k ∈ l, m k ≠ none) → l.length + 1 ≤ b) :
    Calls Tryz.prog 97 #[.pointer (some ⟨p, 0, none⟩), .string k, V v] w fun e w' => e = .returned (.bool (m k).isNone) ∧ IX 111 82 D w' p (put m k (some v)) b ∧ Keeps D w w' := by
  obtain ⟨seed, sl, used, count, ad, hs0, H, o⟩ := H
  obtain ⟨l, hl1, hl2, hl3⟩ := Ok.keys o
  have hc := hfit l hl1 hl3
  by_cases hr : 2 * (used + 1) < sl.length
  · exact put_wide (Nat.le_refl b) (by omega) hs0 H o k hk v hb hr
  · exact put_grow (Nat.le_refl b) (by omega) hs0 H o hD k hk v hb (by omega)
end
end Go.Proofs.YtcphhlfbjkeikabGreat.Ix
