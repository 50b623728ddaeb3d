/- An index of numbers: lay, rebuild. -/
import Derived.Test.YtdiggfiapbifpaaIa
namespace Go.Proofs.Ytdiggfiapbifpaa.Ix
open Go.RowKit

section
variable {D : Nat → Prop} {w : World} {p g seed : Nat} {sl : List (Sl Int)} {used count b : Nat} {ad : Option Addr} {m : ByteArray → Option Int}
theorem lay_end0 {j : Nat} (H : IndexIn V 67 65 D w p seed sl used count (some ⟨g, 0, none⟩)) (hn : 0 < sl.length) (hg : D g) (k : ByteArray) (v : Int) :
    IndexIn V 67 65 D (((((w.setCell ⟨p, 2, none⟩ (.int .i64 ((used : Int) + 1))).setCell ⟨g, j * 3, none⟩ (.int .u8 2)).setCell ⟨g, j * 3 + 1, none⟩ (.string k)).setCell ⟨g, j * 3 + 2, none⟩ (V v)).setCell ⟨p, 3, none⟩ (.int .i64 ((count : Int) + 1))) p seed (sl.set j ⟨2, k, v⟩) (used + 1) (count + 1) (some ⟨g, 0, none⟩) ∧
    Keeps D w (((((w.setCell ⟨p, 2, none⟩ (.int .i64 ((used : Int) + 1))).setCell ⟨g, j * 3, none⟩ (.int .u8 2)).setCell ⟨g, j * 3 + 1, none⟩ (.string k)).setCell ⟨g, j * 3 + 2, none⟩ (V v)).setCell ⟨p, 3, none⟩ (.int .i64 ((count : Int) + 1))) :=
  ⟨((H.setUsed (used + 1)).setSlot hn j ⟨2, k, v⟩).setCount (count + 1), ((((((Keeps.refl D w).setCell H.1 _).setCell hg _).setCell hg _).setCell hg _).setCell H.1 _)⟩
theorem lay_end1 {j : Nat} (H : IndexIn V 67 65 D w p seed sl used count (some ⟨g, 0, none⟩)) (hn : 0 < sl.length) (hg : D g) (k : ByteArray) (v : Int) :
    IndexIn V 67 65 D ((((w.setCell ⟨g, j * 3, none⟩ (.int .u8 2)).setCell ⟨g, j * 3 + 1, none⟩ (.string k)).setCell ⟨g, j * 3 + 2, none⟩ (V v)).setCell ⟨p, 3, none⟩ (.int .i64 ((count : Int) + 1))) p seed (sl.set j ⟨2, k, v⟩) used (count + 1) (some ⟨g, 0, none⟩) ∧
    Keeps D w ((((w.setCell ⟨g, j * 3, none⟩ (.int .u8 2)).setCell ⟨g, j * 3 + 1, none⟩ (.string k)).setCell ⟨g, j * 3 + 2, none⟩ (V v)).setCell ⟨p, 3, none⟩ (.int .i64 ((count : Int) + 1))) :=
  ⟨((H.setSlot hn j ⟨2, k, v⟩).setCount (count + 1)), (((((Keeps.refl D w).setCell hg _).setCell hg _).setCell hg _).setCell H.1 _)⟩
set_option maxHeartbeats 1000000 in
theorem lay_at (H : IndexIn V 67 65 D w p seed sl used count ad) {j : Nat} {s : Sl Int} (hj : sl[j]? = some s) (hst : s.st < 2) (hu : used ≤ 10000000) (hc : count ≤ 10000000) (hl : sl.length ≤ 10000000) (k : ByteArray) (v : Int) :
    Calls Try.prog 37 #[.pointer (some ⟨p, 0, none⟩), .int .i64 (j : Nat), .string k, V v] w fun e w' => e = .returned (.tuple #[]) ∧ IndexIn V 67 65 D w' p seed (sl.set j ⟨2, k, v⟩) (if s.st = 0 then used + 1 else used) (count + 1) ad ∧ Keeps D w w' := by
  have hn := lt_of_at hj
  obtain ⟨g, rfl, hgp, hDg, hg⟩ := H.block (by omega)
  obtain ⟨c0, c1, c2, c3, f0, f1, f2, f3⟩ := H.top
  obtain ⟨d0, d1, d2, e0, e1, e2⟩ := slot_cells hg hj
  have HH : Hid (IndexIn V 67 65 D w p seed sl used count (some ⟨g, 0, none⟩)) := H
  clear H hg hj
  by_cases h0 : s.st = 0
  · rw [if_pos h0]
    rw [h0] at d0
    go_enter Try.func37, Try.ntmps37
    go_wp2
    go_end0
    exact ⟨rfl, lay_end0 HH.out (by omega) hDg k v⟩
  · have h1 : s.st = 1 := by omega
    rw [if_neg h0]
    rw [h1] at d0
    go_enter Try.func37, Try.ntmps37
    go_wp2
    go_end0
    exact ⟨rfl, lay_end1 HH.out (by omega) hDg k v⟩
theorem infoE : (Try.prog.info? 67).map (fun i => (i.zero, i.size, i.bytes)) = some (some (.agg #[.int .u8 0, .string ⟨#[]⟩, .int .i64 0]), 3, 32) := by kernel_rfl
theorem make_slots (n : Nat) (hn : n ≤ 100000000) (W : World) : (Instr.makeSlice 63 (.int .i64 (n : Nat)) (.int .i64 (n : Nat))).run Try.prog W = .ok (.slice (some ⟨W.heap.size, 0, none⟩) n n) (W.alloc (.cells (rowOf V (List.replicate n (Sl.none 0))).toArray 67)) := by
  obtain ⟨i0, hi, hz0, hz1, hz2⟩ := info_parts infoE
  have h := run_make (P := Try.prog) W 63 67 i0 _ Try.underlying63 hi hz0 .i64 .i64 (n : Int) (n : Int) (by omega) (by omega) (by rw [hz2]; omega) (by omega)
  rw [hz1] at h
  rw [← rowOf_made]
  simpa [Value.cells] using h
/-- new slots, into which the first k of the old ones were laid -/
def Reb (D : Nat → Prop) (w wr : World) (p seed : Nat) (sl : List (Sl Int)) (count b k : Nat) : Prop :=
  ∃ (sl' : List (Sl Int)) (used' : Nat) (m' : ByteArray → Option Int), IndexIn V 67 65 D wr p seed sl' used' (takenIn sl k) (some ⟨w.heap.size, 0, none⟩) ∧ Ok (hs seed) sl' used' (takenIn sl k) b m' ∧ used' ≤ takenIn sl k ∧ sl'.length = 4 * (count + 1) ∧ Part sl k m' ∧ Keeps D w wr
theorem reb_start (HH : IndexIn V 67 65 D w p seed sl used count ad) (D' : Nat → Prop) (hp : D' p) (hq : D' w.heap.size) (hb : count ≤ b) (W : World)
    (hW : W = ((((w.alloc (.cells (rowOf V (List.replicate (4 * (count + 1)) (Sl.none 0))).toArray 67)).setCell ⟨p, 1, none⟩ (.slice (some ⟨w.heap.size, 0, none⟩) (4 * (count + 1)) (4 * (count + 1)))).setCell ⟨p, 2, none⟩ (.int .i64 0)).setCell ⟨p, 3, none⟩ (.int .i64 0))) :
    Reb D' w W p seed sl count b 0 := by
  subst hW
  have hlt := lt_of_block HH.2.1
  have h1 := HH.newSlots (D' := D') (w' := w.alloc (.cells (rowOf V (List.replicate (4 * (count + 1)) (Sl.none 0))).toArray 67)) (Below.heap_alloc _ _ _ hlt) (q := w.heap.size) (by omega) hp hq (heap_alloc_new w _)
  rw [List.length_replicate] at h1
  exact ⟨_, 0, fun _ => none, (h1.setUsed 0).setCount 0, Ok.made _ 0 _ b (by omega) (by omega), Nat.zero_le _, by simp, Part.zero _, (((((Keeps.refl D' w).alloc _).setCell hp _).setCell hp _).setCell hp _)⟩
theorem reb_next {w2 : World} {k j d used' : Nat} {s t : Sl Int} {sl' : List (Sl Int)} {m' : ByteArray → Option Int} (o : Ok (hs seed) sl used count b m) (hks : sl[k]? = some s) (h2 : s.st = 2) (o' : Ok (hs seed) sl' used' (takenIn sl k) b m') (ht : sl'[j]? = some t) (ht2 : t.st < 2) (hjd : j = (hs seed s.key + d) % sl'.length)
    (hjw : ∀ e, e < d → ∃ t : Sl Int, sl'[(hs seed s.key + e) % sl'.length]? = some t ∧ t.st ≠ 0) (hn : m' s.key = none) (hl : sl'.length = 4 * (count + 1)) (hu : used' ≤ takenIn sl k ∧ takenIn sl k ≤ count ∧ count ≤ b) (hP : Part sl k m')
    (hI : IndexIn V 67 65 D w2 p seed (sl'.set j ⟨2, s.key, s.val⟩) (if t.st = 0 then used' + 1 else used') (takenIn sl k + 1) (some ⟨w.heap.size, 0, none⟩)) (hK : Keeps D w w2) : Reb D w w2 p seed sl count b (k + 1) := by
  have hc := takenIn_take hks h2
  have hle := takenIn_le o (k + 1)
  refine ⟨_, _, _, by rw [hc]; exact hI, by rw [hc]; exact o'.lay s.val ht ht2 hjd hjw hn (by omega) (by omega) (o.size k s hks), ?_, by simpa using hl, hP.take o hks h2, hK⟩
  split <;> omega
set_option maxHeartbeats 2000000 in
theorem rebuild_at (H : IndexIn V 67 65 D w p seed sl used count ad) (o : Ok (hs seed) sl used count b m) (hs0 : seed < 18446744073709551616) (hD : ∀ k, w.heap.size ≤ k → D k) (hb : b ≤ 1000000) :
    Calls Try.prog 36 #[.pointer (some ⟨p, 0, none⟩)] w fun e w' => e = .returned (.tuple #[]) ∧ (∃ sl' used' g', IndexIn V 67 65 D w' p seed sl' used' count (some ⟨g', 0, none⟩) ∧ Ok (hs seed) sl' used' count b m ∧ used' ≤ count ∧ sl'.length = 4 * (count + 1)) ∧ Keeps D w w' := by
  have hfew := o.few
  have hbig := o.big
  have hmk : ∀ W : World, (Instr.makeSlice 63 (.int .i64 (4 * ((count : Int) + 1))) (.int .i64 (4 * ((count : Int) + 1)))).run Try.prog W = .ok (.slice (some ⟨W.heap.size, 0, none⟩) (4 * (count + 1)) (4 * (count + 1))) (W.alloc (.cells (rowOf V (List.replicate (4 * (count + 1)) (Sl.none 0))).toArray 67)) := fun W => by
    have := make_slots (4 * (count + 1)) (by omega) W
    simpa using this
  obtain ⟨c0, c1, c2, c3, f0, f1, f2, f3⟩ := H.top
  have HH : Hid (IndexIn V 67 65 D w p seed sl used count ad) := H
  have HO : Hid (Ok (hs seed) sl used count b m) := o
  obtain ⟨a0, a1, a2, a3, b0, b1, b2, b3⟩ := (H.below ((Below.refl _ w).alloc (Nat.le_refl _) (.cells (rowOf V (List.replicate (4 * (count + 1)) (Sl.none 0))).toArray 67))).top
  obtain ⟨D', hD'⟩ : ∃ D' : Nat → Prop, D' = fun k => k = p ∨ w.heap.size ≤ k := ⟨_, rfl⟩
  have hp' : D' p := by rw [hD']; exact .inl rfl
  have hq' : D' w.heap.size := by rw [hD']; exact .inr (Nat.le_refl _)
  have hsub : ∀ k, D' k → D k := by
    rw [hD']
    rintro k (e | e)
    · rw [e]; exact HH.out.1
    · exact hD k e
  have hold : ∀ go, go ≠ p → go < w.heap.size → ¬ D' go := by
    rw [hD']
    rintro go h1 h2 (e | e)
    · exact h1 e
    · omega
  have HD1 : Hid (∀ k, D' k → D k) := hsub
  have HD2 : Hid (∀ go, go ≠ p → go < w.heap.size → ¬ D' go) := hold
  have hlt0 : Hid (p < w.heap.size) := lt_of_block HH.out.2.1
  clear H o hD' hsub hold hD
  go_enter Try.func36, Try.ntmps36
  go_wp2
  go_loopw [28] (fun i wr => ∃ k : Nat, k ≤ sl.length ∧ i = .int .i64 k ∧ Reb D' w wr p seed sl count b k) (fun i _ => sl.length - (intOf i).toNat)
  case atStart => exact ⟨0, Nat.zero_le _, rfl, reb_start HH.out D' hp' hq' hfew _ rfl⟩
  case round =>
    clear a0 a1 a2 a3 b0 b1 b2 b3 c0 c1 c2 c3 f0 f1 f2 f3 hmk
    obtain ⟨k, hk, rfl, sl', used', m', hI, hO, hu, hl', hP, hK⟩ := hrel
    rcases Nat.lt_or_ge k sl.length with hlt | hge
    · obtain ⟨s, hks⟩ : ∃ s, sl[k]? = some s := ⟨_, List.getElem?_eq_getElem hlt⟩
      obtain ⟨go, rfl, hgo, hDgo, hgb⟩ := HH.out.block (by omega)
      have hgw : wr.heap[go]? = some (.cells (rowOf V sl).toArray 67 (0, 0)) := (hK.block go (lt_of_block hgb) (HD2.out go hgo (lt_of_block hgb))).trans hgb
      obtain ⟨e0, e1, e2, -⟩ := slot_cells hgw hks
      by_cases h2 : s.st = 2
      · rw [h2] at e0
        have hfr := Part.fresh HO.out hP hks h2
        have hne : sl' ≠ [] := by rintro rfl; simp at hl'
        have hsz := HO.out.size k s hks
        have htk := takenIn_le HO.out k
        have HS : Hid (sl[k]? = some s) := hks
        have HP : Hid (Part sl k m') := hP
        have HL : Hid (sl'.length = 4 * (count + 1)) := hl'
        have HU : Hid (used' ≤ takenIn sl k ∧ takenIn sl k ≤ count ∧ count ≤ b) := ⟨hu, htk, hfew⟩
        have HI : Hid (IndexIn V 67 65 D' wr p seed sl' used' (takenIn sl k) (some ⟨w.heap.size, 0, none⟩)) := hI
        have HOk : Hid (Ok (hs seed) sl' used' (takenIn sl k) b m') := hO
        have HN : Hid (m' s.key = none) := hfr
        have H2 : Hid (s.st = 2) := h2
        clear hks hP hl' hI hO hfr hgw hgb hu htk h2
        go_wp2_with (go_at_call 32; refine (find_miss HI.out HOk.out hs0 hne hb s.key (by unfold maxLen; omega) HN.out).mono ?_; rintro e w1 ⟨j, rfl, hF, q, rfl⟩; obtain ⟨t, d, ht, ht2, hjd, hjw⟩ := hF; have HT : Hid (sl'[j]? = some t ∧ t.st < 2 ∧ j = (hs seed s.key + d) % sl'.length ∧ ∀ e, e < d → ∃ t : Sl Int, sl'[(hs seed s.key + e) % sl'.length]? = some t ∧ t.st ≠ 0) := ⟨ht, ht2, hjd, hjw⟩; clear ht ht2 hjd hjw)
        go_region_with (first | (go_at_call 37; refine (lay_at (w := (wr.drewN q).drew) HI.out HT.out.1 HT.out.2.1 (by have := HU.out; omega) (by have := HU.out; omega) (by have := HU.out; have := HL.out; omega) s.key s.val).mono ?_; rintro e w2 ⟨rfl, hI2, hK2⟩))
        all_goals
          go_wp2
          go_roundw
          case rel => exact ⟨k + 1, hlt, by go_num, reb_next HO.out HS.out H2.out HOk.out HT.out.1 HT.out.2.1 HT.out.2.2.1 HT.out.2.2.2 HN.out HL.out HU.out HP.out hI2 (((hK.drewN q).drew).trans hK2)⟩
          case measure => simp [intOf]; omega
      · have hst := HO.out.st k s hks
        have HR : Hid (Reb D' w wr p seed sl count b (k + 1)) := ⟨sl', used', m', by rw [takenIn_skip hks h2]; exact hI, by rw [takenIn_skip hks h2]; exact hO, by rw [takenIn_skip hks h2]; exact hu, hl', hP.skip hks h2, hK⟩
        clear hks hP hl' hI hO hgw hgb hu
        go_wp2
        go_roundw
        case rel => exact ⟨k + 1, hlt, by go_num, HR.out⟩
        case measure => simp [intOf]; omega
    · have hk' : k = sl.length := by omega
      subst hk'
      have HR : Hid ((∃ sl' used' g', IndexIn V 67 65 D wr p seed sl' used' count (some ⟨g', 0, none⟩) ∧ Ok (hs seed) sl' used' count b m ∧ used' ≤ count ∧ sl'.length = 4 * (count + 1)) ∧ Keeps D w wr) := by
        rw [takenIn_all HO.out] at hI hO hu
        rw [Part.all HO.out hP] at hO
        exact ⟨⟨sl', used', _, hI.wide HD1.out, hO, hu, hl'⟩, hK.mono (fun k _ => HD1.out k)⟩
      clear hP hl' hI hO hu hK
      go_wp2
      go_end0
      exact ⟨rfl, HR.out⟩
end
end Go.Proofs.Ytdiggfiapbifpaa.Ix
