/- Keys of an index of numbers: new memory, rising, each once. -/
import Derived.Test.YtpfcmaoookhopaaNum4
import Derived.Sort.OwnSorted
namespace Go.Proofs.Ytpfcmaoookhopaa
open Go.RowKit Go.Sort

theorem Try.info9 : (Try.prog.info? 9).map (fun i => (i.zero, i.size, i.bytes)) = some (some (.string ByteArray.empty), 1, 16) := by kernel_rfl
theorem ownsRow_same {w w' : World} {base : Nat} {e : TypeId} {size m : Nat} {v : Value} {xs : List Value} (h : w.ownsRow base e size v m xs) (hk : ∀ g, v.ownBlock = some g → w'.heap[g]? = w.heap[g]?) : w'.ownsRow base e size v m xs := by
  refine ⟨h.1, ?_⟩
  rcases h.2 with h0 | ⟨g, c, cur, hv, hb, hg, rest⟩
  · exact .inl h0
  · exact .inr ⟨g, c, cur, hv, hb, by rw [hk g (by rw [hv]; rfl)]; exact hg, rest⟩
theorem ownsRow_below {w w' : World} {base : Nat} {e : TypeId} {size m : Nat} {v : Value} {xs : List Value} (h : w.ownsRow base e size v m xs) (hb : Below w.heap.size w w') : w'.ownsRow base e size v m xs :=
  ownsRow_same h (fun g e => hb.block g (h.lt g e).2)
theorem one_new (w : World) (a : Value) (t : TypeId) (h : a.oneCell' = true) : FromRow (w.alloc (.cells #[a] t)) 1 (some ⟨w.heap.size, 0, none⟩) 1 1 [a] := by
  refine .inr ⟨_, rfl, rfl, ?_, ?_⟩
  · intro j u hu
    have := heap_alloc_new w (.cells #[a] t)
    rw [show (⟨w.heap.size, 0, none⟩ : Addr).add j = ⟨w.heap.size, j, none⟩ by simp [Addr.add_lit], cell_of_block this]
    simpa using hu
  · intro u hu
    simp at hu
    subst hu
    exact h
/-- a text, byte by byte -/
def bts (s : ByteArray) : List UInt8 := s.data.toList
theorem bts_inj {a b : ByteArray} (h : bts a = bts b) : a = b := Go.WideShapes.bytes_inj h
theorem enc_bts (s : ByteArray) : encStr (bts s) = .string s := by
  unfold encStr bts
  simp
theorem bts_enc (l : List UInt8) : bts ⟨l.toArray⟩ = l := by simp [bts]
/-- keys that rise: these, and no others -/
def Keyed {α : Type} (m : ByteArray → Option α) (ks : List ByteArray) : Prop := ks.Pairwise (fun a b => bts a < bts b) ∧ ∀ k, k ∈ ks ↔ (m k).isSome = true
theorem lt_irr (a : List UInt8) : ¬ a < a := List.lt_irrefl a
theorem Keyed.nodup {α : Type} {m : ByteArray → Option α} {ks : List ByteArray} (h : Keyed m ks) : ks.Nodup := by
  rw [List.nodup_iff_pairwise_ne]
  exact h.1.imp (fun {a b} hab e => by subst e; exact lt_irr _ hab)
theorem Keyed.card {α : Type} {m : ByteArray → Option α} {ks : List ByteArray} (h : Keyed m ks) : Card m ks.length := ⟨ks, h.nodup, h.2, rfl⟩
/-- rising rows of the same keys are one -/
theorem Keyed.one {α β : Type} {m : ByteArray → Option α} {m' : ByteArray → Option β} {ks ks' : List ByteArray} (h : Keyed m ks) (h' : Keyed m' ks') (e : ∀ k, (m k).isSome = (m' k).isSome) : ks = ks' := by
  have hp : ks.Perm ks' := (List.perm_ext_iff_of_nodup h.nodup h'.nodup).2 (fun k => by rw [h.2, h'.2, e])
  exact hp.eq_of_pairwise (fun a b _ _ hab hba => absurd (List.lt_trans hab hba) (lt_irr _)) h.1 h'.1
/-- what the sort makes of keys -/
theorem Keyed.sorted {α : Type} {m : ByteArray → Option α} {ks : List ByteArray} (hn : ks.Nodup) (hm : ∀ k, k ∈ ks ↔ (m k).isSome = true) :
    ∃ ts : List ByteArray, Keyed m ts ∧ ts.length = ks.length ∧ ((ks.map bts).mergeSort fun x y => decide (x ≤ y)) = ts.map bts := by
  have hs := List.pairwise_mergeSort (le := fun x y : List UInt8 => decide (x ≤ y)) (by intro a b c h1 h2; simp at h1 h2 ⊢; exact List.le_trans h1 h2) (by intro a b; simp; exact List.le_total a b) (ks.map bts)
  have hp : ((ks.map bts).mergeSort fun x y => decide (x ≤ y)).Perm (ks.map bts) := List.mergeSort_perm _ _
  have hb : ((((ks.map bts).mergeSort fun x y => decide (x ≤ y)).map fun l => (⟨l.toArray⟩ : ByteArray)).map bts) = ((ks.map bts).mergeSort fun x y => decide (x ≤ y)) := by
    rw [List.map_map]
    conv => rhs; rw [← List.map_id ((ks.map bts).mergeSort fun x y => decide (x ≤ y))]
    apply List.map_congr_left
    intro l _
    exact bts_enc l
  refine ⟨((ks.map bts).mergeSort fun x y => decide (x ≤ y)).map fun l => ⟨l.toArray⟩, ⟨?_, ?_⟩, by simp, hb.symm⟩
  · have hnd : ((ks.map bts).mergeSort fun x y => decide (x ≤ y)).Nodup := by
      rw [hp.nodup_iff, List.nodup_iff_pairwise_ne, List.pairwise_map]
      rw [List.nodup_iff_pairwise_ne] at hn
      exact hn.imp (fun {a b} hab e => hab (bts_inj e))
    rw [List.pairwise_map]
    rw [List.nodup_iff_pairwise_ne] at hnd
    refine (hs.and hnd).imp ?_
    rintro a b ⟨h1, h2⟩
    rw [bts_enc, bts_enc]
    simp at h1
    rcases List.le_iff_lt_or_eq.1 h1 with h | h
    · exact h
    · exact absurd h h2
  · intro k
    rw [← hm k]
    constructor
    · intro h
      obtain ⟨l, h1, h2⟩ := List.mem_map.1 h
      obtain ⟨k', h3, h4⟩ := List.mem_map.1 (hp.mem_iff.1 h1)
      have : k' = k := by rw [← h2]; exact bts_inj (h4.trans (bts_enc l).symm)
      rw [← this]; exact h3
    · intro h
      exact List.mem_map.2 ⟨bts k, hp.mem_iff.2 (List.mem_map.2 ⟨k, h, rfl⟩), by simp [bts]⟩
theorem map_enc (ts : List ByteArray) : (ts.map bts).map encStr = ts.map Value.string := by
  rw [List.map_map]
  apply List.map_congr_left
  intro t _
  exact enc_bts t
/-- the library's sort, of a row of keys that the call made -/
theorem sort_row {α : Type} {m : ByteArray → Option α} {w : World} {base g n cap : Nat} {ks : List ByteArray} (hown : w.ownsRow base 9 1 (.slice (some ⟨g, 0, none⟩) n cap) n (ks.map Value.string)) (hb : base ≤ w.heap.size) (hn : ks.Nodup) (hm : ∀ k, k ∈ ks ↔ (m k).isSome = true) (hl : n ≤ 1000000) :
    Calls Try.prog 31 #[.slice (some ⟨g, 0, none⟩) n cap] w fun e w' => e = .returned (.tuple #[]) ∧ ∃ ts : List ByteArray, Keyed m ts ∧ ts.length = n ∧ w'.ownsRow base 9 1 (.slice (some ⟨g, 0, none⟩) n cap) n (ts.map Value.string) ∧ Below base w w' := by
  obtain ⟨ts, hk, hlen, hts⟩ := Keyed.sorted hn hm
  have hkl : ks.length = n := by have := hown.1; simpa using this
  rcases hown.2 with ⟨h0, _⟩ | ⟨g', cap', cur, hv, hbase, hblk, h1, h2, h3, h4⟩
  · cases h0
  · cases hv
    have hc := sort_lib g 0 cap (ks.map bts) w (holds_of_block hblk (by rw [List.length_map, hkl, map_enc]; simpa using h4)) (lt_of_block hblk) (by rw [List.length_map]; omega)
    rw [List.length_map, hkl, hts] at hc
    refine hc.mono ?_
    rintro e w' ⟨he, n', os, rfl⟩
    refine ⟨he, ts, hk, by omega, ?_, ((Below.refl _ w).grown (grownBy_sorted _) hb (fun k e => by cases e; exact hbase))⟩
    have := ownsRow_sorted (n := n') (os := os) (ss := ks.map bts) (ts := ts.map bts) (by simp [hlen]) hbase hblk (by rw [List.length_map, hkl]; exact h1) h2 h3
    rw [List.length_map, hkl, map_enc] at this
    exact this
namespace Num
section
variable {D : Nat → Prop} {w : World} {p b : Nat} {m : ByteArray → Option Int}
set_option maxHeartbeats 1000000 in
theorem keys_any (H : IX V 56 54 D w p m b) (hb : b ≤ 1000000) :
    Calls Try.prog 15 #[.pointer (some ⟨p, 0, none⟩)] w fun e w' => ∃ (ts : List ByteArray) (ad : Option Addr) (cap : Nat), e = .returned (.slice ad ts.length cap) ∧ Keyed m ts ∧ w'.ownsRow w.heap.size 9 1 (.slice ad ts.length cap) ts.length (ts.map Value.string) ∧ Below w.heap.size w w' := by
  obtain ⟨i0, hi, hz0, hz1, hz2⟩ := info_parts Try.info9
  obtain ⟨seed, sl, used, count, ad, hs0, H, o⟩ := H
  have hbig := o.big
  have hfew := o.few
  obtain ⟨c0, c1, c2, c3, -⟩ := H.top
  have HH : Hid (IndexIn V 56 54 D w p seed sl used count ad) := H
  have HO : Hid (Ok (hs seed) sl used count b m) := o
  clear H o
  go_enter Try.func15, Try.ntmps15
  go_wp2_with (at_make; refine wpList_make_own _ rfl _ _ 36 rfl w.heap.size 9 i0 _ 1 Try.underlying36 hi hz0 hz1 .i64 .i64 _ count rfl rfl rfl (by rw [hz2]; omega) (by unfold maxLen; omega) (Nat.le_refl _) ?_; intro w0 hown0 hgrow0; have hb0 : Below w.heap.size w w0 := (Below.refl _ w).grown hgrow0 (Nat.le_refl _) (fun k e => by cases e); obtain ⟨x0, x1, x2, x3, -⟩ := (HH.out.below hb0).top)
  go_loopw [3, 17] (fun v i wr => ∃ (k g cap : Nat), k ≤ sl.length ∧ i = .int .i64 k ∧ v = .slice (some ⟨g, 0, none⟩) (takenIn sl k) cap ∧ wr.ownsRow w.heap.size 9 1 (.slice (some ⟨g, 0, none⟩) (takenIn sl k) cap) (takenIn sl k) ((keysIn sl k).map Value.string) ∧ Below w.heap.size w wr) (fun _ i _ => sl.length - (intOf i).toNat)
  case atStart => exact ⟨0, _, _, Nat.zero_le _, rfl, rfl, hown0, hb0⟩
  case round =>
    clear x0 x1 x2 x3 c0 c1 c2 c3 hown0 hgrow0 hb0
    obtain ⟨k, g, cap, hk, rfl, rfl, hown, hbe⟩ := hrel
    obtain ⟨x0, x1, x2, x3, -⟩ := (HH.out.below hbe).top
    have htk := takenIn_le HO.out k
    have hW := hbe.size
    rcases Nat.lt_or_ge k sl.length with hlt | hge
    · obtain ⟨s, hks⟩ : ∃ s, sl[k]? = some s := ⟨_, List.getElem?_eq_getElem hlt⟩
      obtain ⟨go, rfl, hgo, hDgo, hgb⟩ := (HH.out.below hbe).block (by omega)
      obtain ⟨e0, e1, e2, -⟩ := slot_cells hgb hks
      have hst := HO.out.st k s hks
      have hsz := HO.out.size k s hks
      by_cases h2 : s.st = 2
      · rw [h2] at e0
        have HK : Hid (keysIn sl (k + 1) = keysIn sl k ++ [s.key] ∧ takenIn sl (k + 1) = takenIn sl k + 1) := ⟨keysIn_take hks h2, takenIn_take hks h2⟩
        clear hks hgb h2 hst
        generalize takenIn sl k = t at *
        go_wp2_with (first
          | (go_at_call 30; refine (clone_any s.key hsz _).mono ?_; rintro e w1 ⟨rfl, hb1⟩; have hb1' := hbe.trans (hb1.mono hW); have hown1 := ownsRow_below hown hb1; have hW1 := hb1'.size; clear hown hb1 hbe)
          | (at_builtin; go_must (refine wpList_append_from _ rfl _ _ 36 rfl w.heap.size 9 i0 _ 1 16 Try.underlying36 hi hz0 hz1 hz2 rfl (by omega) (.slice (some ⟨g, 0, none⟩) t cap) t _ rfl (hown1.alloc _) _ 1 1 _ rfl (one_new _ _ 9 rfl) (by unfold maxLen; omega) (by omega) (by simp; omega) ?_); intro ad2 cap2 w2 hc2 hown2 hgrow2 hat2; have hb2 : Below w.heap.size w w2 := (hb1'.alloc hW1 _).grown hgrow2 (by simp; omega) (fun k e => (hown1.lt k e).1); obtain ⟨g2, cur2, rfl, -⟩ := ownsRow_block hown2 (by omega); clear hgrow2 hat2))
        go_roundw
        case rel => exact ⟨k + 1, g2, cap2, hlt, by go_num, by rw [HK.out.2], by rw [HK.out.1, HK.out.2, List.map_append]; exact hown2, hb2⟩
        case measure => simp [intOf]; omega
      · have HK : Hid (keysIn sl (k + 1) = keysIn sl k ∧ takenIn sl (k + 1) = takenIn sl k) := ⟨keysIn_skip hks h2, takenIn_skip hks h2⟩
        clear hks hgb
        go_wp2
        go_roundw
        case rel => exact ⟨k + 1, g, cap, hlt, by go_num, by rw [HK.out.2], by rw [HK.out.1, HK.out.2]; exact hown, hbe⟩
        case measure => simp [intOf]; omega
    · have hk' : k = sl.length := by omega
      subst hk'
      have hso := sort_row (m := m) hown hW (keysIn_nodup HO.out _) (keysIn_mem HO.out) (by omega)
      clear hown
      generalize takenIn sl sl.length = t at *
      go_wp2_with (go_at_call 31; refine hso.mono ?_; rintro e w1 ⟨rfl, ts, hkd, hlen, hown1, hb1⟩; clear hso)
      go_ret
      refine ⟨ts, some ⟨g, 0, none⟩, cap, ?_, hkd, ?_, hbe.trans hb1⟩
      · rw [hlen]; rfl
      · rw [hlen]; exact hown1
end
end Num
end Go.Proofs.Ytpfcmaoookhopaa
