/- A ring of texts: what each function answers, and what becomes of the ring in memory. -/
import Derived.Test.YtpjeehdgdhbhdaaMem
namespace Go.Proofs.Ytpjeehdgdhbhdaa.Str
open Go.RowKit

abbrev V : ByteArray → Value := Value.string
theorem infoE : (Try.prog.info? 9).map (fun i => (i.zero, i.size, i.bytes)) = some (some (.string ⟨#[]⟩), 1, 16) := by kernel_rfl

section
variable {D : Nat → Prop} {w : World} {p : Nat} {sl xs : List ByteArray} {first count room : Nat} {ad : Option Addr}
theorem len_in (H : RingIn V 9 51 D w p sl first count room ad) : Calls Try.prog 23 #[.pointer (some ⟨p, 0, none⟩)] w fun e w' => e = .returned (.int .i64 (count : Nat)) ∧ w' = w := by
  obtain ⟨c0, c1, c2, c3, -⟩ := H.top
  clear H
  go_enter Try.func23, Try.ntmps23
  go_wp2
  go_ret
  exact ⟨rfl, rfl⟩
theorem room_in (H : RingIn V 9 51 D w p sl first count room ad) : Calls Try.prog 26 #[.pointer (some ⟨p, 0, none⟩)] w fun e w' => e = .returned (.int .i64 (room : Nat)) ∧ w' = w := by
  obtain ⟨c0, c1, c2, c3, -⟩ := H.top
  clear H
  go_enter Try.func26, Try.ntmps26
  go_wp2
  go_ret
  exact ⟨rfl, rfl⟩
theorem slot_in (H : RingIn V 9 51 D w p sl first count room ad) (i : Nat) (hs : 0 < sl.length) (hm : sl.length ≤ 4096) (hf : first ≤ 4096) (hi : i ≤ 10000) :
    Calls Try.prog 28 #[.pointer (some ⟨p, 0, none⟩), .int .i64 (i : Nat)] w fun e w' => e = .returned (.int .i64 (((first + i) % sl.length : Nat) : Int)) ∧ ∃ q, w' = w.drewN q := by
  obtain ⟨c0, c1, c2, c3, -⟩ := H.top
  clear H
  go_enter Try.func28, Try.ntmps28
  go_wp2
  go_quiet (fail)
  go_wp2
  go_ret
  exact ⟨rfl, _, rfl⟩
theorem len_any (H : RG V 9 51 D w p xs room) : Calls Try.prog 23 #[.pointer (some ⟨p, 0, none⟩)] w fun e w' => e = .returned (.int .i64 (xs.length : Nat)) ∧ w' = w := by
  obtain ⟨sl, f, ad, H, o⟩ := H
  exact len_in H
theorem room_any (H : RG V 9 51 D w p xs room) : Calls Try.prog 26 #[.pointer (some ⟨p, 0, none⟩)] w fun e w' => e = .returned (.int .i64 (room : Nat)) ∧ w' = w := by
  obtain ⟨sl, f, ad, H, o⟩ := H
  exact room_in H
theorem at_in (H : RG V 9 51 D w p xs room) (i : Nat) {x : ByteArray} (hx : xs[i]? = some x) :
    Calls Try.prog 29 #[.pointer (some ⟨p, 0, none⟩), .int .i64 (i : Nat)] w fun e w' => e = .returned (.tuple #[V x, .bool true]) ∧ ∃ q, w' = w.drewN q := by
  obtain ⟨sl, f, ad, H, o⟩ := H
  have hi : i < xs.length := by
    rcases Nat.lt_or_ge i xs.length with h | h
    · exact h
    · rw [List.getElem?_eq_none h] at hx; cases hx
  have hle := o.le
  have hfit := o.fits
  have hbig := o.big
  have hf : f ≤ 4096 := by rcases o.fst with h | ⟨h, _⟩ <;> omega
  have hlt : (f + i) % sl.length < sl.length := o.lt hi
  obtain ⟨g, rfl, hgp, hD, hc, hfr⟩ := H.slot (o.at_ i x hx)
  have hl := len_in H
  have hsl : ∀ n, Calls Try.prog 28 #[.pointer (some ⟨p, 0, none⟩), .int .i64 (i : Nat)] (w.drewN n) fun e w' => e = .returned (.int .i64 (((f + i) % sl.length : Nat) : Int)) ∧ ∃ q, w' = (w.drewN n).drewN q := fun n => slot_in (H.drewN n) i (by omega) (by omega) hf (by omega)
  obtain ⟨c0, c1, c2, c3, -⟩ := H.top
  have HO : Hid _ := o
  clear H o hx
  generalize (f + i) % sl.length = k at hlt hc hfr hsl
  go_enter Try.func29, Try.ntmps29
  go_wp2_with (go_at_call 23; refine hl.mono ?_; rintro e w1 ⟨rfl, rfl⟩)
  go_quiet (first | (go_at_call 28; exact Calls.quiet_of (hsl _)))
  go_wp2
  go_ret2
  exact ⟨rfl, _, rfl⟩
theorem at_out (H : RG V 9 51 D w p xs room) (i : Int) (ho : i < 0 ∨ (xs.length : Int) ≤ i) :
    Calls Try.prog 29 #[.pointer (some ⟨p, 0, none⟩), .int .i64 i] w fun e w' => e = .returned (.tuple #[V (⟨#[]⟩ : ByteArray), .bool false]) ∧ ∃ q, w' = w.drewN q := by
  have hl := len_any H
  have hlen := H.len
  clear H
  rcases ho with ho | ho
  · go_enter Try.func29, Try.ntmps29
    go_wp2
    go_ret2
    exact ⟨rfl, 0, rfl⟩
  · have h0 : ¬ i < 0 := by omega
    go_enter Try.func29, Try.ntmps29
    go_wp2_with (go_at_call 23; refine hl.mono ?_; rintro e w1 ⟨rfl, rfl⟩)
    go_ret2
    exact ⟨rfl, 0, rfl⟩
def laid {β : Type} (V : β → Value) (z : Value) (zs : List β) (k : Nat) : Array Value := ((zs.take k).map V ++ List.replicate (zs.length - k) z).toArray
theorem laid_next {β : Type} {zs : List β} {k : Nat} {x : β} (hx : zs[k]? = some x) (V : β → Value) (z : Value) : (laid V z zs k).set! k (V x) = laid V z zs (k + 1) := by
  have hk : k < zs.length := by
    rcases Nat.lt_or_ge k zs.length with h | h
    · exact h
    · rw [List.getElem?_eq_none h] at hx; cases hx
  have hl : ((zs.take k).map V).length = k := by simp; omega
  unfold laid
  rw [Array.set!_eq_setIfInBounds, List.setIfInBounds_toArray, List.take_add_one, hx, List.map_append, List.set_append_right _ _ (by omega), hl, Nat.sub_self, show zs.length - k = (zs.length - (k + 1)) + 1 by omega, List.replicate_succ]
  simp
theorem laid_here {β : Type} {zs : List β} {k : Nat} (hk : k < zs.length) (V : β → Value) (z : Value) : (laid V z zs k)[k]? = some z := by
  have hl : ((zs.take k).map V).length = k := by simp; omega
  unfold laid
  rw [List.getElem?_toArray, List.getElem?_append_right (by omega), hl, Nat.sub_self, show zs.length - k = (zs.length - (k + 1)) + 1 by omega, List.replicate_succ]
  rfl
theorem laid_none {β : Type} (V : β → Value) (z : Value) (zs : List β) : madeCells #[z] zs.length = laid V z zs 0 := by
  rw [made_list]; simp [laid]
theorem laid_all {β : Type} (V : β → Value) (z : Value) (zs : List β) : laid V z zs zs.length = (zs.map V).toArray := by simp [laid]
set_option maxHeartbeats 1000000 in
theorem all_any (H : RG V 9 51 D w p xs room) :
    Calls Try.prog 30 #[.pointer (some ⟨p, 0, none⟩)] w fun e w' => ∃ G, e = .returned (.slice (some ⟨G, 0, none⟩) xs.length xs.length) ∧ w.heap.size ≤ G ∧ w'.heap[G]? = some (.cells (xs.map V).toArray 9 (0, 0)) ∧ Below w.heap.size w w' := by
  obtain ⟨sl, f, ad, H, o⟩ := H
  have hle := o.le
  have hfit := o.fits
  have hbig := o.big
  have hf : f ≤ 4096 := by rcases o.fst with h | ⟨h, _⟩ <;> omega
  have hl := len_in H
  have hmk := run_make_row' (P := Try.prog) 49 9 (.string ⟨#[]⟩) 16 Try.underlying49 infoE rfl .i64 .i64 xs.length (by omega) (by omega)
  have HO : Hid (Ok sl f room xs) := o
  have HH : Hid (RingIn V 9 51 D w p sl f xs.length room ad) := H
  clear H o
  go_enter Try.func30, Try.ntmps30
  go_wp2_with (go_at_call 23; refine hl.mono ?_; rintro e w1 ⟨rfl, rfl⟩; clear hl)
  go_loopw [10] (fun i wr => ∃ k : Nat, k ≤ xs.length ∧ i = .int .i64 k ∧ wr.heap[w1.heap.size]? = some (.cells (laid V (V (⟨#[]⟩ : ByteArray)) xs k) 9 (0, 0)) ∧ Below w1.heap.size w1 wr) (fun i _ => xs.length - (intOf i).toNat)
  case atStart =>
    refine ⟨0, Nat.zero_le _, rfl, ?_, (Below.refl _ w1).alloc (Nat.le_refl _) _⟩
    rw [heap_alloc_new, laid_none V]
  case round =>
    obtain ⟨k, hk, rfl, hG, hb⟩ := hrel
    have hR := RingIn.below HH.out hb
    rcases Nat.lt_or_ge k xs.length with hlt | hge
    · obtain ⟨x, hx⟩ : ∃ x, xs[k]? = some x := ⟨_, List.getElem?_eq_getElem hlt⟩
      have hm : (f + k) % sl.length < sl.length := HO.out.lt hlt
      obtain ⟨g, rfl, hgp, hD, hc, hfr⟩ := hR.slot (HO.out.at_ k x hx)
      have hsl : ∀ W : World, RingIn V 9 51 D W p sl f xs.length room (some ⟨g, 0, none⟩) → Calls Try.prog 28 #[.pointer (some ⟨p, 0, none⟩), .int .i64 (k : Nat)] W fun e w' => e = .returned (.int .i64 (((f + k) % sl.length : Nat) : Int)) ∧ ∃ q, w' = W.drewN q := fun W h => slot_in h k (by omega) (by omega) hf (by omega)
      obtain ⟨c0, c1, c2, c3, -⟩ := hR.top
      have z0 : wr.cell? ⟨w1.heap.size, k, none⟩ = some (.string ⟨#[]⟩) := by
        rw [cell_of_block hG]
        exact laid_here hlt V _
      have z1 : wr.frozen? ⟨w1.heap.size, k, none⟩ = false := frozen_of_block hG
      have HG : Hid (wr.heap[w1.heap.size]? = some (.cells (laid V (V (⟨#[]⟩ : ByteArray)) xs k) 9 (0, 0))) := hG
      have HX : Hid (xs[k]? = some x) := hx
      have HR : Hid (RingIn V 9 51 D wr p sl f xs.length room (some ⟨g, 0, none⟩)) := hR
      clear hG hx hR
      generalize (f + k) % sl.length = j at hm hc hfr hsl
      go_wp2
      go_region_with (first | (go_at_call 28; refine (hsl wr.drew HR.out).mono ?_; rintro e w2 ⟨rfl, q, rfl⟩))
      all_goals
        go_wp2
        go_roundw
        case rel =>
          refine ⟨k + 1, hlt, by go_num, ?_, (below_drewN hb _).setCell (Nat.le_refl _) _⟩
          rw [block_setCell (w := wr.drewN _) HG.out, ← laid_next HX.out]
        case measure => simp [intOf]; omega
    · have hk' : k = xs.length := by omega
      subst hk'
      rw [laid_all] at hG
      have HG : Hid (wr.heap[w1.heap.size]? = some (.cells (xs.map V).toArray 9 (0, 0))) := hG
      clear hG hR
      go_wp2
      go_ret
      exact ⟨_, rfl, Nat.le_refl _, HG.out, hb⟩
theorem sizeE : (Try.prog.info? 9).map (·.size) = some 1 := by kernel_rfl
theorem one_cells (xs : List ByteArray) : ∀ v ∈ xs.map V, v.oneCell' = true := by
  intro u hu
  simp at hu
  obtain ⟨z, _, rfl⟩ := hu
  rfl
theorem widen_end (HH : RingIn V 9 51 D w p sl first xs.length room ad) {w3 : World} {m : Nat} (hmm : xs.length < m) (hD : ∀ k, w.heap.size ≤ k → D k) (hg : w3.heap[w.heap.size]? = some (.cells (splice (List.replicate m (V (⟨#[]⟩ : ByteArray))) 0 (xs.map V)).toArray 9 (0, 0))) (hb : Below w.heap.size w w3) :
    (∃ q, RingIn V 9 51 D ((w3.setCell ⟨p, 0, none⟩ (.slice (some ⟨w.heap.size, 0, none⟩) m m)).setCell ⟨p, 1, none⟩ (.int .i64 0)) p (xs ++ List.replicate (m - xs.length) (⟨#[]⟩ : ByteArray)) 0 xs.length room (some ⟨q, 0, none⟩)) ∧ Keeps D w ((w3.setCell ⟨p, 0, none⟩ (.slice (some ⟨w.heap.size, 0, none⟩) m m)).setCell ⟨p, 1, none⟩ (.int .i64 0)) := by
  have hlt := lt_of_block HH.2.1
  have hl : (xs ++ List.replicate (m - xs.length) (⟨#[]⟩ : ByteArray)).length = m := by simp; omega
  refine ⟨⟨w.heap.size, ?_⟩, (((Keeps.of_below hb).setCell HH.1 _).setCell HH.1 _)⟩
  have h := HH.newSlots (D' := D) (w' := w3) (hb.block p hlt) (q := w.heap.size) (ss := xs ++ List.replicate (m - xs.length) (⟨#[]⟩ : ByteArray)) (by omega) (fun _ e => e) (hD _ (Nat.le_refl _)) (by rw [hg, splice_made]; simp)
  rw [hl] at h
  exact h
theorem copy_few {m : Nat} (h : xs.length < m) : (xs.map V).length = Nat.min xs.length m := by
  rw [List.length_map]
  exact (Nat.min_eq_left (by omega)).symm
theorem copy_fits {m : Nat} (h : xs.length < m) : 0 + (xs.map V).length ≤ (List.replicate m (V (⟨#[]⟩ : ByteArray))).length := by
  simp; omega
theorem copy_from {w2 : World} {G : Nat} {t : TypeId} (h : w2.heap[G]? = some (.cells (xs.map V).toArray t (0, 0))) : ∀ j v, (xs.map V)[j]? = some v → w2.cell? ((⟨G, 0, none⟩ : Addr).add j) = some v := by
  intro j v hv
  rw [show (⟨G, 0, none⟩ : Addr).add j = ⟨G, j, none⟩ by simp [Addr.add_lit], cell_of_block h]
  simpa using hv
set_option maxHeartbeats 1000000 in
theorem widen_at (H : RingIn V 9 51 D w p sl first xs.length room ad) (o : Ok sl first room xs) (hD : ∀ k, w.heap.size ≤ k → D k) (hlt : xs.length < room) (m : Nat) (hm : m = if room < 2 * xs.length + 1 then room else 2 * xs.length + 1) :
    Calls Try.prog 27 #[.pointer (some ⟨p, 0, none⟩)] w fun e w' => e = .returned (.tuple #[]) ∧ (∃ q, RingIn V 9 51 D w' p (xs ++ List.replicate (m - xs.length) (⟨#[]⟩ : ByteArray)) 0 xs.length room (some ⟨q, 0, none⟩)) ∧ Keeps D w w' := by
  have hbig := o.big
  have hmm : xs.length < m ∧ m ≤ room := by split at hm <;> omega
  have hmk := run_make_row' (P := Try.prog) 49 9 (.string ⟨#[]⟩) 16 Try.underlying49 infoE rfl .i64 .i64 m (by omega) (by omega)
  have hmi : (m : Int) = if (room : Int) < 2 * xs.length + 1 then (room : Int) else 2 * xs.length + 1 := by
    split at hm
    · rw [if_pos (by omega)]; omega
    · rw [if_neg (by omega)]; omega
  have hmk2 := hmk
  rw [hmi] at hmk2
  obtain ⟨c0, c1, c2, c3, f0, f1, f2, f3⟩ := H.top
  have HO : Hid (Ok sl first room xs) := o
  have HH : Hid (RingIn V 9 51 D w p sl first xs.length room ad) := H
  have hDD : Hid (∀ k, w.heap.size ≤ k → D k) := hD
  clear H o hD hm hmi hmk
  go_enter Try.func27, Try.ntmps27
  go_wp2
  go_region
  generalize (if (room : Int) < 2 * xs.length + 1 then (room : Int) else 2 * xs.length + 1) = t13
  have HW : (w.alloc (Obj.cells (madeCells #[Value.string ⟨#[]⟩] m) 9)).drew.heap[w.heap.size]? = some (.cells (List.replicate m (V (⟨#[]⟩ : ByteArray))).toArray 9 (0, 0)) := by
    show (w.alloc (Obj.cells (madeCells #[Value.string ⟨#[]⟩] m) 9)).heap[w.heap.size]? = _
    rw [heap_alloc_new, made_list]
  have hbW : Below w.heap.size w (w.alloc (Obj.cells (madeCells #[Value.string ⟨#[]⟩] m) 9)).drew := ((Below.refl _ w).alloc (Nat.le_refl _) _).drew
  generalize (w.alloc (Obj.cells (madeCells #[Value.string ⟨#[]⟩] m) 9)).drew = W at HW hbW ⊢
  have HRW : RG V 9 51 D W p xs room := ⟨_, _, _, HH.out.below hbW, HO.out⟩
  have hsW := hbW.size
  have HWW : Hid (W.heap[w.heap.size]? = some (.cells (List.replicate m (V (⟨#[]⟩ : ByteArray))).toArray 9 (0, 0))) := HW
  have hsz := lt_of_block HW
  clear hmk2 c0 c1 c2 c3 f0 f1 f2 f3 HW
  go_wp2_with (first
    | (go_at_call 30; refine (all_any HRW).mono ?_; rintro e w2 ⟨G, rfl, hGW, hG, hb2⟩; have HG : Hid (w2.heap[G]? = some (.cells (xs.map V).toArray 9 (0, 0))) := hG; clear hG HRW)
    | (refine wpList_copy_splice (by rfl) _ _ 49 49 (by rfl) 9 Try.underlying49 sizeE (some ⟨w.heap.size, 0, none⟩) (some ⟨G, 0, none⟩) m m xs.length xs.length (by rfl) (by rfl) w.heap.size 0 (List.replicate m (V (⟨#[]⟩ : ByteArray))) 9 ((hb2.block _ hsz).trans HWW.out) (xs.map V) (copy_few hmm.1) (fun _ => ⟨rfl, _, rfl, copy_from HG.out⟩) (copy_fits hmm.1) (one_cells xs) w.heap.size w (hbW.trans (hb2.mono hsW)) (Nat.le_refl _) ?_; intro w3 hg3 hb3; obtain ⟨c0, c1, c2, c3, f0, f1, f2, f3⟩ := (HH.out.below hb3).top; clear hb2 hbW))

  go_end0
  exact ⟨rfl, widen_end HH.out hmm.1 hDD.out hg3.out hb3⟩
end
end Go.Proofs.Ytpjeehdgdhbhdaa.Str
