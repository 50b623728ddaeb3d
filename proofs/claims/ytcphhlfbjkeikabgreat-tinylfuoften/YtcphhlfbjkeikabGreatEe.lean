/- Of an engine: admit, move, drop, howOften. -/
import Derived.Test.YtcphhlfbjkeikabGreatEd
namespace Go.Proofs.YtcphhlfbjkeikabGreat
open Go.RowKit

section
variable {D : Nat → Prop} {w : World} {e c : Nat} {Q : Nat → List ByteArray} {m : ByteArray → Option Ix.Sp} {b : Nat} {z : Dk}
theorem lay_any (H : EM D w e c Q m b z) (hD : ∀ k, w.heap.size ≤ k → D k) (hb : b ≤ 900000) (k : ByteArray) (hk : k.size ≤ 1000) (hn : m k = none) (i : Nat) (hi : i < 3) (hf : (Q 0).length + (Q 1).length + (Q 2).length + 1 ≤ b) :
    Calls Tryz.prog 72 #[.pointer (some ⟨e, 0, none⟩), .string k, .int .i64 (i : Nat)] w fun ee w' => ee = .returned (.tuple #[]) ∧ (∃ h, EM D w' e c (laid Q k i) (Ix.put m k (some (i, h))) b z) ∧ Keeps D w w' := by
  obtain ⟨L, R, x, h, r⟩ := H
  refine (lay_in h hD hb k hk i hi (by have := r.few i hi; omega) (fun l h1 h2 => by have := r.fits l h1 h2; omega)).mono ?_
  rintro ee w' ⟨rfl, ⟨L', h'⟩, hk'⟩
  have hq : (Q i).length + 1 ≤ b := by
    have : i = 0 ∨ i = 1 ∨ i = 2 := by omega
    rcases this with e | e | e <;> subst e <;> omega
  exact ⟨rfl, ⟨_, L', _, x, h', r.push hn hi hk (Ls.LA.hand (h.li i hi)).1 (Ls.LA.lens (h.li i hi)) hq⟩, hk'⟩
set_option maxHeartbeats 1000000 in
theorem admit_any (H : EM D w e c Q m b z) (hD : ∀ k, w.heap.size ≤ k → D k) (hb : b ≤ 900000) (k : ByteArray) (hk : k.size ≤ 1000) (hn : m k = none) (i : Nat) (hi : i < 3) (hf : (Q 0).length + (Q 1).length + (Q 2).length + 1 ≤ b) :
    Calls Tryz.prog 48 #[.pointer (some ⟨e, 0, none⟩), .string k, .int .i64 (i : Nat)] w fun ee w' => ee = .returned (.tuple #[]) ∧ (∃ h, EM D w' e c (laid Q k i) (Ix.put m k (some (i, h))) b z) ∧ Keeps D w w' := by
  have HE : Hid (EM D w e c Q m b z) := H
  have HD : Hid (∀ k, w.heap.size ≤ k → D k) := hD
  have HN : Hid (m k = none) := hn
  clear H hD hn
  go_enter Tryz.func48, Tryz.ntmps48
  go_wp2_with (first
    | (go_at_call 39; refine (Ix.clone_any k hk _).mono ?_; rintro ee w2 ⟨rfl, hb2⟩; have H2 : Hid (EM D w2 e c Q m b z) := HE.out.below hb2; have HK2 : Hid (Keeps D w w2) := (.of_below hb2); clear hb2)
    | (go_at_call 72; refine (lay_any H2.out (fun k h => HD.out k (Nat.le_trans HK2.out.size h)) hb k hk HN.out i hi hf).mono ?_; rintro ee w3 ⟨rfl, h3, hk3⟩))
  go_end0
  exact ⟨rfl, h3, HK2.out.trans hk3⟩
theorem drop_end {L : Nat → Nat} {R : Nat → Li} {x : Nat} {w2 : World} {i h : Nat} {l r : List Nat} (hi : i < 3) (hD : ∀ k, w.heap.size ≤ k → D k) (H : EnIn D L w e c R x m b z)
    (hl : Ls.LA Value.string 113 93 (own D L w.heap.size i) w2 (R i).pr (l ++ r) (h :: (R i).free) (Ls.upd (R i).va h ⟨#[]⟩) (R i).n) (hk : Keeps (own D L w.heap.size i) w w2) :
    EnIn D (nlab L w.heap.size i) w2 e c (takeR R i h l r) x m b z ∧ Keeps D w w2 :=
  ⟨H.putL hD hi hk hl rfl, own_keeps hD hk⟩
set_option maxHeartbeats 1000000 in
theorem drop_any (H : EM D w e c Q m b z) (hD : ∀ k, w.heap.size ≤ k → D k) (hb : b ≤ 900000) {k : ByteArray} {i h : Nat} (hm : m k = some (i, h)) :
    Calls Tryz.prog 61 #[.pointer (some ⟨e, 0, none⟩), Ix.V (i, h)] w fun ee w' => ee = .returned (.string k) ∧ EM D w' e c (fun j => A.cut (Q j) k) (Ix.put m k none) b z ∧ Keeps D w w' := by
  obtain ⟨L, R, x, H, r1⟩ := H
  obtain ⟨hi, hin, hv⟩ := (r1.spot k i h).1 hm
  have hks : k.size ≤ 1000 := r1.size i hi k (r1.some hm).2.1
  obtain ⟨l, r, hr⟩ := split_mem hin
  have HM : Hid (m k = some (i, h)) := hm
  have HR : Hid (Rel R m Q b) := r1
  have HL : Hid ((R i).row = l ++ h :: r) := hr
  have HD : Hid (∀ k, w.heap.size ≤ k → D k) := hD
  have hn : (R i).n ≤ 1000000 := by have := r1.few i hi; omega
  obtain ⟨W, hW⟩ : ∃ W, W = w.alloc (.cells #[.int .i64 (i : Nat), .int .i64 (h : Nat)] 44) := ⟨_, rfl⟩
  have hbW : Below w.heap.size w W := by rw [hW]; exact (Below.refl _ w).alloc (Nat.le_refl _) _
  have HB : Hid (Below w.heap.size w W) := hbW
  have H1 : Hid (EnIn D L W e c R x m b z) := H.below hbW
  have hbox : W.heap[w.heap.size]? = some (.cells #[.int .i64 (i : Nat), .int .i64 (h : Nat)] 44 (0, 0)) := by rw [hW]; exact heap_alloc_new w _
  have y0 := cell_of_block (j := 0) hbox
  have y1 := cell_of_block (j := 1) hbox
  have yl := lt_of_block hbox
  simp at y0 y1
  have hrow := H1.out.row hi
  have heo := lt_of_block H1.out.top
  have HHi : Hid (Ls.LA Value.string 113 93 (own D L W.drew.heap.size i) W.drew (R i).pr (l ++ h :: r) (R i).free (R i).va (R i).n) := by
    have := H1.out.drew.list hi
    rw [LiAt, HL.out] at this
    exact this
  have HD1 : Hid (∀ k, W.heap.size ≤ k → D k) := fun k hk => HD.out k (Nat.le_trans hbW.size hk)
  clear H hm r1 hin hr hD hbW hbox
  go_enter Tryz.func61, Tryz.ntmps61
  go_wp2_with fail
  rw [← hW]
  clear hW
  go_region_with (go_at_call 81; refine (Ls.remove_in (w := W.drew) h HHi.out hn).mono ?_; rintro ee w2 ⟨rfl, hl2, hk2⟩; rw [hv]; have h3 := drop_end hi (w := W.drew) HD1.out H1.out.drew hl2 hk2; have H3 : Hid (EnIn D _ w2 e c (takeR R i h l r) x m b z) := h3.1; have HK3 : Hid (Keeps D w w2) := (Keeps.of_below HB.out).trans (Keeps.undrew h3.2); have c4 := h3.1.cells.2.2.1; have heo3 := lt_of_block h3.1.top; clear hl2 hk2 h3)
  all_goals
    go_wp2_with (go_at_call 82; refine (Ix.delete_hit H3.out.index (by omega) k (by unfold maxLen; omega) HM.out).mono ?_; rintro ee w4 ⟨rfl, hx4, hk4⟩)
    go_ret
    have HD3 : ∀ k, w2.heap.size ≤ k → D k := fun k h => HD.out k (Nat.le_trans HK3.out.size h)
    exact ⟨rfl, ⟨_, _, x, H3.out.putX HD3 hk4 hx4, HR.out.take HM.out HL.out⟩, HK3.out.trans (own_keeps HD3 hk4)⟩
set_option maxHeartbeats 1000000 in
theorem move_far (H : EM D w e c Q m b z) (hD : ∀ k, w.heap.size ≤ k → D k) (hb : b ≤ 900000) {k : ByteArray} {i h : Nat} (hm : m k = some (i, h)) {i' : Nat} (hi' : i' < 3) (hne : i' ≠ i) (hf : (Q 0).length + (Q 1).length + (Q 2).length + 1 ≤ b) :
    Calls Tryz.prog 70 #[.pointer (some ⟨e, 0, none⟩), Ix.V (i, h), .int .i64 (i' : Nat)] w fun ee w' => ee = .returned (.tuple #[]) ∧ (∃ h', EM D w' e c (laid Q k i') (Ix.put m k (some (i', h'))) b z) ∧ Keeps D w w' := by
  obtain ⟨L, R, x, H, r1⟩ := H
  obtain ⟨hi, hin, hv⟩ := (r1.spot k i h).1 hm
  have hks : k.size ≤ 1000 := r1.size i hi k (r1.some hm).2.1
  obtain ⟨l, r, hr⟩ := split_mem hin
  have hq : (Q i').length + 1 ≤ b := by
    have : i' = 0 ∨ i' = 1 ∨ i' = 2 := by omega
    rcases this with e | e | e <;> subst e <;> omega
  have HT : Hid (Rel (pushR (takeR R i h l r) i' k) (Ix.put m k (some (i', Ls.handOf (R i').free (R i').n))) (laid Q k i') b) :=
    r1.move hm hr hi' hne (Ls.LA.hand (H.li i' hi')).1 (Ls.LA.lens (H.li i' hi')) hq
  have HFit : Hid (∀ l : List ByteArray, l.Nodup → (∀ k ∈ l, m k ≠ none) → l.length + 1 ≤ b) := fun l h1 h2 => by have := r1.fits l h1 h2; omega
  have HL : Hid ((R i).row = l ++ h :: r) := hr
  have HD : Hid (∀ k, w.heap.size ≤ k → D k) := hD
  have hn : (R i).n ≤ 1000000 := by have := r1.few i hi; omega
  have htR : takeR R i h l r i' = R i' := by unfold takeR; rw [if_neg hne]
  have hn' : (takeR R i h l r i').n ≤ 900000 := by rw [htR]; have := r1.few i' hi'; omega
  obtain ⟨W, hW⟩ : ∃ W, W = w.alloc (.cells #[.int .i64 (i : Nat), .int .i64 (h : Nat)] 44) := ⟨_, rfl⟩
  have hbW : Below w.heap.size w W := by rw [hW]; exact (Below.refl _ w).alloc (Nat.le_refl _) _
  have HB : Hid (Below w.heap.size w W) := hbW
  have H1 : Hid (EnIn D L W e c R x m b z) := H.below hbW
  have hbox : W.heap[w.heap.size]? = some (.cells #[.int .i64 (i : Nat), .int .i64 (h : Nat)] 44 (0, 0)) := by rw [hW]; exact heap_alloc_new w _
  have y0 := cell_of_block (j := 0) hbox
  have y1 := cell_of_block (j := 1) hbox
  have yl := lt_of_block hbox
  simp at y0 y1
  have hrow := H1.out.row hi
  have heo := lt_of_block H1.out.top
  have HHi : Hid (Ls.LA Value.string 113 93 (own D L W.drew.heap.size i) W.drew (R i).pr (l ++ h :: r) (R i).free (R i).va (R i).n) := by
    have := H1.out.drew.list hi
    rw [LiAt, HL.out] at this
    exact this
  have HD1 : Hid (∀ k, W.heap.size ≤ k → D k) := fun k hk => HD.out k (Nat.le_trans hbW.size hk)
  have hneI : ¬ ((i : Nat) : Int) = (i' : Nat) := by omega
  have HtR : Hid (takeR R i h l r i' = R i') := htR
  clear H hm r1 hin hr hD hbW hbox hf hq htR
  go_enter Tryz.func70, Tryz.ntmps70
  go_wp2_with fail
  rw [← hW]
  clear hW
  go_region_with (go_at_call 81; refine (Ls.remove_in (w := W.drew) h HHi.out hn).mono ?_; rintro ee w2 ⟨rfl, hl2, hk2⟩; rw [hv]; have h3 := drop_end hi (w := W.drew) HD1.out H1.out.drew hl2 hk2; have H3 : Hid (EnIn D _ w2 e c (takeR R i h l r) x m b z) := h3.1; have HK3 : Hid (Keeps D w w2) := (Keeps.of_below HB.out).trans (Keeps.undrew h3.2); clear hl2 hk2 h3)
  all_goals
    have HD3 : Hid (∀ k, w2.heap.size ≤ k → D k) := fun k h => HD.out k (Nat.le_trans HK3.out.size h)
    have hlay := lay_in H3.out HD3.out hb k hks i' hi' hn' HFit.out
    rw [HtR.out] at hlay
    go_wp2_with (go_at_call 72; refine Calls.mono hlay ?_; clear hlay; rintro ee w4 ⟨rfl, ⟨L4, h4⟩, hk4⟩)
    go_end0
    exact ⟨rfl, ⟨_, _, _, x, h4, HT.out⟩, HK3.out.trans hk4⟩
end
end Go.Proofs.YtcphhlfbjkeikabGreat
