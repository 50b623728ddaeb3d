/- What each function of a ghost answers, and what becomes of its row: New, Len, Has, Take, Keys. -/
import Derived.Test.YtdiggfiapbifpaaGm
import Derived.BigRegion
import Derived.Deep.RegionWith
import Derived.BigQuiet
namespace Go.Proofs.Ytdiggfiapbifpaa
open Go.RowKit

section
variable {D : Nat → Prop} {w : World} {e c b : Nat} {Q : List ByteArray}
theorem made {w0 w1 w2 : World} {p x c : Nat} (hl : Ls.LA Value.string 72 62 (fun g => g = w0.heap.size) w1 p [] [] (fun _ => ⟨#[]⟩) 0) (h1 : Keeps (fun g => g = w0.heap.size) w0 w1)
    (hx : XAt (fun g => g = w1.heap.size) w2 x (fun _ => none) 0) (h2 : Keeps (fun g => g = w1.heap.size) w1 w2) :
    GH w2.heap.size c 0 [] (fun k => w0.heap.size ≤ k) (w2.alloc (.cells #[.int .i64 (c : Nat), .pointer (some ⟨p, 0, none⟩), .pointer (some ⟨x, 0, none⟩)] 49)) ∧ Keeps (fun k => w0.heap.size ≤ k) w0 (w2.alloc (.cells #[.int .i64 (c : Nat), .pointer (some ⟨p, 0, none⟩), .pointer (some ⟨x, 0, none⟩)] 49)) := by
  have hp : w0.heap.size < w1.heap.size := by
    obtain ⟨s, ⟨ad, cap, h⟩, _⟩ := hl
    have := h.1
    have h3 := lt_of_block h.2.1
    omega
  have hq : w1.heap.size < w2.heap.size := by
    obtain ⟨seed, sl, u, cc, ad, _, h, o⟩ := hx
    have := h.1
    have h3 := lt_of_block h.2.1
    omega
  have hb : Below w2.heap.size w2 (w2.alloc (.cells #[.int .i64 (c : Nat), .pointer (some ⟨p, 0, none⟩), .pointer (some ⟨x, 0, none⟩)] 49)) := (Below.refl _ _).alloc (Nat.le_refl _) _
  obtain ⟨L, hL⟩ : ∃ L : Nat → Nat, L = fun k => if k = w0.heap.size then 0 else if k = w1.heap.size then 1 else 2 := ⟨_, rfl⟩
  have l0 : L w0.heap.size = 0 := by rw [hL]; simp
  have l1 : L w1.heap.size = 1 := by rw [hL]; show (if _ then _ else _) = _; rw [if_neg (by omega), if_pos rfl]
  have l2 : L w2.heap.size = 2 := by rw [hL]; show (if _ then _ else _) = _; rw [if_neg (by omega), if_neg (by omega)]
  refine ⟨⟨L, ⟨p, [], [], fun _ => ⟨#[]⟩, 0⟩, x, fun _ => none, ⟨?_, l2, heap_alloc_new w2 _, ?_, ?_⟩, ?_⟩, ?_⟩
  · show w0.heap.size ≤ w2.heap.size
    omega
  · exact Ls.LA.below (Ls.LA.wide (Ls.LA.kept hl h2 (fun k h3 h4 => by omega)) (fun k h3 => by subst h3; exact ⟨Nat.le_refl _, l0⟩)) hb
  · exact Ix.IX.below (Ix.IX.wide hx (fun k h3 => by subst h3; exact ⟨Nat.le_of_lt hp, l1⟩)) hb
  · refine ⟨rfl, ?_, ?_, Nat.le_refl _, ?_, List.nodup_nil⟩
    · intro k v h
      cases h
    · intro h hm
      cases hm
    · intro k hm
      cases hm
  · exact ((h1.mono (fun k _ h => by omega)).trans (h2.mono (fun k _ h => by omega))).alloc _
set_option maxHeartbeats 1000000 in
theorem new_any (w : World) (n : Int) :
    Calls Try.prog 8 #[.int .i64 n] w fun ee w' => ∃ e, ee = .returned (.pointer (some ⟨e, 0, none⟩)) ∧ GH e (G.heldC n) 0 [] (fun k => w.heap.size ≤ k) w' ∧ Keeps (fun k => w.heap.size ≤ k) w w' := by
  have HC : Hid (min (max n 1) 1024 = ((G.heldC n : Nat) : Int)) := G.heldC_eq n
  go_enter Try.func8, Try.ntmps8
  go_wp2_with (first
    | (go_at_call 20; refine (Ls.make_any _ (fun g => g = w.heap.size) rfl).mono ?_; rintro ee w1 ⟨p, rfl, hl1, hk1⟩; have HL1 : Hid _ := hl1; have HK1 : Hid _ := hk1; clear hl1 hk1)
    | (go_at_call 21; refine (Ix.new_any w1 (fun g => g = w1.heap.size) rfl 0 (by omega)).mono ?_; rintro ee w2 ⟨x, rfl, hx2, hk2, -⟩; have HX2 : Hid _ := hx2; have HK2 : Hid _ := hk2; clear hx2 hk2))
  go_ret
  rw [HC.out]
  obtain ⟨h1, h2⟩ := made (c := G.heldC n) HL1.out HK1.out HX2.out HK2.out
  exact ⟨_, rfl, h1, h2⟩
theorem len_any (H : GH e c b Q D w) : Calls Try.prog 16 #[.pointer (some ⟨e, 0, none⟩)] w fun ee w' => ee = .returned (.int .i64 (Q.length : Nat)) ∧ w' = w := by
  obtain ⟨L, R, x, m, H, r⟩ := H
  obtain ⟨c0, c1, c2, heo⟩ := H.cells
  have hl := Ls.len_any H.li
  rw [r.len] at hl
  clear H r
  go_enter Try.func16, Try.ntmps16
  go_wp2_with (go_at_call 27; refine Calls.mono hl ?_; clear hl; rintro ee w1 ⟨rfl, rfl⟩)
  go_ret
  exact ⟨rfl, rfl⟩
theorem has_any (H : GH e c b Q D w) (hb : b ≤ 900000) (k : ByteArray) (hk : k.size ≤ 1000) : Calls Try.prog 14 #[.pointer (some ⟨e, 0, none⟩), .string k] w fun ee w' => ee = .returned (.bool (G.has Q k)) ∧ ∃ q, w' = w.drewN q := by
  obtain ⟨L, R, x, m, H, r⟩ := H
  obtain ⟨c0, c1, c2, heo⟩ := H.cells
  by_cases hm : k ∈ Q
  · obtain ⟨h, h1, h2, h3⟩ := r.some hm
    have hg := Ix.get_hit H.ix (by omega) k (by unfold maxLen; omega) h1
    rw [G.has_yes hm]
    clear H r hm h1 h2 h3
    go_enter Try.func14, Try.ntmps14
    go_wp2_with (go_at_call 22; refine Calls.mono hg ?_; clear hg; rintro ee w1 ⟨rfl, q, rfl⟩)
    go_ret
    exact ⟨rfl, _, rfl⟩
  · have hg := Ix.get_miss H.ix (by omega) k (by unfold maxLen; omega) (r.none hm)
    rw [G.has_no hm]
    clear H r hm
    go_enter Try.func14, Try.ntmps14
    go_wp2_with (go_at_call 22; refine Calls.mono hg ?_; clear hg; rintro ee w1 ⟨rfl, q, rfl⟩)
    go_ret
    exact ⟨rfl, _, rfl⟩
theorem GH.drewN (H : GH e c b Q D w) (q : Nat) : GH e c b Q D (w.drewN q) := H.kept (D' := fun _ => False) ((Keeps.refl _ w).drewN q) (fun _ _ _ e => e)
theorem gone_end {L : Nat → Nat} {R : Li} {x : Nat} {m : ByteArray → Option Int} {w1 w2 : World} {k : ByteArray} {h : Nat} {l r : List Nat} (hD : ∀ k, w.heap.size ≤ k → D k) (Hr : Rel R m Q b) (hr : R.row = l ++ h :: r) (hv : R.va h = k)
    (H1 : GhIn D L w1 e c R x (Ix.put m k none) b) (hs : w.heap.size ≤ w1.heap.size) (hl : LiAt (own D L w1.heap.size 0) w2 { R with row := l ++ r, free := h :: R.free, va := Ls.upd R.va h ⟨#[]⟩ }) (hk : Keeps (own D L w1.heap.size 0) w1 w2) :
    GH e c b (G.cut Q k) D w2 ∧ Keeps D w1 w2 := by
  have hD1 : ∀ k, w1.heap.size ≤ k → D k := fun k hk => hD k (by omega)
  exact ⟨⟨_, _, _, _, H1.putL hD1 hk hl rfl, Hr.take hr hv⟩, own_keeps hD1 hk⟩
set_option maxHeartbeats 1000000 in
theorem take_any (H : GH e c b Q D w) (hD : ∀ k, w.heap.size ≤ k → D k) (hb : b ≤ 900000) (k : ByteArray) (hk : k.size ≤ 1000) :
    Calls Try.prog 12 #[.pointer (some ⟨e, 0, none⟩), .string k] w fun ee w' => ee = .returned (.bool (G.has Q k)) ∧ GH e c b (G.cut Q k) D w' ∧ Keeps D w w' := by
  have HE : Hid (GH e c b Q D w) := H
  obtain ⟨L, R, x, m, H, r⟩ := H
  obtain ⟨c0, c1, c2, heo⟩ := H.cells
  have HH : Hid (GhIn D L w e c R x m b) := H
  have HR : Hid (Rel R m Q b) := r
  have HD : Hid (∀ k, w.heap.size ≤ k → D k) := hD
  by_cases hm : k ∈ Q
  · obtain ⟨h, h1, h2, h3⟩ := r.some hm
    obtain ⟨l, rr, hr⟩ := split_mem h2
    have hg := Ix.delete_hit H.index (by omega) k (by unfold maxLen; omega) h1
    have HV : Hid (R.va h = k) := h3
    have HL : Hid (R.row = l ++ h :: rr) := hr
    have hn : R.n ≤ 1000000 := by have := r.few; omega
    rw [G.has_yes hm]
    clear H r hm h1 h2 h3 hr hD
    go_enter Try.func12, Try.ntmps12
    go_wp2_with (first
      | (go_at_call 29; refine Calls.mono hg ?_; clear hg; rintro ee w1 ⟨rfl, hx1, hk1⟩; have HE1 : Hid (GhIn D (nlab L w.heap.size 1) w1 e c R x (Ix.put m k none) b) := HH.out.putX HD.out hk1 hx1; obtain ⟨d0, d1, d2, heo1⟩ := HE1.out.cells; have HK1 : Hid (Keeps D w w1) := own_keeps HD.out hk1; have HLi : Hid (Ls.LA Value.string 72 62 (own D (nlab L w.heap.size 1) w1.heap.size 0) w1 R.pr (l ++ h :: rr) R.free R.va R.n) := (by have := HE1.out.list; rw [LiAt, HL.out] at this; exact this); clear hx1 hk1 c0 c1 c2)
      | (go_at_call 30; refine (Ls.remove_in h HLi.out hn).mono ?_; rintro ee w2 ⟨rfl, hl2, hk2⟩; have HF : Hid (GH e c b (G.cut Q k) D w2 ∧ Keeps D w1 w2) := (gone_end HD.out HR.out HL.out HV.out HE1.out HK1.out.size hl2 hk2); clear hl2 hk2))
    go_ret
    exact ⟨rfl, HF.out.1, HK1.out.trans HF.out.2⟩
  · have hg := Ix.delete_miss H.ix (by omega) k (by unfold maxLen; omega) (r.none hm)
    have HC : Hid (G.cut Q k = Q) := G.cut_same hm
    rw [G.has_no hm]
    clear H r hm hD
    go_enter Try.func12, Try.ntmps12
    go_wp2_with (go_at_call 29; refine Calls.mono hg ?_; clear hg; rintro ee w1 ⟨rfl, q, rfl⟩)
    go_ret
    exact ⟨rfl, by rw [HC.out]; exact HE.out.drewN q, (Keeps.refl _ _).drewN q⟩
end
end Go.Proofs.Ytdiggfiapbifpaa
