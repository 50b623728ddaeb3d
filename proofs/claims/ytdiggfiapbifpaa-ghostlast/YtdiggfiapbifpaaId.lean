/- An index of numbers: New, Put, Get, Delete, Len. -/
import Derived.Test.YtdiggfiapbifpaaIb
namespace Go.Proofs.Ytdiggfiapbifpaa.Ix
open Go.RowKit

section
variable {D : Nat → Prop} {w : World} {p g seed : Nat} {sl : List (Sl Int)} {used count b : Nat} {ad : Option Addr} {m : ByteArray → Option Int}
theorem new_any (w : World) (D : Nat → Prop) (hD : D w.heap.size) (s : Nat) (hs0 : s < 18446744073709551616) :
    Calls Try.prog 21 #[.int .u64 (s : Nat)] w fun e w' => ∃ p, e = .returned (.pointer (some ⟨p, 0, none⟩)) ∧ IX V 67 65 D w' p (fun _ => none) 0 ∧ Keeps D w w' ∧ p = w.heap.size := by
  go_enter Try.func21, Try.ntmps21
  go_wp2
  go_ret
  exact ⟨_, rfl, IX.made V 67 65 hD s hs0, (Keeps.refl D w).alloc _, rfl⟩
theorem get_hit (H : IX V 67 65 D w p m b) (hb : b ≤ 1000000) (k : ByteArray) (hk : k.size ≤ maxLen) {v : Int} (hm : m k = some v) :
    Calls Try.prog 22 #[.pointer (some ⟨p, 0, none⟩), .string k] w fun e w' => e = .returned (.tuple #[V v, .bool true]) ∧ ∃ q, w' = w.drewN q := by
  obtain ⟨seed, sl, used, count, ad, hs0, H, o⟩ := H
  have hbig := o.big
  obtain ⟨c0, c1, c2, c3, -⟩ := H.top
  have HH : Hid (IndexIn V 67 65 D w p seed sl used count ad) := H
  have HO : Hid (Ok (hs seed) sl used count b m) := o
  have HM : Hid (m k = some v) := hm
  clear H o hm
  go_enter Try.func22, Try.ntmps22
  go_wp2_with (go_at_call 32; refine (find_hit HH.out HO.out hs0 hb k hk HM.out).mono ?_; rintro e w1 ⟨j, rfl, hj, q, rfl⟩; obtain ⟨s, hjs, h2, hkk, hv⟩ := HO.out.hit_at hj; rw [HM.out] at hv; have hjl := lt_of_at hjs; obtain ⟨g, rfl, hgp, hDg, hg⟩ := HH.out.block (by omega); obtain ⟨d0, d1, d2, -⟩ := slot_cells hg hjs; rw [← Option.some.inj hv] at d2; clear hv hjs hg hj h2 hkk)
  go_ret2
  exact ⟨rfl, _, rfl⟩
theorem get_miss (H : IX V 67 65 D w p m b) (hb : b ≤ 1000000) (k : ByteArray) (hk : k.size ≤ maxLen) (hm : m k = none) :
    Calls Try.prog 22 #[.pointer (some ⟨p, 0, none⟩), .string k] w fun e w' => e = .returned (.tuple #[V 0, .bool false]) ∧ ∃ q, w' = w.drewN q := by
  obtain ⟨seed, sl, used, count, ad, hs0, H, o⟩ := H
  have HH : Hid (IndexIn V 67 65 D w p seed sl used count ad) := H
  have HO : Hid (Ok (hs seed) sl used count b m) := o
  have HM : Hid (m k = none) := hm
  clear H o hm
  go_enter Try.func22, Try.ntmps22
  go_wp2_with (go_at_call 32; refine (find_not HH.out HO.out hs0 hb k hk HM.out).mono ?_; rintro e w1 ⟨j, rfl, q, rfl⟩)
  go_ret2
  exact ⟨rfl, _, rfl⟩
theorem get_any (H : IX V 67 65 D w p m b) (hb : b ≤ 1000000) (k : ByteArray) (hk : k.size ≤ maxLen) :
    Calls Try.prog 22 #[.pointer (some ⟨p, 0, none⟩), .string k] w fun e w' => e = .returned (.tuple #[V ((m k).getD 0), .bool (m k).isSome]) ∧ ∃ q, w' = w.drewN q := by
  cases hm : m k with
  | none => exact get_miss H hb k hk hm
  | some v => exact get_hit H hb k hk hm
theorem gone_end {q j : Nat} {s : Sl Int} {k : ByteArray} (hs0 : seed < 18446744073709551616) (H : IndexIn V 67 65 D w p seed sl used count (some ⟨g, 0, none⟩)) (o : Ok (hs seed) sl used count b m) (hg : D g) (hj : sl[j]? = some s) (h2 : s.st = 2) (hk : s.key = k) (W : World)
    (hW : W = (((w.drewN q).setCell ⟨g, j * 3, none⟩ (.int .u8 1)).setCell ⟨g, j * 3 + 1, none⟩ (.string ⟨#[]⟩)).setCell ⟨g, j * 3 + 2, none⟩ (V 0)) :
    IX V 67 65 D (W.setCell ⟨p, 3, none⟩ (.int .i64 ((count : Int) - 1))) p (put m k none) b ∧ Keeps D w (W.setCell ⟨p, 3, none⟩ (.int .i64 ((count : Int) - 1))) := by
  subst hk hW
  obtain ⟨o', hc⟩ := o.gone 0 hj h2
  have h' := ((H.drewN q).setSlot (by have := lt_of_at hj; omega) j ⟨1, ⟨#[]⟩, 0⟩).setCount (count - 1)
  rw [show ((count - 1 : Nat) : Int) = (count : Int) - 1 by omega] at h'
  exact ⟨⟨seed, _, _, _, _, hs0, h', o'⟩, ((((((Keeps.refl D w).drewN q).setCell hg _).setCell hg _).setCell hg _).setCell H.1 _)⟩
set_option maxHeartbeats 1000000 in
theorem delete_hit (H : IX V 67 65 D w p m b) (hb : b ≤ 1000000) (k : ByteArray) (hk : k.size ≤ maxLen) {v : Int} (hm : m k = some v) :
    Calls Try.prog 29 #[.pointer (some ⟨p, 0, none⟩), .string k] w fun e w' => e = .returned (.tuple #[V v, .bool true]) ∧ IX V 67 65 D w' p (put m k none) b ∧ Keeps D w w' := by
  obtain ⟨seed, sl, used, count, ad, hs0, H, o⟩ := H
  have hbig := o.big
  have hfew := o.few
  obtain ⟨c0, c1, c2, c3, f0, f1, f2, f3⟩ := H.top
  have HH : Hid (IndexIn V 67 65 D w p seed sl used count ad) := H
  have HO : Hid (Ok (hs seed) sl used count b m) := o
  have HM : Hid (m k = some v) := hm
  clear H o hm
  go_enter Try.func29, Try.ntmps29
  go_wp2_with (go_at_call 32; refine (find_hit HH.out HO.out hs0 hb k hk HM.out).mono ?_; rintro e w1 ⟨j, rfl, hj, q, rfl⟩; obtain ⟨s, hjs, h2, hkk, hv⟩ := HO.out.hit_at hj; rw [HM.out] at hv; have hjl := lt_of_at hjs; obtain ⟨g, rfl, hgp, hDg, hg⟩ := HH.out.block (by omega); obtain ⟨d0, d1, d2, e0, e1, e2⟩ := slot_cells hg hjs; rw [← Option.some.inj hv] at d2; have HJ : Hid (sl[j]? = some s ∧ s.st = 2 ∧ s.key = k) := ⟨hjs, h2, hkk⟩; have hc1 := (HO.out.gone 0 hjs h2).2; clear hv hjs hg hj h2 hkk)
  go_ret2
  exact ⟨rfl, gone_end hs0 HH.out HO.out hDg HJ.out.1 HJ.out.2.1 HJ.out.2.2 _ rfl⟩
theorem delete_miss (H : IX V 67 65 D w p m b) (hb : b ≤ 1000000) (k : ByteArray) (hk : k.size ≤ maxLen) (hm : m k = none) :
    Calls Try.prog 29 #[.pointer (some ⟨p, 0, none⟩), .string k] w fun e w' => e = .returned (.tuple #[V 0, .bool false]) ∧ ∃ q, w' = w.drewN q := by
  obtain ⟨seed, sl, used, count, ad, hs0, H, o⟩ := H
  have HH : Hid (IndexIn V 67 65 D w p seed sl used count ad) := H
  have HO : Hid (Ok (hs seed) sl used count b m) := o
  have HM : Hid (m k = none) := hm
  clear H o hm
  go_enter Try.func29, Try.ntmps29
  go_wp2_with (go_at_call 32; refine (find_not HH.out HO.out hs0 hb k hk HM.out).mono ?_; rintro e w1 ⟨j, rfl, q, rfl⟩)
  go_ret2
  exact ⟨rfl, _, rfl⟩
theorem delete_any (H : IX V 67 65 D w p m b) (hb : b ≤ 1000000) (k : ByteArray) (hk : k.size ≤ maxLen) :
    Calls Try.prog 29 #[.pointer (some ⟨p, 0, none⟩), .string k] w fun e w' => e = .returned (.tuple #[V ((m k).getD 0), .bool (m k).isSome]) ∧ IX V 67 65 D w' p (put m k none) b ∧ Keeps D w w' := by
  cases hm : m k with
  | none =>
    refine (delete_miss H hb k hk hm).mono ?_
    rintro e w' ⟨he, q, rfl⟩
    have e1 : put m k none = m := by
      funext x
      by_cases hx : x = k
      · rw [hx, put_same, hm]
      · rw [put_far hx]
    rw [e1]
    exact ⟨he, H.drewN q, (Keeps.refl D w).drewN q⟩
  | some v => exact delete_hit H hb k hk hm
end
end Go.Proofs.Ytdiggfiapbifpaa.Ix
