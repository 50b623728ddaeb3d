/- hoardlaw14.act: Load, Remove, Evict, Has in both. -/
import Derived.Test.YtcphhlfbjkeikabGreatRd9
namespace Go.Proofs.YtcphhlfbjkeikabGreat
open Go.RowKit

section
variable {O : Nat → Prop} {w : World} {e x b : Nat} {s : Stt}
theorem key_kept {key : ByteArray} {k : Int} {w1 : World} {O1 : Nat → Prop} (hk : Keeps (fun k => ¬ O1 k) (w.alloc (.cells #[.int .i64 k, .string key] 30)) w1) (ho : O1 w.heap.size) : w1.cell? ⟨w.heap.size, 1, none⟩ = some (.string key) := by
  rw [World.cell?_of_block (hk.block _ (by simp) (fun n => n ho))]
  exact cell_of_block (heap_alloc_new w _)
set_option maxHeartbeats 2000000 in
theorem act_load (h : Both e x b s O w) (hok : A.Ok s) (_ : b ≤ 600000) (key : ByteArray) (hk : key.size ≤ 1000) (hok2 : A.Ok (A.load s key).2) (hc2 : (A.load s key).2.c = s.c) :
    Calls Tryz.prog 8 #[.pointer (some ⟨e, 0, none⟩), .pointer (some ⟨x, 0, none⟩), .agg #[.int .i64 2, .string key]] w (Acted e x b s O w) := by
  obtain ⟨z, y, hv, h⟩ := h
  have HV : Hid (Eqv z y) := hv
  have hacc := Two.onA (Q := fun ee => ee = .returned (.bool (A.load s key).1)) (AZ_lies e z (A.load s key).2) (RE_lies x y s) (AZ_lies e z s) (Two.below (AZ_lies e z s) (RE_lies x y s) (Two.box (AZ_lies e z s) (RE_lies x y s) h (.cells #[.int .i64 2, .string key] 30)) (Below.refl _ _).drew) (fun D hA hD => loadZ hA hok hD key hk)
  have HX : Hid (∀ (O' : Nat → Prop) (W : World), Two (AZ e z (A.load s key).2) (RE x y s) O' W → Calls Tryz.prog 29 #[.pointer (some ⟨x, 0, none⟩), .string key] W fun ee w' => ee = .returned (.bool (A.load s key).1) ∧ Two (AZ e z (A.load s key).2) (RE x y (A.load s key).2) O' w' ∧ Keeps (fun k => ¬ O' k) W w') := fun O' W h2 => Two.onB (Q := fun ee => ee = .returned (.bool (A.load s key).1)) (RE_lies x y (A.load s key).2) (AZ_lies e z (A.load s key).2) (RE_lies x y s) h2 (fun D hA hD => rload_any hA hok hD key)
  have HOk2 : Hid (A.Ok (A.load s key).2 ∧ (A.load s key).2.c = s.c) := ⟨hok2, hc2⟩
  clear h hok hok2 hc2 hv
  generalize (A.load s key).2 = s' at *
  generalize (A.load s key).1 = r at *
  go_enter Tryz.func8, Tryz.ntmps8
  go_wp2_with fail
  go_region_with (first
    | (go_at_call 28; refine Calls.mono hacc ?_; clear hacc; rintro ee w1 ⟨rfl, h1, hk1⟩; have hkc1 := key_kept (w := w) (k := 2) (key := key) (O1 := fun k => O k ∨ k = w.heap.size) ((Keeps.of_below (Below.refl _ _).drew).trans hk1) (.inr rfl); have H1 : Hid (Two (AZ e z s') (RE x y s) (fun k => O k ∨ k = w.heap.size) w1) := h1; have HK1 : Hid (Keeps (fun k => ¬ O k) w w1) := (((Keeps.refl _ w).alloc _).trans ((Keeps.of_below (Below.refl _ _).drew).trans (hk1.mono (fun k _ hn o => hn (.inl o))))); clear h1 hk1)
    | (go_at_call 29; refine Calls.mono (HX.out _ _ H1.out) ?_; rintro ee w2 ⟨rfl, h2, hk2⟩; have H2 : Hid (Two (AZ e z s') (RE x y s') (fun k => O k ∨ k = w.heap.size) w2) := h2; have HK2 : Hid (Keeps (fun k => ¬ O k) w w2) := (HK1.out.trans (hk2.mono (fun k _ hn o => hn (.inl o)))); clear h2 hk2))
  all_goals
    go_wp2
    go_ret
    exact ⟨s', rfl, HOk2.out.1, HOk2.out.2, ⟨z, y, HV.out, Two.less H2.out (fun k o => .inl o)⟩, HK2.out⟩
set_option maxHeartbeats 2000000 in
theorem act_remove (h : Both e x b s O w) (hok : A.Ok s) (_ : b ≤ 600000) (key : ByteArray) (hk : key.size ≤ 1000) (hok2 : A.Ok (A.remove s key).2) (hc2 : (A.remove s key).2.c = s.c) :
    Calls Tryz.prog 8 #[.pointer (some ⟨e, 0, none⟩), .pointer (some ⟨x, 0, none⟩), .agg #[.int .i64 3, .string key]] w (Acted e x b s O w) := by
  obtain ⟨z, y, hv, h⟩ := h
  have HV : Hid (Eqv z y) := hv
  have hacc := Two.onA (Q := fun ee => ee = .returned (.bool (A.remove s key).1)) (AZ_lies e z (A.remove s key).2) (RE_lies x y s) (AZ_lies e z s) (Two.below (AZ_lies e z s) (RE_lies x y s) (Two.box (AZ_lies e z s) (RE_lies x y s) h (.cells #[.int .i64 3, .string key] 30)) (Below.refl _ _).drew) (fun D hA hD => removeZ hA hok hD key hk)
  have HX : Hid (∀ (O' : Nat → Prop) (W : World), Two (AZ e z (A.remove s key).2) (RE x y s) O' W → Calls Tryz.prog 31 #[.pointer (some ⟨x, 0, none⟩), .string key] W fun ee w' => ee = .returned (.bool (A.remove s key).1) ∧ Two (AZ e z (A.remove s key).2) (RE x y (A.remove s key).2) O' w' ∧ Keeps (fun k => ¬ O' k) W w') := fun O' W h2 => Two.onB (Q := fun ee => ee = .returned (.bool (A.remove s key).1)) (RE_lies x y (A.remove s key).2) (AZ_lies e z (A.remove s key).2) (RE_lies x y s) h2 (fun D hA hD => rremove_any hA hok hD key)
  have HOk2 : Hid (A.Ok (A.remove s key).2 ∧ (A.remove s key).2.c = s.c) := ⟨hok2, hc2⟩
  clear h hok hok2 hc2 hv
  generalize (A.remove s key).2 = s' at *
  generalize (A.remove s key).1 = r at *
  go_enter Tryz.func8, Tryz.ntmps8
  go_wp2_with fail
  go_region_with (first
    | (go_at_call 30; refine Calls.mono hacc ?_; clear hacc; rintro ee w1 ⟨rfl, h1, hk1⟩; have hkc1 := key_kept (w := w) (k := 3) (key := key) (O1 := fun k => O k ∨ k = w.heap.size) ((Keeps.of_below (Below.refl _ _).drew).trans hk1) (.inr rfl); have H1 : Hid (Two (AZ e z s') (RE x y s) (fun k => O k ∨ k = w.heap.size) w1) := h1; have HK1 : Hid (Keeps (fun k => ¬ O k) w w1) := (((Keeps.refl _ w).alloc _).trans ((Keeps.of_below (Below.refl _ _).drew).trans (hk1.mono (fun k _ hn o => hn (.inl o))))); clear h1 hk1)
    | (go_at_call 31; refine Calls.mono (HX.out _ _ H1.out) ?_; rintro ee w2 ⟨rfl, h2, hk2⟩; have H2 : Hid (Two (AZ e z s') (RE x y s') (fun k => O k ∨ k = w.heap.size) w2) := h2; have HK2 : Hid (Keeps (fun k => ¬ O k) w w2) := (HK1.out.trans (hk2.mono (fun k _ hn o => hn (.inl o)))); clear h2 hk2))
  all_goals
    go_wp2
    go_ret
    exact ⟨s', rfl, HOk2.out.1, HOk2.out.2, ⟨z, y, HV.out, Two.less H2.out (fun k o => .inl o)⟩, HK2.out⟩
set_option maxHeartbeats 2000000 in
theorem act_evict (h : Both e x b s O w) (hok : A.Ok s) (_ : b ≤ 600000) (key : ByteArray) (hok2 : A.Ok (A.evict s).2) (hc2 : (A.evict s).2.c = s.c) :
    Calls Tryz.prog 8 #[.pointer (some ⟨e, 0, none⟩), .pointer (some ⟨x, 0, none⟩), .agg #[.int .i64 4, .string key]] w (Acted e x b s O w) := by
  obtain ⟨z, y, hv, h⟩ := h
  have HV : Hid (Eqv z y) := hv
  have hacc := Two.onA (Q := fun ee => ee = .returned (wentV (A.evict s).1)) (AZ_lies e z (A.evict s).2) (RE_lies x y s) (AZ_lies e z s) (Two.box (AZ_lies e z s) (RE_lies x y s) h (.cells #[.int .i64 4, .string key] 30)) (fun D hA hD => evictZ hA hok hD)
  have HX : Hid (∀ (O' : Nat → Prop) (W : World), Two (AZ e z (A.evict s).2) (RE x y s) O' W → Calls Tryz.prog 33 #[.pointer (some ⟨x, 0, none⟩)] W fun ee w' => ee = .returned (wentV (A.evict s).1) ∧ Two (AZ e z (A.evict s).2) (RE x y (A.evict s).2) O' w' ∧ Keeps (fun k => ¬ O' k) W w') := fun O' W h2 => Two.onB (Q := fun ee => ee = .returned (wentV (A.evict s).1)) (RE_lies x y (A.evict s).2) (AZ_lies e z (A.evict s).2) (RE_lies x y s) h2 (fun D hA hD => revict_any hA hok hD)
  have HOk2 : Hid (A.Ok (A.evict s).2 ∧ (A.evict s).2.c = s.c) := ⟨hok2, hc2⟩
  clear h hok hok2 hc2 hv
  generalize (A.evict s).2 = s' at *
  obtain ⟨g, q, hw⟩ : ∃ (g : ByteArray) (q : Bool), wentV (A.evict s).1 = .tuple #[.string g, .bool q] := by
    unfold wentV
    split <;> exact ⟨_, _, rfl⟩
  rw [hw] at hacc HX
  have hg : (g.toList == g.toList) = true := by simp
  clear hw
  go_enter Tryz.func8, Tryz.ntmps8
  go_wp2_with (first
    | (go_at_call 32; refine Calls.mono hacc ?_; clear hacc; rintro ee w1 ⟨rfl, h1, hk1⟩; have H1 : Hid (Two (AZ e z s') (RE x y s) (fun k => O k ∨ k = w.heap.size) w1) := h1; have HK1 : Hid (Keeps (fun k => ¬ O k) w w1) := (((Keeps.refl _ w).alloc _).trans (hk1.mono (fun k _ hn o => hn (.inl o)))); clear h1 hk1)
    | (go_at_call 33; refine Calls.mono (HX.out _ _ H1.out) ?_; rintro ee w2 ⟨rfl, h2, hk2⟩; have H2 : Hid (Two (AZ e z s') (RE x y s') (fun k => O k ∨ k = w.heap.size) w2) := h2; have HK2 : Hid (Keeps (fun k => ¬ O k) w w2) := (HK1.out.trans (hk2.mono (fun k _ hn o => hn (.inl o)))); clear h2 hk2))
  go_ret
  exact ⟨s', by first | rfl | simp, HOk2.out.1, HOk2.out.2, ⟨z, y, HV.out, Two.less H2.out (fun k o => .inl o)⟩, HK2.out⟩
theorem inb_inn (key : ByteArray) (zs : List ByteArray) : inn key zs = inb key zs := by
  by_cases h : key ∈ zs
  · rw [inb_yes h, inn_yes h]
  · rw [inb_no h, inn_no h]
set_option maxHeartbeats 2000000 in
theorem act_has (h : Both e x b s O w) (hok : A.Ok s) (_ : b ≤ 600000) (kind : Int) (key : ByteArray) (hk : key.size ≤ 1000) (n1 : ¬ kind = 1) (n2 : ¬ kind = 2) (n3 : ¬ kind = 3) (n4 : ¬ kind = 4) :
    Calls Tryz.prog 8 #[.pointer (some ⟨e, 0, none⟩), .pointer (some ⟨x, 0, none⟩), .agg #[.int .i64 kind, .string key]] w (Acted e x b s O w) := by
  have HH : Hid (Both e x b s O w) := h
  have HOk : Hid (A.Ok s) := hok
  obtain ⟨z, y, hv, h⟩ := h
  have H2 : Hid (Two (AZ e z s) (RE x y s) O w) := h
  have HV : Hid (Eqv z y) := hv
  obtain ⟨D, hA⟩ := Two.left h
  obtain ⟨D2, hR⟩ := Two.right h
  have hbA : Below w.heap.size w (w.alloc (.cells #[.int .i64 kind, .string key] 30)).drew := below_trans' ((Below.refl _ w).alloc (Nat.le_refl _) _) (Below.refl _ _).drew
  have hacc := hasZ (hA.below hbA) key hk
  have HX : Hid (∀ W : World, Below w.heap.size w W → Calls Tryz.prog 12 #[.pointer (some ⟨x, 0, none⟩), .string key] W fun ee w' => ee = .returned (.bool (inb key (A.keys s))) ∧ w' = W) := fun W hW => by
    have := rhas_key (hR.below hW) (Small.of HOk.out) key
    rw [inb_inn] at this
    exact this
  have HbA : Hid (Below w.heap.size w (w.alloc (.cells #[.int .i64 kind, .string key] 30)).drew) := hbA
  clear h hok hA hR hbA hv
  generalize inb key (A.keys s) = r at *
  go_enter Tryz.func8, Tryz.ntmps8
  go_wp2_with fail
  go_region_with (first
    | (go_at_call 11; refine Calls.mono hacc ?_; clear hacc; rintro ee w1 ⟨rfl, hb1⟩; have HB1 : Hid (Below w.heap.size w w1) := (below_trans' HbA.out hb1); have hkc1 := key_kept (w := w) (k := kind) (key := key) (O1 := fun _ => True) ((Keeps.of_below (Below.refl _ _).drew).trans (Keeps.of_below hb1)) trivial; clear hb1)
    | (go_at_call 12; refine Calls.mono (HX.out _ HB1.out) ?_; rintro ee w2 ⟨rfl, rfl⟩))
  all_goals
    go_wp2
    go_ret
    exact ⟨s, rfl, HOk.out, rfl, ⟨z, y, HV.out, Two.below (AZ_lies e z s) (RE_lies x y s) H2.out HB1.out⟩, Keeps.of_below HB1.out⟩
/-- an act, of whatever kind -/
theorem act_any (h : Both e x b s O w) (hok : A.Ok s) (hb : b ≤ 600000) (kind : Int) (key : ByteArray) (hk : key.size ≤ 1000) :
    Calls Tryz.prog 8 #[.pointer (some ⟨e, 0, none⟩), .pointer (some ⟨x, 0, none⟩), .agg #[.int .i64 kind, .string key]] w (Acted e x b s O w) := by
  by_cases n1 : kind = 1
  · subst n1; exact act_access h hok hb key hk
  by_cases n2 : kind = 2
  · subst n2
    have h2 : A.Ok (A.load s key).2 ∧ (A.load s key).2.c = s.c := by
      by_cases hh : key ∈ A.keys s ∨ s.c ≤ (A.keys s).length
      · rw [A.load_no hh]; exact ⟨hok, rfl⟩
      · have := A.load_yes hok (fun h => hh (.inl h)) (by rcases Nat.lt_or_ge (A.keys s).length s.c with h | h; exact h; exact absurd (.inr h) hh)
        exact ⟨this.2.1, this.2.2.1⟩
    exact act_load h hok hb key hk h2.1 h2.2
  by_cases n3 : kind = 3
  · subst n3
    have h2 : A.Ok (A.remove s key).2 ∧ (A.remove s key).2.c = s.c := by
      by_cases hh : key ∈ A.keys s
      · have := A.rem_yes hok hh
        exact ⟨this.2.1, this.2.2.1⟩
      · rw [A.rem_no hh]; exact ⟨hok, rfl⟩
    exact act_remove h hok hb key hk h2.1 h2.2
  by_cases n4 : kind = 4
  · subst n4
    have h2 : A.Ok (A.evict s).2 ∧ (A.evict s).2.c = s.c := by
      by_cases hh : (A.keys s).length = 0
      · rw [A.evi_no hh]; exact ⟨hok, rfl⟩
      · obtain ⟨g, s', e1, e2, e3, _⟩ := A.evi_yes hok hh
        rw [e1]; exact ⟨e2, e3⟩
    exact act_evict h hok hb key h2.1 h2.2
  exact act_has h hok hb kind key hk n1 n2 n3 n4
end
end Go.Proofs.YtcphhlfbjkeikabGreat
