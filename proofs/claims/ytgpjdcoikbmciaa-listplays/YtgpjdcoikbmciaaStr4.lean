/- All of a list of texts; two rows of texts; what is known; a list that isn't there. -/
import Derived.Test.YtgpjdcoikbmciaaStr3
import Derived.BigQuiet
import Derived.WalkSmall
import Derived.WideShapes
namespace Go.Proofs.Ytgpjdcoikbmciaa
open Go.RowKit

section
variable {α : Type} {V : α → Value} {te tl : TypeId} {B : Nat → Prop} {w w' : World} {p : Nat}
/-- new memory leaves a list alone -/
theorem ListIn.below {s : St α} {ad : Option Addr} {cap : Nat} (h : ListIn V te tl B w p s ad cap) (hb : Below w.heap.size w w') : ListIn V te tl B w' p s ad cap :=
  h.far (row := none) ⟨hb.os, hb.tape, hb.output, hb.size, fun k hk _ => hb.block k hk⟩ (fun _ e => by cases e)
theorem LA.below {row free : List Nat} {va : Nat → α} {n : Nat} (h : LA V te tl B w p row free va n) (hb : Below w.heap.size w w') : LA V te tl B w' p row free va n := by
  obtain ⟨s, ⟨ad, cap, H⟩, r⟩ := h
  exact ⟨s, ⟨ad, cap, H.below hb⟩, r⟩
end
def lenOf : Value → Nat | .slice _ n _ => n | _ => 0
theorem Try.info9 : (Try.prog.info? 9).map (fun i => (i.zero, i.size, i.bytes)) = some (some (.string ByteArray.empty), 1, 16) := by kernel_rfl
theorem one_new (w : World) (a : Value) (t : TypeId) (h : a.oneCell' = true) : FromRow (w.alloc (.cells #[a] t)) 1 (some ⟨w.heap.size, 0, none⟩) 1 1 [a] := by
  refine .inr ⟨_, rfl, rfl, ?_, ?_⟩
  · intro j u hu
    have := heap_alloc_new w (.cells #[a] t)
    rw [show (⟨w.heap.size, 0, none⟩ : Addr).add j = ⟨w.heap.size, j, none⟩ by simp [Addr.add_lit], cell_of_block this]
    simpa using hu
  · intro u hu
    simp at hu
    subst hu
    exact h
theorem row_cut {row : List Nat} {k : Nat} (h : k < row.length) : ∃ x, row = row.take k ++ x :: row.drop (k + 1) ∧ row.drop k = x :: row.drop (k + 1) ∧ row.take (k + 1) = row.take k ++ [x] := by
  refine ⟨row[k], ?_, ?_, ?_⟩
  · conv => lhs; rw [← List.take_append_drop k row, List.drop_eq_getElem_cons h]
  · exact List.drop_eq_getElem_cons h
  · simp

set_option maxHeartbeats 1000000 in
theorem all_any {B : Nat → Prop} {w : World} {p : Nat} {row free : List Nat} {va : Nat → ByteArray} {n : Nat} (H : LA Value.string 60 58 B w p row free va n) (hn : n ≤ 1000000) :
    Calls Try.prog 17 #[.pointer (some ⟨p, 0, none⟩)] w fun e w' => ∃ ad cap, e = .returned (.slice ad row.length cap) ∧ w'.ownsRow w.heap.size 9 1 (.slice ad row.length cap) row.length (row.map fun h => Value.string (va h)) ∧ Below w.heap.size w w' := by
  obtain ⟨i0, hi, hz0, hz1, hz2⟩ := info_parts Try.info9
  have HL : Hid _ := H
  obtain ⟨s, ⟨ad, cap, H⟩, R, rfl, rfl⟩ := H
  have hlen : row.length ≤ 1000000 := by have := R.len; omega
  obtain ⟨c0, c1, c2, c3, c4, -⟩ := H.top
  rw [R.front'] at c1
  rw [R.count] at c4
  have HR : Hid _ := R
  have HI := H
  clear R H
  go_enter Try.func17, Try.ntmps17
  go_wp2_with (at_make; refine wpList_make_own _ rfl _ _ 36 rfl w.heap.size 9 i0 _ 1 Try.underlying36 hi hz0 hz1 .i64 .i64 _ row.length rfl rfl rfl (by rw [hz2]; omega) (by unfold maxLen; omega) (Nat.le_refl _) ?_; intro w0 hown0 hgrow0; have e1 := hgrow0.cell c1 (by simp))
  go_loopw [3, 4] (fun v h wr => ∃ k ad cap, k ≤ row.length ∧ v = .slice ad k cap ∧ h = .int .i64 (hdOf (row.drop k) : Nat) ∧ wr.ownsRow w.heap.size 9 1 (.slice ad k cap) k ((row.take k).map fun h => Value.string (s.va h)) ∧ Below w.heap.size w wr) (fun v _ _ => row.length - lenOf v)
  case atStart =>
    exact ⟨0, _, _, Nat.zero_le _, rfl, rfl, hown0, (Below.refl _ w).grown hgrow0 (Nat.le_refl _) (fun k e => by cases e)⟩
  case round =>
    obtain ⟨k, ad1, cap1, hk, rfl, rfl, hown, hb⟩ := hrel
    have hR := HR.out
    obtain ⟨x0, x1, x2, x3, x4, -⟩ := (HI.below hb).top
    rcases Nat.lt_or_ge k row.length with hlt | hge
    · obtain ⟨x, hrow, hdrop, htake⟩ := row_cut hlt
      have hx := (hR.mem x).1 (by rw [hrow]; simp)
      have hnx : s.nx x = hdOf (row.drop (k + 1)) := by rw [hrow] at hR; simpa using hR.aside'.2
      obtain ⟨i, rfl⟩ : ∃ i, x = i + 1 := ⟨x - 1, by omega⟩
      have hH := HI.below hb
      obtain ⟨g, rfl, hg, hp⟩ := HI.slots (by omega)
      obtain ⟨d0, d1, d2, d3, -⟩ := hH.slot (i := i) (by omega)
      have hW := hb.size
      have hd : hdOf (row.drop k) = i + 1 := by rw [hdrop]; rfl
      rw [hnx] at d1
      have HN : Hid _ := hnx
      have HT : Hid _ := htake
      rw [hd]
      clear hR hH hdrop hrow hnx hd htake
      go_wp2_with (at_builtin; go_must (refine wpList_append_from _ rfl _ _ 36 rfl w.heap.size 9 i0 _ 1 16 Try.underlying36 hi hz0 hz1 hz2 rfl (by omega) (.slice ad1 k cap1) k _ rfl (hown.alloc _) _ 1 1 _ rfl (one_new _ _ 9 rfl) (by unfold maxLen; omega) (by omega) (by simp; omega) ?_); intro ad2 cap2 w2 hc2 hown2 hgrow2 hat2; have hb2 : Below w.heap.size w w2 := (hb.alloc hW _).grown hgrow2 (by simp; omega) (fun k e => (hown.lt k e).1); obtain ⟨y0, y1, y2, y3, y4, -⟩ := (HI.below hb2).top; obtain ⟨z0, z1, z2, z3, -⟩ := (HI.below hb2).slot (i := i) (by omega); rw [HN.out] at z1; clear hgrow2 hat2 d0 d1 d2 d3 x0 x1 x2 x3 x4)
      go_roundw
      case rel =>
        refine ⟨k + 1, ad2, cap2, hlt, rfl, rfl, ?_, hb2⟩
        rw [HT.out, List.map_append]
        exact hown2
      case measure => simp [lenOf]; omega
    · have hd : row.drop k = [] := List.drop_eq_nil_of_le hge
      have hk' : k = row.length := by omega
      subst hk'
      rw [hd, show hdOf [] = 0 from rfl]
      rw [List.take_length] at hown
      clear hd hR
      go_wp2_with fail
      go_ret
      exact ⟨_, _, rfl, hown, hb⟩

theorem cell_owned {w : World} {B : Nat} {e : TypeId} {ad : Option Addr} {m cap : Nat} {zs : List ByteArray} (h : w.ownsRow B e 1 (.slice ad m cap) m (zs.map Value.string)) (hm : 0 < m) :
    ∃ g, ad = some ⟨g, 0, none⟩ ∧ B ≤ g ∧ ∀ i, i < m → w.cell? ⟨g, 0 + i, none⟩ = some (.string (zs.getD i ⟨#[]⟩)) := by
  obtain ⟨g, cur, rfl, hb, hg, hc⟩ := ownsRow_block h hm
  refine ⟨g, rfl, hb, fun i hi => ?_⟩
  have hl : zs.length = m := by have := h.1; simpa using this
  rw [Nat.zero_add]
  exact hc i _ (by rw [List.getElem?_map, List.getElem?_eq_getElem (by omega)]; simp [List.getD, List.getElem?_eq_getElem (show i < zs.length by omega)])
theorem bytes_beq (x y : ByteArray) : (x.toList == y.toList) = decide (x = y) := by
  by_cases h : x = y
  · subst h; simp
  · have : ¬ x.toList = y.toList := by
      intro e
      rw [ByteArray.toList_eq, ByteArray.toList_eq] at e
      exact h (Go.WideShapes.bytes_inj e)
    simp [h, this]
theorem take_more {z1 z2 : List ByteArray} {k : Nat} (h1 : k < z1.length) (h2 : k < z2.length) (h : z1.take k = z2.take k) (e : z1.getD k ⟨#[]⟩ = z2.getD k ⟨#[]⟩) : z1.take (k + 1) = z2.take (k + 1) := by
  rw [List.take_add_one, List.take_add_one, h, List.getElem?_eq_getElem h1, List.getElem?_eq_getElem h2]
  simp [List.getD, List.getElem?_eq_getElem h1, List.getElem?_eq_getElem h2] at e
  rw [e]
/-- texts that lie behind a slice -/
def TextsAt (w : World) (ad : Option Addr) (zs : List ByteArray) : Prop := zs = [] ∨ ∃ g off, ad = some ⟨g, off, none⟩ ∧ ∀ i, i < zs.length → w.cell? ⟨g, off + i, none⟩ = some (.string (zs.getD i ⟨#[]⟩))
theorem TextsAt.own {w : World} {B : Nat} {e : TypeId} {ad : Option Addr} {m cap : Nat} {zs : List ByteArray} (h : w.ownsRow B e 1 (.slice ad m cap) m (zs.map Value.string)) : TextsAt w ad zs := by
  have hl : zs.length = m := by have := h.1; simpa using this
  rcases Nat.eq_zero_or_pos m with h0 | h0
  · exact .inl (List.eq_nil_of_length_eq_zero (by omega))
  · obtain ⟨g, e1, _, h2⟩ := cell_owned h h0
    exact .inr ⟨g, 0, e1, by rw [hl]; exact h2⟩
set_option maxHeartbeats 1000000 in
theorem texts_any {w : World} {ad1 ad2 : Option Addr} {m1 m2 cap1 cap2 : Nat} {z1 z2 : List ByteArray} (h1 : TextsAt w ad1 z1) (h2 : TextsAt w ad2 z2) (e1 : z1.length = m1) (e2 : z2.length = m2) (h5 : m1 ≤ 1000000) (h6 : m2 ≤ 1000000) :
    Calls Try.prog 16 #[.slice ad1 m1 cap1, .slice ad2 m2 cap2] w fun e w' => e = .returned (.bool (decide (z1 = z2))) ∧ Below w.heap.size w w' := by
  subst e1 e2
  by_cases hl : z1.length = z2.length
  · have hl2 : (z2.length : Int) = z1.length := by omega
    have c1 : ∀ k, k < z1.length → ∃ g off, ad1 = some ⟨g, off, none⟩ ∧ w.cell? ⟨g, off + k, none⟩ = some (.string (z1.getD k ⟨#[]⟩)) := by
      intro k hk
      rcases h1 with rfl | ⟨g, off, e, h⟩
      · simp at hk
      · exact ⟨g, off, e, h k hk⟩
    have c2 : ∀ k, k < z1.length → ∃ g off, ad2 = some ⟨g, off, none⟩ ∧ w.cell? ⟨g, off + k, none⟩ = some (.string (z2.getD k ⟨#[]⟩)) := by
      intro k hk
      rcases h2 with rfl | ⟨g, off, e, h⟩
      · simp at hl; simp [hl] at hk
      · exact ⟨g, off, e, h k (by omega)⟩
    have HL : Hid _ := hl
    have HC1 : Hid _ := c1
    have HC2 : Hid _ := c2
    rw [← hl]
    clear h1 h2 c1 c2 hl hl2
    go_enter Try.func16, Try.ntmps16
    go_wp2
    go_loopw [5] (fun i wr => ∃ k : Nat, k ≤ z1.length ∧ i = .int .i64 k ∧ z1.take k = z2.take k ∧ Below w.heap.size w wr) (fun i _ => z1.length - (intOf i).toNat)
    case atStart => exact ⟨0, Nat.zero_le _, rfl, rfl, Below.refl _ _⟩
    case round =>
      obtain ⟨k, hk, rfl, heq, hb⟩ := hrel
      have HE : Hid _ := heq
      clear heq
      rcases Nat.lt_or_ge k z1.length with hlt | hge
      · obtain ⟨g1, o1, ea1, d1⟩ := HC1.out k hlt
        obtain ⟨g2, o2, ea2, d2⟩ := HC2.out k hlt
        subst ea1 ea2
        replace d1 := cell_later hb d1
        replace d2 := cell_later hb d2
        obtain ⟨x1, ex1⟩ : ∃ x, x = z1.getD k ⟨#[]⟩ := ⟨_, rfl⟩
        obtain ⟨x2, ex2⟩ : ∃ x, x = z2.getD k ⟨#[]⟩ := ⟨_, rfl⟩
        rw [← ex1] at d1
        rw [← ex2] at d2
        have HX1 : Hid _ := ex1
        have HX2 : Hid _ := ex2
        clear ex1 ex2
        go_wp2
        go_quiet (fail)
        go_wp2
        · have hne : ¬ x1 = x2 := by
            intro e
            subst e
            simp_all
          go_ret
          have hz : decide (z1 = z2) = false := by
            simp only [decide_eq_false_iff_not]
            intro e
            apply hne
            rw [HX1.out, HX2.out, e]
          rw [hz]
          exact ⟨rfl, below_drewN hb _⟩
        · have heq : x1 = x2 := by
            have h : (!x1.toList == x2.toList) = false := by assumption
            rw [bytes_beq] at h
            simpa using h
          go_roundw
          case rel => exact ⟨k + 1, hlt, by go_num, take_more hlt (by have := HL.out; omega) HE.out (by rw [← HX1.out, ← HX2.out]; exact heq), below_drewN hb _⟩
          case measure => simp [intOf]; omega
      · have hk' : k = z1.length := by omega
        subst hk'
        have hz : decide (z1 = z2) = true := by
          have e := HE.out
          rw [List.take_length, HL.out, List.take_length] at e
          simp [e]
        have HZ : Hid _ := hz
        clear hz
        go_wp2
        go_ret
        exact ⟨by rw [HZ.out]; rfl, hb⟩
  · have hne : decide (z1 = z2) = false := by simp; intro e; exact hl (by rw [e])
    rw [hne]
    clear h1 h2 hne
    have hl' : ¬ ((z1.length : Int) = z2.length) := by omega
    go_enter Try.func16, Try.ntmps16
    go_wp2
    go_ret
    exact ⟨rfl, Below.refl _ _⟩

/-! ### a list that isn't there -/
theorem has_nil (hd : Int) (w : World) : Calls Try.prog 53 #[.pointer none, .int .i64 hd] w fun e w' => e = .returned (.bool false) ∧ w' = w := by
  go_enter Try.func53, Try.ntmps53
  go_wp2
  go_ret
  exact ⟨rfl, rfl⟩
theorem get_nil (hd : Int) (w : World) : Calls Try.prog 33 #[.pointer none, .int .i64 hd] w fun e w' => e = .returned (.tuple #[.string ⟨#[]⟩, .bool false]) ∧ w' = w := by
  go_enter Try.func33, Try.ntmps33
  go_wp2_with (go_at_call 53; refine (has_nil hd w).mono ?_; rintro e w1 ⟨rfl, rfl⟩)
  go_ret2
  exact ⟨rfl, rfl⟩
theorem remove_nil (hd : Int) (w : World) : Calls Try.prog 34 #[.pointer none, .int .i64 hd] w fun e w' => e = .returned (.tuple #[.string ⟨#[]⟩, .bool false]) ∧ w' = w := by
  go_enter Try.func34, Try.ntmps34
  go_wp2_with (go_at_call 53; refine (has_nil hd w).mono ?_; rintro e w1 ⟨rfl, rfl⟩)
  go_ret2
  exact ⟨rfl, rfl⟩
theorem pushFront_nil (v : ByteArray) (w : World) : Calls Try.prog 35 #[.pointer none, .string v] w fun e w' => e = .returned (.int .i64 0) ∧ w' = w := by
  go_enter Try.func35, Try.ntmps35
  go_wp2
  go_ret
  exact ⟨rfl, rfl⟩
theorem pushBack_nil (v : ByteArray) (w : World) : Calls Try.prog 32 #[.pointer none, .string v] w fun e w' => e = .returned (.int .i64 0) ∧ w' = w := by
  go_enter Try.func32, Try.ntmps32
  go_wp2
  go_ret
  exact ⟨rfl, rfl⟩
theorem set_nil (hd : Int) (v : ByteArray) (w : World) : Calls Try.prog 36 #[.pointer none, .int .i64 hd, .string v] w fun e w' => e = .returned (.bool false) ∧ w' = w := by
  go_enter Try.func36, Try.ntmps36
  go_wp2_with (go_at_call 53; refine (has_nil hd w).mono ?_; rintro e w1 ⟨rfl, rfl⟩)
  go_ret
  exact ⟨rfl, rfl⟩
theorem toFront_nil (hd : Int) (w : World) : Calls Try.prog 37 #[.pointer none, .int .i64 hd] w fun e w' => e = .returned (.bool false) ∧ w' = w := by
  go_enter Try.func37, Try.ntmps37
  go_wp2_with (go_at_call 53; refine (has_nil hd w).mono ?_; rintro e w1 ⟨rfl, rfl⟩)
  go_ret
  exact ⟨rfl, rfl⟩
theorem toBack_nil (hd : Int) (w : World) : Calls Try.prog 38 #[.pointer none, .int .i64 hd] w fun e w' => e = .returned (.bool false) ∧ w' = w := by
  go_enter Try.func38, Try.ntmps38
  go_wp2_with (go_at_call 53; refine (has_nil hd w).mono ?_; rintro e w1 ⟨rfl, rfl⟩)
  go_ret
  exact ⟨rfl, rfl⟩
theorem next_nil (hd : Int) (w : World) : Calls Try.prog 31 #[.pointer none, .int .i64 hd] w fun e w' => e = .returned (.int .i64 0) ∧ w' = w := by
  go_enter Try.func31, Try.ntmps31
  go_wp2_with (go_at_call 53; refine (has_nil hd w).mono ?_; rintro e w1 ⟨rfl, rfl⟩)
  go_ret
  exact ⟨rfl, rfl⟩
theorem prev_nil (hd : Int) (w : World) : Calls Try.prog 39 #[.pointer none, .int .i64 hd] w fun e w' => e = .returned (.int .i64 0) ∧ w' = w := by
  go_enter Try.func39, Try.ntmps39
  go_wp2_with (go_at_call 53; refine (has_nil hd w).mono ?_; rintro e w1 ⟨rfl, rfl⟩)
  go_ret
  exact ⟨rfl, rfl⟩
theorem front_nil (w : World) : Calls Try.prog 12 #[.pointer none] w fun e w' => e = .returned (.int .i64 0) ∧ w' = w := by
  go_enter Try.func12, Try.ntmps12
  go_wp2
  go_ret
  exact ⟨rfl, rfl⟩
theorem back_nil (w : World) : Calls Try.prog 14 #[.pointer none] w fun e w' => e = .returned (.int .i64 0) ∧ w' = w := by
  go_enter Try.func14, Try.ntmps14
  go_wp2
  go_ret
  exact ⟨rfl, rfl⟩
theorem len_nil (w : World) : Calls Try.prog 19 #[.pointer none] w fun e w' => e = .returned (.int .i64 0) ∧ w' = w := by
  go_enter Try.func19, Try.ntmps19
  go_wp2
  go_ret
  exact ⟨rfl, rfl⟩
theorem all_nil (w : World) : Calls Try.prog 17 #[.pointer none] w fun e w' => e = .returned (.slice none 0 0) ∧ w' = w := by
  go_enter Try.func17, Try.ntmps17
  go_wp2
  go_ret
  exact ⟨rfl, rfl⟩
end Go.Proofs.Ytgpjdcoikbmciaa
