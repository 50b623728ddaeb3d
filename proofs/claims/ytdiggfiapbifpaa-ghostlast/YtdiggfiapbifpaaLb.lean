/- What each function of a list of texts answers, and what becomes of its row: New, PushBack, Get, Remove, Front, Len, All. -/
import Derived.Test.YtdiggfiapbifpaaLa
import Derived.BigQuiet
import Derived.WalkSmall
import Derived.WideShapes
namespace Go.Proofs.Ytdiggfiapbifpaa.Ls
open Go.RowKit

theorem make_any (w : World) (B : Nat → Prop) (hB : B w.heap.size) :
    Calls Try.prog 20 #[] w fun e w' => ∃ p, e = .returned (.pointer (some ⟨p, 0, none⟩)) ∧ LA Value.string 72 62 B w' p [] [] (fun _ => ⟨#[]⟩) 0 ∧ Keeps B w w' :=
  (new_any w B hB (fun _ => ⟨#[]⟩) (fun _ => false)).mono fun _ _ ⟨p, h1, h2, h3, _⟩ => ⟨p, h1, ⟨_, h2, Rep.empty _ _, rfl, rfl⟩, h3⟩

set_option maxHeartbeats 400000 in
theorem pushBack_any {B : Nat → Prop} {w : World} {p : Nat} {row free : List Nat} {va : Nat → ByteArray} {n : Nat} (H : LA Value.string 72 62 B w p row free va n) (hB : ∀ k, w.heap.size ≤ k → B k) (v : ByteArray) (hn : n ≤ 900000) :
    Calls Try.prog 25 #[.pointer (some ⟨p, 0, none⟩), .string v] w fun e w' => e = .returned (.int .i64 (handOf free n)) ∧ LA Value.string 72 62 B w' p (row ++ [handOf free n]) free.tail (upd va (handOf free n) v) (moreOf free n) ∧ Keeps B w w' := by
  obtain ⟨s, H, R, rfl, rfl⟩ := H
  obtain ⟨L, hL⟩ := ring_ahead' row
  have hf := R.hand_eq.2
  obtain ⟨h0, _, hle, _⟩ := R.hand_new
  obtain ⟨em, eh⟩ := R.more
  have hcl : s.count ≤ 1000000 := by have := R.len; have := R.count; omega
  have hpv : (s.give v).pv 0 = row.getLastD 0 := (upd_far _ _ (Ne.symm h0)).trans R.back
  have R2 : Rep ((s.give v).tie s.hand ((s.give v).pv 0) 0) (row ++ [s.hand]) free.tail := Rep.push (l := row) (r := []) (by simpa using R) v (a := (s.give v).pv 0) (b := 0) (L := L) (Z := []) (by rw [hpv]; exact hL) rfl
  have hgn : (s.give v).n ≤ 1000000 := by show (if s.free = 0 then s.n + 1 else s.n) ≤ _; split <;> omega
  have hgh : s.hand ≤ (s.give v).n := hle
  have hgx : (s.give v).pv 0 ≤ (s.give v).n := by
    rw [hpv, ← R.back]
    show _ ≤ (if s.free = 0 then s.n + 1 else s.n)
    have := R.ends
    split <;> omega
  have hlo := H.lo
  have HR : Hid _ := R2
  have HM : Hid _ := em
  rw [← eh]
  clear R2 R hL hpv em eh h0 hle
  go_enter Try.func25, Try.ntmps25
  go_wp2_with (first
    | (go_at_call 38; refine (give_any H hB v hf hcl (by omega)).mono ?_; rintro e w1 ⟨rfl, ⟨ad, cap, H1⟩, hb1⟩; obtain ⟨c0, c1, -, -, -, -⟩ := H1.top; clear H)
    | (go_at_call 35; refine (tie_any ⟨_, _, H1⟩ s.hand ((s.give v).pv 0) 0 hgh hgx (by omega) hgn).mono ?_; rintro e w2 ⟨rfl, H2, hb2⟩; clear H1))
  go_ret
  exact ⟨rfl, ⟨_, H2, HR.out, rfl, HM.out⟩, hb1.trans hb2⟩
section
variable {B : Nat → Prop} {w : World} {p : Nat} {row free : List Nat} {va : Nat → ByteArray} {n : Nat}
set_option maxHeartbeats 1000000 in
theorem remove_in {l r : List Nat} (hd : Nat) (H : LA Value.string 72 62 B w p (l ++ hd :: r) free va n) (hn : n ≤ 1000000) :
    Calls Try.prog 30 #[.pointer (some ⟨p, 0, none⟩), .int .i64 hd] w fun e w' => e = .returned (.tuple #[.string (va hd), .bool true]) ∧ LA Value.string 72 62 B w' p (l ++ r) (hd :: free) (upd va hd ⟨#[]⟩) n ∧ Keeps B w w' := by
  obtain ⟨s, H, R, rfl, rfl⟩ := H
  have hh := has_any H hd hn
  rw [R.has_in (by simp)] at hh
  have hm := (R.mem hd).1 (by simp)
  have hc := R.count
  have hl := R.len
  obtain ⟨b1, b2, -, -⟩ := R.beside
  have hu := untie_any H hd hm.2 b1 b2 hn
  obtain ⟨i, rfl⟩ : ∃ i, hd = i + 1 := ⟨hd - 1, by omega⟩
  have R2 := R.removed (⟨#[]⟩ : ByteArray)
  have hcount : 1 ≤ s.count ∧ s.count ≤ 1000000 := by simp at hc hl; omega
  have hi : i < s.n := by omega
  obtain ⟨S, hS, en, ec, ev⟩ : ∃ S, S = s.untie (i + 1) ∧ S.n = s.n ∧ S.count = s.count ∧ S.va = s.va := ⟨_, rfl, rfl, rfl, rfl⟩
  rw [← hS] at hu R2
  rw [← en] at hi hn ⊢
  rw [← ec] at hcount
  rw [← ev]
  have HR : Hid _ := R2
  clear H R R2 hc hl b1 b2 hS en ec ev hm
  go_enter Try.func30, Try.ntmps30
  go_wp2_with (first
    | (go_at_call 33; refine hh.mono ?_; rintro e w1 ⟨rfl, rfl⟩; clear hh)
    | (go_at_call 34; refine hu.mono ?_; rintro e w2 ⟨rfl, ⟨ad, cap, H1⟩, hb1⟩; clear hu; obtain ⟨c0, c1, c2, c3, c4, f0, f1, f2, f3, f4⟩ := H1.top; obtain ⟨g, rfl, hg, hp⟩ := H1.slots (Nat.lt_of_le_of_lt (Nat.zero_le _) hi); obtain ⟨d0, d1, d2, d3, e0, e1, e2, e3⟩ := H1.slot (i := i) hi))
  have lp := H1.1
  go_region
  go_wp2_with fail
  go_ret2
  exact ⟨rfl, ⟨_, ⟨_, _, (H1.setDrop i ⟨#[]⟩ ((S.count : Int) - 1) (by omega)).drew⟩, HR.out, rfl, rfl⟩, ((((((hb1.setCell hg _).setCell hg _).setCell hg _).setCell hg _).setCell lp _).setCell lp _).drew⟩
theorem front_any (H : LA Value.string 72 62 B w p row free va n) : Calls Try.prog 40 #[.pointer (some ⟨p, 0, none⟩)] w fun e w' => e = .returned (.int .i64 (hdOf row : Nat)) ∧ w' = w := by
  obtain ⟨s, ⟨ad, cap, H⟩, R, rfl, rfl⟩ := H
  obtain ⟨c0, c1, -, -, -, -⟩ := H.top
  rw [← R.front']
  clear H R
  go_enter Try.func40, Try.ntmps40
  go_wp2
  go_ret
  exact ⟨rfl, rfl⟩
theorem len_any (H : LA Value.string 72 62 B w p row free va n) : Calls Try.prog 27 #[.pointer (some ⟨p, 0, none⟩)] w fun e w' => e = .returned (.int .i64 (row.length : Nat)) ∧ w' = w := by
  obtain ⟨s, ⟨ad, cap, H⟩, R, rfl, rfl⟩ := H
  obtain ⟨c0, c1, c2, c3, c4, -⟩ := H.top
  rw [← R.count]
  clear H R
  go_enter Try.func27, Try.ntmps27
  go_wp2
  go_ret
  exact ⟨rfl, rfl⟩
end
section
variable {α : Type} {V : α → Value} {te tl : TypeId} {B : Nat → Prop} {w w' : World} {p : Nat}
/-- new memory leaves a list alone -/
theorem ListIn.below {s : St α} {ad : Option Addr} {cap : Nat} (h : ListIn V te tl B w p s ad cap) (hb : Below w.heap.size w w') : ListIn V te tl B w' p s ad cap :=
  h.far (row := none) ⟨hb.os, hb.tape, hb.output, hb.size, fun k hk _ => hb.block k hk⟩ (fun _ e => by cases e)
theorem LA.below {row free : List Nat} {va : Nat → α} {n : Nat} (h : LA V te tl B w p row free va n) (hb : Below w.heap.size w w') : LA V te tl B w' p row free va n := by
  obtain ⟨s, ⟨ad, cap, H⟩, r⟩ := h
  exact ⟨s, ⟨ad, cap, H.below hb⟩, r⟩
end
def lenOf : Value → Nat | .slice _ n _ => n | _ => 0
theorem infoStr : (Try.prog.info? 9).map (fun i => (i.zero, i.size, i.bytes)) = some (some (.string ByteArray.empty), 1, 16) := by kernel_rfl
theorem one_new (w : World) (a : Value) (t : TypeId) (h : a.oneCell' = true) : FromRow (w.alloc (.cells #[a] t)) 1 (some ⟨w.heap.size, 0, none⟩) 1 1 [a] := by
  refine .inr ⟨_, rfl, rfl, ?_, ?_⟩
  · intro j u hu
    have := heap_alloc_new w (.cells #[a] t)
    rw [show (⟨w.heap.size, 0, none⟩ : Addr).add j = ⟨w.heap.size, j, none⟩ by simp [Addr.add_lit], cell_of_block this]
    simpa using hu
  · intro u hu
    simp at hu
    subst hu
    exact h
theorem row_cut {row : List Nat} {k : Nat} (h : k < row.length) : ∃ x, row = row.take k ++ x :: row.drop (k + 1) ∧ row.drop k = x :: row.drop (k + 1) ∧ row.take (k + 1) = row.take k ++ [x] := by
  refine ⟨row[k], ?_, ?_, ?_⟩
  · conv => lhs; rw [← List.take_append_drop k row, List.drop_eq_getElem_cons h]
  · exact List.drop_eq_getElem_cons h
  · simp

set_option maxRecDepth 100000 in
set_option maxHeartbeats 2000000 in
theorem all_any {B : Nat → Prop} {w : World} {p : Nat} {row free : List Nat} {va : Nat → ByteArray} {n : Nat} (H : LA Value.string 72 62 B w p row free va n) (hn : n ≤ 1000000) :
    Calls Try.prog 31 #[.pointer (some ⟨p, 0, none⟩)] w fun e w' => ∃ ad cap, e = .returned (.slice ad row.length cap) ∧ w'.ownsRow w.heap.size 9 1 (.slice ad row.length cap) row.length (row.map fun h => Value.string (va h)) ∧ Below w.heap.size w w' := by
  obtain ⟨i0, hi, hz0, hz1, hz2⟩ := info_parts infoStr
  have HL : Hid _ := H
  obtain ⟨s, ⟨ad, cap, H⟩, R, rfl, rfl⟩ := H
  have hlen : row.length ≤ 1000000 := by have := R.len; omega
  obtain ⟨c0, c1, c2, c3, c4, -⟩ := H.top
  rw [R.front'] at c1
  rw [R.count] at c4
  have HR : Hid _ := R
  have HI := H
  clear R H
  go_enter Try.func31, Try.ntmps31
  go_wp2_with (at_make; refine wpList_make_own _ rfl _ _ 34 rfl w.heap.size 9 i0 _ 1 Try.underlying34 hi hz0 hz1 .i64 .i64 _ row.length rfl rfl rfl (by rw [hz2]; omega) (by unfold maxLen; omega) (Nat.le_refl _) ?_; intro w0 hown0 hgrow0; have e1 := hgrow0.cell c1 (by simp))
  go_loopw [3, 4] (fun v h wr => ∃ k ad cap, k ≤ row.length ∧ v = .slice ad k cap ∧ h = .int .i64 (hdOf (row.drop k) : Nat) ∧ wr.ownsRow w.heap.size 9 1 (.slice ad k cap) k ((row.take k).map fun h => Value.string (s.va h)) ∧ Below w.heap.size w wr) (fun v _ _ => row.length - lenOf v)
  case atStart =>
    exact ⟨0, _, _, Nat.zero_le _, rfl, rfl, hown0, (Below.refl _ w).grown hgrow0 (Nat.le_refl _) (fun k e => by cases e)⟩
  case round =>
    obtain ⟨k, ad1, cap1, hk, rfl, rfl, hown, hb⟩ := hrel
    have hR := HR.out
    obtain ⟨x0, x1, x2, x3, x4, -⟩ := (HI.below hb).top
    rcases Nat.lt_or_ge k row.length with hlt | hge
    · obtain ⟨x, hrow, hdrop, htake⟩ := row_cut hlt
      have hx := (hR.mem x).1 (by rw [hrow]; simp)
      have hnx : s.nx x = hdOf (row.drop (k + 1)) := by rw [hrow] at hR; simpa using hR.aside'.2
      obtain ⟨i, rfl⟩ : ∃ i, x = i + 1 := ⟨x - 1, by omega⟩
      have hH := HI.below hb
      obtain ⟨g, rfl, hg, hp⟩ := HI.slots (by omega)
      obtain ⟨d0, d1, d2, d3, -⟩ := hH.slot (i := i) (by omega)
      have hW := hb.size
      have hd : hdOf (row.drop k) = i + 1 := by rw [hdrop]; rfl
      rw [hnx] at d1
      have HN : Hid _ := hnx
      have HT : Hid _ := htake
      rw [hd]
      clear hR hH hdrop hrow hnx hd htake
      go_wp2_with (at_builtin; go_must (refine wpList_append_from _ rfl _ _ 34 rfl w.heap.size 9 i0 _ 1 16 Try.underlying34 hi hz0 hz1 hz2 rfl (by omega) (.slice ad1 k cap1) k _ rfl (hown.alloc _) _ 1 1 _ rfl (one_new _ _ 9 rfl) (by unfold maxLen; omega) (by omega) (by simp; omega) ?_); intro ad2 cap2 w2 hc2 hown2 hgrow2 hat2; have hb2 : Below w.heap.size w w2 := (hb.alloc hW _).grown hgrow2 (by simp; omega) (fun k e => (hown.lt k e).1); obtain ⟨y0, y1, y2, y3, y4, -⟩ := (HI.below hb2).top; obtain ⟨z0, z1, z2, z3, -⟩ := (HI.below hb2).slot (i := i) (by omega); rw [HN.out] at z1; clear hgrow2 hat2 d0 d1 d2 d3 x0 x1 x2 x3 x4)
      go_roundw
      case rel =>
        refine ⟨k + 1, ad2, cap2, hlt, rfl, rfl, ?_, hb2⟩
        rw [HT.out, List.map_append]
        exact hown2
      case measure => simp [lenOf]; omega
    · have hd : row.drop k = [] := List.drop_eq_nil_of_le hge
      have hk' : k = row.length := by omega
      subst hk'
      rw [hd, show hdOf [] = 0 from rfl]
      rw [List.take_length] at hown
      clear hd hR
      go_wp2_with fail
      go_ret
      exact ⟨_, _, rfl, hown, hb⟩

end Go.Proofs.Ytdiggfiapbifpaa.Ls
