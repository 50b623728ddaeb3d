/- The document's machine: out, leave, top, prune. -/
import Derived.Test.YtcbaalodhgkgmaaRfc
namespace Go.Proofs.Ytcbaalodhgkgmaa
open Go.RowKit

namespace C
/-- without a key -/
def out (l : List It) (k : ByteArray) : List It := l.filter (fun z => decide (z.key ≠ k))
theorem out_le (l : List It) (k : ByteArray) : (out l k).length ≤ l.length := List.length_filter_le _ _
theorem out_yes {l : List It} {k : ByteArray} {j : Nat} {z : It} (h : l[j]? = some z) (hz : z.key ≠ k) : out (l.take (j + 1)) k = out (l.take j) k ++ [z] := by
  rw [List.take_add_one, h]
  simp [out, hz]
theorem out_no {l : List It} {k : ByteArray} {j : Nat} {z : It} (h : l[j]? = some z) (hz : z.key = k) : out (l.take (j + 1)) k = out (l.take j) k := by
  rw [List.take_add_one, h]
  simp [out, hz]
theorem out_take (l : List It) (k : ByteArray) (j : Nat) : (out (l.take j) k).length ≤ l.length := by
  have h1 := out_le (l.take j) k
  simp at h1
  omega
/-- a key on top -/
def top (l : List It) (k : ByteArray) (n : Nat) : List It := out l k ++ [⟨k, n⟩]
/-- what is not hot leaves the bottom -/
def pr (l : List It) : List It := l.dropWhile (fun z => decide (z.n ≠ 104))
theorem pr_le (l : List It) : (pr l).length ≤ l.length := (List.dropWhile_suffix _).length_le
theorem pr_stop {z : It} {r : List It} (h : z.n = 104) : pr (z :: r) = z :: r := by simp [pr, h]
theorem pr_step {z : It} {r : List It} (h : z.n ≠ 104) : pr (z :: r) = pr r := by simp [pr, h]
theorem Row.old {B : Nat} {w w' : World} {ad : Option Addr} {cap : Nat} {zs : List It} (h : Row (fun g => B ≤ g ∨ w.heap.size ≤ g) w' ad cap zs) (hB : B ≤ w.heap.size) : Row (B ≤ ·) w' ad cap zs := h.wide (fun g _ h => by
  show B ≤ g
  rcases h with h | h
  · exact h
  · omega)
end C
theorem rrow_old {B : Nat} {w w' : World} {ad : Option Addr} {cap : Nat} {zs : List ByteArray} (h : Row (fun g => B ≤ g ∨ w.heap.size ≤ g) w' ad cap zs) (hB : B ≤ w.heap.size) : Row (B ≤ ·) w' ad cap zs := h.wide (fun g _ h => by
  show B ≤ g
  rcases h with h | h
  · exact h
  · omega)
theorem rcut_no {zs : List ByteArray} {k : ByteArray} {j : Nat} (h : zs[j]? = some k) : A.cut (zs.take (j + 1)) k = A.cut (zs.take j) k := by
  rw [List.take_add_one, h]
  simp [A.cut]
theorem rcut_yes {zs : List ByteArray} {k z : ByteArray} {j : Nat} (h : zs[j]? = some z) (hz : z ≠ k) : A.cut (zs.take (j + 1)) k = A.cut (zs.take j) k ++ [z] := by
  rw [List.take_add_one, h]
  simp [A.cut, hz]
theorem rcut_len (zs : List ByteArray) (k : ByteArray) (j : Nat) : (A.cut (zs.take j) k).length ≤ zs.length := by
  have h1 := A.length_cut_le (zs.take j) k
  have h2 : (zs.take j).length ≤ zs.length := by simp; omega
  omega
section
variable {D D' : Nat → Prop} {w w' : World} {x : Nat} {s : Rs}
set_option maxHeartbeats 2000000 in
theorem rout_any (H : RM x s D w) (hs : s.s.length ≤ 5000) (hD : ∀ k, w.heap.size ≤ k → D k) (k : ByteArray) :
    Calls Try.prog 73 #[.pointer (some ⟨x, 0, none⟩), .string k] w fun e w' => e = .returned (.tuple #[]) ∧ RM x { s with s := C.out s.s k } D w' ∧ Keeps D w w' := by
  have HP : Hid (∀ (W : World) (a4 : Option Addr) (c4 : Nat), Below w.heap.size w W → C.Row (w.heap.size ≤ ·) W a4 c4 (C.out s.s k) → RM x { s with s := C.out s.s k } D (W.setCell ⟨x, 0, none⟩ (.slice a4 (C.out s.s k).length c4)) ∧ Keeps D w (W.setCell ⟨x, 0, none⟩ (.slice a4 (C.out s.s k).length c4))) := fun W a4 c4 hb hr => H.new1 hD hb hr
  obtain ⟨L, a1, c1, a2, c2, H⟩ := H
  have HC : Hid (∀ W : World, Below w.heap.size w W → W.cell? ⟨x, 0, none⟩ = some (.slice a1 s.s.length c1) ∧ W.frozen? ⟨x, 0, none⟩ = false) := fun W hW => ⟨(H.below hW).cells.1, (H.below hW).thaw.1⟩
  have HR : Hid (C.Row (fun g => D g ∧ L g = 1) w a1 c1 s.s) := H.r1
  clear H hD
  generalize hl : s.s = l at *
  clear hl
  go_enter Try.func73, Try.ntmps73
  go_wp2_with fail
  go_loopw [4, 5] (fun v i wr => ∃ (j : Nat) (a4 : Option Addr) (c4 : Nat), j ≤ l.length ∧ i = .int .i64 j ∧ v = .slice a4 (C.out (l.take j) k).length c4 ∧ C.Row (w.heap.size ≤ ·) wr a4 c4 (C.out (l.take j) k) ∧ Below w.heap.size w wr) (fun _ i _ => l.length - (intOf i).toNat)
  case atStart => exact ⟨0, none, 0, Nat.zero_le _, rfl, rfl, C.Row.nil, Below.refl _ _⟩
  case round =>
    obtain ⟨j, a4, c4, hj, rfl, rfl, hrow, hb⟩ := hrel
    have hsz := hb.size
    have hcl := C.out_take l k j
    obtain ⟨d0, t0⟩ := HC.out wr hb
    have HRow : Hid (C.Row (w.heap.size ≤ ·) wr a4 c4 (C.out (l.take j) k)) := hrow
    clear hrow
    rcases Nat.lt_or_ge j l.length with hlt | hge
    · obtain ⟨z, hz⟩ : ∃ z, l[j]? = some z := ⟨_, List.getElem?_eq_getElem hlt⟩
      obtain ⟨g, off, rfl, -, -, k0, k1, -⟩ := (HR.out.below hb).at hz
      have HZ : Hid (l[j]? = some z) := hz
      clear hz
      by_cases he : z.key = k
      · have hE : (z.key.toList == k.toList) = true := by rw [bytes_beq, decide_eq_true he]
        have HF : Hid (C.out (l.take (j + 1)) k = C.out (l.take j) k) := C.out_no HZ.out he
        clear he
        generalize C.out (l.take j) k = m at *
        go_wp2_with fail
        go_roundw
        case rel => exact ⟨j + 1, a4, c4, hlt, by go_num, by rw [HF.out], by rw [HF.out]; exact HRow.out, hb⟩
        case measure => simp [intOf]; omega
      · have hE : (z.key.toList == k.toList) = false := by rw [bytes_beq, decide_eq_false he]
        have HF : Hid (C.out (l.take (j + 1)) k = C.out (l.take j) k ++ [z]) := C.out_yes HZ.out he
        clear he
        generalize C.out (l.take j) k = m at *
        go_wp2_with (at_builtin; go_must (refine C.wpList_append_row (ks := [z]) rfl _ _ rfl rfl (HRow.out.below ((Below.refl _ wr).alloc (Nat.le_refl _) _)) rfl (C.src_one _ z.key z.n) (by simp; omega) ?_); intro a5 n5 w5 hr5 hk5; have hb5 : Below w.heap.size w w5 := (hb.alloc hsz _).trans (hk5.below (by simp; omega) (fun _ h => h)); have hr5' : C.Row (w.heap.size ≤ ·) w5 a5 n5 (m ++ [z]) := hr5.old (by simp; omega); clear hr5 hk5)
        go_roundw
        case rel => exact ⟨j + 1, a5, n5, hlt, by go_num, by rw [HF.out]; simp, by rw [HF.out]; exact hr5', hb5⟩
        case measure => simp [intOf]; omega
    · have hj' : j = l.length := by omega
      subst hj'
      rw [List.take_length] at *
      have HPP := HP.out wr a4 c4 hb HRow.out
      have HPo : Hid _ := HPP
      clear HPP
      generalize (C.out l k).length = m at *
      go_wp2_with fail
      exact ⟨rfl, .tuple #[], results_none rfl _ _ _, rfl, HPo.out.1, HPo.out.2⟩
set_option maxHeartbeats 2000000 in
theorem rleave_any (H : RM x s D w) (hs : s.q.length ≤ 5000) (hD : ∀ k, w.heap.size ≤ k → D k) (k : ByteArray) :
    Calls Try.prog 69 #[.pointer (some ⟨x, 0, none⟩), .string k] w fun e w' => e = .returned (.tuple #[]) ∧ RM x { s with q := A.cut s.q k } D w' ∧ Keeps D w w' := by
  have HP : Hid (∀ (W : World) (a4 : Option Addr) (c4 : Nat), Below w.heap.size w W → Row (w.heap.size ≤ ·) W a4 c4 (A.cut s.q k) → RM x { s with q := A.cut s.q k } D (W.setCell ⟨x, 1, none⟩ (.slice a4 (A.cut s.q k).length c4)) ∧ Keeps D w (W.setCell ⟨x, 1, none⟩ (.slice a4 (A.cut s.q k).length c4))) := fun W a4 c4 hb hr => H.new2 hD hb hr
  obtain ⟨L, a1, c1, a2, c2, H⟩ := H
  have HC : Hid (∀ W : World, Below w.heap.size w W → W.cell? ⟨x, 1, none⟩ = some (.slice a2 s.q.length c2) ∧ W.frozen? ⟨x, 1, none⟩ = false) := fun W hW => ⟨(H.below hW).cells.2.1, (H.below hW).thaw.2.1⟩
  have HR : Hid (Row (fun g => D g ∧ L g = 2) w a2 c2 s.q) := H.r2
  clear H hD
  generalize hl : s.q = l at *
  clear hl
  go_enter Try.func69, Try.ntmps69
  go_wp2_with fail
  go_loopw [4, 5] (fun v i wr => ∃ (j : Nat) (a4 : Option Addr) (c4 : Nat), j ≤ l.length ∧ i = .int .i64 j ∧ v = .slice a4 (A.cut (l.take j) k).length c4 ∧ Row (w.heap.size ≤ ·) wr a4 c4 (A.cut (l.take j) k) ∧ Below w.heap.size w wr) (fun _ i _ => l.length - (intOf i).toNat)
  case atStart => exact ⟨0, none, 0, Nat.zero_le _, rfl, rfl, Row.nil, Below.refl _ _⟩
  case round =>
    obtain ⟨j, a4, c4, hj, rfl, rfl, hrow, hb⟩ := hrel
    have hsz := hb.size
    have hcl := rcut_len l k j
    obtain ⟨d0, t0⟩ := HC.out wr hb
    have HRow : Hid (Row (w.heap.size ≤ ·) wr a4 c4 (A.cut (l.take j) k)) := hrow
    clear hrow
    rcases Nat.lt_or_ge j l.length with hlt | hge
    · obtain ⟨z, hz⟩ : ∃ z, l[j]? = some z := ⟨_, List.getElem?_eq_getElem hlt⟩
      obtain ⟨g, off, rfl, -, c0, -⟩ := (HR.out.below hb).at hz
      have HY : Hid (z ≠ k → A.cut (l.take (j + 1)) k = A.cut (l.take j) k ++ [z]) := rcut_yes hz
      have HX : Hid (z = k → A.cut (l.take (j + 1)) k = A.cut (l.take j) k) := fun e => rcut_no (e ▸ hz)
      clear hz
      generalize A.cut (l.take j) k = m at *
      by_cases he : z = k
      · have hE : (z.toList == k.toList) = true := by rw [bytes_beq, decide_eq_true he]
        have HE := HX.out he
        have HF : Hid (A.cut (l.take (j + 1)) k = m) := HE
        clear HX HY he HE
        go_wp2_with fail
        go_roundw
        case rel => exact ⟨j + 1, a4, c4, hlt, by go_num, by rw [HF.out], by rw [HF.out]; exact HRow.out, hb⟩
        case measure => simp [intOf]; omega
      · have hE : (z.toList == k.toList) = false := by rw [bytes_beq, decide_eq_false he]
        have HE := HY.out he
        have HF : Hid (A.cut (l.take (j + 1)) k = m ++ [z]) := HE
        clear HX HY he HE
        go_wp2_with (at_builtin; go_must (refine wpList_append_row (ks := [z]) rfl _ _ rfl rfl (HRow.out.below ((Below.refl _ wr).alloc (Nat.le_refl _) _)) rfl (src_one _ z) (by simp; omega) ?_); intro a5 n5 w5 hr5 hk5; have hb5 : Below w.heap.size w w5 := (hb.alloc hsz _).trans (hk5.below (by simp; omega) (fun _ h => h)); have hr5' : Row (w.heap.size ≤ ·) w5 a5 n5 (m ++ [z]) := rrow_old hr5 (by simp; omega); clear hr5 hk5)
        go_roundw
        case rel => exact ⟨j + 1, a5, n5, hlt, by go_num, by rw [HF.out]; simp, by rw [HF.out]; exact hr5', hb5⟩
        case measure => simp [intOf]; omega
    · have hj' : j = l.length := by omega
      subst hj'
      rw [List.take_length] at *
      have HPP := HP.out wr a4 c4 hb HRow.out
      have HPo : Hid _ := HPP
      clear HPP
      generalize (A.cut l k).length = m at *
      go_wp2_with fail
      exact ⟨rfl, .tuple #[], results_none rfl _ _ _, rfl, HPo.out.1, HPo.out.2⟩
set_option maxHeartbeats 1000000 in
theorem rtop_any (H : RM x s D w) (hs : s.s.length ≤ 5000) (hD : ∀ k, w.heap.size ≤ k → D k) (k : ByteArray) (n : Nat) :
    Calls Try.prog 67 #[.pointer (some ⟨x, 0, none⟩), .string k, .int .u8 (n : Nat)] w fun e w' => e = .returned (.tuple #[]) ∧ RM x { s with s := C.top s.s k n } D w' ∧ Keeps D w w' := by
  have ho := rout_any H hs hD k
  have hol := C.out_le s.s k
  have HD : Hid (∀ k, w.heap.size ≤ k → D k) := hD
  have HT : Hid (C.top s.s k n = C.out s.s k ++ [⟨k, n⟩]) := rfl
  clear hD
  go_enter Try.func67, Try.ntmps67
  go_wp2_with (first
    | (go_at_call 73; refine Calls.mono ho ?_; clear ho; rintro e w1 ⟨rfl, ⟨M, b1, n1, b2, n2, hM⟩, hk1⟩; obtain ⟨u0, u1, u2⟩ := hM.cells; have HM : Hid (ReIn D M w1 x { s with s := C.out s.s k } b1 n1 b2 n2) := hM; have HK1 : Hid (Keeps D w w1) := hk1; clear hM hk1; replace u0 : w1.cell? ⟨x, 0, none⟩ = some (.slice b1 (C.out s.s k).length n1) := u0)
    | (at_builtin; go_must (refine C.wpList_append_row (zs := C.out s.s k) (ks := [⟨k, n⟩]) rfl _ _ rfl rfl (HM.out.r1.below ((Below.refl _ _).alloc (Nat.le_refl _) _)) rfl (C.src_one _ k n) (by simp; omega) ?_); intro a7 n7 w7 hr7 hk7; obtain ⟨⟨x0, x1, x2⟩, y0, y1, y2⟩ := (HM.out.below ((Below.refl _ _).alloc (Nat.le_refl _) _)).still (by omega) hk7; have H7 : Hid (RM x { s with s := C.top s.s k n } D (w7.setCell ⟨x, 0, none⟩ (.slice a7 ((C.out s.s k).length + 1) n7))) := (by have h7 := ((HM.out.below ((Below.refl _ _).alloc (Nat.le_refl _) _)).put1 (fun k h => HD.out k (Nat.le_trans HK1.out.size (Nat.le_trans (by simp) h))) hk7 hr7); rw [List.length_append, List.length_cons, List.length_nil] at h7; rw [HT.out]; exact ⟨_, _, _, _, _, h7⟩); have HK7 : Hid (Keeps D w (w7.setCell ⟨x, 0, none⟩ (.slice a7 ((C.out s.s k).length + 1) n7))) := (((HK1.out.alloc _).trans (hk7.mono (fun _ _ h => h.1))).setCell (p := ⟨x, 0, none⟩) HM.out.dx _); clear hr7 hk7))
  exact ⟨rfl, .tuple #[], results_none rfl _ _ _, rfl, H7.out, HK7.out⟩
end
end Go.Proofs.Ytcbaalodhgkgmaa
