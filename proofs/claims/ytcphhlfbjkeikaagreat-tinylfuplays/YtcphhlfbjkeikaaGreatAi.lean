/- An engine beside a row of the law's own: Access, Len, append onto the row, the row without a key. -/
import Derived.Test.YtcphhlfbjkeikaaGreatAh
namespace Go.Proofs.YtcphhlfbjkeikaaGreat
open Go.RowKit

theorem Row.rowIn {D : Nat → Prop} {w : World} {ad : Option Addr} {cap : Nat} {zs : List ByteArray} (h : Row D w ad cap zs) : RowIn Value.string w ad zs := by
  cases zs with
  | nil => exact .inl rfl
  | cons z zs =>
    obtain ⟨g, off, e, _, _, _⟩ := h.at (i := 0) (z := z) rfl
    refine .inr ⟨g, off, e, fun i y hy => ?_⟩
    obtain ⟨g2, off2, e2, _, hc, _⟩ := h.at hy
    rw [e] at e2
    cases e2
    exact hc
section
variable {D : Nat → Prop} {w w' : World} {e b : Nat} {s : Stt} {ad : Option Addr} {cap : Nat} {zs : List ByteArray}
theorem Beside.row {A : (Nat → Prop) → World → Prop} (h : Beside A ad cap zs D w) : RowIn Value.string w ad zs := by
  obtain ⟨_, _, _, h3⟩ := h
  exact h3.rowIn
theorem Beside.caps {A : (Nat → Prop) → World → Prop} (h : Beside A ad cap zs D w) : zs.length ≤ cap ∧ cap ≤ maxLen := by
  obtain ⟨_, _, _, h3⟩ := h
  exact ⟨h3.1, h3.2.1⟩
theorem Beside.eng (h : Beside (AE e b s) ad cap zs D w) : AE e b s D w := by
  obtain ⟨D1, h1, h2, _⟩ := h
  exact h2.wide (fun k _ hk => (h1 k hk).1)
theorem Beside.below (h : Beside (AE e b s) ad cap zs D w) (hb : Below w.heap.size w w') : Beside (AE e b s) ad cap zs D w' := by
  obtain ⟨D1, h1, h2, h3⟩ := h
  exact ⟨D1, fun g hg => ⟨(h1 g hg).1, Nat.lt_of_lt_of_le (h1 g hg).2 hb.size⟩, h2.below hb, h3.below hb⟩
/-- the row is another one, of new memory -/
theorem Beside.set {ad' : Option Addr} {cap' : Nat} {zs' : List ByteArray} (h : Beside (AE e b s) ad cap zs D w) (hD : ∀ k, w.heap.size ≤ k → D k) (hr : Row (w.heap.size ≤ ·) w' ad' cap' zs') (hb : Below w.heap.size w w') : Beside (AE e b s) ad' cap' zs' D w' := by
  obtain ⟨D1, h1, h2, _⟩ := h
  refine ⟨D1, fun g hg => ⟨(h1 g hg).1, Nat.lt_of_lt_of_le (h1 g hg).2 hb.size⟩, h2.below hb, hr.wide (fun k _ hk => ⟨hD k hk, fun h => ?_⟩)⟩
  have := (h1 k h).2
  omega
/-- the row has grown, in its own block or in a new one -/
theorem Beside.grow {ad' : Option Addr} {cap' : Nat} {zs' : List ByteArray} {D1 : Nat → Prop} (h1 : ∀ g, D1 g → D g ∧ g < w.heap.size) (hA : AE e b s D1 w) (hD : ∀ k, w.heap.size ≤ k → D k)
    (hr : Row (fun g => (D g ∧ ¬ D1 g) ∨ w.heap.size ≤ g) w' ad' cap' zs') (hk : Keeps (fun g => D g ∧ ¬ D1 g) w w') : Beside (AE e b s) ad' cap' zs' D w' ∧ Keeps D w w' := by
  refine ⟨⟨D1, fun g hg => ⟨(h1 g hg).1, Nat.lt_of_lt_of_le (h1 g hg).2 hk.size⟩, AE.kept hA hk (fun k _ h hn => hn.2 h), hr.wide (fun k _ h => ?_)⟩, hk.mono (fun _ _ h => h.1)⟩
  rcases h with h | h
  · exact h
  · refine ⟨hD k h, fun h2 => ?_⟩
    have := (h1 k h2).2
    omega
theorem Beside.acc (h : Beside (AE e b s) ad cap zs D w) (hok : A.Ok s) (hD : ∀ k, w.heap.size ≤ k → D k) (hb : b ≤ 600000) (key : ByteArray) (hk : key.size ≤ 1000) :
    ∃ f : ByteArray → Nat, Calls Tryz.prog 38 #[.pointer (some ⟨e, 0, none⟩), .string key] w fun ee w' => ∃ ad3 cap3, ee = .returned (.tuple #[.bool (A.access f s key).1, .slice ad3 (A.access f s key).2.1.length cap3]) ∧
      RowIn Value.string w' ad3 (A.access f s key).2.1 ∧ Beside (AE e (b + 2) (A.access f s key).2.2) ad cap zs D w' ∧ Keeps D w w' := by
  obtain ⟨D1, h1, hA, hR⟩ := h
  obtain ⟨f, hacc⟩ := accE_any (D := fun k => D1 k ∨ w.heap.size ≤ k) (hA.wide (fun _ _ h => .inl h)) hok (fun _ h => .inr h) hb key hk
  refine ⟨f, hacc.mono ?_⟩
  rintro ee w' ⟨ad3, cap3, rfl, ⟨D2, h21, hA2, hR3⟩, hk2⟩
  refine ⟨ad3, cap3, rfl, hR3.rowIn, ⟨D2, fun g hg => ?_, hA2, ?_⟩, hk2.mono ?_⟩
  · obtain ⟨h5, h6⟩ := h21 g hg
    rcases h5 with h5 | h5
    · exact ⟨(h1 g h5).1, h6⟩
    · exact ⟨hD g h5, h6⟩
  · refine (hR.narrow.kept hk2 ?_).wide ?_
    · rintro g ⟨⟨_, h3⟩, h4⟩ (h5 | h5)
      · exact h3 h5
      · omega
    · rintro g _ ⟨⟨h2, h3⟩, h4⟩
      refine ⟨h2, fun h5 => ?_⟩
      rcases (h21 g h5).1 with h6 | h6
      · exact h3 h6
      · omega
  · rintro k h3 (h | h)
    · exact (h1 k h).1
    · exact hD k h
/-- the row has grown, in its own block or in a new one -/
theorem Beside.growZ {ad' : Option Addr} {cap' : Nat} {zs' : List ByteArray} {D1 : Nat → Prop} {z : Dk} (h1 : ∀ g, D1 g → D g ∧ g < w.heap.size) (hA : AZ e z s D1 w) (hD : ∀ k, w.heap.size ≤ k → D k)
    (hr : Row (fun g => (D g ∧ ¬ D1 g) ∨ w.heap.size ≤ g) w' ad' cap' zs') (hk : Keeps (fun g => D g ∧ ¬ D1 g) w w') : Beside (AZ e z s) ad' cap' zs' D w' ∧ Keeps D w w' := by
  refine ⟨⟨D1, fun g hg => ⟨(h1 g hg).1, Nat.lt_of_lt_of_le (h1 g hg).2 hk.size⟩, AZ.kept hA hk (fun k _ h hn => hn.2 h), hr.wide (fun k _ h => ?_)⟩, hk.mono (fun _ _ h => h.1)⟩
  rcases h with h | h
  · exact h
  · refine ⟨hD k h, fun h2 => ?_⟩
    have := (h1 k h2).2
    omega
theorem Beside.accZ {z : Dk} (h : Beside (AZ e z s) ad cap zs D w) (hok : A.Ok s) (hD : ∀ k, w.heap.size ≤ k → D k) (key : ByteArray) (hk : key.size ≤ 1000) :
    Calls Tryz.prog 38 #[.pointer (some ⟨e, 0, none⟩), .string key] w fun ee w' => ∃ ad3 cap3, ee = .returned (.tuple #[.bool (A.access (fq (nt z key)) s key).1, .slice ad3 (A.access (fq (nt z key)) s key).2.1.length cap3]) ∧
      RowIn Value.string w' ad3 (A.access (fq (nt z key)) s key).2.1 ∧ Beside (AE e (b + 2) (A.access (fq (nt z key)) s key).2.2) ad cap zs D w' ∧ Keeps D w w' := by
  obtain ⟨D1, h1, hA, hR⟩ := h
  refine (_root_.Go.Proofs.YtcphhlfbjkeikaaGreat.accZ (D := fun k => D1 k ∨ w.heap.size ≤ k) (hA.wide (fun _ _ h => .inl h)) hok (fun _ h => .inr h) key hk).mono ?_
  rintro ee w' ⟨ad3, cap3, rfl, ⟨D2, h21, hA2, hR3⟩, hk2⟩
  refine ⟨ad3, cap3, rfl, hR3.rowIn, ⟨D2, fun g hg => ?_, ⟨_, hA2⟩, ?_⟩, hk2.mono ?_⟩
  · obtain ⟨h5, h6⟩ := h21 g hg
    rcases h5 with h5 | h5
    · exact ⟨(h1 g h5).1, h6⟩
    · exact ⟨hD g h5, h6⟩
  · refine (hR.narrow.kept hk2 ?_).wide ?_
    · rintro g ⟨⟨_, h3⟩, h4⟩ (h5 | h5)
      · exact h3 h5
      · omega
    · rintro g _ ⟨⟨h2, h3⟩, h4⟩
      refine ⟨h2, fun h5 => ?_⟩
      rcases (h21 g h5).1 with h6 | h6
      · exact h3 h6
      · omega
  · rintro k h3 (h | h)
    · exact (h1 k h).1
    · exact hD k h
theorem Beside.len (h : Beside (AE e b s) ad cap zs D w) (hb : b ≤ 900000) : Calls Tryz.prog 14 #[.pointer (some ⟨e, 0, none⟩)] w fun ee w' => ee = .returned (.int .i64 ((A.keys s).length : Nat)) ∧ Beside (AE e b s) ad cap zs D w' ∧ Below w.heap.size w w' := by
  have hl := keys_any h.eng hb
  refine Calls.mono hl ?_
  rintro ee w' ⟨rfl, hb1⟩
  exact ⟨rfl, h.below hb1, hb1⟩
/-- the engine alone, an empty row beside it -/
theorem AE.beside (H : AE e b s D w) : Beside (AE e b s) none 0 [] D w := AE.bare H
end
section
variable {D : Nat → Prop} {w : World} {ad : Option Addr} {cap : Nat} {zs : List ByteArray}
theorem cut_no {zs : List ByteArray} {k : ByteArray} {j : Nat} (h : zs[j]? = some k) : A.cut (zs.take (j + 1)) k = A.cut (zs.take j) k := by
  rw [List.take_add_one, h]
  simp [A.cut]
theorem cut_yes {zs : List ByteArray} {k z : ByteArray} {j : Nat} (h : zs[j]? = some z) (hz : z ≠ k) : A.cut (zs.take (j + 1)) k = A.cut (zs.take j) k ++ [z] := by
  rw [List.take_add_one, h]
  simp [A.cut, hz]
theorem cut_len (zs : List ByteArray) (k : ByteArray) (j : Nat) : (A.cut (zs.take j) k).length ≤ zs.length := by
  have h1 := A.length_cut_le (zs.take j) k
  have h2 : (zs.take j).length ≤ zs.length := by simp; omega
  omega
theorem row_old {w' : World} {ad : Option Addr} {cap : Nat} {zs : List ByteArray} {n m : Nat} (h : Row (fun g => n ≤ g ∨ m ≤ g) w' ad cap zs) (hm : n ≤ m) : Row (n ≤ ·) w' ad cap zs := h.wide (fun k _ hk => by rcases hk with h | h <;> omega)
set_option maxHeartbeats 2000000 in
theorem lcut_any (H : RowIn Value.string w ad zs) (hn : zs.length ≤ 10000) (k : ByteArray) :
    Calls Tryz.prog 28 #[.slice ad zs.length cap, .string k] w fun e w' => ∃ ad' cap', e = .returned (.slice ad' (A.cut zs k).length cap') ∧ Row (w.heap.size ≤ ·) w' ad' cap' (A.cut zs k) ∧ Below w.heap.size w w' := by
  have HH : Hid (RowIn Value.string w ad zs) := H
  clear H
  go_enter Tryz.func28, Tryz.ntmps28
  go_wp2
  go_loopw [5, 6] (fun v i wr => ∃ (j : Nat) (a2 : Option Addr) (c2 : Nat), j ≤ zs.length ∧ i = .int .i64 j ∧ v = .slice a2 (A.cut (zs.take j) k).length c2 ∧ Row (w.heap.size ≤ ·) wr a2 c2 (A.cut (zs.take j) k) ∧ Below w.heap.size w wr) (fun _ i _ => zs.length - (intOf i).toNat)
  case atStart => exact ⟨0, none, 0, Nat.zero_le _, rfl, rfl, Row.nil, Below.refl _ _⟩
  case round =>
    obtain ⟨j, a2, c2, hj, rfl, rfl, hrow, hb⟩ := hrel
    have hs := hb.size
    have HRow : Hid (Row (w.heap.size ≤ ·) wr a2 c2 (A.cut (zs.take j) k)) := hrow
    clear hrow
    have hcl := cut_len zs k j
    rcases Nat.lt_or_ge j zs.length with hlt | hge
    · obtain ⟨z, hz⟩ : ∃ z, zs[j]? = some z := ⟨_, List.getElem?_eq_getElem hlt⟩
      obtain ⟨g, off, rfl, c0⟩ := (HH.out.later hb).at hz
      have HY : Hid (z ≠ k → A.cut (zs.take (j + 1)) k = A.cut (zs.take j) k ++ [z]) := cut_yes hz
      have HX : Hid (z = k → A.cut (zs.take (j + 1)) k = A.cut (zs.take j) k) := fun e => cut_no (e ▸ hz)
      clear hz
      generalize A.cut (zs.take j) k = m at *
      by_cases he : z = k
      · have hE : (z.toList == k.toList) = true := by rw [texts_beq, decide_eq_true he]
        have HE := HX.out he
        have HF : Hid (A.cut (zs.take (j + 1)) k = m) := HE
        clear HX HY he HE
        go_wp2_with fail
        go_roundw
        case rel => exact ⟨j + 1, a2, c2, hlt, by go_num, by rw [HF.out], by rw [HF.out]; exact HRow.out, hb⟩
        case measure => simp [intOf]; omega
      · have hE : (z.toList == k.toList) = false := by rw [texts_beq, decide_eq_false he]
        have HE := HY.out he
        have HF : Hid (A.cut (zs.take (j + 1)) k = m ++ [z]) := HE
        clear HX HY he HE
        go_wp2_with (at_builtin; go_must (refine wpList_append_row (ks := [z]) rfl _ _ rfl rfl (HRow.out.below ((Below.refl _ wr).alloc (Nat.le_refl _) _)) rfl (src_one _ z) (by simp; omega) ?_); intro a3 c3 w3 hrow3 hk3; have hb3 : Below w.heap.size w w3 := (hb.alloc hs _).trans (hk3.below (by simp; omega) (fun _ h => h)); have hrow3' : Row (w.heap.size ≤ ·) w3 a3 c3 (m ++ [z]) := row_old hrow3 (by simp; omega); clear hrow3 hk3)
        go_roundw
        case rel => exact ⟨j + 1, a3, c3, hlt, by go_num, by rw [HF.out]; simp, by rw [HF.out]; exact hrow3', hb3⟩
        case measure => simp [intOf]; omega
    · have hj' : j = zs.length := by omega
      subst hj'
      rw [List.take_length] at *
      go_wp2_with fail
      go_ret
      exact ⟨_, _, rfl, HRow.out, hb⟩
end
end Go.Proofs.YtcphhlfbjkeikaaGreat
