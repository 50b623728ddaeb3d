/- An engine as the machine of chapter 10: Get, Has, Access of a resident key. -/
import Derived.Test.YtfbdmoineahfgaaDoorEf
namespace Go.Proofs.YtfbdmoineahfgaaDoor
open Go.RowKit

section
variable {D : Nat → Prop} {w w' : World} {e b : Nat} {s : Stt}
/-- where a key stands, as the index tells it in whatever world that is as w was -/
def Finds (x : Nat) (key : ByteArray) (v : Ix.Sp) (known : Bool) (w : World) : Prop :=
  ∀ W : World, Below w.heap.size w W → Calls Tryd.prog 50 #[.pointer (some ⟨x, 0, none⟩), .string key] W fun ee w' => ee = .returned (.tuple #[Ix.V v, .bool known]) ∧ Below W.heap.size W w'
theorem EN.get {c p : Nat} {Q : Nat → List ByteArray} (H : EN D w e c p Q b) (hb : b ≤ 900000) (key : ByteArray) (hk : key.size ≤ 1000) :
    ∃ x, w.cell? ⟨e, 6, none⟩ = some (.pointer (some ⟨x, 0, none⟩)) ∧ (((∀ i, i < 4 → key ∉ Q i) ∧ Finds x key (0, 0) false w) ∨ ∃ i h, i < 4 ∧ key ∈ Q i ∧ (∀ j, j < 4 → j ≠ i → key ∉ Q j) ∧ Finds x key (i, h) true w) := by
  obtain ⟨L, R, x, m, H, r⟩ := H
  refine ⟨x, H.cells.2.2.1, ?_⟩
  cases hm : m key with
  | none => exact .inl ⟨r.none.1 hm, fun W hW => Ix.get_miss (H.below hW).index (by omega) key (by unfold maxLen; omega) hm⟩
  | some v =>
    obtain ⟨i, h⟩ := v
    obtain ⟨h1, h2, h3⟩ := r.some hm
    exact .inr ⟨i, h, h1, h2, h3, fun W hW => Ix.get_hit (H.below hW).index (by omega) key (by unfold maxLen; omega) hm⟩
theorem below_trans {a b c : World} (h : Below a.heap.size a b) (k : Below b.heap.size b c) : Below a.heap.size a c :=
  ((Keeps.of_below (D := fun _ => False) h).trans (Keeps.of_below k)).below (Nat.le_refl _) (fun _ e => e.elim)
theorem laid_touch (ho : Single s) {key : ByteArray} (hk : key ∈ A.keys s) : ∀ i, i < 4 → qs (A.touch s key) i = laid (qs s) key 1 i := by
  have h := ho.out (k := key)
  have hb : key ∉ s.b1 ∧ key ∉ s.b2 := by
    unfold A.keys at hk
    rcases List.mem_append.1 hk with h1 | h1
    · exact (h.1 h1).2
    · exact (h.2.1 h1).2
  refine four ?_ ?_ ?_ ?_
  · simp [qs, laid, A.touch]
  · simp [qs, laid, A.touch]
  · simp [qs, laid, A.touch, A.cut_same hb.1]
  · simp [qs, laid, A.touch, A.cut_same hb.2]
set_option maxHeartbeats 2000000 in
theorem acc_in {x i h : Nat} (H : AE e b s D w) (ho : Single s) (hD : ∀ k, w.heap.size ≤ k → D k) (hb : b ≤ 700000) (key : ByteArray) (hk : key.size ≤ 1000) (c6 : w.cell? ⟨e, 6, none⟩ = some (.pointer (some ⟨x, 0, none⟩))) (hf : Finds x key (i, h) true w) (hi : i < 2) (hin : key ∈ A.keys s) :
    Calls Tryd.prog 28 #[.pointer (some ⟨e, 0, none⟩), .string key] w fun ee w' => ee = .returned (.tuple #[.bool true, .slice none 0 0]) ∧ AE e (b + 1) (A.touch s key) D w' ∧ Keeps D w w' := by
  have HE : Hid (AE e b s D w) := H
  have HD : Hid (∀ k, w.heap.size ≤ k → D k) := hD
  have HO : Hid (∀ i, i < 4 → qs (A.touch s key) i = laid (qs s) key 1 i) := laid_touch ho hin
  have HF : Hid (Finds x key (i, h) true w) := hf
  have heo := (EN.cells H).2.2.2.1
  clear H hD ho hf hin
  go_enter Tryd.func28, Tryd.ntmps28
  go_wp2_with (first
    | (go_at_call 41; refine (blank_any HE.out).mono ?_; rintro ee w1 ⟨rfl, rfl⟩)
    | (go_at_call 50; refine (HF.out _ (Below.refl _ _)).mono ?_; rintro ee w2 ⟨rfl, hb2⟩; have hb2' : Below w1.heap.size w1 (w2.alloc (.cells #[.int .i64 (i : Nat), .int .i64 (h : Nat)] 53)) := hb2.alloc hb2.size _)
    | (go_at_call 53; refine (resident_any (i, h)).mono ?_; rintro ee w3 ⟨rfl, hb3⟩; have hb3' := below_trans hb2' hb3; have hd : decide (((i, h) : Ix.Sp).1 < 2) = true := (by simpa using hi); rw [hd])
    | (go_at_call 52; refine (lay_any (EN.below HE.out hb3') (fun k h => HD.out k (Nat.le_trans hb3'.size h)) (by omega) key hk 1 (by omega)).mono ?_; rintro ee w4 ⟨rfl, h4, hk4⟩))
  go_ret2
  exact ⟨rfl, EN.congr h4 HO.out, (Keeps.of_below hb3').trans hk4⟩
end
end Go.Proofs.YtfbdmoineahfgaaDoor
