/- The document's machine: Keys, Ghosts. -/
import Derived.Test.YtnbfokmodjgaaabDoorRgc
import Derived.Test.YtnbfokmodjgaaabDoorEo
namespace Go.Proofs.YtnbfokmodjgaaabDoor
open Go.RowKit

section
variable {D D' : Nat → Prop} {w w' : World} {x : Nat} {s : Stt}
theorem take_snoc {zs : List ByteArray} {j : Nat} {z : ByteArray} (h : zs[j]? = some z) : zs.take (j + 1) = zs.take j ++ [z] := by rw [List.take_add_one, h]; simp
theorem ks_at {zs : List Ls.It} {j : Nat} {z : Ls.It} (h : zs[j]? = some z) : (A.ks zs)[j]? = some z.key := by simp [A.ks, h]
set_option maxHeartbeats 4000000 in
theorem rkeys_any (H : RE x s D w) (hs : Small s) :
    Calls Tryd.prog 28 #[.pointer (some ⟨x, 0, none⟩)] w fun e w' => ∃ ad cap, e = .returned (.slice ad (A.keys s).length cap) ∧ Row (w.heap.size ≤ ·) w' ad cap (A.keys s) ∧ Below w.heap.size w w' := by
  obtain ⟨L, a1, c1, a2, c2, a3, c3, H⟩ := H
  have l1 := hs.l1
  have l2 := hs.l2
  have HC : Hid (∀ W, Below w.heap.size w W → W.cell? ⟨x, 0, none⟩ = some (.slice a1 s.t1.length c1) ∧ W.cell? ⟨x, 1, none⟩ = some (.slice a2 s.t2.length c2)) := fun W hb => by
    obtain ⟨p0, p1, p2, p3⟩ := (H.below hb).cells
    exact ⟨p0, p1⟩
  have HR1 : Hid (C.Row (fun g => D g ∧ L g = 1) w a1 c1 s.t1) := H.r1
  have HR2 : Hid (C.Row (fun g => D g ∧ L g = 2) w a2 c2 s.t2) := H.r2
  have HKs : Hid (A.keys s = A.ks s.t1 ++ A.ks s.t2) := rfl
  rw [HKs.out]
  clear H hs HKs
  generalize s.t1 = z1 at *
  generalize s.t2 = z2 at *
  go_enter Tryd.func28, Tryd.ntmps28
  go_wp2
  go_loopw [3, 4] (fun v i wr => ∃ (j : Nat) (b : Option Addr) (n : Nat), j ≤ z1.length ∧ i = .int .i64 j ∧ v = .slice b ((A.ks z1).take j).length n ∧ Row (w.heap.size ≤ ·) wr b n ((A.ks z1).take j) ∧ Below w.heap.size w wr) (fun _ i _ => z1.length - (intOf i).toNat)
  case atStart => exact ⟨0, none, 0, Nat.zero_le _, rfl, by simp, by simpa using Row.nil, Below.refl _ _⟩
  case round =>
    obtain ⟨j, b, n, hj, rfl, rfl, hrow, hb⟩ := hrel
    have hs := hb.size
    obtain ⟨d0, d1⟩ := HC.out wr hb
    have hln : ((A.ks z1).take j).length = j := by simp [A.ks_len]; omega
    rcases Nat.lt_or_ge j z1.length with hlt | hge
    · obtain ⟨z, hz⟩ : ∃ z, z1[j]? = some z := ⟨_, List.getElem?_eq_getElem hlt⟩
      obtain ⟨g, off, rfl, -, -, k0, -, -⟩ := (HR1.out.below hb).at hz
      have HT : Hid ((A.ks z1).take (j + 1) = (A.ks z1).take j ++ [z.key]) := take_snoc (ks_at hz)
      clear hz
      generalize (A.ks z1).take j = m at *
      go_wp2_with (at_builtin; go_must (refine wpList_append_row (zs := m) (ks := [z.key]) rfl _ _ rfl rfl (hrow.below ((Below.refl _ wr).alloc (Nat.le_refl _) _)) rfl (src_one _ z.key) (by simp; omega) ?_); intro a3 c3 w3 hrow3 hk3; have hb3 : Below w.heap.size w w3 := (hb.alloc hs _).trans (hk3.below (by simp; omega) (fun _ h => h)); have hrow3' : Row (w.heap.size ≤ ·) w3 a3 c3 (m ++ [z.key]) := rrow_old hrow3 (by simp; omega); clear hrow3 hk3)
      go_roundw
      case rel => exact ⟨j + 1, a3, c3, hlt, by go_num, by rw [HT.out, List.length_append, List.length_cons, List.length_nil, hln], by rw [HT.out]; exact hrow3', hb3⟩
      case measure => simp [intOf]; omega
    · have hj' : j = z1.length := by omega
      have e : (A.ks z1).take j = A.ks z1 := List.take_of_length_le (by rw [A.ks_len]; omega)
      rw [e] at hrow ⊢
      clear hln e
      have hla := A.ks_len z1
      generalize hy : A.ks z1 = y1 at *
      have HY : Hid (A.ks z1 = y1) := hy
      clear hy
      subst hj'
      clear hj hge
      go_wp2_with fail
      go_loopw [3, 5] (fun v i wr => ∃ (j : Nat) (b : Option Addr) (n : Nat), j ≤ z2.length ∧ i = .int .i64 j ∧ v = .slice b (y1 ++ (A.ks z2).take j).length n ∧ Row (w.heap.size ≤ ·) wr b n (y1 ++ (A.ks z2).take j) ∧ Below w.heap.size w wr) (fun _ i _ => z2.length - (intOf i).toNat)
      case atStart => exact ⟨0, b, n, Nat.zero_le _, rfl, by simp, by simpa using hrow, hb⟩
      case round =>
        clear hrow hb hs d0 d1
        obtain ⟨j, b, n, hj, rfl, rfl, hrow, hb⟩ := hrel
        have hs := hb.size
        obtain ⟨d0, d1⟩ := HC.out wr hb
        have hln : (y1 ++ (A.ks z2).take j).length = z1.length + j := by simp [A.ks_len]; omega
        rcases Nat.lt_or_ge j z2.length with hlt | hge
        · obtain ⟨z, hz⟩ : ∃ z, z2[j]? = some z := ⟨_, List.getElem?_eq_getElem hlt⟩
          obtain ⟨g, off, rfl, -, -, k0, -, -⟩ := (HR2.out.below hb).at hz
          have HT : Hid (y1 ++ (A.ks z2).take (j + 1) = (y1 ++ (A.ks z2).take j) ++ [z.key]) := by
            show y1 ++ (A.ks z2).take (j + 1) = _
            rw [take_snoc (ks_at hz)]
            simp
          clear hz
          generalize y1 ++ (A.ks z2).take j = m at *
          go_wp2_with (at_builtin; go_must (refine wpList_append_row (zs := m) (ks := [z.key]) rfl _ _ rfl rfl (hrow.below ((Below.refl _ wr).alloc (Nat.le_refl _) _)) rfl (src_one _ z.key) (by simp; omega) ?_); intro a3 c3 w3 hrow3 hk3; have hb3 : Below w.heap.size w w3 := (hb.alloc hs _).trans (hk3.below (by simp; omega) (fun _ h => h)); have hrow3' : Row (w.heap.size ≤ ·) w3 a3 c3 (m ++ [z.key]) := rrow_old hrow3 (by simp; omega); clear hrow3 hk3)
          go_roundw
          case rel => exact ⟨j + 1, a3, c3, hlt, by go_num, by rw [HT.out, List.length_append, List.length_cons, List.length_nil, hln], by rw [HT.out]; exact hrow3', hb3⟩
          case measure => simp [intOf]; omega
        · have hj' : j = z2.length := by omega
          have e : (A.ks z2).take j = A.ks z2 := List.take_of_length_le (by rw [A.ks_len]; omega)
          rw [e] at hrow ⊢
          subst hj'
          go_wp2_with fail
          go_ret
          rw [HY.out]
          exact ⟨_, _, rfl, hrow, hb⟩
end
end Go.Proofs.YtnbfokmodjgaaabDoor
